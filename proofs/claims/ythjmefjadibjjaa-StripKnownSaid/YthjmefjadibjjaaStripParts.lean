/- The parts of a cell: reversed, closed, numbered. -/
import Derived.Test.YthjmefjadibjjaaStripSplit
import Derived.Test.YthjmefjadibjjaaPlanPure
namespace Go.Proofs.Ythjmefjadibjjaa
open Go.RowKit
namespace StripM
/-- Two and two in each other's place. -/
def swp (l : List UInt8) : Nat → List UInt8
  | 0 => l
  | j + 1 => ((swp l j).set j ((swp l j).getD (7 - j) 0)).set (7 - j) ((swp l j).getD j 0)
theorem swp_length (l : List UInt8) (j : Nat) : (swp l j).length = l.length := by
  induction j with
  | zero => rfl
  | succ j ih => simp [swp, ih]
theorem swp_all (l : List UInt8) (h : l.length = 8) : swp l 4 = l.reverse := by
  match l, h with
  | [a, b, c, d, e, f, g, i], _ => rfl
end StripM
namespace StripW
open BinM StripM Wd
theorem lay_at (xs : List Value) (o : Nat) (m : List UInt8) (k : Nat) (ho : o + m.length ≤ xs.length) (hk : k < m.length) : (lay xs o (bvs m))[o + k]? = some (.int .u8 ((m.getD k 0).toNat : Int)) := by
  have h1 : (xs.take o).length = o := by rw [List.length_take]; omega
  unfold lay
  rw [List.append_assoc, List.getElem?_append_right (by omega), h1, Nat.add_sub_cancel_left, List.getElem?_append_left (by rw [bvs_length]; exact hk), bvs_at m k hk]; rfl
theorem lay_put (xs : List Value) (o : Nat) (m : List UInt8) (k : Nat) (b : UInt8) (ho : o + m.length ≤ xs.length) (hk : k < m.length) : lay (lay xs o (bvs m)) (o + k) [.int .u8 (b.toNat : Int)] = lay xs o (bvs (m.set k b)) := by
  have hl : (lay xs o (bvs m)).length = xs.length := lay_length _ _ _ (by rw [bvs_length]; exact ho)
  have h1 : (xs.take o).length = o := by rw [List.length_take]; omega
  rw [lay_set _ _ _ (by rw [hl]; omega)]
  unfold lay
  rw [List.append_assoc, List.set_append_right _ _ (by omega), h1, Nat.add_sub_cancel_left, List.set_append_left _ _ (by rw [bvs_length]; exact hk), ← List.append_assoc]
  simp only [bvs_length, List.length_set]
  simp [bvs, List.map_set, bv]
set_option maxHeartbeats 4000000 in
theorem reverse_any (g o e c : Nat) (xs : List Value) (l : List UInt8) (w : World) (h8 : l.length = 8) (ho : o + 8 ≤ xs.length) (h : Block w g e (lay xs o (bvs l))) :
    Calls Try.prog 39 #[.slice (some ⟨g, o, none⟩) 8 c] w fun en w' => en = .returned (.tuple #[]) ∧ Block w' g e (lay xs o (bvs l.reverse)) ∧ Only (fun i => i = g) w w' ∧ w'.heap.size = w.heap.size := by
  have H8 := Lib.hid h8
  have HB := Lib.hid h
  clear h8 h
  go_enter Try.func39, Try.ntmps39
  go_wp2_with fail
  go_loopw [2, 3] (fun u2 u3 wr => ∃ j m : Nat, j + m = 7 ∧ j ≤ 4 ∧ u2 = .int .i64 (j : Int) ∧ u3 = .int .i64 (m : Int) ∧ Block wr g e (lay xs o (bvs (swp l j))) ∧ Only (fun i => i = g) w wr ∧ wr.heap.size = w.heap.size) (fun u _ _ => 4 - (intOf u).toNat)
  case atStart => exact ⟨0, 7, rfl, by decide, rfl, rfl, HB.out, Only.refl _ _, rfl⟩
  case round =>
    obtain ⟨j, m, hjm, hj, rfl, rfl, hB, hO, hz⟩ := hrel
    by_cases hlt : j < 4
    · have hd : (j : Int) < (m : Int) := by omega
      go_wp2_with fail
      have hsl : (swp l j).length = 8 := by rw [swp_length]; exact H8.out
      have q1 := lay_at xs o (swp l j) j (by omega) (by omega)
      have q2 := lay_at xs o (swp l j) m (by omega) (by omega)
      have hL : (lay xs o (bvs (swp l j))).length = xs.length := lay_length _ _ _ (by rw [bvs_length]; omega)
      have e1 := lay_put xs o (swp l j) j ((swp l j).getD m 0) (by omega) (by omega)
      have e2 := lay_put xs o ((swp l j).set j ((swp l j).getD m 0)) m ((swp l j).getD j 0) (by rw [List.length_set]; omega) (by rw [List.length_set]; omega)
      have e3 : swp l (j + 1) = ((swp l j).set j ((swp l j).getD m 0)).set m ((swp l j).getD j 0) := by
        have : 7 - j = m := by omega
        rw [swp, this]
      rw [← e3] at e2
      generalize (swp l j).getD m 0 = bm at *
      generalize (swp l j).getD j 0 = bj at *
      have E1 := Lib.hid e1
      have E2 := Lib.hid e2
      clear e1 e2 e3
      refine region_pure [0, 1, 2, 3, 4, 5, 8, 9] [.tk 6, .tk 7, .tk 10, .tk 11, .tk 12, .al 13, .al 14, .al 15] 13 (fun v => v.cell? ⟨g, o + j, none⟩ = some (.int .u8 (bj.toNat : Int)) ∧ v.cell? ⟨g, o + m, none⟩ = some (.int .u8 (bm.toNat : Int))) (by kernel_rfl) (by kernel_rfl) rfl (by kernel_rfl) (fun dd _ _ _ _ h => by cases dd <;> exact h) ?_
      intro wd hwd
      have hS : wd.cell? ⟨g, o + j, none⟩ = some (.int .u8 (bj.toNat : Int)) ∧ wd.cell? ⟨g, o + m, none⟩ = some (.int .u8 (bm.toNat : Int)) := by rw [hwd]; exact ⟨hB.drew.cell q1, hB.drew.cell q2⟩
      have hB : Block wd g e (lay xs o (bvs (swp l j))) := by rw [hwd]; exact hB.drew
      have hO : Only (fun i => i = g) w wd := by rw [hwd]; exact hO.drew
      have hz : wd.heap.size = w.heap.size := by rw [hwd]; exact hz
      clear hwd q1 q2
      have hj0 : (0 : Int) ≤ (j : Int) := by omega
      have hj8 : (j : Int) < 8 := by omega
      have hm0 : (0 : Int) ≤ (m : Int) := by omega
      have hm8 : (m : Int) < 8 := by omega
      repeat (first
        | (refine pure_take rfl rfl ?_
           apply Exists.intro
           constructor
           · intro v
             go_simp
             try with_reducible rfl
           simp only [Act.put, List.setIfInBounds_toArray, List.set_cons_zero, List.set_cons_succ]))
      refine pure_end ?_
      repeat (first
        | (refine steps_take rfl rfl hS ?_
           apply Exists.intro
           constructor
           · intro v hv
             have p1 := hv.1
             have p2 := hv.2
             clear hv
             go_simp
             try with_reducible rfl
           simp only [Act.put, List.setIfInBounds_toArray, List.set_cons_zero, List.set_cons_succ]))
      refine steps_do rfl (by rfl) (fun K hK => ?_)
      refine wp_store_blk 5 (.tmp 26) _ rfl g (o + j) rfl [.int .u8 (bm.toNat : Int)] _ rfl rfl e _ hB (by rw [hL]; simp; omega) sizeU8i (by simp [Value.oneCell']) ?_; intro w2 B2 O2 hs2
      refine hK _ _ (fun h => absurd h (by decide)) ?_
      clear hK K
      try simp only [Act.put]
      refine steps_do rfl (by rfl) (fun K hK => ?_)
      go_simp
      refine hK _ _ (fun h => absurd h (by decide)) ?_
      clear hK K
      try simp only [Act.put, List.setIfInBounds_toArray, List.set_cons_zero, List.set_cons_succ]
      rw [E1.out] at B2
      refine steps_do rfl (by rfl) (fun K hK => ?_)
      refine wp_store_blk 5 (.tmp 27) _ rfl g (o + m) rfl [.int .u8 (bj.toNat : Int)] _ rfl rfl e _ B2 (by rw [lay_length _ _ _ (by rw [bvs_length, List.length_set]; omega)]; simp; omega) sizeU8i (by simp [Value.oneCell']) ?_; intro w3 B3 O3 hs3
      refine hK _ _ (fun h => absurd h (by decide)) ?_
      clear hK K
      try simp only [Act.put]
      rw [E2.out] at B3
      have hO3 : Only (fun i => i = g) w w3 := (hO.trans O2 (fun i h => .inl h)).trans O3 (fun i h => .inl h)
      have hz3 : w3.heap.size = w.heap.size := by omega
      obtain ⟨m, rfl⟩ : ∃ m', m = m' + 1 := ⟨m - 1, by omega⟩
      clear hB hO hz B2 O2 O3 hs2 hs3 hS
      refine steps_end ?_
      go_wp2_with fail
      go_roundw
      case rel => exact ⟨j + 1, m, by omega, by omega, by go_num, by go_num, B3, hO3, hz3⟩
      case measure => simp [intOf]; omega
    · obtain rfl : j = 4 := by omega
      obtain rfl : m = 3 := by omega
      go_wp2_with fail
      go_end0
      exact ⟨rfl, by rw [← swp_all l H8.out]; exact hB, hO, hz⟩
theorem sizeArr8 : (Try.prog.info? 61).map (·.size) = some 8 := by kernel_rfl
theorem zeroArr8 : (Try.prog.info? 61).map (·.zero) = some (some (.agg (bvs (List.replicate 8 0)).toArray)) := by kernel_rfl
theorem sizeStamp : (Try.prog.info? 23).map (·.size) = some 2 := by kernel_rfl
theorem zeroStamp : (Try.prog.info? 23).map (·.zero) = some (some (.agg #[.int .i64 0, .int .i64 0])) := by kernel_rfl
theorem lay_closed (c : List UInt8) (h : c.length = 64) : lay (bvs c) 56 (bvs (c.take 8).reverse) = bvs (closedOf c) := by
  have hl : (c.take 8).reverse.length = 8 := by rw [List.length_reverse, List.length_take]; omega
  unfold lay closedOf
  rw [bvs_length, hl, bvs_take, bvs_drop, List.drop_eq_nil_of_le (by omega)]
  simp [bvs]
theorem lay_lay (xs : List Value) (o : Nat) (u v : List Value) (h : u.length = v.length) (ho : o + u.length ≤ xs.length) : lay (lay xs o u) o v = lay xs o v := by
  have h1 : (xs.take o).length = o := by rw [List.length_take]; omega
  have e1 : (xs.take o ++ u ++ xs.drop (o + u.length)).take o = xs.take o := by rw [List.append_assoc, List.take_left' h1]
  have e2 : (xs.take o ++ u ++ xs.drop (o + u.length)).drop (o + v.length) = xs.drop (o + v.length) := by
    rw [← h, ← List.drop_drop, List.append_assoc, List.drop_left' h1, List.drop_left]
  unfold lay
  rw [e1, e2]
set_option maxHeartbeats 4000000 in
theorem closed_any (l : List UInt8) (w : World) (h64 : l.length = 64) :
    Calls Try.prog 35 #[.agg (bvs l).toArray] w fun e w' => e = .returned (.agg (bvs (closedOf l)).toArray) ∧ Below w.heap.size w w' := by
  have SZ : Hid ((Try.prog.info? 64).map (·.size) = some (bvs l).length) := by unfold Hid; rw [bvs_length, h64]; exact sizeParts
  have SZC : Hid ((Try.prog.info? 64).map (·.size) = some (bvs (closedOf l)).length) := by unfold Hid; rw [bvs_length, closed_length l h64]; exact sizeParts
  have H8 : Hid ((bvs (l.take 8)).length = 8) := by unfold Hid; rw [bvs_length, List.length_take]; omega
  have HT : Hid ((l.take 8).length = 8) := by unfold Hid; rw [List.length_take]; omega
  have S8 : Hid ((Try.prog.info? 61).map (·.size) = some (bvs (l.take 8)).length) := by unfold Hid; rw [H8.out]; exact sizeArr8
  have LC := Lib.hid (lay_closed l h64)
  have HL : Hid ((bvs l).length = 64) := by unfold Hid; rw [bvs_length]; exact h64
  have HC : Hid ((bvs (closedOf l)).length = 64) := by unfold Hid; rw [bvs_length, closed_length l h64]
  have SEG : Hid (((bvs l).drop 0).take (bvs (l.take 8)).length = bvs (l.take 8)) := by unfold Hid; rw [H8.out, List.drop_zero, bvs_take]
  clear h64
  generalize closedOf l = cl at *
  generalize l.take 8 = f8 at *
  go_enter Try.func35, Try.ntmps35
  go_wp2_with (first
    | (have _ := B2; refine wpList_store_blk rfl 61 (.tmp 5) (.tmp 4) rfl g 56 rfl (bvs f8) _ rfl rfl 64 _ B1 (by rw [H8.out, HL.out]; decide) S8.out (bvs_one _) ?_; intro w3 B3 O3 hs3)
    | (have _ := B2; refine wpList_load_blk rfl 61 (.tmp 3) rfl g 0 rfl _ _ B1 (bvs f8) SEG.out _ Try.underlying61 rfl S8.out ?_)
    | (have _ := B1; refine wpList_alloc_blk rfl 64 rfl (bvs nought) _ zeroParts rfl ?_; intro x w2 B2 O2 hx; have hb2 := hb1.trans ((O2.below (fun _ h => h.elim) (Nat.le_refl _)).mono hb1.size); have B1 := B1.only O2 (fun h => h))
    | (refine wpList_box_blk rfl 64 (.tmp 0) rfl (bvs l) _ rfl rfl ?_; intro g w1 B1 O1 hg; have hb1 : Below w.heap.size w w1 := O1.below (fun _ h => h.elim) (Nat.le_refl _); have hg1 := B1.lt; have hz1 := hb1.size))
  refine (reverse_any g 56 _ 8 (bvs l) f8 w3 HT.out (by rw [HL.out]; decide) B3).mono ?_; rintro _ w4 ⟨rfl, B4, O4, hz4⟩
  rw [LC.out] at B4
  have hb4 := below_only (below_only hb2 O3 (fun i h => by omega)) O4 (fun i h => by omega)
  have hgx : x ≠ g := by omega
  have B2 := (B2.only O3 hgx).only O4 hgx
  clear B1 B3 hb2 O1 O2 O3 O4
  go_wp2_with (first
    | (have _ := B2; refine wpList_store_blk rfl 64 (.tmp 2) (.tmp 9) rfl x 0 rfl (bvs cl) _ rfl rfl 64 _ B2 (by rw [HC.out]; decide) SZC.out (bvs_one _) ?_; intro w5 B5 O5 hs5)
    | (refine wpList_load_blk rfl 64 (.tmp 1) rfl g 0 rfl _ _ B4 (bvs cl) (by rw [List.drop_zero]; exact List.take_length) _ Try.underlying64 rfl SZC.out ?_))
  rw [lay_all _ _ HC.out] at B5
  try rw [Exit.noGoto_ret]
  exact bodyPost_ret (ret_cell1 Try.results35 _ w5 x (bvs cl) B5 (by rfl) _ Try.underlying64 rfl SZC.out) rfl ⟨rfl, below_only hb4 O5 (fun i h => by omega)⟩
theorem be_getD (k v j : Nat) (h : j < k) : (be k v).getD (k - 1 - j) 0 = UInt8.ofNat (v / 256 ^ j) := by
  induction k with
  | zero => omega
  | succ k ih =>
    by_cases hj : j = k
    · subst hj
      simp [be, List.getD]
    · have e : k + 1 - 1 - j = (k - 1 - j) + 1 := by omega
      rw [e]
      simp only [be, List.getD_cons_succ]
      exact ih (by omega)
theorem join_byte (a : Nat) (c : UInt8) (h : a * 256 < 18446744073709551616) : bits .or .u64 ((a : Int) * 256) (c.toNat : Int) = ((a * 256 + c.toNat : Nat) : Int) := by
  have e : (a : Int) * 256 = ((a * 256 : Nat) : Int) := by simp
  have hc := c.toNat_lt
  rw [e, u64_or_nat _ _ h (by omega)]
  rw [show a * 256 = a <<< 8 by rw [Nat.shiftLeft_eq], ← Nat.shiftLeft_add_eq_or_of_lt (by omega)]
theorem join_half (g e : Nat) (hg : g < 4294967296) (he : e < 4294967296) : bits .or .u64 ((g : Int) * 4294967296) (e : Int) = ((g * 4294967296 + e : Nat) : Int) := by
  have h : (g : Int) * 4294967296 = ((g * 4294967296 : Nat) : Int) := by simp
  rw [h, u64_or_nat _ _ (by omega) (by omega)]
  rw [show g * 4294967296 = g <<< 32 by rw [Nat.shiftLeft_eq], ← Nat.shiftLeft_add_eq_or_of_lt (by omega)]
theorem fill_one (F : List UInt8) (m : Nat) (hm : m < F.length) (u : Int) (hu : u = ((F.getD m 0).toNat : Int)) : lay (bvs (List.replicate (m + 1) 0 ++ F.drop (m + 1))) m [.int .u8 u] = bvs (List.replicate m 0 ++ F.drop m) := by
  subst hu
  have e1 : F.drop m = F.getD m 0 :: F.drop (m + 1) := by rw [List.drop_eq_getElem_cons hm]; simp [List.getD, hm]
  have hl : (bvs (List.replicate (m + 1) 0 ++ F.drop (m + 1))).length = F.length := by rw [bvs_length]; simp; omega
  rw [lay_set _ _ _ (by rw [hl]; exact hm), e1, List.replicate_succ', List.append_assoc]
  simp only [bvs, List.map_append, List.map_cons, List.map_nil]
  rw [List.set_append_right _ _ (by simp)]
  simp [bv]
theorem byte_at (g e j : Nat) : ((g : Int) * 4294967296 + (e : Int)) / 2 ^ (8 * j) % 256 = ((UInt8.ofNat ((g * 4294967296 + e) / 256 ^ j)).toNat : Int) := by
  rw [UInt8.toNat_ofNat', show (256 : Nat) ^ j = 2 ^ (8 * j) by rw [show (256 : Nat) = 2 ^ 8 from rfl, ← Nat.pow_mul]]
  have h : ((2 : Int) ^ (8 * j)) = ((2 ^ (8 * j) : Nat) : Int) := by rw [Int.natCast_pow]; rfl
  have h2 : (g : Int) * 4294967296 + (e : Int) = ((g * 4294967296 + e : Nat) : Int) := by omega
  rw [h, h2, ← Int.natCast_ediv]
  generalize (g * 4294967296 + e) / 2 ^ (8 * j) = q
  omega
set_option maxHeartbeats 4000000 in
theorem frontOf_any (g e : Nat) (w : World) (hg : g < 4294967296) (he : e < 4294967296) :
    Calls Try.prog 37 #[.agg #[.int .i64 (g : Int), .int .i64 (e : Int)]] w fun en w' => en = .returned (.agg (bvs (front g e)).toArray) ∧ Below w.heap.size w w' := by
  have hor := join_half g e hg he
  have DR : Hid (List.replicate 8 0 ++ (front g e).drop 8 = List.replicate 8 0) := by unfold Hid; rw [List.drop_eq_nil_of_le (by rw [front_length]; decide), List.append_nil]
  have HF : Hid (∀ j, j < 8 → (front g e).getD (7 - j) 0 = UInt8.ofNat ((g * 4294967296 + e) / 256 ^ j)) := fun j hj => be_getD 8 _ j hj
  have HFL := Lib.hid (front_length g e)
  have hv : g * 4294967296 + e < 18446744073709551616 := by omega
  generalize front g e = F at *
  go_enter Try.func37, Try.ntmps37
  go_wp2_with (first
    | (have _ := B1; refine wpList_alloc_blk rfl 61 rfl (bvs (List.replicate 8 0)) _ zeroArr8 rfl ?_; intro x w2 B2 O2 hx; have hb2 := hb1.trans ((O2.below (fun _ h => h.elim) (Nat.le_refl _)).mono hb1.size); have B1 := B1.only O2 (fun h => h); have q0 : w2.cell? ⟨b, 0, none⟩ = some (.int .i64 (g : Int)) := B1.cell rfl; have q1 : w2.cell? ⟨b, 1, none⟩ = some (.int .i64 (e : Int)) := B1.cell rfl)
    | (refine wpList_box_blk rfl 23 (.tmp 0) rfl [.int .i64 (g : Int), .int .i64 (e : Int)] _ rfl rfl ?_; intro b w1 B1 O1 hb; have hb1 : Below w.heap.size w w1 := O1.below (fun _ h => h.elim) (Nat.le_refl _); have hg1 := B1.lt; have hz1 := hb1.size))
  go_loopw [13] (fun u wr => ∃ j m : Nat, j + m = 8 ∧ u = .int .i64 (j : Int) ∧ Block wr x 61 (bvs (List.replicate m 0 ++ F.drop m)) ∧ Below w.heap.size w wr) (fun u _ => 8 - (intOf u).toNat)
  case atStart => exact ⟨0, 8, rfl, rfl, by rw [DR.out]; exact B2, hb2⟩
  case round =>
    clear B2 hb2 hb1 B1 O1 O2 q0 q1
    obtain ⟨j, m, hjm, rfl, hB, hb⟩ := hrel
    by_cases hlt : j < 8
    · have hd : (j : Int) < 8 := by omega
      obtain ⟨m, rfl⟩ : ∃ m', m = m' + 1 := ⟨m - 1, by omega⟩
      have hm : 7 - j = m := by omega
      have hu := byte_at g e j
      have HFJ := HF.out j hlt
      rw [hm] at HFJ
      rw [← HFJ] at hu
      have HU := Lib.hid hu
      have HM := Lib.hid hm
      have hbl : (bvs (List.replicate (m + 1) 0 ++ F.drop (m + 1))).length = 8 := by rw [bvs_length]; have := HFL.out; simp; omega
      clear hu hm HFJ
      go_wp2_with (refine wpList_store_blk rfl 5 (.tmp 23) (.tmp 22) rfl x (7 - j) rfl [.int .u8 (((g : Int) * 4294967296 + (e : Int)) / 2 ^ (8 * j) % 256)] _ rfl rfl 61 _ hB (by rw [hbl]; show 7 - j + 1 ≤ 8; omega) sizeU8i (by simp [Value.oneCell']) ?_; intro w3 B3 O3 hs3)
      rw [HM.out, fill_one F m (by have := HFL.out; omega) _ HU.out] at B3
      have hb3 := below_only hb O3 (fun i h => by omega)
      go_roundw
      case rel => exact ⟨j + 1, m, by omega, by go_num, B3, hb3⟩
      case measure => simp [intOf]; omega
    · obtain rfl : j = 8 := by omega
      obtain rfl : m = 0 := by omega
      rw [List.replicate_zero, List.nil_append, List.drop_zero] at hB
      have S8 : Hid ((Try.prog.info? 61).map (·.size) = some (bvs F).length) := by unfold Hid; rw [bvs_length, HFL.out]; exact sizeArr8
      go_wp2_with (first
        | (have _ := hB; refine wpList_store_blk rfl 61 (.tmp 2) (.tmp 25) rfl x 0 rfl (bvs F) _ rfl rfl 61 _ hB (by omega) S8.out (bvs_one _) ?_; intro w5 B5 O5 hs5)
        | (refine wpList_load_blk rfl 61 (.tmp 2) rfl x 0 rfl _ _ hB (bvs F) (by rw [List.drop_zero]; exact List.take_length) _ Try.underlying61 rfl S8.out ?_))
      rw [lay_all _ _ rfl] at B5
      try rw [Exit.noGoto_ret]
      exact bodyPost_ret (ret_cell1 Try.results37 _ w5 x (bvs F) B5 (by rfl) _ Try.underlying61 rfl S8.out) rfl ⟨rfl, below_only hb O5 (fun i h => by omega)⟩
set_option maxHeartbeats 4000000 in
theorem stamp_any (l : List UInt8) (w : World) (h64 : l.length = 64) :
    Calls Try.prog 33 #[.agg (bvs l).toArray] w fun e w' => e = .returned (.agg #[.int .i64 (gen l : Int), .int .i64 (epoch l : Int)]) ∧ Below w.heap.size w w' := by
  have SZ : Hid ((Try.prog.info? 64).map (·.size) = some (bvs l).length) := by unfold Hid; rw [bvs_length, h64]; exact sizeParts
  have H8 : Hid ((bvs (l.take 8)).length = 8) := by unfold Hid; rw [bvs_length, List.length_take]; omega
  have HT : Hid ((l.take 8).length = 8) := by unfold Hid; rw [List.length_take]; omega
  have S8 : Hid ((Try.prog.info? 61).map (·.size) = some (bvs (l.take 8)).length) := by unfold Hid; rw [H8.out]; exact sizeArr8
  have SEG : Hid (((bvs l).drop 0).take (bvs (l.take 8)).length = bvs (l.take 8)) := by unfold Hid; rw [H8.out, List.drop_zero, bvs_take]
  have HG : Hid (gen l = acc 0 (l.take 8) / 4294967296) := rfl
  have HE : Hid (epoch l = acc 0 (l.take 8) % 4294967296) := rfl
  clear h64
  generalize gen l = gn at *
  generalize epoch l = ep at *
  generalize l.take 8 = f8 at *
  go_enter Try.func33, Try.ntmps33
  go_wp2_with (first
    | (have _ := B2; refine wpList_load_blk rfl 61 (.tmp 6) rfl g 0 rfl _ _ B1 (bvs f8) SEG.out _ Try.underlying61 rfl S8.out ?_)
    | (have _ := B1; refine wpList_alloc_blk rfl 23 rfl [.int .i64 0, .int .i64 0] _ zeroStamp rfl ?_; intro x w2 B2 O2 hx; have hb2 := hb1.trans ((O2.below (fun _ h => h.elim) (Nat.le_refl _)).mono hb1.size); have B1 := B1.only O2 (fun h => h))
    | (refine wpList_box_blk rfl 64 (.tmp 0) rfl (bvs l) _ rfl rfl ?_; intro g w1 B1 O1 hg; have hb1 : Below w.heap.size w w1 := O1.below (fun _ h => h.elim) (Nat.le_refl _); have hg1 := B1.lt; have hz1 := hb1.size))
  go_loopw [3, 8] (fun u3 u8 wr => ∃ j : Nat, j ≤ 8 ∧ u8 = .int .i64 (j : Int) ∧ u3 = .int .u64 ((acc 0 (f8.take j) : Nat) : Int) ∧ wr = w2) (fun _ u _ => 8 - (intOf u).toNat)
  case atStart => exact ⟨0, by decide, rfl, rfl, rfl⟩
  case round =>
    obtain ⟨j, hj, rfl, rfl, hw⟩ := hrel
    subst hw
    by_cases hlt : j < 8
    · have hd : (j : Int) < 8 := by omega
      have hj0 : (0 : Int) ≤ (j : Int) := by omega
      have hlt' : j < f8.length := by rw [HT.out]; exact hlt
      have hix := fun w => run_index_bytes (P := Try.prog) Try.underlying61 (by kernel_rfl) sizeU8i f8 HT.out .i64 j hlt w
      have hst : acc 0 (f8.take (j + 1)) = acc 0 (f8.take j) * 256 + (f8.getD j 0).toNat := by rw [take_getD f8 j hlt', acc_snoc]
      have hal := acc_lt (f8.take j)
      have hap : 256 ^ (f8.take j).length ≤ 256 ^ 7 := Nat.pow_le_pow_right (by decide) (by rw [List.length_take]; omega)
      have hbd : acc 0 (f8.take j) * 256 < 18446744073709551616 := by omega
      have hjo := join_byte (acc 0 (f8.take j)) (f8.getD j 0) hbd
      have hu := u8_le (f8.getD j 0)
      have HST := Lib.hid hst
      clear hst hal hap hlt'
      generalize f8.getD j 0 = c at *
      generalize acc 0 (f8.take j) = a at *
      go_wp2_with fail
      go_roundw
      case rel => exact ⟨j + 1, by omega, by go_num, by rw [HST.out]; simp, trivial⟩
      case measure => simp [intOf]; omega
    · obtain rfl : j = 8 := by omega
      rw [List.take_of_length_le (by rw [HT.out]; decide)]
      have hal := acc_lt f8
      rw [HT.out] at hal
      have hac : acc 0 f8 < 18446744073709551616 := hal
      generalize acc 0 f8 = a at *
      have hand : bits .and .u64 (a : Int) 4294967295 = (ep : Int) := by
        rw [HE.out, show (4294967295 : Int) = ((4294967295 : Nat) : Int) from rfl, u64_and_nat _ _ hac (by decide)]
        rw [show 4294967295 = 2 ^ 32 - 1 from rfl, Nat.and_two_pow_sub_one_eq_mod]
      have hdiv : (a : Int) / 4294967296 = (gn : Int) := by rw [HG.out]; omega
      have hgb : (gn : Int) < 4294967296 := by rw [HG.out]; omega
      have heb : (ep : Int) < 4294967296 := by rw [HE.out]; omega
      clear hal
      go_wp2_with (refine wpList_store_blk rfl 23 (.tmp 2) (.tmp 23) rfl x 0 rfl [.int .i64 (gn : Int), .int .i64 (ep : Int)] _ rfl rfl 23 _ B2 (by show 0 + 2 ≤ 2; decide) sizeStamp (by simp [Value.oneCell']) ?_; intro w5 B5 O5 hs5)
      rw [lay_all _ _ (by rfl)] at B5
      try rw [Exit.noGoto_ret]
      exact bodyPost_ret (ret_cell1 Try.results33 _ w5 x [.int .i64 (gn : Int), .int .i64 (ep : Int)] B5 (by rfl) _ Try.underlying23 rfl sizeStamp) rfl ⟨rfl, below_only hb2 O5 (fun i h => by omega)⟩
end StripW
end Go.Proofs.Ythjmefjadibjjaa
