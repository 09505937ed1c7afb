/- The walk of the closed statement on package bin. -/
import Derived.Test.YtopnogjbpapmfaaBinLaws
import Derived.Test.YtopnogjbpapmfaaBinAgainWalk
namespace Go.Proofs.Ytopnogjbpapmfaa
open Go.RowKit
namespace BinM
theorem known_lens : ∀ k : Fin 8, 0 < k.val → (numB ((2 ^ (7 * k.val) : Nat) - 1 : Int)).length = k.val ∧ (numB ((2 ^ (7 * k.val) : Nat) : Int)).length = k.val + 1 ∧ numE ((2 ^ (7 * k.val) : Nat) : Int) = 0 := by decide +kernel
end BinM
namespace BinL
open BinM Wd BinW
theorem pow_half (k : Nat) (h : 1 ≤ k) (h8 : k < 8) : ∃ M : Nat, ((2 ^ (7 * k) : Nat) : Int) = 2 * (M : Int) ∧ 0 < M ∧ M < 1000000000000000 := by
  refine ⟨2 ^ (7 * k - 1), ?_, Nat.two_pow_pos _, ?_⟩
  · have : 2 ^ (7 * k) = 2 * 2 ^ (7 * k - 1) := by rw [← Nat.pow_succ']; congr 1; omega
    omega
  · exact Nat.lt_of_le_of_lt (Nat.pow_le_pow_right (by decide) (by omega : 7 * k - 1 ≤ 48)) (by decide)
/-! the odd bytes, as the text lays them -/
def chain (w : World) : List (List UInt8) → World
  | [] => w
  | l :: r => chain (w.alloc (.cells (bvs l).toArray 5)) r
theorem chain_size (w : World) (ls : List (List UInt8)) : (chain w ls).heap.size = w.heap.size + ls.length := by
  induction ls generalizing w with
  | nil => rfl
  | cons l r ih => unfold chain; rw [ih]; simp; omega
theorem chain_below (w : World) (ls : List (List UInt8)) : Below w.heap.size w (chain w ls) := by
  induction ls generalizing w with
  | nil => exact Below.refl _ _
  | cons l r ih => exact bthen (alloc_below w _) (ih _)
theorem chain_row (w : World) (ls : List (List UInt8)) (i : Nat) (l : List UInt8) (h : ls[i]? = some l) : Row (chain w ls) (chain w ls).heap.size (some ⟨w.heap.size + i, 0, none⟩) (bvs l) := by
  induction ls generalizing w i with
  | nil => simp at h
  | cons m r ih =>
    cases i with
    | zero =>
      simp only [List.getElem?_cons_zero, Option.some.injEq] at h
      subst h
      have h1 := row_fresh w (bvs m).toArray 5 (0, 0) m rfl
      have h2 := chain_below (w.alloc (.cells (bvs m).toArray 5)) r
      exact (h1.tight.below h2).tight
    | succ i =>
      have h1 := ih (w.alloc (.cells (bvs m).toArray 5)) i (by simpa using h)
      have e : (w.alloc (.cells (bvs m).toArray 5)).heap.size + i = w.heap.size + (i + 1) := by simp; omega
      rw [e] at h1
      exact h1
def odd7 : List (List UInt8) := [[255], [255, 0, 128, 0, 0, 0, 0, 0, 0], [255, 1, 0, 0, 0, 0, 0, 0, 0], [254, 0, 0, 0, 0, 0, 0, 1], [224, 0, 0, 1], [3, 1, 2], [128, 129]]
def oddCells (z : Nat) : Array Value := #[.slice none 0 0, .slice (some ⟨z, 0, none⟩) 1 1, .slice (some ⟨z + 1, 0, none⟩) 9 9, .slice (some ⟨z + 1 + 1, 0, none⟩) 9 9, .slice (some ⟨z + 1 + 1 + 1, 0, none⟩) 8 8,
  .slice (some ⟨z + 1 + 1 + 1 + 1, 0, none⟩) 4 4, .slice (some ⟨z + 1 + 1 + 1 + 1 + 1, 0, none⟩) 3 3, .slice (some ⟨z + 1 + 1 + 1 + 1 + 1 + 1, 0, none⟩) 2 2]
/-- A block of eight slices of bytes. -/
def OddAt (w : World) (g : Nat) : Prop := ∃ vs : List Value, Block w g 22 vs ∧ ∀ i, i < 8 → ∃ A n c l, vs[i]? = some (.slice A n c) ∧ n = l.length ∧ n ≤ 9 ∧ n ≤ c ∧ Row w w.heap.size A (bvs l)
theorem OddAt.at {w : World} {g : Nat} (h : OddAt w g) (i : Nat) (hi : i < 8) : ∃ A n c l, w.cell? ⟨g, i, none⟩ = some (.slice A n c) ∧ n = l.length ∧ n ≤ 9 ∧ n ≤ c ∧ Row w w.heap.size A (bvs l) := by
  obtain ⟨vs, hb, hv⟩ := h
  obtain ⟨A, n, c, l, h1, h2⟩ := hv i hi
  exact ⟨A, n, c, l, hb.cell h1, h2⟩
theorem OddAt.kept {w w' : World} {g : Nat} (h : OddAt w g) (hb : Below w.heap.size w w') : OddAt w' g := by
  obtain ⟨vs, h1, hv⟩ := h
  refine ⟨vs, h1.kept hb, fun i hi => ?_⟩
  obtain ⟨A, n, c, l, e1, e2, e3, e4, e5⟩ := hv i hi
  exact ⟨A, n, c, l, e1, e2, e3, e4, (e5.below hb).tight⟩
theorem odd_below (w : World) : Below w.heap.size w ((chain w odd7).alloc (.cells (oddCells w.heap.size) 22)) := bthen (chain_below w odd7) (alloc_below _ _)
theorem odd_new (w : World) : OddAt ((chain w odd7).alloc (.cells (oddCells w.heap.size) 22)) (w.heap.size + 7) := by
  have hs : (chain w odd7).heap.size = w.heap.size + 7 := chain_size w odd7
  refine ⟨(oddCells w.heap.size).toList, ?_, fun i hi => ?_⟩
  · rw [← hs]; exact Block.new _ _ _
  · have hr := fun (j : Nat) (l : List UInt8) (h : odd7[j]? = some l) => ((chain_row w odd7 j l h).below (alloc_below (chain w odd7) (.cells (oddCells w.heap.size) 22))).tight
    obtain rfl | rfl | rfl | rfl | rfl | rfl | rfl | rfl : i = 0 ∨ i = 1 ∨ i = 2 ∨ i = 3 ∨ i = 4 ∨ i = 5 ∨ i = 6 ∨ i = 7 := by omega
    · exact ⟨none, 0, 0, [], rfl, rfl, by decide, by decide, Row.nil _ _ _⟩
    · exact ⟨_, 1, 1, _, rfl, rfl, by decide, by decide, hr 0 [255] rfl⟩
    · exact ⟨_, 9, 9, _, rfl, rfl, by decide, by decide, hr 1 [255, 0, 128, 0, 0, 0, 0, 0, 0] rfl⟩
    · exact ⟨_, 9, 9, _, rfl, rfl, by decide, by decide, hr 2 [255, 1, 0, 0, 0, 0, 0, 0, 0] rfl⟩
    · exact ⟨_, 8, 8, _, rfl, rfl, by decide, by decide, hr 3 [254, 0, 0, 0, 0, 0, 0, 1] rfl⟩
    · exact ⟨_, 4, 4, _, rfl, rfl, by decide, by decide, hr 4 [224, 0, 0, 1] rfl⟩
    · exact ⟨_, 3, 3, _, rfl, rfl, by decide, by decide, hr 5 [3, 1, 2] rfl⟩
    · exact ⟨_, 2, 2, _, rfl, rfl, by decide, by decide, hr 6 [128, 129] rfl⟩
theorem int_cap (x : Int) (hx : -9223372036854775808 ≤ x ∧ x ≤ 9223372036854775807) (l : List UInt8) (n : Nat) (hB : enc (zz x) = l) (hn : l.length = n) (w : World) :
    Calls Try.prog 14 #[.int .i64 x] w fun e w' => ∃ A c, e = .returned (.slice A n c) ∧ n ≤ c ∧ Row w' w'.heap.size A (bvs l) ∧ Below w.heap.size w w' :=
  (int_any x hx w).mono fun e w' ⟨r, h1, h2⟩ => by
    rw [hB] at h2
    obtain ⟨A, c, rfl, h3, h4, _, h5⟩ := Made.gave h2
    exact ⟨A, c, by rw [h1, hn], by rw [← hn]; exact h3, h4, h5⟩
theorem takeNum_any' (B : Nat) (A : Option Addr) (n c : Nat) (l : List UInt8) (w : World) (hn : n = l.length) (hl : n ≤ 140737488355328) (hc : n ≤ c) (h : Row w B A (bvs l)) (v : Int) (t : List UInt8) (err : Int) (hT : tkNum l = (v, t, err)) :
    Calls Try.prog 20 #[.slice A n c] w fun e w' => ∃ r, e = .returned (.tuple #[.int .i64 v, r, .int .i64 err]) ∧ Below w.heap.size w w' :=
  (TakeNum_any B A n c l w hn hl hc h).mono fun _ _ ⟨r, h1, h2⟩ => ⟨r, by rw [h1, hT], by obtain ⟨_, _, _, _, _, _, hb⟩ := h2; exact hb⟩
set_option maxRecDepth 100000 in
set_option maxHeartbeats 1000000 in
theorem binKnown (w : World) :
    Calls Try.prog 10 #[] w fun e w' => e = .returned (.bool true) ∧ Below w.heap.size w w' := by
  go_enter Try.func10, Try.ntmps10
  go_wp2_with fail
  go_loopw [1] (fun i wr => ∃ k : Nat, 1 ≤ k ∧ k ≤ 8 ∧ i = .int .i64 (k : Int) ∧ Below w.heap.size w wr) (fun i _ => 8 - (intOf i).toNat)
  case atStart => exact ⟨1, Nat.le_refl _, by omega, rfl, Below.refl _ _⟩
  case round =>
    obtain ⟨k, hk1, hk, rfl, hb⟩ := hrel
    by_cases hlt : k < 8
    · have hl := known_lens ⟨k, hlt⟩ (show 0 < k by omega)
      obtain ⟨M, hM, hM0, hM1⟩ := pow_half k hk1 hlt
      simp only at hl
      rw [hM] at hl
      have hw : wrap64 ((2 : Int) ^ (7 * k)) = 2 * (M : Int) := by
        have e : (2 : Int) ^ (7 * k) = ((2 ^ (7 * k) : Nat) : Int) := by simp
        rw [e, hM]; unfold wrap64; omega
      have hl1 := hl.1
      have hl2 := hl.2.1
      have hl3 := hl.2.2
      clear hl hM
      have hb1 : ((k : Int) != (k : Int)) = false := by simp
      go_wp2_with fail
      refine (num_any (2 * (M : Int) - 1) (by omega) _).mono ?_; rintro e w1 ⟨r, rfl, hm⟩
      obtain ⟨A1, c1, rfl, _, b1⟩ := Made.open hm
      rw [hl1]
      clear hm
      generalize numE (2 * (M : Int) - 1) = e1
      go_wp2_with fail
      refine (num_any (2 * (M : Int)) (by omega) _).mono ?_; rintro e w2 ⟨r, rfl, hm⟩
      obtain ⟨A2, c2, rfl, _, b2⟩ := Made.open hm
      rw [hl2, hl3]
      clear hm
      have hq : wrap64 ((2 * (M : Int)).tdiv 2) = (M : Int) := by rw [Int.mul_tdiv_cancel_left _ (by decide)]; unfold wrap64; omega
      have hq2 : wrap64 ((-(2 * (M : Int))).tdiv 2) = -(M : Int) := by rw [Int.neg_tdiv, Int.mul_tdiv_cancel_left _ (by decide)]; unfold wrap64; omega
      go_wp2_with fail
      refine (binWrites (2 * (M : Int)) _ (by omega)).mono ?_; rintro e w3 ⟨rfl, b3⟩
      go_wp2_with fail
      refine (binWrites (2 * (M : Int) - 1) _ (by omega)).mono ?_; rintro e w4 ⟨rfl, b4⟩
      go_wp2_with fail
      refine (binWrites (M : Int) _ (by omega)).mono ?_; rintro e w5 ⟨rfl, b5⟩
      go_wp2_with fail
      refine (binWrites (-(M : Int)) _ (by omega)).mono ?_; rintro e w6 ⟨rfl, b6⟩
      go_wp2_with fail
      refine (binWrites (-(M : Int) - 1) _ (by omega)).mono ?_; rintro e w7 ⟨rfl, b7⟩
      have hbb : Below w.heap.size w w7 := bthen hb (bthen b1 (bthen b2 (bthen b3 (bthen b4 (bthen b5 (bthen b6 b7))))))
      go_wp2_with fail
      go_roundw
      case rel => exact ⟨k + 1, by omega, by omega, by go_num, hbb⟩
      case measure => simp [intOf]; omega
    · have ek : k = 8 := by omega
      subst ek
      go_wp2_with fail
      refine (num_lit (-1) (by decide) [] 9 0 (by decide +kernel) (by decide +kernel) rfl _).mono ?_; rintro e w1 ⟨A1, c1, rfl, _, b1⟩
      go_wp2_with fail
      refine (num_lit 9007199254740992 (by decide) [] 9 0 (by decide +kernel) (by decide +kernel) rfl _).mono ?_; rintro e w2 ⟨A2, c2, rfl, _, b2⟩
      go_wp2_with fail
      refine (num_lit 9007199254740991 (by decide) (numB 9007199254740991) 0 8 (by decide +kernel) rfl (by decide +kernel) _).mono ?_; rintro e w3 ⟨A3, c3, rfl, _, b3⟩
      go_wp2_with fail
      refine (int_cap (-9223372036854775808) (by decide) (enc (zz (-9223372036854775808))) 9 rfl (by decide +kernel) _).mono ?_; rintro e w4 ⟨A4, c4, rfl, k4, r4, b4⟩
      go_wp2_with fail
      refine (int_cap 9223372036854775807 (by decide) (enc (zz 9223372036854775807)) 9 rfl (by decide +kernel) _).mono ?_; rintro e w5 ⟨A5, c5, rfl, k5, r5, b5⟩
      have r4 := r4.below b5
      go_wp2_with fail
      refine (takeNum_any' _ A4 9 c4 (enc (zz (-9223372036854775808))) _ (by decide +kernel) (by decide) k4 r4 0 [] 4 (by decide +kernel)).mono ?_; rintro e w6 ⟨r, rfl, b6⟩
      have r4 := r4.tight.below b6
      have r5 := r5.below b6
      go_wp2_with fail
      refine (takeNum_lit _ _ [254, 32, 0, 0, 0, 0, 0, 0] rfl _ _ rfl (by decide) (by decide) 0 [] 4 (by decide +kernel)).mono ?_; rintro e w7 ⟨r', rfl, b7⟩
      have r4 := r4.tight.below b7
      have r5 := r5.tight.below b7
      have hbb : Below w.heap.size w w7 := bthen hb (bthen b1 (bthen b2 (bthen b3 (bthen b4 (bthen b5 (bthen b6 b7))))))
      clear hb b1 b2 b3 b4 b5 b6 b7
      go_wp2_with fail
      have ho : OddAt ((chain w7 odd7).alloc (.cells (oddCells w7.heap.size) 22)) (w7.heap.size + 7) := odd_new w7
      have hob : Below w7.heap.size w7 ((chain w7 odd7).alloc (.cells (oddCells w7.heap.size) 22)) := odd_below w7
      have r4 := r4.tight.below hob
      have r5 := r5.tight.below hob
      have hbb := bthen hbb hob
      change Code.wp _ _ _ _ ((chain w7 odd7).alloc (.cells (oddCells w7.heap.size) 22))
      generalize (chain w7 odd7).alloc (.cells (oddCells w7.heap.size) 22) = wc at *
      generalize hG : w7.heap.size + 1 + 1 + 1 + 1 + 1 + 1 + 1 = G at *
      clear hG
      have HO : Hid (OddAt wc G) := ho
      have HB := Lib.hid hbb
      have H4 := Lib.hid r4.tight
      have H5 := Lib.hid r5.tight
      clear ho hob hbb r4 r5
      generalize hl4 : enc (zz (-9223372036854775808)) = l4 at *
      generalize hl5 : enc (zz 9223372036854775807) = l5 at *
      have hn4 : l4.length = 9 := by rw [← hl4]; decide +kernel
      have hn5 : l5.length = 9 := by rw [← hl5]; decide +kernel
      clear hl4 hl5
      go_loopw [22] (fun i wr => ∃ k : Nat, k ≤ 8 ∧ i = .int .i64 (k : Int) ∧ OddAt wr G ∧ Below w.heap.size w wr ∧ Row wr wr.heap.size A4 (bvs l4) ∧ Row wr wr.heap.size A5 (bvs l5)) (fun i _ => 8 - (intOf i).toNat)
      case atStart => exact ⟨0, by omega, rfl, HO.out, HB.out, H4.out, H5.out⟩
      case round =>
        clear HO HB H4 H5
        obtain ⟨k, hk, rfl, ho, hb, r4, r5⟩ := hrel
        by_cases hlt : k < 8
        · obtain ⟨A, n, c, l, hc, rfl, hn9, hnc, hr⟩ := ho.at k hlt
          have HO := Lib.hid ho
          clear ho
          go_wp2_with fail
          refine (binReads A _ c l 2 _ rfl (by omega) hnc hr).mono ?_; rintro e x1 ⟨rfl, b1⟩
          have hc1 := (b1.cell (World.block_lt_of_cell? _ _ hc)).trans hc
          have hr := (hr.below b1).tight
          have r4 := (r4.below b1).tight
          have r5 := (r5.below b1).tight
          have HO := Lib.hid (HO.out.kept b1)
          clear hc
          go_wp2_with fail
          refine (binReads A _ c l 999 _ rfl (by omega) hnc hr).mono ?_; rintro e x2 ⟨rfl, b2⟩
          have hc2 := (b2.cell (World.block_lt_of_cell? _ _ hc1)).trans hc1
          have hr := (hr.below b2).tight
          have r4 := (r4.below b2).tight
          have r5 := (r5.below b2).tight
          have HO := Lib.hid (HO.out.kept b2)
          clear hc1
          go_wp2_with fail
          refine (binAgain A _ c l _ rfl (by omega) hnc hr).mono ?_; rintro e x3 ⟨rfl, b3⟩
          have HO3 := Lib.hid (HO.out.kept b3)
          have r4 := (r4.below b3).tight
          have r5 := (r5.below b3).tight
          have hb3 : Below w.heap.size w x3 := bthen hb (bthen b1 (bthen b2 b3))
          clear hc2 hr
          go_wp2_with fail
          go_roundw
          case rel => exact ⟨k + 1, by omega, by go_num, HO3.out, hb3, r4, r5⟩
          case measure => simp [intOf]; omega
        · have ek : k = 8 := by omega
          subst ek
          clear ho
          go_wp2_with fail
          refine (works_any _).mono ?_; rintro e x1 ⟨rfl, b1⟩
          have r4 := r4.below b1
          have r5 := r5.below b1
          go_wp2_with fail
          refine (binReads A4 9 c4 l4 0 _ hn4.symm (by omega) k4 r4.tight).mono ?_; rintro e x2 ⟨rfl, b2⟩
          have r5 := r5.tight.below b2
          go_wp2_with fail
          refine (binReads A5 9 c5 l5 0 _ hn5.symm (by omega) k5 r5.tight).mono ?_; rintro e x3 ⟨rfl, b3⟩
          go_wp2_with fail
          refine (binTexts _ (-1) _ (by decide +kernel)).mono ?_; rintro e x4 ⟨rfl, b4⟩
          go_wp2_with fail
          refine (binTexts _ 0 _ (by decide +kernel)).mono ?_; rintro e x5 ⟨rfl, b5⟩
          go_wp2_with fail
          go_ret
          exact ⟨rfl, bthen hb (bthen b1 (bthen b2 (bthen b3 (bthen b4 b5))))⟩
end BinL
end Go.Proofs.Ytopnogjbpapmfaa
