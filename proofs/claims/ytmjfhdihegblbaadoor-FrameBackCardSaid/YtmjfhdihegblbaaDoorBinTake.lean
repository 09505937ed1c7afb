/- The walks of what the program takes off bytes: numbers, ints and texts. -/
import Derived.Test.YtmjfhdihegblbaaDoorBinRead
import Derived.WalkSpells
namespace Go.Proofs.YtmjfhdihegblbaaDoor
open Go.RowKit
namespace Wd
/-- A row whose memory is the call's own: it may be written. -/
def Mine (w : World) (base : Nat) (A : Option Addr) (l : List UInt8) : Prop :=
  l = [] ∨ ∃ g o cur, A = some ⟨g, o, none⟩ ∧ base ≤ g ∧ w.heap[g]? = some (.cells cur 5 (0, 0))
/-- A row that a call has handed back: new memory, its bytes. -/
def Gave (w w' : World) (l : List UInt8) (r : Value) : Prop :=
  ∃ A c, r = .slice A l.length c ∧ l.length ≤ c ∧ Row w' w'.heap.size A (bvs l) ∧ Mine w' w.heap.size A l ∧ Below w.heap.size w w'
theorem gave_nil (w w' : World) (h : Below w.heap.size w w') : Gave w w' [] (.slice none 0 0) := ⟨none, 0, rfl, Nat.le_refl _, Row.nil _ _ _, .inl rfl, h⟩
theorem Made.gave {w w' : World} {l : List UInt8} {r : Value} (h : Made w w' l r) : Gave w w' l r := by
  obtain ⟨A, c, rfl, hown, hb⟩ := h
  refine ⟨A, c, rfl, ?_, Row.own hown, ?_, hb⟩
  · rcases hown.2 with ⟨hv, h0⟩ | ⟨g, cap, cur, hv, _, _, hnc, _⟩
    · rw [h0]; exact Nat.zero_le _
    · injection hv with _ _ h3; rw [h3]; exact hnc
  · rcases hown.2 with ⟨hv, h0⟩ | ⟨g, cap, cur, hv, hg, hh, _⟩
    · exact .inl (List.length_eq_zero_iff.1 h0)
    · injection hv with h1; exact .inr ⟨g, 0, cur, h1, hg, hh⟩
theorem Below.drewN {B : Nat} {w w' : World} (h : Below B w w') (n : Nat) : Below B w (w'.drewN n) := h.trans (drawn_below _ _ _)
/-- .. with draws ahead of it. -/
theorem gave_drew {w w1 w' : World} {l : List UInt8} {r : Value} (h : Gave w1 w' l r) (hb : Below w.heap.size w w1) : Gave w w' l r := by
  obtain ⟨A, c, hr, hc, hrow, hm, hb'⟩ := h
  refine ⟨A, c, hr, hc, hrow, ?_, bthen hb hb'⟩
  rcases hm with h0 | ⟨g, o, cur, h1, h2, h3⟩
  · exact .inl h0
  · exact .inr ⟨g, o, cur, h1, Nat.le_trans hb.size h2, h3⟩
theorem Row.tight {w : World} {B : Nat} {A : Option Addr} {xs : List Value} (h : Row w B A xs) : Row w w.heap.size A xs := fun k u hu => by
  obtain ⟨ad, e, _, hc⟩ := h k u hu
  have := World.block_lt_of_cell? w _ hc
  rw [add_block] at this
  exact ⟨ad, e, this, hc⟩
end Wd
namespace BinW
open BinM Wd
theorem method_num (F : Nat) (v : Int) (w : World) : (method (F + 1) 60 (.int .u64 v) "encore/bin.plain").run Tryd.prog w = .ok (59, .int .u64 v) w := by kernel_rfl
set_option maxHeartbeats 1000000 in
theorem clone_any (B : Nat) (A : Option Addr) (n c : Nat) (l : List UInt8) (w : World) (hn : n = l.length) (hl : n ≤ 140737488355328) (h : Row w B A (bvs l)) :
    Calls Tryd.prog 28 #[.slice A n c] w fun e w' => ∃ r, e = .returned r ∧ Made w w' l r := by
  obtain ⟨i0, hi, hz0, hz1, hz2⟩ := info_parts infoU8
  have hnil := fun (w : World) (a : Option Addr) (n c : Nat) => Lib.run_eql_slice_nil (P := Tryd.prog) w 22 5 a n c 0 0 Tryd.underlying22
  cases A with
  | none =>
    have hl0 : l = [] := by have := h.none; simpa [bvs] using this
    subst hl0
    subst hn
    clear h
    go_enter Tryd.func28, Tryd.ntmps28
    go_wp2
    go_ret
    exact ⟨_, rfl, made_nil w⟩
  | some ad =>
    have HN := Lib.hid hn
    clear hn
    have HL : Hid ((bvs l).length = n) := by unfold Hid; rw [bvs_length]; exact HN.out.symm
    have HO := Lib.hid (bvs_one l)
    have hr := h.tight.below (alloc_below w (.cells #[] 5))
    have hown : (w.alloc (.cells #[] 5)).ownsRow w.heap.size 5 1 (.slice (some ⟨w.heap.size, 0, none⟩) 0 0) 0 [] := World.ownsRow_made w #[] 0 (Nat.le_refl _) (by unfold maxLen; omega) (by simp)
    have hb := alloc_below w (.cells #[] 5)
    have HLT := Lib.hid hown.lt
    clear h
    go_enter Tryd.func28, Tryd.ntmps28
    go_wp2_with (at_builtin; refine wpList_append_row rfl _ _ 22 rfl w.heap.size 5 i0 (.int .u8 0) 1 Tryd.underlying22 hi hz0 hz1 hz2 rfl _ 0 [] rfl hown w.heap.size (some ad) n c (bvs l) rfl HL.out hr HO.out (by unfold maxLen; omega) (by omega) (by simp) ?_; intro v' w1 hown1 hgrow1)
    have hg : (w.alloc (.cells #[] 5)).grownBy w1 (Value.slice (some ⟨w.heap.size, 0, none⟩) 0 0).ownBlock := hgrow1
    have hb1 : Below w.heap.size w w1 := hb.grown hg (by simp) (fun k hk => (HLT.out k hk).1)
    simp only [Nat.zero_add, List.nil_append] at hown1
    obtain ⟨A', c', rfl⟩ := own_slice hown1
    clear hgrow1 hg
    go_ret
    rw [HN.out] at hown1
    exact ⟨.slice A' n c', rfl, A', c', by rw [HN.out], by rw [HN.out]; exact hown1, hb1⟩
theorem numPlain_any (v : Nat) (hv : v < 18446744073709551616) (w : World) :
    Calls Tryd.prog 59 #[.int .u64 (v : Int)] w fun e w' => e = .returned (if 9007199254740991 < v then .tuple #[.int .i64 0, .int .i64 4] else .tuple #[.int .i64 (v : Int), .int .i64 0]) ∧ w = w' := by
  by_cases h : 9007199254740991 < v
  · rw [if_pos h]
    go_enter Tryd.func59, Tryd.ntmps59
    go_wp2
    go_ret2
    exact ⟨rfl, rfl⟩
  · rw [if_neg h]
    go_enter Tryd.func59, Tryd.ntmps59
    go_wp2
    go_ret2
    exact ⟨rfl, rfl⟩
theorem unzz_bits (v : Nat) (hv : v < 18446744073709551616) : bits .xor .i64 ((v : Int) / 2) (wrap64 (-wrap64 (bits .and .u64 (v : Int) 1))) = unzz v := by
  have h1 : bits .and .u64 (v : Int) 1 = ((v % 2 : Nat) : Int) := by
    rw [show (1 : Int) = ((1 : Nat) : Int) from rfl, u64_and_nat v 1 hv (by decide), nat_mask1]
  have h2 : (v : Int) / 2 = ((v / 2 : Nat) : Int) := by omega
  rw [h1, h2]
  unfold unzz
  show IntKind.i64.wrap ((BitVec.ofInt 64 ((v / 2 : Nat) : Int) ^^^ BitVec.ofInt 64 _).toNat : Int) = _
  have h3 : (BitVec.ofInt 64 ((v / 2 : Nat) : Int)).toNat = v / 2 := by rw [BitVec.ofInt_natCast, BitVec.toNat_ofNat]; exact Nat.mod_eq_of_lt (by omega)
  by_cases ho : v % 2 = 0
  · rw [ho, if_pos rfl, show wrap64 (-wrap64 ((0 : Nat) : Int)) = 0 by decide +kernel]
    rw [show BitVec.ofInt 64 0 = 0#64 from rfl, BitVec.xor_zero, h3]
    exact IntWalk.i64_in _ (by omega)
  · have ho : v % 2 = 1 := by omega
    rw [ho, if_neg (by decide), show wrap64 (-wrap64 ((1 : Nat) : Int)) = -1 by decide +kernel]
    rw [show BitVec.ofInt 64 (-1) = BitVec.allOnes 64 from rfl, BitVec.xor_allOnes, BitVec.toNat_not, h3]
    have h4 : ((2 ^ 64 - 1 - v / 2 : Nat) : Int) = 18446744073709551615 - ((v / 2 : Nat) : Int) := by omega
    rw [h4]
    simp only [IntKind.wrap, IntKind.bits, IntKind.signed]
    simp
    omega
end BinW
namespace BinM
def tkNum (l : List UInt8) : Int × List UInt8 × Int :=
  if (rd l).2.2 ≠ 0 then (0, [], (rd l).2.2) else if 9007199254740991 < (rd l).1 then (0, [], 4) else ((rd l).1, l.drop (rd l).2.1, 0)
def tkInt (l : List UInt8) : Int × List UInt8 × Int :=
  if (rd l).2.2 ≠ 0 then (0, [], (rd l).2.2) else (unzz (rd l).1, l.drop (rd l).2.1, 0)
theorem rd_facts (l : List UInt8) : (rd l).1 < 18446744073709551616 ∧ (rd l).2.1 ≤ l.length ∧ (rd l).2.2 ≤ 4 := by
  rcases hr : rd l with ⟨v, n, e⟩
  by_cases he : e = 0
  · subst he
    have h := rd_some l v n hr
    exact ⟨h.1, h.2.2.1, by simp⟩
  · cases l with
    | nil => simp [rd] at hr; obtain ⟨rfl, rfl, rfl⟩ := hr; simp
    | cons c r =>
      unfold rd at hr
      simp only at hr
      split at hr
      · simp only [Prod.mk.injEq] at hr; obtain ⟨rfl, rfl, rfl⟩ := hr; simp
      · split at hr
        · simp only [Prod.mk.injEq] at hr; obtain ⟨rfl, rfl, rfl⟩ := hr; simp
        · simp only [Prod.mk.injEq] at hr; exact absurd hr.2.2.symm he
end BinM
namespace BinW
open BinM Wd
/-- What lies behind the value, as the program cuts it off. -/
theorem behind_cut (A : Option Addr) (n c s : Nat) (l : List UInt8) (hn : n = l.length) (hc : n ≤ c) (hs : s ≤ n) :
    ∃ A1, (∀ w, (Instr.slice 22 (.slice A n c) (some (.int .i64 (s : Int))) none none).run Tryd.prog w = .ok (.slice A1 (n - s) (c - s)) w) ∧
      (∀ w B, Row w B A (bvs l) → Row w B A1 (bvs (l.drop s))) ∧ ∀ w base, Mine w base A l → Mine w base A1 (l.drop s) := by
  refine ⟨cutAt A c s, fun w => slice_l A n c .i64 s (by omega) (by omega) w, fun w B h => ?_, fun w base h => ?_⟩
  · have h1 := h.cut c s (by rw [bvs_length]; omega)
    rw [bvs_drop] at h1
    exact h1
  · rcases h with rfl | ⟨g, o, cur, rfl, h2, h3⟩
    · exact .inl (by simp)
    · unfold cutAt
      split
      · exact .inr ⟨g, o, cur, rfl, h2, h3⟩
      · exact .inr ⟨g, o + s, cur, by simp [Addr.add_lit], h2, h3⟩
theorem third_cut (A : Option Addr) (m c : Nat) (hc : m ≤ c) (w : World) : (Instr.slice 22 (.slice A m c) none (some (.int .i64 (m : Int))) (some (.int .i64 (m : Int)))).run Tryd.prog w = .ok (.slice A m m) w := by
  rw [slice_hm _ _ _ _ _ _ _ (by omega) (by omega) (by omega), cutAt_zero]; rfl
set_option maxHeartbeats 1000000 in
theorem takeNum_any (B : Nat) (A : Option Addr) (n c : Nat) (l : List UInt8) (w : World) (hn : n = l.length) (hl : n ≤ 140737488355328) (hc : n ≤ c) (h : Row w B A (bvs l)) :
    Calls Tryd.prog 39 #[.slice A n c] w fun e w' => ∃ r, e = .returned (.tuple #[.int .i64 (tkNum l).1, r, .int .i64 (tkNum l).2.2]) ∧ Gave w w' (tkNum l).2.1 r := by
  have hm := method_num
  have hg := get_any B A n c l w hn hl hc h
  have hf := rd_facts l
  have HT : Hid (tkNum l = if (rd l).2.2 ≠ 0 then (0, [], ((rd l).2.2 : Int)) else if 9007199254740991 < (rd l).1 then (0, [], 4) else (((rd l).1 : Int), l.drop (rd l).2.1, 0)) := rfl
  generalize rd l = vse at *
  obtain ⟨v, s, e⟩ := vse
  have hg : Calls Tryd.prog 41 #[.slice A n c] w fun e' w' => e' = .returned (.tuple #[.int .u64 (v : Int), .int .i64 (s : Int), .int .i64 (e : Int)]) ∧ ∃ q, w' = w.drewN q := hg
  have hf : v < 18446744073709551616 ∧ s ≤ l.length ∧ e ≤ 4 := hf
  have HT : Hid (tkNum l = if e ≠ 0 then (0, [], (e : Int)) else if 9007199254740991 < v then (0, [], 4) else ((v : Int), l.drop s, 0)) := HT
  have HG := Lib.hid hg
  have HR := Lib.hid h
  have HN := Lib.hid hn
  clear hg h hn
  by_cases he : e = 0
  · subst he
    by_cases hv : 9007199254740991 < v
    · have HP := Lib.hid (fun w => numPlain_any v hf.1 w)
      have HK : Hid (tkNum l = (0, [], 4)) := by unfold Hid; rw [HT.out, if_neg (by decide), if_pos hv]
      go_enter Tryd.func39, Tryd.ntmps39
      go_wp2_with fail
      refine HG.out.mono ?_; rintro e w' ⟨rfl, q, rfl⟩
      go_wp2_with fail
      refine (HP.out _).mono ?_; rintro e w' ⟨rfl, rfl⟩
      rw [if_pos hv]
      go_wp2_with fail
      go_ret3
      exact ⟨.slice none 0 0, by rw [HK.out]; rfl, by rw [HK.out]; exact gave_nil w _ (drawn_below _ _ _)⟩
    · have HP := Lib.hid (fun w => numPlain_any v hf.1 w)
      have HK : Hid (tkNum l = ((v : Int), l.drop s, 0)) := by unfold Hid; rw [HT.out, if_neg (by decide), if_neg hv]
      obtain ⟨A1, hsl, hr1, _⟩ := behind_cut A n c s l HN.out hc (by rw [HN.out]; exact hf.2.1)
      have HR1 := Lib.hid hr1
      clear hr1
      go_enter Tryd.func39, Tryd.ntmps39
      go_wp2_with fail
      refine HG.out.mono ?_; rintro e w' ⟨rfl, q, rfl⟩
      go_wp2_with fail
      refine (HP.out _).mono ?_; rintro e w' ⟨rfl, rfl⟩
      rw [if_neg hv]
      have hb1 := drawn_below w.heap.size w q
      have hrow := (HR1.out w B HR.out).below (drawn_below B w q)
      generalize w.drewN q = w1 at *
      go_wp2_with fail
      refine (clone_any B A1 (n - s) (c - s) (l.drop s) w1 (by rw [List.length_drop, HN.out]) (by omega) hrow).mono ?_; rintro e w2 ⟨r, rfl, hmade⟩
      have hgave := gave_drew hmade.gave hb1
      generalize l.drop s = t at *
      obtain ⟨A', c', rfl, hcap, hrow2, hmine, hb2⟩ := hgave
      have htc := third_cut A' t.length c' hcap
      have HR2 := Lib.hid hrow2
      have HM2 := Lib.hid hmine
      clear hrow hrow2 hmine hmade hsl
      generalize hmm : t.length = m at *
      have HMM := Lib.hid hmm
      clear hmm
      go_wp2_with fail
      go_quiet (fail)
      go_wp2_with fail
      go_ret3
      refine ⟨.slice A' m m, by rw [HK.out]; rfl, ?_⟩
      rw [HK.out]
      exact ⟨A', m, by rw [HMM.out], by rw [HMM.out]; exact Nat.le_refl _, HR2.out.below (drawn_below _ _ _), HM2.out, Wd.Below.drewN hb2 _⟩
  · have hne : ((e : Int) != 0) = true := by simp; omega
    have HK : Hid (tkNum l = (0, [], (e : Int))) := by unfold Hid; rw [HT.out, if_pos he]
    go_enter Tryd.func39, Tryd.ntmps39
    go_wp2_with fail
    refine HG.out.mono ?_; rintro e w' ⟨rfl, q, rfl⟩
    go_wp2_with fail
    go_ret3
    exact ⟨.slice none 0 0, by rw [HK.out]; rfl, by rw [HK.out]; exact gave_nil w _ (drawn_below _ _ _)⟩
set_option maxHeartbeats 1000000 in
theorem TakeNum_any (B : Nat) (A : Option Addr) (n c : Nat) (l : List UInt8) (w : World) (hn : n = l.length) (hl : n ≤ 140737488355328) (hc : n ≤ c) (h : Row w B A (bvs l)) :
    Calls Tryd.prog 34 #[.slice A n c] w fun e w' => ∃ r, e = .returned (.tuple #[.int .i64 (tkNum l).1, r, .int .i64 (tkNum l).2.2]) ∧ Gave w w' (tkNum l).2.1 r := by
  have HG := Lib.hid (takeNum_any B A n c l w hn hl hc h)
  clear hn h
  go_enter Tryd.func34, Tryd.ntmps34
  go_wp2_with fail
  refine HG.out.mono ?_; rintro e w' ⟨r, rfl, hg⟩
  go_wp2_with fail
  go_ret3
  exact ⟨r, rfl, hg⟩
end BinW
end Go.Proofs.YtmjfhdihegblbaaDoor
