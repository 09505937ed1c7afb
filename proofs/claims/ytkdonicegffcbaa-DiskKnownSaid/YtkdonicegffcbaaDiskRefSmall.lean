/- The document's disk: Boot, Fail, and the power's going. -/
import Derived.Test.YtkdonicegffcbaaDiskRef
import Derived.Test.YtkdonicegffcbaaPlanTwo
import Derived.Test.YtkdonicegffcbaaBring
namespace Go.Proofs.Ytkdonicegffcbaa
open Go.RowKit
namespace DiskR
open DiskM Wd DiskW
theorem infoU64 : (Try.prog.info? 34).map (·.size) = some 1 := by kernel_rfl
section
variable {F : Nat → Prop} {w : World} {d r : Nat} {S : St} {pv : Value} {fs : Bool} {left bits cut : Int}
theorem RefAt.same (h : RefAt F w d r S) : RefAt (Grow F w w) w d r S ∧ Only F w w := by
  obtain ⟨pv, fs, left, bits, cut, h⟩ := h
  exact ⟨⟨pv, fs, left, bits, cut, { h with fd := .inl h.fd, fr := .inl h.fr, fp := fun g hg => .inl (h.fp g hg), lt := fun i hi => Grow.lt h.lt (Nat.le_refl _) hi }⟩, Only.refl _ _⟩
theorem bootR_to (hD : RefAt F w d r S) {S' : St} (he : boo S = S') :
    Calls Try.prog 34 #[.pointer (some ⟨d, 0, none⟩)] w fun e w' => e = .returned (.int .i64 0) ∧ RefAt (Grow F w w') w' d r S' ∧ Only F w w' := by
  subst he
  obtain ⟨pv, fs, left, bits, cut, hX⟩ := hD
  have HX := Lib.hid hX
  have HH := hX.head
  clear hX
  go_enter Try.func34, Try.ntmps34
  go_wp2_with (first
    | (have _ := B1; refine wpList_store_blk rfl 4 (.tmp 8) (.const (.bool false)) rfl d 3 rfl [.bool false] _ rfl rfl 70 _ B1 (by simp [headR]) infoBool (by simp [Value.oneCell']) ?_; intro w2 B2 O2 hs2)
    | (refine wpList_store_blk rfl 4 (.tmp 5) (.const (.bool false)) rfl d 2 rfl [.bool false] _ rfl rfl 70 _ HH (by simp [headR]) infoBool (by simp [Value.oneCell']) ?_; intro w1 B1 O1 hs1; have B1 : Block w1 d 70 (headR r S.dur.length pv false fs left bits cut) := B1))
  go_ret
  have B2 : Block w2 d 70 (headR r S.dur.length pv false false left bits cut) := B2
  exact ⟨rfl, HX.out.head_set (O1.trans O2 (fun i h => .inl h)) B2 HX.out.ok.boo rfl rfl rfl HX.out.small⟩
set_option maxHeartbeats 1000000 in
theorem failR_to (hD : RefAt F w d r S) (n : Int) (b : Nat) (c : Int) {q : Nat} {S' : St} (he : fai S n b c = (q, S')) (hn : -9223372036854775808 ≤ n ∧ n ≤ 9223372036854775807) (hb : b < 18446744073709551616) (hc : -9223372036854775808 ≤ c ∧ c ≤ 9223372036854775807) :
    Calls Try.prog 32 #[.pointer (some ⟨d, 0, none⟩), .int .i64 n, .int .u64 (b : Int), .int .i64 c] w fun e w' => e = .returned (.int .i64 (q : Int)) ∧ RefAt (Grow F w w') w' d r S' ∧ Only F w w' := by
  obtain ⟨pv, fs, left, bits, cut, hX⟩ := hD
  have HX := Lib.hid hX
  have HH := hX.head
  have hc2 := hX.c2
  clear hX
  cases hd : S.dead
  · have e : fai S n b c = (0, { S with fl := if n < 0 then none else some (n.toNat, b, c) }) := by unfold fai; rw [hd]; rfl
    have hok := HX.out.ok.fai hn.2 hb hc
    rw [e] at hok
    rw [e] at he
    injection he with h1 h2
    subst h1
    have HE := Lib.hid h2
    clear h2
    have hsc : SchedR (if n < 0 then none else some (n.toNat, b, c)) (decide (0 ≤ n)) n (b : Int) c := by
      by_cases h0 : n < 0
      · rw [if_pos h0]; show decide (0 ≤ n) = false; simp; omega
      · rw [if_neg h0]; exact ⟨by simp; omega, by rw [Int.toNat_of_nonneg (by omega)], rfl, rfl⟩
    rw [hd] at hc2
    unfold headR at HH
    rw [hd] at HH
    have HOK := Lib.hid hok
    have HSC := Lib.hid hsc
    have HD := Lib.hid hd
    have HSM : Hid ((-9223372036854775808 ≤ n ∧ n ≤ 9223372036854775807) ∧ (0 ≤ (b : Int) ∧ (b : Int) < 18446744073709551616) ∧ (-9223372036854775808 ≤ c ∧ c ≤ 9223372036854775807)) := ⟨hn, by omega, hc⟩
    clear hok hsc hd e hn hb hc
    go_enter Try.func32, Try.ntmps32
    go_wp2_with (first
      | (have _ := B3; refine wpList_store_blk rfl 3 (.tmp 29) (.tmp 27) rfl d 6 rfl [.int .i64 c] _ rfl rfl 70 _ B3 (by simp) infoInt (by simp [Value.oneCell']) ?_; intro w4 B4 O4 hs4)
      | (have _ := B2; refine wpList_store_blk rfl 34 (.tmp 25) (.tmp 23) rfl d 5 rfl [.int .u64 (b : Int)] _ rfl rfl 70 _ B2 (by simp) infoU64 (by simp [Value.oneCell']) ?_; intro w3 B3 O3 hs3; have B3 : Block w3 d 70 [.slice (some ⟨r, 0, none⟩) S.dur.length S.dur.length, pv, .bool false, .bool (decide (0 ≤ n)), .int .i64 n, .int .u64 (b : Int), .int .i64 cut] := B3)
      | (have _ := B1; refine wpList_store_blk rfl 3 (.tmp 21) (.tmp 19) rfl d 4 rfl [.int .i64 n] _ rfl rfl 70 _ B1 (by simp) infoInt (by simp [Value.oneCell']) ?_; intro w2 B2 O2 hs2; have B2 : Block w2 d 70 [.slice (some ⟨r, 0, none⟩) S.dur.length S.dur.length, pv, .bool false, .bool (decide (0 ≤ n)), .int .i64 n, .int .u64 bits, .int .i64 cut] := B2)
      | (refine wpList_store_blk rfl 4 (.tmp 17) (.tmp 15) rfl d 3 rfl [.bool (decide (0 ≤ n))] _ rfl rfl 70 _ HH (by simp) infoBool (by simp [Value.oneCell']) ?_; intro w1 B1 O1 hs1; have B1 : Block w1 d 70 [.slice (some ⟨r, 0, none⟩) S.dur.length S.dur.length, pv, .bool false, .bool (decide (0 ≤ n)), .int .i64 left, .int .u64 bits, .int .i64 cut] := B1))
    go_ret
    have B4 : Block w4 d 70 (headR r S.dur.length pv S.dead (decide (0 ≤ n)) n (b : Int) c) := by rw [HD.out]; exact B4
    rw [← HE.out]
    exact ⟨rfl, HX.out.head_set (((O1.trans O2 (fun i h => .inl h)).trans O3 (fun i h => .inl h)).trans O4 (fun i h => .inl h)) B4 HOK.out rfl rfl HSC.out HSM.out⟩
  · have e : fai S n b c = (30, S) := by unfold fai; rw [hd]; rfl
    rw [e] at he
    injection he with h1 h2
    subst h1 h2
    rw [hd] at hc2
    clear e hd HH
    go_enter Try.func32, Try.ntmps32
    go_wp2_with fail
    go_ret
    exact ⟨rfl, HX.out.at_.same⟩
end
end DiskR
end Go.Proofs.Ytkdonicegffcbaa
