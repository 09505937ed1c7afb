/- The document's disk: what counts an operation, Crash, Flush. -/
import Derived.Test.YtkdonicegffcbaaDiskRefLose
import Derived.Test.YtkdonicegffcbaaDiskLiveMath
namespace Go.Proofs.Ytkdonicegffcbaa
open Go.RowKit
namespace DiskR
open DiskM Wd DiskW
section
variable {F : Nat → Prop} {w w' : World} {d r : Nat} {S : St}
theorem RefAt.grown (D : RefAt (Grow F w w') w' d r S) {w0 : World} (hO : Only F w0 w) (O : Only F w w') (hl : ∀ i, F i → i < w0.heap.size) : RefAt (Grow F w0 w') w' d r S := by
  obtain ⟨pv, fs, left, bits, cut, h⟩ := D
  have := hO.size
  have hm : ∀ i, Grow F w w' i → Grow F w0 w' i := fun i hi => by
    rcases hi with hi | hi
    · exact .inl hi
    · exact .inr ⟨by omega, hi.2⟩
  have hlt : ∀ i, Grow F w0 w' i → i < w'.heap.size := fun i hi => by
    rcases hi with hi | hi
    · have := hl i hi; have := O.size; omega
    · exact hi.2
  exact ⟨pv, fs, left, bits, cut, { h with fd := hm _ h.fd, fr := hm _ h.fr, fp := fun g hg => hm g (h.fp g hg), lt := hlt }⟩
set_option maxHeartbeats 1000000 in
theorem failsR_any (hD : RefAt F w d r S) (hsm : S.pend.length ≤ 1000000) :
    Calls Try.prog 45 #[.pointer (some ⟨d, 0, none⟩)] w fun e w' => e = .returned (.bool (tick S).1) ∧ RefAt (Grow F w w') w' d r (tick S).2 ∧ Only F w w' := by
  obtain ⟨pv, fs, left, bits, cut, hX⟩ := hD
  have hs := hX.sched
  cases hf : S.fl with
  | none =>
    have e : tick S = (false, S) := by unfold tick; rw [hf]
    rw [e]
    rw [hf] at hs
    have hs : fs = false := hs
    subst hs
    have h3 := hX.c3
    have HX := Lib.hid hX
    clear hX e hf
    go_enter Try.func45, Try.ntmps45
    go_wp2_with fail
    go_ret
    exact ⟨rfl, HX.out.at_.same⟩
  | some x =>
    obtain ⟨n, b, c⟩ := x
    rw [hf] at hs
    obtain ⟨h1, h2, h3, h4⟩ := hs
    subst h1 h2 h3 h4
    have c3 := hX.c3
    have c4 := hX.c4
    cases n with
    | succ n =>
      have e : tick S = (false, { S with fl := some (n, b, cut) }) := by unfold tick; rw [hf]
      have hok := hX.ok.tick
      rw [e] at hok
      rw [e]
      have hbd := hX.small.1.2
      have HX := Lib.hid hX
      have HH := hX.head
      have HOK := Lib.hid hok
      have hpos : (0 : Int) < ((n + 1 : Nat) : Int) := by omega
      clear hX e hf hok
      have hp : ((n + 1 : Nat) : Int) = (n : Int) + 1 := by omega
      rw [hp] at c4 hpos hbd
      go_enter Try.func45, Try.ntmps45
      clear hp
      go_wp2_with (refine wpList_store_blk rfl 3 (.tmp 20) (.tmp 18) rfl d 4 rfl [.int .i64 (n : Int)] (.int .i64 (n : Int)) (by first | rfl | (show Value.int .i64 _ = _; congr 1; omega)) rfl 70 _ HH (by simp [headR]) infoInt (by simp [Value.oneCell']) ?_; intro w3 B3 O3 hs3)
      go_ret
      have B3 : Block w3 d 70 (headR r S.dur.length pv S.dead true (n : Int) (b : Int) cut) := B3
      exact ⟨rfl, HX.out.head_set O3 B3 HOK.out rfl rfl ⟨rfl, rfl, rfl, rfl⟩ ⟨by omega, HX.out.small.2⟩⟩
    | zero =>
      have e : tick S = (true, lose S b cut) := by unfold tick; rw [hf]
      rw [e]
      have HX := Lib.hid hX
      have hb : b < 18446744073709551616 := by have := hX.small.2.1.2; omega
      have HB := Lib.hid hb
      clear hX e hf hb
      go_enter Try.func45, Try.ntmps45
      go_wp2_with fail
      refine region_steps [.tk 0, .tk 1, .tk 2, .tk 3, .tk 4, .tk 5, .tk 6, .tk 7, .tk 8, .al 9] 9 (fun v => v.cell? ⟨d, 5, none⟩ = some (.int .u64 (b : Int)) ∧ v.cell? ⟨d, 6, none⟩ = some (.int .i64 cut)) (by kernel_rfl) (by kernel_rfl) rfl (by kernel_rfl) (fun dd _ _ _ _ h => by cases dd <;> exact h) ?_
      intro wd hwd
      have HXd : Hid (RefX F wd d r S pv true ((0 : Nat) : Int) (b : Int) cut) := by unfold Hid; rw [hwd]; exact HX.out.only (G := fun _ => False) (Only.refl _ _).drew (fun _ _ h => h)
      have HO : Hid (Only (fun _ => False) w wd) := by unfold Hid; rw [hwd]; exact (Only.refl _ _).drew
      have hS : wd.cell? ⟨d, 5, none⟩ = some (.int .u64 (b : Int)) ∧ wd.cell? ⟨d, 6, none⟩ = some (.int .i64 cut) := ⟨HXd.out.c5, HXd.out.c6⟩
      clear hwd c3 c4
      repeat (first
        | (refine steps_take rfl rfl hS ?_
           apply Exists.intro
           constructor
           · intro v hv
             have q5 := hv.1
             have q6 := hv.2
             clear hv
             go_simp
             try with_reducible rfl
           simp only [Act.put, List.setIfInBounds_toArray, List.set_cons_zero, List.set_cons_succ]))
      refine steps_do rfl (by rfl) (fun K hK => ?_)
      clear hS
      go_simp
      refine (gone_any F wd d r S pv true _ (b : Int) cut HXd.out b cut HB.out HXd.out.small.2.2 hsm).mono ?_; rintro e w3 ⟨rfl, D3, O3⟩
      refine hK _ _ (fun h => absurd h (by decide)) (steps_end ?_)
      clear hK K
      go_wp2_with fail
      go_ret
      exact ⟨rfl, D3.grown (HO.out.mono (fun i h => h.elim)) O3 HX.out.lt, (HO.out.mono (fun i h => h.elim)).trans O3 (fun i h => .inl h)⟩
theorem crashR_to (hD : RefAt F w d r S) (b : Nat) (c : Int) {q : Nat} {S' : St} (he : cra S b c = (q, S')) (hsm : S.pend.length ≤ 1000000) (hb : b < 18446744073709551616) (hc : -9223372036854775808 ≤ c ∧ c ≤ 9223372036854775807) :
    Calls Try.prog 33 #[.pointer (some ⟨d, 0, none⟩), .int .u64 (b : Int), .int .i64 c] w fun e w' => e = .returned (.int .i64 (q : Int)) ∧ RefAt (Grow F w w') w' d r S' ∧ Only F w w' := by
  obtain ⟨pv, fs, left, bits, cut, hX⟩ := hD
  have c2 := hX.c2
  cases hd : S.dead
  · have e : cra S b c = (0, lose S b c) := by unfold cra; rw [hd]; rfl
    rw [e] at he
    injection he with h1 h2
    subst h1 h2
    rw [hd] at c2
    have HG := Lib.hid (gone_any F w d r S pv fs left bits cut hX b c hb hc hsm)
    clear hX e hd hb hc
    go_enter Try.func33, Try.ntmps33
    go_wp2_with fail
    refine HG.out.mono ?_; rintro e w3 ⟨rfl, D3, O3⟩
    go_wp2_with fail
    go_ret
    exact ⟨rfl, D3, O3⟩
  · have e : cra S b c = (30, S) := by unfold cra; rw [hd]; rfl
    rw [e] at he
    injection he with h1 h2
    subst h1 h2
    rw [hd] at c2
    have HX := Lib.hid hX
    clear hX e hd
    go_enter Try.func33, Try.ntmps33
    go_wp2_with fail
    go_ret
    exact ⟨rfl, HX.out.at_.same⟩
end
end DiskR
end Go.Proofs.Ytkdonicegffcbaa
