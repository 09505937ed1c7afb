/- The walks of the disk's calls: New, Fail, Crash, Boot, and what counts an operation. -/
import Derived.Test.YtkdonicegffcbaaDiskLose
namespace Go.Proofs.Ytkdonicegffcbaa
open Go.RowKit
namespace DiskW
open DiskM Wd
set_option maxHeartbeats 1000000 in
theorem fails_none {F : Nat → Prop} {w : World} {d r m : Nat} {S : St} {pv : Value} {aft bits cut : Int} {es : List Ent} {clock : Nat} (hX : DiskX F w d r m S pv aft bits cut es clock) (ht : aft < 0) :
    Calls Try.prog 39 #[.pointer (some ⟨d, 0, none⟩)] w fun e w' => e = .returned (.bool false) ∧ w = w' := by
  have h3 := hX.c3
  clear hX
  go_enter Try.func39, Try.ntmps39
  go_wp2_with fail
  go_ret
  exact ⟨rfl, rfl⟩
set_option maxHeartbeats 1000000 in
theorem fails_more {F : Nat → Prop} {w : World} {d r m : Nat} {S : St} {pv : Value} {aft bits cut : Int} {es : List Ent} {clock : Nat} (hX : DiskX F w d r m S pv aft bits cut es clock) (ht : 0 < aft) :
    Calls Try.prog 39 #[.pointer (some ⟨d, 0, none⟩)] w fun e w' => e = .returned (.bool false) ∧ Block w' d 66 (headC r S.dur.length pv m (aft - 1) bits cut S.dead) ∧ Only (fun i => i = d) w w' := by
  have h3 := hX.c3
  have hb := hX.small.1.2
  have HH := Lib.hid hX.head
  clear hX
  go_enter Try.func39, Try.ntmps39
  go_wp2_with (refine wpList_store_blk rfl _ (.tmp 25) (.tmp 22) rfl d 3 rfl [.int .i64 (aft - 1)] _ rfl rfl 66 _ HH.out (by simp [headC]) infoInt (by simp [Value.oneCell']) ?_; intro w3 B3 O3 hs3)
  go_ret
  exact ⟨rfl, B3, O3⟩
set_option maxHeartbeats 1000000 in
theorem fails_now {F : Nat → Prop} {w : World} {d r m : Nat} {S : St} {pv : Value} {bits : Nat} {cut : Int} {es : List Ent} {clock : Nat} (hX : DiskX F w d r m S pv 0 (bits : Int) cut es clock) (hsm : S.pend.length ≤ 1000000) :
    Calls Try.prog 39 #[.pointer (some ⟨d, 0, none⟩)] w fun e w' => e = .returned (.bool true) ∧ DiskAt (Grow F w w') w' d r m (lose S bits cut) ∧ Only F w w' := by
  have h3 := hX.c3
  have h4 := hX.c4
  have h5 := hX.c5
  have hb : bits < 18446744073709551616 := by have := hX.small.2.1.2; omega
  have HX := Lib.hid hX
  have HB := Lib.hid hb
  clear hX hb
  go_enter Try.func39, Try.ntmps39
  go_wp2_with fail
  refine region_tail 11 (by kernel_rfl) (by kernel_rfl) ?_
  intro wd hwd
  have HXd : Hid (DiskX F wd d r m S pv 0 (bits : Int) cut es clock) := by unfold Hid; rw [hwd]; exact HX.out.only (G := fun _ => False) (Only.refl _ _).drew (fun _ _ h => h)
  have HO : Hid (Only (fun _ => False) w wd) := by unfold Hid; rw [hwd]; exact (Only.refl _ _).drew
  clear hwd h3 h4 h5
  have h4 := HXd.out.c4
  have h5 := HXd.out.c5
  simp only [List.take_succ_cons, List.take_zero, List.drop_succ_cons, List.drop_zero]
  repeat still_step
  refine wpStill_nil ?_
  go_wp2_with (go_at_call 42; refine (losePower_any F wd d r m S pv 0 (bits : Int) cut es clock HXd.out bits cut HB.out hsm).mono ?_; rintro e w3 ⟨rfl, D3, O3⟩)
  go_ret
  have hs := HO.out.size
  exact ⟨rfl, D3.mono (fun i h => by rcases h with h | h; exact .inl h; exact .inr ⟨by omega, h.2⟩) (fun i h => Grow.lt HX.out.lt (by have := O3.size; omega) h), (HO.out.mono (fun i h => h.elim)).trans O3 (fun i h => .inl h)⟩
/-- What fails leaves, in whatever state the disk is. -/
theorem fails_any {F : Nat → Prop} {w : World} {d r m : Nat} {S : St} (hD : DiskAt F w d r m S) (hsm : S.pend.length ≤ 1000000) :
    Calls Try.prog 39 #[.pointer (some ⟨d, 0, none⟩)] w fun e w' => e = .returned (.bool (tick S).1) ∧ DiskAt (Grow F w w') w' d r m (tick S).2 ∧ Only F w w' := by
  obtain ⟨pv, aft, bits, cut, es, clock, hX⟩ := hD
  have hs := hX.sched
  cases hf : S.fl with
  | none =>
    rw [hf] at hs
    have e : tick S = (false, S) := by unfold tick; rw [hf]
    rw [e]
    refine (fails_none hX hs).mono ?_
    rintro e w' ⟨rfl, rfl⟩
    exact ⟨rfl, hX.at_.mono (fun i h => .inl h) (fun i h => Grow.lt hX.lt (Nat.le_refl _) h), Only.refl _ _⟩
  | some x =>
    obtain ⟨n, b, c⟩ := x
    rw [hf] at hs
    obtain ⟨rfl, rfl, rfl⟩ := hs
    cases n with
    | zero =>
      have e : tick S = (true, lose S b cut) := by unfold tick; rw [hf]
      rw [e]
      exact fails_now hX hsm
    | succ n =>
      have e : tick S = (false, { S with fl := some (n, b, cut) }) := by unfold tick; rw [hf]
      have hok := hX.ok.tick
      rw [e] at hok
      rw [e]
      refine (fails_more hX (by omega)).mono ?_
      rintro e w' ⟨rfl, B, O⟩
      have hr := hX.head.ne hX.dur (by decide)
      have hm := hX.map_.ne_block hX.head
      have hp := own_block_ne hX.pend hX.head (by decide)
      refine ⟨rfl, ⟨pv, n, b, cut, es, clock, { ok := hok, fd := .inl hX.fd, fr := .inl hX.fr, fm := .inl hX.fm, fp := fun g h => .inl (hX.fp g h), lt := fun i h => Grow.lt hX.lt O.size h, head := ?_, dur := hX.dur.only O (Ne.symm hr), pend := ownsRow_only hX.pend O (fun g h e => hp (by rw [h, e])), map_ := hX.map_.only O hm, cur := hX.cur, sched := ⟨rfl, rfl, rfl⟩, small := ?_ }⟩, O.mono (fun i h => by rw [h]; exact hX.fd)⟩
      · have e1 : ((n + 1 : Nat) : Int) - 1 = (n : Int) := by omega
        rw [e1] at B; exact B
      · have := hX.small; omega
end DiskW
end Go.Proofs.Ytkdonicegffcbaa
