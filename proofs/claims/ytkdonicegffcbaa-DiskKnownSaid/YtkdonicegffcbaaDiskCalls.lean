/- The walks of the disk's calls: New, Fail, Crash, Boot. -/
import Derived.Test.YtkdonicegffcbaaDiskFails
namespace Go.Proofs.Ytkdonicegffcbaa
open Go.RowKit
namespace DiskW
open DiskM Wd
theorem secInfo : (Try.prog.info? 75).map (fun i => (i.zero, i.size, i.bytes)) = some (some (.agg (bvs (zeros 64)).toArray), 64, 64) := by kernel_rfl
theorem infoDisk : (Try.prog.info? 66).map (·.size) = some 7 := by kernel_rfl
theorem new_no (n : Int) (w : World) (h : n < 1 ∨ 512 < n) : Calls Try.prog 9 #[.int .i64 n] w fun e w' => e = .returned (.tuple #[.pointer none, .int .i64 9]) ∧ w = w' := by
  by_cases h1 : n < 1
  · clear h
    go_enter Try.func9, Try.ntmps9
    go_wp2_with fail
    go_ret2
    exact ⟨rfl, rfl⟩
  · have h2 : 512 < n := by omega
    clear h
    go_enter Try.func9, Try.ntmps9
    go_wp2_with fail
    go_ret2
    exact ⟨rfl, rfl⟩
set_option maxHeartbeats 1000000 in
theorem new_any (n : Nat) (w : World) (h1 : 1 ≤ n) (h2 : n ≤ 512) : Calls Try.prog 9 #[.int .i64 (n : Int)] w fun e w' => ∃ d r m, e = .returned (.tuple #[.pointer (some ⟨d, 0, none⟩), .int .i64 0]) ∧ DiskAt (fun i => w.heap.size ≤ i ∧ i < w'.heap.size) w' d r m (fresh n) ∧ Below w.heap.size w w' := by
  obtain ⟨i0, hi, hz0, hz1, hz2⟩ := info_parts secInfo
  have h1' : (1 : Int) ≤ (n : Int) := by omega
  have h2' : (n : Int) ≤ 512 := by omega
  go_enter Try.func9, Try.ntmps9
  go_wp2_with (first
    | (refine wpList_make_blk rfl 60 75 (.tmp 10) (.tmp 10) rfl Try.underlying60 (bvs (zeros 64)) (by simp [bvs, zeros]) i0 hi _ hz0 rfl (by rw [hz1]; rfl) .i64 .i64 n rfl rfl (by rw [hz2]; omega) (by omega) ?_; intro r w1 B1 O1 hg1)
    | (refine wpList_make_map rfl _ rfl ?_; intro m w2 M2 O2 hg2)
    | (refine wpList_box_blk rfl _ (.tmp 14) rfl (headC r n (.slice none 0 0) m (-1) 0 0 false) _ rfl rfl ?_; intro d w3 B3 O3 hg3))
  go_ret2
  have BR := (B1.only O2 (fun h => h)).only O3 (fun h => h)
  have M3 := M2.only O3 (fun h => h)
  have hs1 := O1.size
  have hs2 := O2.size
  have hs3 := O3.size
  have l1 := B1.lt
  have l2 := M2.lt
  have l3 := B3.lt
  have e : flat bvs (fresh n).dur = (List.replicate n (bvs (zeros 64))).flatten := by simp [flat, fresh, zeros, List.flatMap]
  refine ⟨d, r, m, rfl, ⟨.slice none 0 0, -1, 0, 0, [], 0, { ok := OK.fresh h1 h2, fd := ⟨by omega, by omega⟩, fr := ⟨by omega, by omega⟩, fm := ⟨by omega, by omega⟩, fp := fun g h => by simp [Value.ownBlock] at h, lt := fun i h => h.2, head := ?_, dur := ?_, pend := World.ownsRow_nil _ _ _ _, map_ := M3, cur := ⟨fun k => rfl, by simp⟩, sched := ?_, small := by decide }⟩, ?_⟩
  · have : (fresh n).dur.length = n := by simp [fresh]
    rw [this]; exact B3
  · rw [e]; exact BR
  · show (-1 : Int) < 0; decide
  · exact below_only (below_only (below_only (Below.refl _ _) O1 (fun _ h => h.elim)) O2 (fun _ h => h.elim)) O3 (fun _ h => h.elim)
/-- What a store into the head leaves. -/
theorem DiskX.head_set {F : Nat → Prop} {w w' : World} {d r m : Nat} {S S' : St} {pv : Value} {aft bits cut aft' bits' cut' : Int} {es : List Ent} {clock : Nat} (hX : DiskX F w d r m S pv aft bits cut es clock)
    (O : Only (fun i => i = d) w w') (B : Block w' d 66 (headC r S.dur.length pv m aft' bits' cut' S'.dead)) (hok : OK S') (hd : S'.dur = S.dur) (hp : S'.pend = S.pend) (hs : Sched S'.fl aft' bits' cut')
    (hsm : (-9223372036854775808 ≤ aft' ∧ aft' ≤ 9223372036854775807) ∧ (0 ≤ bits' ∧ bits' < 18446744073709551616) ∧ (-9223372036854775808 ≤ cut' ∧ cut' ≤ 9223372036854775807)) : DiskAt (Grow F w w') w' d r m S' ∧ Only F w w' := by
  have hr := hX.head.ne hX.dur (by decide)
  have hm := hX.map_.ne_block hX.head
  have hp' := own_block_ne hX.pend hX.head (by decide)
  exact ⟨⟨pv, aft', bits', cut', es, clock, { ok := hok, fd := .inl hX.fd, fr := .inl hX.fr, fm := .inl hX.fm, fp := fun g h => .inl (hX.fp g h), lt := fun i h => Grow.lt hX.lt O.size h, head := by rw [hd]; exact B, dur := by rw [hd]; exact hX.dur.only O (Ne.symm hr), pend := by rw [hp]; exact ownsRow_only hX.pend O (fun g h e => hp' (by rw [h, e])), map_ := hX.map_.only O hm, cur := by rw [hp]; exact hX.cur, sched := hs, small := hsm }⟩, O.mono (fun i h => by rw [h]; exact hX.fd)⟩
theorem fail_none (v : Value) (n bits cut : Int) (w : World) (h : NoDisk w v) : Calls Try.prog 28 #[v, .int .i64 n, .int .u64 bits, .int .i64 cut] w fun e w' => e = .returned (.int .i64 1) ∧ w = w' := by
  have H := Lib.hid (refuses_none v w h)
  clear h
  go_enter Try.func28, Try.ntmps28
  go_wp2_with fail
  refine H.out.mono ?_; rintro e w' ⟨rfl, rfl⟩
  go_wp2_with fail
  go_ret
  exact ⟨rfl, rfl⟩
set_option maxHeartbeats 1000000 in
theorem fail_any {F : Nat → Prop} {w : World} {d r m : Nat} {S : St} (hD : DiskAt F w d r m S) (n : Int) (bits : Nat) (cut : Int) (hn : -9223372036854775808 ≤ n ∧ n ≤ 9223372036854775807) (hb : bits < 18446744073709551616) (hc : -9223372036854775808 ≤ cut ∧ cut ≤ 9223372036854775807) :
    Calls Try.prog 28 #[.pointer (some ⟨d, 0, none⟩), .int .i64 n, .int .u64 (bits : Int), .int .i64 cut] w fun e w' => e = .returned (.int .i64 ((fai S n bits cut).1 : Int)) ∧ DiskAt (Grow F w w') w' d r m (fai S n bits cut).2 ∧ Only F w w' := by
  obtain ⟨pv, aft, bits0, cut0, es, clock, hX⟩ := hD
  have H := Lib.hid (refuses_any hX)
  cases hd : S.dead
  · have H2 : Hid (Calls Try.prog 40 #[.pointer (some ⟨d, 0, none⟩)] w fun e w' => e = .returned (.int .i64 0) ∧ w = w') := by have := H.out; rw [hd] at this; exact this
    have e : fai S n bits cut = (0, { S with fl := if n < 0 then none else some (n.toNat, bits, cut) }) := by unfold fai; rw [hd]; rfl
    have hok := hX.ok.fai hn.2 hb hc
    rw [e] at hok
    rw [e]
    have hsc : Sched (if n < 0 then none else some (n.toNat, bits, cut)) n (bits : Int) cut := by
      by_cases h0 : n < 0
      · rw [if_pos h0]; exact h0
      · rw [if_neg h0]; exact ⟨by rw [Int.toNat_of_nonneg (by omega)], rfl, rfl⟩
    clear e
    generalize (if n < 0 then none else some (n.toNat, bits, cut)) = fl at *
    have HSC := Lib.hid hsc
    clear hsc
    have HX := Lib.hid hX
    have HOK := Lib.hid hok
    have HHN := Lib.hid hn
    have HHB := Lib.hid hb
    have HHC := Lib.hid hc
    have HDE := Lib.hid hd
    clear H hX hd hok hn hb hc
    go_enter Try.func28, Try.ntmps28
    go_wp2_with (first
      | (go_at_call 40; refine H2.out.mono ?_; rintro e w' ⟨rfl, rfl⟩)
      | (refine wpList_store_blk rfl _ (.tmp 21) (.tmp 19) rfl d 3 rfl [.int .i64 n, .int .u64 (bits : Int), .int .i64 cut] _ rfl rfl 66 _ HX.out.head (by simp [headC]) infoFail (by simp [Value.oneCell']) ?_; intro w3 B3 O3 hs3))
    go_ret
    exact ⟨rfl, HX.out.head_set O3 B3 HOK.out rfl rfl HSC.out ⟨HHN.out, by have := HHB.out; omega, HHC.out⟩⟩
  · have H2 : Hid (Calls Try.prog 40 #[.pointer (some ⟨d, 0, none⟩)] w fun e w' => e = .returned (.int .i64 30) ∧ w = w') := by have := H.out; rw [hd] at this; exact this
    have e : fai S n bits cut = (30, S) := by unfold fai; rw [hd]; rfl
    rw [e]
    have HX := Lib.hid hX
    clear H hX hd e hn hb hc
    go_enter Try.func28, Try.ntmps28
    go_wp2_with fail
    refine H2.out.mono ?_; rintro e w' ⟨rfl, rfl⟩
    go_wp2_with fail
    go_ret
    exact ⟨rfl, HX.out.at_.mono (fun i h => .inl h) (fun i h => Grow.lt HX.out.lt (Nat.le_refl _) h), Only.refl _ _⟩
theorem crash_none (v : Value) (bits cut : Int) (w : World) (h : NoDisk w v) : Calls Try.prog 25 #[v, .int .u64 bits, .int .i64 cut] w fun e w' => e = .returned (.int .i64 1) ∧ w = w' := by
  have H := Lib.hid (refuses_none v w h)
  clear h
  go_enter Try.func25, Try.ntmps25
  go_wp2_with fail
  refine H.out.mono ?_; rintro e w' ⟨rfl, rfl⟩
  go_wp2_with fail
  go_ret
  exact ⟨rfl, rfl⟩
set_option maxHeartbeats 1000000 in
theorem crash_any {F : Nat → Prop} {w : World} {d r m : Nat} {S : St} (hD : DiskAt F w d r m S) (hsm : S.pend.length ≤ 1000000) (bits : Nat) (cut : Int) (hb : bits < 18446744073709551616) :
    Calls Try.prog 25 #[.pointer (some ⟨d, 0, none⟩), .int .u64 (bits : Int), .int .i64 cut] w fun e w' => e = .returned (.int .i64 ((cra S bits cut).1 : Int)) ∧ DiskAt (Grow F w w') w' d r m (cra S bits cut).2 ∧ Only F w w' := by
  obtain ⟨pv, aft, bits0, cut0, es, clock, hX⟩ := hD
  have H := Lib.hid (refuses_any hX)
  have HX := Lib.hid hX
  have HB := Lib.hid hb
  clear hX hb
  cases hd : S.dead
  · have H2 : Hid (Calls Try.prog 40 #[.pointer (some ⟨d, 0, none⟩)] w fun e w' => e = .returned (.int .i64 0) ∧ w = w') := by have := H.out; rw [hd] at this; exact this
    have e : cra S bits cut = (0, lose S bits cut) := by unfold cra; rw [hd]; rfl
    rw [e]
    clear H hd e
    go_enter Try.func25, Try.ntmps25
    go_wp2_with (first
      | (go_at_call 40; refine H2.out.mono ?_; rintro e w' ⟨rfl, rfl⟩)
      | (go_at_call 42; refine (losePower_any F w d r m S pv aft bits0 cut0 es clock HX.out bits cut HB.out hsm).mono ?_; rintro e w3 ⟨rfl, D3, O3⟩))
    go_ret
    exact ⟨rfl, D3, O3⟩
  · have H2 : Hid (Calls Try.prog 40 #[.pointer (some ⟨d, 0, none⟩)] w fun e w' => e = .returned (.int .i64 30) ∧ w = w') := by have := H.out; rw [hd] at this; exact this
    have e : cra S bits cut = (30, S) := by unfold cra; rw [hd]; rfl
    rw [e]
    clear H hd e
    go_enter Try.func25, Try.ntmps25
    go_wp2_with fail
    refine H2.out.mono ?_; rintro e w' ⟨rfl, rfl⟩
    go_wp2_with fail
    go_ret
    exact ⟨rfl, HX.out.at_.mono (fun i h => .inl h) (fun i h => Grow.lt HX.out.lt (Nat.le_refl _) h), Only.refl _ _⟩
theorem boot_none (v : Value) (w : World) (h : NoDisk w v) : Calls Try.prog 26 #[v] w fun e w' => e = .returned (.int .i64 1) ∧ w = w' := by
  have H := Lib.hid (none_yes v w h)
  clear h
  go_enter Try.func26, Try.ntmps26
  go_wp2_with fail
  refine H.out.mono ?_; rintro e w' ⟨rfl, rfl⟩
  go_wp2_with fail
  go_ret
  exact ⟨rfl, rfl⟩
set_option maxHeartbeats 1000000 in
theorem boot_any {F : Nat → Prop} {w : World} {d r m : Nat} {S : St} (hD : DiskAt F w d r m S) :
    Calls Try.prog 26 #[.pointer (some ⟨d, 0, none⟩)] w fun e w' => e = .returned (.int .i64 0) ∧ DiskAt (Grow F w w') w' d r m (boo S) ∧ Only F w w' := by
  obtain ⟨pv, aft, bits0, cut0, es, clock, hX⟩ := hD
  have H := Lib.hid (none_no d _ _ _ w hX.c0 hX.ok.some_)
  have HX := Lib.hid hX
  clear hX
  go_enter Try.func26, Try.ntmps26
  go_wp2_with (first
    | (go_at_call 37; refine H.out.mono ?_; rintro e w' ⟨rfl, rfl⟩)
    | (refine wpList_store_blk rfl _ (.tmp 8) (.tmp 6) rfl d 3 rfl [.int .i64 (-1), .int .u64 0, .int .i64 0] _ rfl rfl 66 _ HX.out.head (by simp [headC]) infoFail (by simp [Value.oneCell']) ?_; intro w3 B3 O3 hs3)
    | (refine wpList_store_blk rfl _ (.tmp 11) _ rfl d 6 rfl [.bool false] _ rfl rfl 66 _ B3 (by simp [lay, headC]) infoBool (by simp [Value.oneCell']) ?_; intro w4 B4 O4 hs4))
  go_ret
  refine ⟨rfl, HX.out.head_set (O3.trans O4 (fun i h => .inl h)) B4 HX.out.ok.boo rfl rfl ?_ (by decide)⟩
  show (-1 : Int) < 0; decide
end DiskW
end Go.Proofs.Ytkdonicegffcbaa
