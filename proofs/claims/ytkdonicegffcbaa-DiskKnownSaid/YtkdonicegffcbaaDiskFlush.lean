/- The walk of the disk's Flush: a walk over a map, in whatever order. -/
import Derived.Test.YtkdonicegffcbaaDiskCalls
import Derived.Test.YtkdonicegffcbaaPlan
namespace Go.Proofs.Ytkdonicegffcbaa
open Go.RowKit
namespace DiskW
open DiskM Wd
/-- What is durable once these entries have been seen. -/
def Part (es : List Ent) (seen : Array Nat) (dur : List (List UInt8)) (pend : List (Nat × List UInt8)) (D : List (List UInt8)) : Prop :=
  D.length = dur.length ∧ ∀ k, k < dur.length → ((∃ x ∈ es, x.key = (k : Int) ∧ seen.contains x.born = true) → D[k]? = lastW pend k) ∧ ((∀ x ∈ es, x.key = (k : Int) → seen.contains x.born = false) → D[k]? = dur[k]?)
theorem part_start (es : List Ent) (dur : List (List UInt8)) (pend : List (Nat × List UInt8)) : Part es #[] dur pend dur :=
  ⟨rfl, fun k _ => ⟨fun ⟨x, _, _, h⟩ => by simp at h, fun _ => rfl⟩⟩
theorem part_end {es : List Ent} {seen : Array Nat} {dur : List (List UInt8)} {pend : List (Nat × List UInt8)} {D : List (List UInt8)} (h : Part es seen dur pend D) (hl : leftE es seen = []) (hc : Cur es pend) {clock : Nat} (hok : EntsOK es clock) : D = flushAll dur pend := by
  refine List.ext_getElem? fun k => ?_
  by_cases hk : k < dur.length
  · rw [flushAll_at k pend dur hk]
    have hall : ∀ x ∈ es, seen.contains x.born = true := fun x hx => by
      cases hq : seen.contains x.born
      · have : x ∈ leftE es seen := List.mem_filter.2 ⟨hx, by rw [hq]; rfl⟩
        rw [hl] at this; cases this
      · rfl
    cases hw : lastW pend k with
    | some s =>
      have h1 := hc.1 k
      rw [hw] at h1
      obtain ⟨x, hx, he, _⟩ := lookE_some h1
      rw [(h.2 k hk).1 ⟨x, hx, he, hall x hx⟩, hw]
    | none =>
      refine (h.2 k hk).2 fun x hx he => ?_
      have h1 := hc.1 k
      rw [hw, ← he, lookE_mem hok.keys hx] at h1
      cases h1
  · rw [List.getElem?_eq_none (by rw [h.1]; omega), List.getElem?_eq_none (by rw [flushAll_length]; omega)]
theorem born_inj : ∀ {l : List Ent} {x y : Ent}, l.Pairwise (fun x y => x.born ≠ y.born) → x ∈ l → y ∈ l → x.born = y.born → x = y
  | [], _, _, _, h, _, _ => by cases h
  | z :: l, x, y, hp, hx, hy, e => by
    obtain ⟨h1, h2⟩ := List.pairwise_cons.1 hp
    rcases List.mem_cons.1 hx with e1 | hx'
    · rcases List.mem_cons.1 hy with e2 | hy'
      · rw [e1, e2]
      · rw [e1] at e; exact absurd e (h1 y hy')
    · rcases List.mem_cons.1 hy with e2 | hy'
      · rw [e2] at e; exact absurd e.symm (h1 x hx')
      · exact born_inj h2 hx' hy' e
theorem part_step {es : List Ent} {clock : Nat} {seen : Array Nat} {dur : List (List UInt8)} {pend : List (Nat × List UInt8)} {D : List (List UInt8)} {x : Ent} {k : Nat} {s : List UInt8} (h : Part es seen dur pend D) (hok : EntsOK es clock) (hx : x ∈ es) (hk : x.key = (k : Int)) (hs : lastW pend k = some s) (hkl : k < dur.length) :
    Part es (seen.push x.born) dur pend (D.set k s) := by
  refine ⟨by simp [h.1], fun j hj => ⟨fun ⟨y, hy, hyk, hb⟩ => ?_, fun hn => ?_⟩⟩
  · by_cases e : j = k
    · subst e; rw [List.getElem?_set_self (by rw [h.1]; exact hj), hs]
    · rw [List.getElem?_set_ne (Ne.symm e)]
      refine (h.2 j hj).1 ⟨y, hy, hyk, ?_⟩
      rw [Array.contains_push, Bool.or_eq_true] at hb
      rcases hb with hb | hb
      · exact hb
      · have hb : y.born = x.born := by simpa using hb
        have := born_inj hok.borns hy hx hb
        subst this
        omega
  · by_cases e : j = k
    · subst e
      have := hn x hx hk
      rw [Array.contains_push] at this
      simp at this
    · rw [List.getElem?_set_ne (Ne.symm e)]
      refine (h.2 j hj).2 fun y hy hyk => ?_
      have := hn y hy hyk
      rw [Array.contains_push, Bool.or_eq_false_iff] at this
      exact this.1
def toCome (es : List Ent) (it : Nat) (w : World) : Nat := match w.heap[it]? with
  | some (.mapIter _ _ seen _) => (leftE es seen).length
  | _ => 0
theorem toCome_walks {es : List Ent} {it m since : Nat} {seen : Array Nat} {w : World} (h : Walks w it m since seen) : toCome es it w = (leftE es seen).length := by
  unfold toCome; rw [show w.heap[it]? = _ from h]
set_option maxHeartbeats 4000000 in
theorem flush_ok {F : Nat → Prop} {w : World} {d r m : Nat} {S1 : St}
    (HR : Hid (Calls Try.prog 40 #[.pointer (some ⟨d, 0, none⟩)] w fun e w' => e = .returned (.int .i64 0) ∧ w = w'))
    (HF : Hid (Calls Try.prog 39 #[.pointer (some ⟨d, 0, none⟩)] w fun e w' => e = .returned (.bool false) ∧ DiskAt (Grow F w w') w' d r m S1 ∧ Only F w w')) :
    Calls Try.prog 24 #[.pointer (some ⟨d, 0, none⟩)] w fun e w' => e = .returned (.int .i64 0) ∧ DiskAt (Grow F w w') w' d r m { S1 with dur := flushAll S1.dur S1.pend, pend := [] } ∧ Only F w w' := by
  go_enter Try.func24, Try.ntmps24
  go_wp2_with (first
    | (go_at_call 40; refine HR.out.mono ?_; rintro e w' ⟨rfl, rfl⟩)
    | (go_at_call 39; refine HF.out.mono ?_; rintro e w1 ⟨rfl, ⟨pv, aft, bits0, cut0, es, clock, hX⟩, O1⟩; have HX := Lib.hid hX; have c2 := hX.c2; clear hX)
    | (refine wpList_range_map rfl (.tmp 16) _ rfl _ _ Try.underlying62 m clock es rfl HX.out.map_ ?_; intro it w2 W2 O2 hg2; simp only [Act.put, List.setIfInBounds_toArray, List.set_cons_zero, List.set_cons_succ]))
  go_loopw [] (fun wr => ∃ seen D, Walks wr it m clock seen ∧ Block wr r 75 (flat bvs D) ∧ Part es seen S1.dur S1.pend D ∧ (∀ y ∈ D, y.length = 64) ∧ Only (fun i => i = r ∨ i = it) w2 wr) (fun wr => toCome es it wr)
  case atStart => exact ⟨#[], S1.dur, W2, HX.out.dur.only O2 (fun h => h), part_start _ _ _, HX.out.ok.secs, Only.refl _ _⟩
  case round =>
    obtain ⟨seen, D, WR, BR, hpart, hDs, OR⟩ := hrel
    have HP := Lib.hid hpart
    have HDS := Lib.hid hDs
    clear hDs
    have hdm := HX.out.map_.ne_block HX.out.head
    have hdr := HX.out.head.ne HX.out.dur (by decide)
    have hmr := HX.out.map_.ne_block HX.out.dur
    have hl1 := HX.out.head.lt
    have hl2 := HX.out.dur.lt
    have hl3 := HX.out.map_.lt
    have MR := (HX.out.map_.only O2 (fun h => h)).only OR (fun h => by omega)
    have BD := (HX.out.head.only O2 (fun h => h)).only OR (fun h => by omega)
    have c2r := BD.cell (k := 2) rfl
    have c0r := BD.cell (k := 0) rfl
    have hok := MR.2
    clear hpart
    rename_i wr _
    go_wp2_with (refine wpList_next_map rfl (.tmp 17) rfl it m clock es seen rfl MR WR ?n0 ?n1)
    case n1 =>
      intro x hx w3 W3 O3
      have hxe : x ∈ es := (List.mem_filter.1 hx).1
      have HX2 := Lib.hid hx
      obtain ⟨k, hk⟩ := HX.out.cur.2 x hxe
      have hlk := lookE_mem hok.keys hxe
      rw [hk, HX.out.cur.1 k] at hlk
      obtain ⟨s, hs, hv⟩ : ∃ s, lastW S1.pend k = some s ∧ secV s = x.val := by
        cases hw : lastW S1.pend k with
        | none => rw [hw] at hlk; cases hlk
        | some s => rw [hw] at hlk; injection hlk with hlk; exact ⟨s, rfl, hlk⟩
      obtain ⟨hkl, hsl⟩ := HX.out.ok.waits _ (lastW_mem hs)
      have h64 : (bvs s).length = 64 := by rw [bvs_length]; exact hsl
      have HPS := Lib.hid (part_step HP.out hok hxe hk hs hkl)
      have M3 := MR.only O3 (fun h => by omega)
      have BR3 := BR.only O3 (fun h => by omega)
      have BD3 := BD.only O3 (fun h => by omega)
      have hDl := HP.out.1
      have HXE := Lib.hid hxe
      have H64 := Lib.hid h64
      have HLS := Lib.hid hsl
      have hkl' : k < S1.dur.length := hkl
      obtain ⟨xk, xv, xb⟩ := x
      have hk : xk = (k : Int) := hk
      have hv : secV s = xv := hv
      subst hk hv
      clear hx hlk hs hsl h64 c2r c0r hxe hkl
      go_wp2_with (first
        | (refine wpList_entry_map rfl (.tmp 17) rfl it m clock es seen ⟨(k : Int), secV s, xb⟩ rfl M3 W3 HXE.out ?_)
        | (refine wpList_alloc_blk rfl _ rfl (bvs (zeros 64)) _ zeroSec rfl ?_; intro g5 w4 B4 O4 hg4)
        | (refine wpList_store_blk rfl _ (.tmp 5) (.tmp 22) rfl g5 0 rfl (bvs s) _ rfl rfl 75 _ B4 (by rw [H64.out]; simp [bvs, zeros]) (infoSec.trans (congrArg some H64.out.symm)) (bvs_one _) ?_; intro w5 B5 O5 hs5))
      rw [lay_all _ _ (by rw [H64.out]; simp [bvs, zeros])] at B5
      have hw3 : wr.heap.size ≤ w3.heap.size := O3.size
      have hs4 : w3.heap.size ≤ w4.heap.size := O4.size
      have hwr := OR.size
      have hO2 := O2.size
      have hg5 : w3.heap.size ≤ g5 := hg4
      have BR5 := (BR3.only O4 (fun h => h)).only O5 (fun h => by omega)
      have BD5 := (BD3.only O4 (fun h => h)).only O5 (fun h => by omega)
      have W5 := (W3.only O4 (fun h => h)).only O5 (fun h => by have := WR.lt; omega)
      have OR5 : Only (fun i => i = r ∨ i = it) w2 w5 := ((OR.trans O3 (fun i h => .inl (.inr h))).then_ (O4.below (fun _ h => h.elim) (Nat.le_refl _))).trans O5 (fun i h => .inr (by omega))
      have hrit : r ≠ it := fun e => by have := WR.ne_block BR; omega
      clear B4 O4 O5 hs5 hg4 BR3 BD3 W3 O3 BR BD M3 hs4
      refine region_plan [(0, true), (1, true), (2, true), (3, true), (4, true), (5, true), (6, true), (7, false)] 7
        (fun v => Block v d 66 (headC r S1.dur.length pv m aft bits0 cut0 S1.dead) ∧ Block v g5 75 (bvs s)) (by kernel_rfl) (by kernel_rfl) rfl (by kernel_rfl) (fun dd _ _ _ _ h => by cases dd <;> exact h) ?_
      intro wd hwd
      have hS : Block wd d 66 (headC r S1.dur.length pv m aft bits0 cut0 S1.dead) ∧ Block wd g5 75 (bvs s) := by rw [hwd]; exact ⟨BD5.drew, B5.drew⟩
      have ORd : Only (fun i => i = r ∨ i = it) w2 wd := by rw [hwd]; exact OR5.drew
      have BRd : Block wd r 75 (flat bvs D) := by rw [hwd]; exact BR5.drew
      have Wd : Walks wd it m clock (seen.push xb) := by rw [hwd]; exact W5
      clear hwd BD5 B5 OR5 BR5 W5
      have HLD : Hid (∀ v, (Block v d 66 (headC r S1.dur.length pv m aft bits0 cut0 S1.dead) ∧ Block v g5 75 (bvs s)) → (Instr.loadAt 75 (.pointer (some ⟨g5, 0, none⟩))).run Try.prog v = .ok (.agg (bvs s).toArray) v) := fun v hv =>
        run_load_blk (P := Try.prog) v 75 g5 0 _ _ hv.2 (bvs s) (by simp) _ Try.underlying75 rfl (infoSec.trans (congrArg some H64.out.symm))
      have hk0 : (0 : Int) ≤ (k : Int) := by omega
      have hk1 : (k : Int) < (S1.dur.length : Int) := by omega
      repeat (first
        | (refine plan_load rfl rfl _ _ rfl (.pointer (some ⟨g5, 0, none⟩)) _ rfl HLD.out hS ?_; simp only [Act.put, List.setIfInBounds_toArray, List.set_cons_zero, List.set_cons_succ])
        | (refine plan_take rfl rfl hS ?_
           apply Exists.intro
           constructor
           · intro v hv
             have c0 := hv.1.cell (k := 0) rfl
             go_simp
             try with_reducible rfl
           simp only [Act.put, List.setIfInBounds_toArray, List.set_cons_zero, List.set_cons_succ]))
      refine plan_do rfl (by rfl) (fun K hK => ?_)
      have hcl := flat_length bvs 64 D (fun x hx => by rw [bvs_length]; exact HDS.out x hx)
      refine wp_store_blk _ (.tmp 29) (.tmp 28) rfl r (k * 64) rfl (bvs s) _ rfl rfl 75 _ BRd (by rw [hcl, H64.out]; omega) (infoSec.trans (congrArg some H64.out.symm)) (bvs_one _) ?_
      intro w6 B6 O6 hs6
      rw [lay_flat D k s (by omega) HDS.out HLS.out] at B6
      refine hK _ _ (fun h => absurd h (by decide)) (plan_end ?_)
      clear hK K
      go_wp2_with fail
      go_roundw
      case rel => exact ⟨_, _, _, _, _, _, _, _, _, _, _, _, _, _, ⟨seen.push xb, D.set k s, Wd.only O6 (fun h => hrit h.symm), B6, HPS.out, mem_set_secs HDS.out HLS.out, ORd.trans O6 (fun i h => .inl (.inl h))⟩, rfl⟩
      case measure =>
        rw [toCome_walks (Wd.only O6 (fun h => hrit h.symm)), toCome_walks WR]
        exact left_less HX2.out
    case n0 =>
      intro hl w3 O3
      have hD := part_end HP.out hl HX.out.cur hok
      have hsz3 := O3.size
      have hwr := OR.size
      have hO2 := O2.size
      have M3 := MR.only O3 (fun h => h)
      have BR3 := BR.only O3 (fun h => h)
      have BD3 := BD.only O3 (fun h => h)
      have HO3 : Hid (Only F w w3) := (((O1.then_ (O2.below (fun _ h => h.elim) (Nat.le_refl _))).trans OR (fun i h => by
          have hs1 := O1.size
          rcases h with h | h
          · rw [h]; rcases HX.out.fr with h | h; exact .inl h; exact .inr h.1
          · rw [h]; exact .inr (by omega))).then_ (O3.below (fun _ h => h.elim) (Nat.le_refl _)))
      have HD := Lib.hid hD
      unfold headC at BD3
      clear hl hD c2r c0r O3 OR BR BD MR WR
      go_wp2_with (go_at_call 41; refine (forget_any d m _ _ _ _ _ _ es clock w3 BD3 M3).mono ?_; rintro e w4 ⟨rfl, B4, M4, O4⟩)
      go_ret
      have hs1 := O1.size
      have hs4 := O4.size
      have O34 : Only F w w4 := HO3.out.trans O4 (fun i h => by
        rcases h with h | h
        · rw [h]; rcases HX.out.fd with h | h; exact .inl h; exact .inr h.1
        · rw [h]; rcases HX.out.fm with h | h; exact .inl h; exact .inr h.1)
      have BR4 := BR3.only O4 (fun h => by rcases h with h | h; exact hdr h.symm; exact hmr h.symm)
      rw [HD.out] at BR4
      have hsub : ∀ i, Grow F w w1 i → Grow F w w4 i := fun i h => by
        have := HX.out.lt i h
        rcases h with h | h
        · exact .inl h
        · exact .inr ⟨h.1, by omega⟩
      have h1 := HX.out.ok
      have hfl : (flushAll S1.dur S1.pend).length = S1.dur.length := flushAll_length _ _
      refine ⟨rfl, ⟨.slice none 0 0, aft, bits0, cut0, [], clock, { ok := ⟨by rw [hfl]; exact h1.some_, by rw [hfl]; exact h1.few, flushAll_secs _ _ h1.secs (fun p hp => (h1.waits p hp).2), by simp, h1.sched⟩, fd := hsub _ HX.out.fd, fr := hsub _ HX.out.fr, fm := hsub _ HX.out.fm, fp := fun g h => by simp [Value.ownBlock] at h, lt := fun i h => ?_, head := ?_, dur := BR4, pend := World.ownsRow_nil _ _ _ _, map_ := M4, cur := ⟨fun k => rfl, by simp⟩, sched := HX.out.sched, small := HX.out.small }⟩, O34⟩
      · rcases h with h | h
        · have := HX.out.lt i (.inl h); omega
        · exact h.2
      · rw [hfl]; exact B4
theorem flush_none (v : Value) (w : World) (h : NoDisk w v) : Calls Try.prog 24 #[v] w fun e w' => e = .returned (.int .i64 1) ∧ w = w' := by
  have H := Lib.hid (refuses_none v w h)
  clear h
  go_enter Try.func24, Try.ntmps24
  go_wp2_with fail
  refine H.out.mono ?_; rintro e w' ⟨rfl, rfl⟩
  go_wp2_with fail
  go_ret
  exact ⟨rfl, rfl⟩
theorem flush_any {F : Nat → Prop} {w : World} {d r m : Nat} {S : St} (hD : DiskAt F w d r m S) (hsm : S.pend.length ≤ 1000000) :
    Calls Try.prog 24 #[.pointer (some ⟨d, 0, none⟩)] w fun e w' => e = .returned (.int .i64 ((flu S).1 : Int)) ∧ DiskAt (Grow F w w') w' d r m (flu S).2 ∧ Only F w w' := by
  obtain ⟨pv, aft, bits0, cut0, es, clock, hX⟩ := hD
  have hR := refuses_any hX
  cases hd : S.dead
  · rw [hd] at hR
    have hR : Calls Try.prog 40 #[.pointer (some ⟨d, 0, none⟩)] w fun e w' => e = .returned (.int .i64 0) ∧ w = w' := hR
    have hF := fails_any hX.at_ hsm
    cases ht : (tick S).1
    · have e : flu S = (0, { (tick S).2 with dur := flushAll (tick S).2.dur (tick S).2.pend, pend := [] }) := by
        unfold flu; rw [hd, if_neg (by simp), ht]; rfl
      rw [e]
      rw [ht] at hF
      exact flush_ok hR hF
    · have e : flu S = (30, (tick S).2) := by unfold flu; rw [hd, if_neg (by simp), if_pos ht]
      rw [e]
      rw [ht] at hF
      have HR := Lib.hid hR
      have HF := Lib.hid hF
      clear hR hF hX e ht hd
      go_enter Try.func24, Try.ntmps24
      go_wp2_with (first
        | (go_at_call 40; refine HR.out.mono ?_; rintro e w' ⟨rfl, rfl⟩)
        | (go_at_call 39; refine HF.out.mono ?_; rintro e w1 ⟨rfl, D1, O1⟩))
      go_ret
      exact ⟨rfl, D1, O1⟩
  · have e : flu S = (30, S) := by unfold flu; rw [hd, if_pos rfl]
    rw [e]
    rw [hd] at hR
    have hR : Calls Try.prog 40 #[.pointer (some ⟨d, 0, none⟩)] w fun e w' => e = .returned (.int .i64 30) ∧ w = w' := hR
    have HR := Lib.hid hR
    have HX := Lib.hid hX
    clear hR hX e hd
    go_enter Try.func24, Try.ntmps24
    go_wp2_with (go_at_call 40; refine HR.out.mono ?_; rintro e w' ⟨rfl, rfl⟩)
    go_ret
    exact ⟨rfl, HX.out.at_.mono (fun i h => .inl h) (fun i h => Grow.lt HX.out.lt (Nat.le_refl _) h), Only.refl _ _⟩
end DiskW
end Go.Proofs.Ytkdonicegffcbaa
