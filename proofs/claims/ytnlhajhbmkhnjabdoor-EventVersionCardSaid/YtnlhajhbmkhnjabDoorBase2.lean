/- Texts of the walk, merged: ValRead, ValGrow, Ret, ValRead1, ValRead4, ValRead5, ValReadAny, ValTake, ValAgainMath, BinMath, BinBits, BinPut, BinWrite, BinRead, BinTake, BinTakeText, EvMath, EvAt, EvSmall. -/
import Derived.Test.YtnlhajhbmkhnjabDoorBase1
import Derived.Laws.ResultCell
import Derived.ChangeKeysEq
import Derived.Test.YtnlhajhbmkhnjabDoorRows
import Derived.WalkLawsBesides
import Derived.Outline
import Derived.Lib.Tables
import Derived.Laws.MathBits
import Derived.Laws.BitsAllLaws
import Derived.OwnWalk
import Derived.Lib.MinMax
import Derived.Deep.RegionHeld3
import Derived.BigRegion
import Derived.Lib.AppendStr
import Derived.Deep.QuietTactic
import Derived.BigQuiet
import Derived.WalkSpells
import Derived.Laws.IdiomStrings
/- The program's reader: its small calls. -/


namespace Go.Proofs.YtnlhajhbmkhnjabDoor.ValW
open Go.RowKit Wd ValM
/-- A reader at block g: the bytes that are left, and its error. -/
def RD (w : World) (g : Nat) (st : St) : Prop := ∃ A c, Block w g 72 [.slice A st.1.length c, .int .i64 st.2] ∧ st.1.length ≤ c ∧ st.1.length ≤ 140737488355328 ∧ Row w g A (bvs st.1) ∧ -9223372036854775808 ≤ st.2 ∧ st.2 ≤ 9223372036854775807
theorem RD.only {w w' : World} {g : Nat} {st : St} {F : Nat → Prop} (h : RD w g st) (hO : Only F w w') (hF : ∀ i, i ≤ g → ¬ F i) : RD w' g st := by
  obtain ⟨A, c, hB, hc, hl, hr, hb⟩ := h
  have := hB.lt
  exact ⟨A, c, hB.only hO (hF g (Nat.le_refl _)), hc, hl, hr.only hO (by omega) (fun i hi => hF i (by omega)), hb⟩
theorem RD.kept {w w' : World} {g : Nat} {st : St} (h : RD w g st) (hb : Below w.heap.size w w') : RD w' g st := h.only (F := fun _ => False) (Only.new hb) (fun _ _ f => f)
theorem infoErr : (Tryd.prog.info? 30).map (·.size) = some 1 := by kernel_rfl
theorem infoSl8 : (Tryd.prog.info? 22).map (·.size) = some 1 := by kernel_rfl
set_option maxRecDepth 20000 in
set_option maxHeartbeats 1000000 in
theorem fail_any (x : Int) (g : Nat) (st : St) (w : World) (h : RD w g st) (hx : -9223372036854775808 ≤ x ∧ x ≤ 9223372036854775807) :
    Calls Tryd.prog 59 #[.pointer (some ⟨g, 0, none⟩), .int .i64 x] w fun e w' => e = .returned (.tuple #[]) ∧ RD w' g (failS x st) ∧ Only (fun i => i = g) w w' := by
  obtain ⟨A, c, hB, hc, hl, hr, hb⟩ := h
  obtain ⟨l, e⟩ := st
  have q0 : w.cell? ⟨g, 0, none⟩ = some (.slice A l.length c) := hB.cell rfl
  have q1 : w.cell? ⟨g, 1, none⟩ = some (.int .i64 e) := hB.cell rfl
  have HR := Lib.hid hr
  have HB := Lib.hid hb
  have HX := Lib.hid hx
  have HL := Lib.hid hl
  have HC := Lib.hid hc
  clear hr hb hx hl hc
  by_cases he : e = 0
  · subst he
    go_enter Tryd.func59, Tryd.ntmps59
    go_wp2_with (have _ := hB; refine wpList_store_blk rfl 30 (.tmp 12) (.tmp 10) rfl g 1 rfl [.int .i64 x] _ rfl rfl 72 _ hB (by show 1 + 1 ≤ 2; decide) infoErr (by simp [Value.oneCell']) ?_; intro w2 B2 O2 hs2; clear hB)
    go_end0
    exact ⟨rfl, ⟨A, c, B2, HC.out, HL.out, HR.out.only O2 (by have := B2.lt; omega) (fun i hi e => by omega), HX.out⟩, O2⟩
  · have he2 : (e == 0) = false := by simpa using he
    have HF : Hid (failS x (l, e) = (l, e)) := by unfold Hid failS; rw [if_neg he]
    clear he
    go_enter Tryd.func59, Tryd.ntmps59
    go_wp2_with fail
    go_end0
    rw [HF.out]
    exact ⟨rfl, ⟨A, c, hB, HC.out, HL.out, HR.out, HB.out⟩, Only.refl _ _⟩
theorem shortS_le (n : Nat) (st : St) : (shortS n st).1 = st.1 := by unfold shortS failS; split <;> (try split) <;> rfl
set_option maxRecDepth 20000 in
set_option maxHeartbeats 1000000 in
theorem take_any (n : Nat) (g : Nat) (st : St) (w : World) (h : RD w g st) (hn : n ≤ 1000) :
    Calls Tryd.prog 69 #[.pointer (some ⟨g, 0, none⟩), .int .i64 (n : Int)] w fun e w' => ∃ A c, e = .returned (.slice A (takeS n st).1.length c) ∧ (takeS n st).1.length ≤ c ∧ Row w' g A (bvs (takeS n st).1) ∧ RD w' g (takeS n st).2 ∧ Only (fun i => i = g) w w' := by
  have HN := Lib.hid hn
  have hi0 : (n : Int) ≤ 1000 := by omega
  by_cases hs : st.1.length < n
  · obtain ⟨l, e⟩ := st
    have HSH : Hid (shortS n (l, e) = failS 3 (l, e)) := by unfold Hid shortS; rw [if_pos hs]
    obtain ⟨A, c, hB, hc, hl, hr, hb⟩ := id h
    have HRD := Lib.hid h
    have q0 : w.cell? ⟨g, 0, none⟩ = some (.slice A l.length c) := hB.cell rfl
    have hs' : l.length < n := hs
    have hsi : (l.length : Int) < (n : Int) := by omega
    have HT : Hid (takeS n (l, e) = ([], failS 3 (l, e))) := by
      unfold Hid takeS
      rw [HSH.out]
      have : ¬ (failS 3 (l, e)).2 = 0 := by unfold failS; split <;> simp_all
      rw [if_neg this]
    have HNE : Hid ((failS 3 (l, e)).2 ≠ 0) := by unfold Hid failS; split <;> simp_all
    clear h hs hs' hl hc hr hb hB hn
    go_enter Tryd.func69, Tryd.ntmps69
    go_wp2_with (go_at_call 59; refine (fail_any 3 g (l, e) _ HRD.out (by decide)).mono ?_; rintro _ w2 ⟨rfl, R2, O2⟩; obtain ⟨A2, c2, hB2, hc2, hl2, hr2, hb2⟩ := id R2; have q1 : w2.cell? ⟨g, 1, none⟩ = some (.int .i64 (failS 3 (l, e)).2) := hB2.cell rfl; have p0 : ((failS 3 (l, e)).2 != 0) = true := by rw [bne_iff_ne]; exact HNE.out)
    go_ret
    rw [HT.out]
    exact ⟨none, 0, rfl, Nat.zero_le _, Row.nil _ _ _, R2, O2⟩
  · obtain ⟨l, e⟩ := st
    have hs' : n ≤ l.length := by simp at hs; exact hs
    have HSH : Hid (shortS n (l, e) = (l, e)) := by unfold Hid shortS; rw [if_neg hs]
    obtain ⟨A, c, hB, hc, hl, hr, hb⟩ := id h
    have hc' : l.length ≤ c := hc
    have hl' : l.length ≤ 140737488355328 := hl
    have HRD := Lib.hid h
    have HR := Lib.hid hr
    have HCC := Lib.hid hc'
    have HLL := Lib.hid hl'
    have q0 : w.cell? ⟨g, 0, none⟩ = some (.slice A l.length c) := hB.cell rfl
    have q1 : w.cell? ⟨g, 1, none⟩ = some (.int .i64 e) := hB.cell rfl
    have hsi : ¬ (l.length : Int) < (n : Int) := by omega
    have f1 := fun w => slice_h A l.length c .i64 (n : Int) (by omega) (by omega) w
    have f2 := fun w => slice_l A l.length c .i64 (n : Int) (by omega) (by omega) w
    simp only [cutAt_zero, Int.toNat_natCast] at f1 f2
    by_cases he : e = 0
    · subst he
      have HT : Hid (takeS n (l, 0) = (l.take n, (l.drop n, 0))) := by unfold Hid takeS; rw [HSH.out, if_pos rfl]
      have HB0 := Lib.hid hs'
      generalize hA2 : cutAt A c n = A2 at f2
      have HA2 := Lib.hid hA2
      clear h hs hs' hl hc hr hb hc' hl' hn hA2
      go_enter Tryd.func69, Tryd.ntmps69
      go_wp2_with (have _ := hB; refine wpList_store_blk rfl 22 (.tmp 34) (.tmp 32) rfl g 0 rfl [.slice A2 (l.length - n) (c - n)] _ rfl rfl 72 _ hB (by show 0 + 1 ≤ 2; decide) infoSl8 (by simp [Value.oneCell']) ?_; intro w2 B2 O2 hs2; clear hB)
      go_ret
      rw [HT.out]
      have h1 := HB0.out
      have h2 := HCC.out
      have h3 := HLL.out
      have hOO : Row w2 g A (bvs l) := HR.out.only O2 (by have := B2.lt; omega) (fun i hi e => by omega)
      refine ⟨A, c, by (rw [List.length_take, Nat.min_eq_left h1]; rfl), by rw [List.length_take]; omega, by rw [← bvs_take]; exact hOO.take n, ⟨A2, c - n, by rw [List.length_drop]; exact B2, by rw [List.length_drop]; omega, by rw [List.length_drop]; omega, ?_, (by show (-9223372036854775808 : Int) ≤ 0; decide), (by show (0 : Int) ≤ 9223372036854775807; decide)⟩, O2⟩
      rw [← bvs_drop, ← HA2.out]
      exact hOO.cut c n (by rw [bvs_length]; exact h2)
    · have he2 : (e != 0) = true := by rw [bne_iff_ne]; exact he
      have HT : Hid (takeS n (l, e) = ([], (l, e))) := by unfold Hid takeS; rw [HSH.out, if_neg he]
      clear h hs hs' hl hc hr hb hc' hl' hn he f1 f2
      go_enter Tryd.func69, Tryd.ntmps69
      go_wp2_with fail
      go_ret
      rw [HT.out]
      exact ⟨none, 0, rfl, Nat.zero_le _, Row.nil _ _ _, HRD.out, Only.refl _ _⟩
theorem or_byte (z d : Nat) (hd : d < 256) : bits .or .u64 (IntKind.u64.wrap ((z : Int) * 256)) (d : Int) = (((z * 256 + d) % 18446744073709551616 : Nat) : Int) := by
  obtain ⟨y, hy⟩ : ∃ y, z % 72057594037927936 = y := ⟨_, rfl⟩
  have hyl : y < 72057594037927936 := by omega
  have e1 : IntKind.u64.wrap ((z : Int) * 256) = ((y * 256 : Nat) : Int) := by rw [u64_wrap]; omega
  have e2 : (z * 256 + d) % 18446744073709551616 = y * 256 + d := by omega
  rw [e1, e2, u64_or_nat _ _ (by omega) (by omega)]
  rw [show y * 256 = y <<< 8 by rw [Nat.shiftLeft_eq], ← Nat.shiftLeft_add_eq_or_of_lt (by omega)]
theorem wrap_eq (x : Int) : IntKind.i64.wrap x = wrap64 x := by rw [IntKind.wrap_i64]; unfold wrap64; rfl
theorem beN_lt (l : List UInt8) : ∀ a, a < 18446744073709551616 → beN a l < 18446744073709551616 := by
  induction l with
  | nil => intro a h; exact h
  | cons c r ih => intro a _; exact ih _ (Nat.mod_lt _ (by decide))
theorem beN_snoc (l : List UInt8) (c : UInt8) : ∀ a, beN a (l ++ [c]) = (beN a l * 256 + c.toNat) % 18446744073709551616 := by
  induction l with
  | nil => intro a; rfl
  | cons d r ih => intro a; exact ih _
theorem takeS_len (n : Nat) (st : St) : (takeS n st).1.length ≤ n := by
  unfold takeS
  split
  · rw [List.length_take]; omega
  · exact Nat.zero_le _
set_option maxRecDepth 20000 in
set_option maxHeartbeats 2000000 in
theorem number_any (n : Nat) (g : Nat) (st : St) (w : World) (h : RD w g st) (hn : n ≤ 1000) :
    Calls Tryd.prog 68 #[.pointer (some ⟨g, 0, none⟩), .int .i64 (n : Int)] w fun e w' => e = .returned (.int .i64 (numS n st).1) ∧ RD w' g (numS n st).2 ∧ Only (fun i => i = g) w w' := by
  have HC := Lib.hid (take_any n g st w h hn)
  have HN : Hid (numS n st = (wrap64 (beN 0 (takeS n st).1), (takeS n st).2)) := rfl
  have HTL := Lib.hid (takeS_len n st)
  have HNN := Lib.hid hn
  generalize takeS n st = tk at HC HN HTL
  obtain ⟨l, st'⟩ := tk
  clear h hn
  go_enter Tryd.func68, Tryd.ntmps68
  go_wp2_with (go_at_call 69; refine HC.out.mono ?_; rintro _ w2 ⟨A, c, rfl, hc, hr, R2, O2⟩)
  have HR := Lib.hid hr
  have hl3 : l.length ≤ 1000 := by have h1 := HTL.out; have h2 := HNN.out; show l.length ≤ 1000; exact Nat.le_trans h1 h2
  have HL3 := Lib.hid hl3
  clear hr hl3 hc
  go_loopw [5, 12] (fun u v wr => ∃ (i z : Nat), v = .int .i64 (i : Int) ∧ u = .int .u64 (z : Int) ∧ z = beN 0 (l.take i) ∧ i ≤ l.length ∧ wr = w2) (fun _ v _ => l.length - (intOf v).toNat)
  case atStart => exact ⟨0, 0, rfl, rfl, rfl, Nat.zero_le _, rfl⟩
  case round =>
    obtain ⟨i, z, rfl, rfl, hz, hil, rfl⟩ := hrel
    have HZ := Lib.hid hz
    have hzl : z < 18446744073709551616 := by rw [hz]; exact beN_lt _ _ (by decide)
    clear hz
    by_cases hlt : i < l.length
    · obtain ⟨ad, rfl, hb, hcell⟩ := HR.out.byte hlt
      have hi0 : (0 : Int) ≤ (i : Int) := by omega
      have hi1 : (i : Int) < (l.length : Int) := by omega
      have hi3 : (i : Int) ≤ 1000 := by have := HL3.out; omega
      have HTK : Hid (beN 0 (l.take (i + 1)) = (z * 256 + (l.getD i 0).toNat) % 18446744073709551616) := by
        unfold Hid; rw [take_getD l i hlt, beN_snoc, HZ.out]
      have hd := (l.getD i 0).toNat_lt
      generalize (l.getD i 0).toNat = d at hcell HTK hd
      have hor : bits .or .u64 (IntKind.u64.wrap ((z : Int) * 256)) (d : Int) = (((z * 256 + d) % 18446744073709551616 : Nat) : Int) := or_byte z d hd
      generalize (z * 256 + d) % 18446744073709551616 = z' at hor HTK
      have HOR := Lib.hid hor
      clear hor
      go_wp2_with fail
      rw [HOR.out]
      go_roundw
      case rel => exact ⟨i + 1, z', by simp, rfl, HTK.out.symm, hlt, trivial⟩
      case measure => simp [intOf]; omega
    · have hi1 : ¬ (i : Int) < (l.length : Int) := by omega
      have hie : i = l.length := by omega
      have HZ2 : Hid (z = beN 0 l) := by unfold Hid; rw [HZ.out, hie, List.take_length]
      have hwz : IntKind.i64.wrap (z : Int) = wrap64 (z : Int) := wrap_eq _
      clear hie
      go_wp2_with fail
      go_ret
      rw [HN.out]
      refine ⟨?_, R2, O2⟩
      show _ = Ending.returned (Value.int .i64 (wrap64 (beN 0 l : Nat)))
      rw [← HZ2.out]
      rfl
theorem numS_range (n : Nat) (st : St) : -9223372036854775808 ≤ (numS n st).1 ∧ (numS n st).1 ≤ 9223372036854775807 := by unfold numS wrap64; omega
theorem single_rd (g : Nat) (st : St) (w : World) (h : RD w g st) :
    Calls Tryd.prog 60 #[.pointer (some ⟨g, 0, none⟩)] w fun e w' => e = .returned (.int .i64 (numS 1 st).1) ∧ RD w' g (numS 1 st).2 ∧ Only (fun i => i = g) w w' := by
  have HC := Lib.hid (number_any 1 g st w h (by decide))
  clear h
  go_enter Tryd.func60, Tryd.ntmps60
  go_wp2_with (go_at_call 68; refine HC.out.mono ?_; rintro _ w2 ⟨rfl, R2, O2⟩)
  go_ret
  exact ⟨rfl, R2, O2⟩
theorem word_rd (g : Nat) (st : St) (w : World) (h : RD w g st) :
    Calls Tryd.prog 61 #[.pointer (some ⟨g, 0, none⟩)] w fun e w' => e = .returned (.int .i64 (numS 8 st).1) ∧ RD w' g (numS 8 st).2 ∧ Only (fun i => i = g) w w' := by
  have HC := Lib.hid (number_any 8 g st w h (by decide))
  clear h
  go_enter Tryd.func61, Tryd.ntmps61
  go_wp2_with (go_at_call 68; refine HC.out.mono ?_; rintro _ w2 ⟨rfl, R2, O2⟩)
  go_ret
  exact ⟨rfl, R2, O2⟩
theorem only_then {F : Nat → Prop} {a b c : World} (h : Only F a b) (k : Only F b c) : Only F a c := h.trans k (fun _ f => .inl f)
set_option maxHeartbeats 1000000 in
theorem count_rd (most : Int) (g : Nat) (st : St) (w : World) (h : RD w g st) :
    Calls Tryd.prog 63 #[.pointer (some ⟨g, 0, none⟩), .int .i64 most] w fun e w' => e = .returned (.int .i64 (countS most st).1) ∧ RD w' g (countS most st).2 ∧ Only (fun i => i = g) w w' := by
  have HC := Lib.hid (single_rd g st w h)
  have HN : Hid (countS most st = if most < (numS 1 st).1 then (0, failS 5 (numS 1 st).2) else numS 1 st) := rfl
  clear h
  generalize numS 1 st = q at HC HN
  obtain ⟨x, st'⟩ := q
  by_cases hx : most < x
  · have HE : Hid (countS most st = (0, failS 5 st')) := by unfold Hid; rw [HN.out, if_pos hx]
    go_enter Tryd.func63, Tryd.ntmps63
    go_wp2_with (first
      | (go_at_call 60; refine HC.out.mono ?_; rintro _ w2 ⟨rfl, R2, O2⟩)
      | (go_at_call 59; refine (fail_any 5 g st' _ R2 (by decide)).mono ?_; rintro _ w3 ⟨rfl, R3, O3⟩))
    go_ret
    rw [HE.out]
    exact ⟨rfl, R3, only_then O2 O3⟩
  · have HE : Hid (countS most st = (x, st')) := by unfold Hid; rw [HN.out, if_neg hx]
    go_enter Tryd.func63, Tryd.ntmps63
    go_wp2_with (go_at_call 60; refine HC.out.mono ?_; rintro _ w2 ⟨rfl, R2, O2⟩)
    go_ret
    rw [HE.out]
    exact ⟨rfl, R2, O2⟩
theorem count_nat (most : Nat) (st : St) : 0 ≤ (countS most st).1 ∧ (countS most st).1 ≤ most := by
  have h := takeS_len 1 st
  have hn : 0 ≤ (numS 1 st).1 := by
    unfold numS
    show 0 ≤ wrap64 (beN 0 (takeS 1 st).1)
    match e : (takeS 1 st).1, h with
    | [], _ => show 0 ≤ wrap64 ((0 : Nat) : Int); unfold wrap64; decide
    | [c], _ =>
      have := c.toNat_lt
      simp only [beN]; unfold wrap64; omega
    | _ :: _ :: _, h => simp at h
  unfold countS
  split
  · simp
  · omega
theorem text_of (A : Option Addr) (B cap : Nat) (l : List UInt8) (w : World) (h : Row w B A (bvs l)) : (convert 22 9 (.slice A l.length cap)).run Tryd.prog w = .ok (.string ⟨l.toArray⟩) w := by
  cases A with
  | none =>
    have hl0 : l = [] := by have := h.none; simpa [bvs] using this
    subst hl0
    rw [run_convert_bytes_string w _ _ _ none _ _ Tryd.underlying22 Tryd.underlying5 Tryd.underlying9]
    simp [Conv.bytesToString]
    rfl
  | some ad =>
    refine run_convert_bytes_back w _ _ 5 ad cap l Tryd.underlying22 Tryd.underlying5 Tryd.underlying9 (fun j hj => ?_)
    have := h.some j _ (bvs_at l j hj)
    rw [this]
    simp [bv, List.getD, hj]
set_option maxRecDepth 20000 in
set_option maxHeartbeats 1000000 in
theorem text_rd (most : Nat) (hm : most ≤ 1000) (g : Nat) (st : St) (w : World) (h : RD w g st) :
    Calls Tryd.prog 62 #[.pointer (some ⟨g, 0, none⟩), .int .i64 (most : Int)] w fun e w' => ∃ s, e = .returned (.string s) ∧ bytesOf s = (textS most st).1 ∧ RD w' g (textS most st).2 ∧ Only (fun i => i = g) w w' := by
  have HC := Lib.hid (count_rd most g st w h)
  have HN : Hid (textS most st = takeS (countS most st).1.toNat (countS most st).2) := rfl
  have hc := count_nat most st
  clear h
  generalize countS (most : Int) st = q at HC HN hc
  obtain ⟨x, st'⟩ := q
  obtain ⟨k, rfl⟩ : ∃ k : Nat, x = (k : Int) := ⟨x.toNat, by simp at hc; omega⟩
  have hk : k ≤ 1000 := by simp at hc; omega
  have HK := Lib.hid hk
  have HE : Hid (textS most st = takeS k st') := by unfold Hid; rw [HN.out]; simp
  have HTL : Hid ((takeS k st').1.length ≤ k) := takeS_len k st'
  clear hc hk
  go_enter Tryd.func62, Tryd.ntmps62
  go_wp2_with (first
    | (go_at_call 63; refine HC.out.mono ?_; rintro _ w2 ⟨rfl, R2, O2⟩)
    | (go_at_call 69; refine (take_any k g st' _ R2 HK.out).mono ?_; rintro _ w3 ⟨A, c, rfl, hc, hr, R3, O3⟩; have hconv := text_of A g c (takeS k st').1 w3 hr))
  go_ret
  rw [HE.out]
  exact ⟨_, rfl, by unfold bytesOf; simp, R3, only_then O2 O3⟩
end Go.Proofs.YtnlhajhbmkhnjabDoor.ValW

/- Values that are put together: where their rows lie, lists of them that grow. -/

namespace Go.Proofs.YtnlhajhbmkhnjabDoor.ValW
open Go.RowKit Wd ValM
/-- All rows of a value lie in such blocks. -/
inductive VOn (P : Nat → Prop) : VA → Prop
  | mk (k n : Int) (s : ByteArray) (A : Option Addr) (c : Nat) (L : List VA) (NA : Option Addr) (nc : Nat) (N : List ByteArray) (h1 : ∀ ad, A = some ad → L ≠ [] → P ad.block) (h2 : ∀ x ∈ L, VOn P x) (h3 : ∀ ad, NA = some ad → N ≠ [] → P ad.block) : VOn P (.mk k n s A c L NA nc N)
theorem VOn.mono {P Q : Nat → Prop} {x : VA} (h : VOn P x) (hq : ∀ i, P i → Q i) : VOn Q x := by
  induction h with
  | mk k n s A c L NA nc N h1 _ h3 ih => exact .mk k n s A c L NA nc N (fun ad e h => hq _ (h1 ad e h)) ih (fun ad e h => hq _ (h3 ad e h))
theorem VOn.both {P Q : Nat → Prop} {x : VA} (h : VOn P x) (k : VOn Q x) : VOn (fun i => P i ∧ Q i) x := by
  induction h with
  | mk k' n s A c L NA nc N h1 _ h3 ih =>
    cases k with
    | mk _ _ _ _ _ _ _ _ _ k1 k2 k3 => exact .mk k' n s A c L NA nc N (fun ad e h => ⟨h1 ad e h, k1 ad e h⟩) (fun x hx => ih x hx (k2 x hx)) (fun ad e h => ⟨h3 ad e h, k3 ad e h⟩)
theorem VIn.only {w w' : World} {F : Nat → Prop} {x : VA} (h : VIn w x) (hn : VOn (fun i => ¬ F i) x) (hO : Only F w w') : VIn w' x := by
  induction h with
  | mk k n s A c L NA nc N hk hn' hs hL hc hrow hx hN hnc hNr hNs ih =>
    cases hn with
    | mk _ _ _ _ _ _ _ _ _ k1 k2 k3 =>
      have r1 := hrow.apart_if hO (Nat.le_refl _) (fun ad e hp => k1 ad e (fun e2 => by rw [e2] at hp; simp [flat] at hp))
      have r2 := hNr.apart_if hO (Nat.le_refl _) (fun ad e hp => k3 ad e (fun e2 => by rw [e2] at hp; simp [strs] at hp))
      exact .mk k n s A c L NA nc N hk hn' hs hL hc r1.tight (fun x hx => ih x hx (k2 x hx)) hN hnc r2.tight hNs
theorem VIn.lt {w : World} {x : VA} (h : VIn w x) : VOn (fun i => i < w.heap.size) x := by
  induction h with
  | mk k n s A c L NA nc N hk hn' hs hL hc hrow hx hN hnc hNr hNs ih =>
    refine .mk k n s A c L NA nc N (fun ad e hne => ?_) ih (fun ad e hne => ?_)
    · obtain ⟨ad', e', hb, _⟩ := elem_cells hrow (List.length_pos_iff.2 hne)
      rw [e] at e'; injection e' with e'; subst e'; exact hb
    · obtain ⟨ad', e', hb, _⟩ := name_cell hNr (List.length_pos_iff.2 hne)
      rw [e] at e'; injection e' with e'; subst e'; exact hb
/-- A row of the call's own, of whatever width. -/
theorem row_own {w : World} {base e size n c : Nat} {A : Option Addr} {xs : List Value} (h : w.ownsRow base e size (.slice A n c) n xs) (h0 : xs ≠ [] → 0 < n) : Row w w.heap.size A xs := fun k u hu => by
  have hx : xs ≠ [] := fun e => by rw [e] at hu; simp at hu
  obtain ⟨g, cap, hv, _, hlt⟩ := h.form (h0 hx)
  have hA : A = .some ⟨g, 0, .none⟩ := by injection hv
  subst hA
  exact ⟨_, rfl, hlt, h.cells (g := g) rfl k u hu⟩
theorem own_slice' {w : World} {base n e size : Nat} {v : Value} {xs : List Value} (h : w.ownsRow base e size v n xs) : ∃ A c, v = .slice A n c ∧ n ≤ c := by
  rcases h.2 with ⟨rfl, rfl⟩ | ⟨g, cap, cur, rfl, _, _, hnc, _⟩
  · exact ⟨none, 0, rfl, Nat.le_refl _⟩
  · exact ⟨_, cap, rfl, hnc⟩
/-- Values in a slice of the call's own, none of their rows in its block. -/
def ListV (w : World) (base : Nat) (ys : List VA) (v : Value) : Prop :=
  w.ownsRow base 27 5 v ys.length (flat VA.cells ys) ∧ ∀ y ∈ ys, VIn w y ∧ VOn (fun i => v.ownBlock ≠ some i) y ∧ VOn (fun i => base ≤ i) y
theorem listV_nil (w : World) (base : Nat) : ListV w base [] (.slice none 0 0) := ⟨World.ownsRow_nil _ _ _ _, fun _ h => by cases h⟩
theorem ListV.kept {w w' : World} {base : Nat} {ys : List VA} {v : Value} (h : ListV w base ys v) (hb : Below w.heap.size w w') : ListV w' base ys v :=
  ⟨owns_kept h.1 hb, fun y hy => ⟨(h.2 y hy).1.kept hb, (h.2 y hy).2⟩⟩
theorem ListV.only {w w' : World} {base : Nat} {ys : List VA} {v : Value} {F : Nat → Prop} (h : ListV w base ys v) (hO : Only F w w') (hF : ∀ i, F i → i < base ∨ w.heap.size ≤ i) : ListV w' base ys v := by
  refine ⟨owns_only h.1 hO (fun g hg hf => ?_), fun y hy => ⟨(h.2 y hy).1.only ?_ hO, (h.2 y hy).2⟩⟩
  · have := h.1.lt g hg
    rcases hF g hf with h1 | h1 <;> omega
  · refine ((h.2 y hy).1.lt.both (h.2 y hy).2.2).mono fun i hi hf => ?_
    rcases hF i hf with h1 | h1 <;> omega
theorem ListV.own_lt {w : World} {base : Nat} {ys : List VA} {v : Value} (h : ListV w base ys v) : ∀ g, v.ownBlock = some g → g < w.heap.size := fun g hg => (h.1.lt g hg).2
theorem ListV.push {w w' : World} {base g cap B : Nat} {ys : List VA} {v : Value} {y : VA} (h : ListV w base ys v) (hy : VIn w y) (hnew : VOn (fun i => B ≤ i) y) (hB : ∀ g, v.ownBlock = some g → g < B) (hbB : base ≤ B)
    (h' : w'.ownsRow base 27 5 (.slice (some ⟨g, 0, none⟩) (ys.length + 1) cap) (ys.length + 1) (flat VA.cells ys ++ y.cells)) (hg : w.grownBy w' v.ownBlock) (hl : v.ownBlock = some g ∨ g = w.heap.size) :
    ListV w' base (ys ++ [y]) (.slice (some ⟨g, 0, none⟩) (ys.length + 1) cap) := by
  have fin : ∀ z, VIn w z → VOn (fun i => v.ownBlock ≠ some i) z → VIn w' z ∧ VOn (fun i => (Value.slice (some ⟨g, 0, none⟩) (ys.length + 1) cap).ownBlock ≠ some i) z := fun z hz hn => by
    refine ⟨hz.only hn (Only.grownBy hg), (hn.both hz.lt).mono fun i hi he => ?_⟩
    have he : g = i := by simpa [Value.ownBlock] using he
    rcases hl with hl | hl
    · exact hi.1 (by rw [hl, he])
    · omega
  refine ⟨by rw [List.length_append, flat_append, flat_one]; exact h', fun z hz => ?_⟩
  rcases List.mem_append.1 hz with hz | hz
  · obtain ⟨h1, h2⟩ := fin z (h.2 z hz).1 (h.2 z hz).2.1
    exact ⟨h1, h2, (h.2 z hz).2.2⟩
  · rw [List.mem_singleton.1 hz]
    obtain ⟨h1, h2⟩ := fin y hy (hnew.mono fun i hi he => by have := hB _ he; omega)
    exact ⟨h1, h2, hnew.mono fun i hi => by omega⟩
/-- A value made of such lists. -/
theorem made_value {w : World} {base nb : Nat} {k n : Int} {s : ByteArray} {ys : List VA} {N : List ByteArray} {A NA : Option Addr} {c nc nn : Nat} (hk : -9223372036854775808 ≤ k ∧ k ≤ 9223372036854775807) (hn : -9223372036854775808 ≤ n ∧ n ≤ 9223372036854775807) (hs : s.size ≤ 140737488355328)
    (h1 : ListV w base ys (.slice A nb c)) (hnb : nb = ys.length) (h2 : w.ownsRow base 9 1 (.slice NA nn nc) nn (strs N)) (hnn : nn = N.length) (hl : ys.length ≤ 1000) (hN : N.length ≤ 1000) (hNs : ∀ t ∈ N, t.size ≤ 140737488355328) :
    VIn w (.mk k n s A c ys NA nc N) ∧ VOn (fun i => base ≤ i) (.mk k n s A c ys NA nc N) := by
  subst hnb hnn
  obtain ⟨A', c', e, hc⟩ := own_slice' h1.1
  injection e with e1 e2 e3
  subst e1 e3
  obtain ⟨A', c', e, hc'⟩ := own_slice' h2
  injection e with e1 e2 e3
  subst e1 e3
  refine ⟨.mk k n s A c ys NA nc N hk hn hs (by omega) hc (row_own h1.1 (fun e => List.length_pos_iff.2 (fun e2 => e (by rw [e2]; rfl)))) (fun x hx => (h1.2 x hx).1) (by omega) hc' (row_own h2 (fun e => List.length_pos_iff.2 (fun e2 => e (by rw [e2]; rfl)))) hNs, .mk k n s A c ys NA nc N (fun ad e hne => ?_) (fun x hx => (h1.2 x hx).2.2) (fun ad e hne => ?_)⟩
  · obtain ⟨g, cap, hv, hb, _⟩ := h1.1.form (List.length_pos_iff.2 hne)
    rw [e] at hv; injection hv with hv; injection hv with hv; subst hv; exact hb
  · obtain ⟨g, cap, hv, hb, _⟩ := h2.form (List.length_pos_iff.2 hne)
    rw [e] at hv; injection hv with hv; injection hv with hv; subst hv; exact hb
end Go.Proofs.YtnlhajhbmkhnjabDoor.ValW

/- Results one of which lives in a cell: a struct or an array that a function hands back. -/



namespace Go.Proofs.YtnlhajhbmkhnjabDoor.Wd
open Go.RowKit
variable {P : Program} {fn : Func} {T : TypeId}
theorem run_cellVar (w : World) (p : Nat) (cs : List Value) (hB : Block w p T cs) (d : TypeDesc) (hu : P.underlying T = some d) (hd : d.isRow = true) (hi : (P.info? T).map (·.size) = some cs.length) :
    (loadVar T ⟨p, 0, none⟩).run P w = .ok (.agg cs.toArray) w := run_loadVar_mid (P := P) w p 0 T cs d (hB.range 0 cs (by simp)) hu hd hi
theorem ret_cell1 {a : Tmp} (h : fn.results = #[.cell a T]) (tmps : Array Value) (w : World) (p : Nat) (cs : List Value) (hB : Block w p T cs) (h2 : tmps.getD a undef = .pointer (some ⟨p, 0, none⟩))
    (d : TypeDesc) (hu : P.underlying T = some d) (hd : d.isRow = true) (hi : (P.info? T).map (·.size) = some cs.length) : (results fn tmps).run P w = .ok (.agg cs.toArray) w := by
  have hl := run_cellVar (P := P) w p cs hB d hu hd hi
  have h3 : tmps[a]?.getD undef = .pointer (some ⟨p, 0, none⟩) := by simpa using h2
  unfold results
  rw [h]
  simp [h3, asAddr, hl]
theorem ret_cell2 {a b : Tmp} (h : fn.results = #[.cell a T, .tmp b]) (tmps : Array Value) (w : World) (p : Nat) (cs : List Value) (hB : Block w p T cs) (h2 : tmps.getD a undef = .pointer (some ⟨p, 0, none⟩))
    (d : TypeDesc) (hu : P.underlying T = some d) (hd : d.isRow = true) (hi : (P.info? T).map (·.size) = some cs.length) : (results fn tmps).run P w = .ok (.tuple #[.agg cs.toArray, tmps.getD b undef]) w := by
  have hl := run_cellVar (P := P) w p cs hB d hu hd hi
  have h3 : tmps[a]?.getD undef = .pointer (some ⟨p, 0, none⟩) := by simpa using h2
  unfold results
  rw [h]
  simp [Result.andThen, h3, asAddr, hl]
theorem ret_cell4 {a b c e : Tmp} (h : fn.results = #[.cell a T, .tmp b, .tmp c, .tmp e]) (tmps : Array Value) (w : World) (p : Nat) (cs : List Value) (hB : Block w p T cs) (h2 : tmps.getD a undef = .pointer (some ⟨p, 0, none⟩))
    (d : TypeDesc) (hu : P.underlying T = some d) (hd : d.isRow = true) (hi : (P.info? T).map (·.size) = some cs.length) : (results fn tmps).run P w = .ok (.tuple #[.agg cs.toArray, tmps.getD b undef, tmps.getD c undef, tmps.getD e undef]) w := by
  have hl := run_cellVar (P := P) w p cs hB d hu hd hi
  have h3 : tmps[a]?.getD undef = .pointer (some ⟨p, 0, none⟩) := by simpa using h2
  unfold results
  rw [h]
  simp [Result.andThen, h3, asAddr, hl]
/-! a struct's literal, known whole -/
theorem build0 {t : TypeId} {z : Value} (hz : (P.info? t).map (·.zero) = some (some z)) {cells : Array Value} (hc : z.cells = cells) (hp : (placesOf P t).isSome = true) (w : World) : (Instr.build t #[]).run P w = .ok (.agg cells) w := by
  obtain ⟨places, hp⟩ := Option.isSome_iff_exists.1 hp
  exact run_build_parts hp hz #[] cells (by rw [hc]; rfl) w
section
variable {ops : Array Oper} {rest : List Oper} {o : Oper} {a : Act} {w : World} {K : Act → World → Prop} {Q : Exit → Act → World → Prop}
theorem wp_build_run (t : TypeId) (parts : List (Nat × Operand)) (ho : o.op = .build t parts.toArray) (ps : List (Nat × Value)) (hx : (parts.map fun (i, x) => (i, a.eval x)) = ps) (v : Value) (hr : (Instr.build t ps.toArray).run P w = .ok v w) (h : K (a.put o.dst v) w) : o.wp P a w K Q := by
  unfold Oper.wp execOp
  simp only [ho, List.map_toArray, hx, Sem.run_bind, hr, Result.andThen_ok, Sem.run_pure]
  exact h
theorem wpList_build_run (hgd : o.guard = none) (t : TypeId) (parts : List (Nat × Operand)) (ho : o.op = .build t parts.toArray) (ps : List (Nat × Value)) (hx : (parts.map fun (i, x) => (i, a.eval x)) = ps) (v : Value) (hr : (Instr.build t ps.toArray).run P w = .ok v w) (h : wpList P ops Q rest (a.put o.dst v) w) : wpList P ops Q (o :: rest) a w :=
  wpList_plain hgd fun _ hK => wp_build_run t parts ho ps hx v hr (hK _ _ h)
end
/-! an element of an array that is held as a value -/
theorem run_index_bytes {t e : TypeId} {n : Nat} (h : P.underlying t = some (.array n e)) (he : P.plainKey e = true) (hs : (P.info? e).map (·.size) = some 1) (f : List UInt8) (hl : f.length = n) (k : IntKind) (j : Nat) (hj : j < n) (w : World) :
    (Instr.index t (.agg (bvs f).toArray) (.int k (j : Int))).run P w = .ok (.int .u8 ((f.getD j 0).toNat : Int)) w := by
  have hx : (bvs f).toArray[j]? = some (.int .u8 ((f.getD j 0).toNat : Int)) := by
    rw [List.getElem?_toArray, bvs_at f j (by omega)]; rfl
  have hp := run_part_plain w he hx
  have hz := Wd.run_sizeOf hs w
  simp [Instr.index, run_underlying h, asIntOf, hz, hp, Result.andThen]
  intro h; omega
end Go.Proofs.YtnlhajhbmkhnjabDoor.Wd

/- The program's reader: a value. -/


namespace Go.Proofs.YtnlhajhbmkhnjabDoor.ValW
open Go.RowKit Wd ValM
def ReadTo (fuel : Nat) (g : Nat) (st : St) (w : World) : Prop := Calls Tryd.prog 50 #[.pointer (some ⟨g, 0, none⟩), .int .i64 (8 - (fuel : Int))] w fun e w' => ∃ y : VA, e = .returned y.arg ∧ VIn w' y ∧ VOn (fun i => w.heap.size ≤ i) y ∧ y.val = (rdV fuel st).1 ∧ RD w' g (rdV fuel st).2 ∧ Only (fun i => i = g) w w'
def zero5 : List Value := [.int .i64 0, .int .i64 0, .string ⟨#[]⟩, .slice none 0 0, .slice none 0 0]
theorem zeroVal : (Tryd.prog.info? 27).map (·.zero) = some (some (.agg zero5.toArray)) := by kernel_rfl
theorem placesVal : placesOf Tryd.prog 27 = some [(0, 1), (1, 1), (2, 1), (3, 1), (4, 1)] := by kernel_rfl
def kind5 (k : Int) : List Value := [.int .i64 k, .int .i64 0, .string ⟨#[]⟩, .slice none 0 0, .slice none 0 0]
theorem build_kind (k : Int) (w : World) : (Instr.build 27 #[(0, .int .i64 k)]).run Tryd.prog w = .ok (.agg (kind5 k).toArray) w :=
  run_build_parts placesVal zeroVal _ _ (by rfl) w
theorem empty_size : (⟨#[]⟩ : ByteArray).size ≤ 140737488355328 := by decide
theorem plain_value {w : World} (k n : Int) (s : ByteArray) (P : Nat → Prop) (hk : -9223372036854775808 ≤ k ∧ k ≤ 9223372036854775807) (hn : -9223372036854775808 ≤ n ∧ n ≤ 9223372036854775807) (hs : s.size ≤ 140737488355328) : VIn w (.mk k n s none 0 [] none 0 []) ∧ VOn P (.mk k n s none 0 [] none 0 []) :=
  ⟨.mk k n s none 0 [] none 0 [] hk hn hs (by decide) (Nat.le_refl _) (Row.nil _ _ _) (fun _ h => by cases h) (by decide) (Nat.le_refl _) (Row.nil _ _ _) (fun _ h => by cases h), .mk k n s none 0 [] none 0 [] (fun _ e _ => by cases e) (fun _ h => by cases h) (fun _ e _ => by cases e)⟩
set_option maxRecDepth 20000 in
set_option maxHeartbeats 4000000 in
theorem read0 (fuel : Nat) (hf : fuel < 8) (g : Nat) (st : St) (w : World) (h : RD w g st) (hk : (numS 1 st).1 = 0) : ReadTo (fuel + 1) g st w := by
  have HE : Hid (rdV (fuel + 1) st = (.mk 0 0 [] [] [], (numS 1 st).2)) := by unfold Hid; show bodyV (rdV fuel) st = _; unfold bodyV; simp [hk]
  have HC := Lib.hid (fun w' (hw : RD w' g st) => single_rd g st w' hw)
  rw [hk] at HC
  generalize numS 1 st = q1 at HE HC
  obtain ⟨k0, st1⟩ := q1
  have HH := Lib.hid h
  have hlt := h.choose_spec.choose_spec.1.lt
  have ho : ((8 - ((fuel + 1 : Nat) : Int)) == 8) = false := by simp; omega
  generalize (8 - ((fuel + 1 : Nat) : Int)) = oth at ho
  unfold ReadTo
  have HT : Hid True := trivial
  clear h hk hf
  go_enter Tryd.func50, Tryd.ntmps50
  go_wp2_with (first
    | (go_at_call 60; refine (HC.out _ R1).mono ?_; rintro _ w2 ⟨rfl, R2, O2⟩; have B42 := B4.only O2 (by have := hg4; omega); have q2 := build_kind 0 w2; have z2 : w.heap.size ≤ w2.heap.size := Nat.le_trans hb1.size O2.size; have z4 := B42.lt; have OO2 := (Only.new (F := fun i => i = g) hb1).trans O2 (fun i h => .inl h))
    | (have _ := q2; refine wpList_build_run rfl 27 [(0, .tmp 19)] rfl [(0, .int .i64 0)] rfl _ q2 ?_; clear q2; have HT5 : Hid True := trivial)
    | (have _ := HT5; refine wpList_alloc_blk rfl 27 rfl zero5 _ zeroVal rfl ?_; intro g5 w3 B5 O5 hg5; have hb3 : Below w2.heap.size w2 w3 := O5.below (fun _ h => h.elim) (Nat.le_refl _); have B43 := B42.kept hb3; have R3 := R2.kept hb3; have OO3 := OO2.then_ hb3; clear HT5 O5)
    | (have _ := B5; refine wpList_store_blk rfl 27 (.tmp 5) (.tmp 20) rfl g5 0 rfl (kind5 0) _ rfl rfl 27 _ B5 (by show 0 + 5 ≤ 5; decide) valStruct (by simp [kind5, Value.oneCell']) ?_; intro w4 B54 O4' hs4; clear B5; rw [lay_all zero5 (kind5 0) rfl] at B54; have R4 := R3.only O4' (fun i hi e => by omega); have B44 := B43.only O4' (by omega); have OO4 := OO3.trans O4' (fun i h => .inr (by omega)); have p0 : w4.cell? ⟨g5, 0, none⟩ = some (.int .i64 0) := B54.cell rfl; have hgg : ¬ g5 = g := (by have := hg5; omega); have z5 := B54.lt; have q9 := load_whole (.mk 0 0 ⟨#[]⟩ none 0 [] none 0 []) B54)
    | (have _ := HT; refine wpList_alloc_blk rfl 27 rfl zero5 _ zeroVal rfl ?_; intro g4 w1 B4 O4 hg4; have hb1 : Below w.heap.size w w1 := O4.below (fun _ h => h.elim) (Nat.le_refl _); have R1 := HH.out.kept hb1; clear HT O4)
    | (have _ := q9; refine wpList_load_run rfl 27 (.tmp 5) rfl _ _ rfl q9 ?_; clear q9; have HT9 : Hid True := trivial)
    | (have _ := HT9; refine wpList_store_blk rfl 27 (.tmp 4) (.tmp 91) rfl g4 0 rfl (VA.cells (.mk 0 0 ⟨#[]⟩ none 0 [] none 0 [])) _ rfl rfl 27 _ B44 (by show 0 + 5 ≤ 5; decide) valStruct (by simp [VA.cells, Value.oneCell']) ?_; intro w9 B9 O9 hs9; clear HT9; rw [lay_all zero5 (VA.cells (.mk 0 0 ⟨#[]⟩ none 0 [] none 0 [])) rfl] at B9; have R9 := R4.only O9 (fun i hi e => by omega); have OO9 := OO4.trans O9 (fun i h => .inr (by omega))))
  try rw [Exit.noGoto_ret]
  refine bodyPost_ret (ret_cell1 Tryd.results50 _ w9 g4 (VA.cells (.mk 0 0 ⟨#[]⟩ none 0 [] none 0 [])) B9 (by rfl) _ Tryd.underlying27 rfl (by rw [cells_len]; exact valStruct)) rfl ?_
  rw [HE.out]
  exact ⟨(.mk 0 0 ⟨#[]⟩ none 0 [] none 0 []), rfl, (plain_value (w := w9) 0 0 ⟨#[]⟩ (fun i => w.heap.size ≤ i) (by decide) (by decide) empty_size).1, (plain_value (w := w9) 0 0 ⟨#[]⟩ (fun i => w.heap.size ≤ i) (by decide) (by decide) empty_size).2, by rfl, R9, OO9⟩
set_option maxRecDepth 20000 in
set_option maxHeartbeats 4000000 in
theorem read1 (fuel : Nat) (hf : fuel < 8) (g : Nat) (st : St) (w : World) (h : RD w g st) (hk : (numS 1 st).1 = 1) : ReadTo (fuel + 1) g st w := by
  have HE : Hid (rdV (fuel + 1) st = (.mk 1 (numS 8 (numS 1 st).2).1 [] [] [], (numS 8 (numS 1 st).2).2)) := by unfold Hid; show bodyV (rdV fuel) st = _; unfold bodyV; simp [hk]
  have HC := Lib.hid (fun w' (hw : RD w' g st) => single_rd g st w' hw)
  rw [hk] at HC
  have HR := Lib.hid (numS_range 8 (numS 1 st).2)
  generalize numS 1 st = q1 at HE HC HR
  obtain ⟨k0, st1⟩ := q1
  have HC2 := Lib.hid (fun w' (hw : RD w' g st1) => word_rd g st1 w' hw)
  generalize numS 8 st1 = q2 at HE HC2 HR
  obtain ⟨n, st2⟩ := q2
  have HH := Lib.hid h
  have hlt := h.choose_spec.choose_spec.1.lt
  have ho : ((8 - ((fuel + 1 : Nat) : Int)) == 8) = false := by simp; omega
  generalize (8 - ((fuel + 1 : Nat) : Int)) = oth at ho
  unfold ReadTo
  have HT : Hid True := trivial
  clear h hk hf
  go_enter Tryd.func50, Tryd.ntmps50
  go_wp2_with (first
    | (go_at_call 60; refine (HC.out _ R1).mono ?_; rintro _ w2 ⟨rfl, R2, O2⟩; have B42 := B4.only O2 (by have := hg4; omega); have q2 := build_kind 1 w2; have z2 : w.heap.size ≤ w2.heap.size := Nat.le_trans hb1.size O2.size; have z4 := B42.lt; have OO2 := (Only.new (F := fun i => i = g) hb1).trans O2 (fun i h => .inl h))
    | (have _ := q2; refine wpList_build_run rfl 27 [(0, .tmp 19)] rfl [(0, .int .i64 1)] rfl _ q2 ?_; clear q2; have HT5 : Hid True := trivial)
    | (have _ := HT5; refine wpList_alloc_blk rfl 27 rfl zero5 _ zeroVal rfl ?_; intro g5 w3 B5 O5 hg5; have hb3 : Below w2.heap.size w2 w3 := O5.below (fun _ h => h.elim) (Nat.le_refl _); have B43 := B42.kept hb3; have R3 := R2.kept hb3; have OO3 := OO2.then_ hb3; clear HT5 O5)
    | (have _ := B5; refine wpList_store_blk rfl 27 (.tmp 5) (.tmp 20) rfl g5 0 rfl (kind5 1) _ rfl rfl 27 _ B5 (by show 0 + 5 ≤ 5; decide) valStruct (by simp [kind5, Value.oneCell']) ?_; intro w4 B54 O4' hs4; clear B5; rw [lay_all zero5 (kind5 1) rfl] at B54; have R4 := R3.only O4' (fun i hi e => by omega); have B44 := B43.only O4' (by omega); have OO4 := OO3.trans O4' (fun i h => .inr (by omega)); have p0 : w4.cell? ⟨g5, 0, none⟩ = some (.int .i64 1) := B54.cell rfl; have hgg : ¬ g5 = g := (by have := hg5; omega); have z5 := B54.lt)
    | (have _ := HT; refine wpList_alloc_blk rfl 27 rfl zero5 _ zeroVal rfl ?_; intro g4 w1 B4 O4 hg4; have hb1 : Below w.heap.size w w1 := O4.below (fun _ h => h.elim) (Nat.le_refl _); have R1 := HH.out.kept hb1; clear HT O4))
  refine (HC2.out _ R4).mono ?_; rintro _ w5 ⟨rfl, R5, O5⟩
  have B55 := B54.only O5 hgg
  have B45 := B44.only O5 (by omega)
  have OO5 := OO4.trans O5 (fun i h => .inl h)
  clear R4 B54 B44 p0
  go_wp2_with (first
    | (have _ := B55; refine wpList_store_blk rfl 3 (.tmp 31) (.tmp 30) rfl g5 1 rfl [.int .i64 n] _ rfl rfl 27 _ B55 (by show 1 + 1 ≤ 5; decide) sizeInt (by simp [Value.oneCell']) ?_; intro w6 B6 O6 hs6; clear B55; have R6 := R5.only O6 (fun i hi e => by omega); have B46 := B45.only O6 (by omega); have OO6 := OO5.trans O6 (fun i h => .inr (by omega)); have q9 := load_whole (.mk 1 n ⟨#[]⟩ none 0 [] none 0 []) B6)
    | (have _ := q9; refine wpList_load_run rfl 27 (.tmp 5) rfl _ _ rfl q9 ?_; clear q9; have HT9 : Hid True := trivial)
    | (have _ := HT9; refine wpList_store_blk rfl 27 (.tmp 4) (.tmp 91) rfl g4 0 rfl (VA.cells (.mk 1 n ⟨#[]⟩ none 0 [] none 0 [])) _ rfl rfl 27 _ B46 (by show 0 + 5 ≤ 5; decide) valStruct (by simp [VA.cells, Value.oneCell']) ?_; intro w9 B9 O9 hs9; clear HT9; rw [lay_all zero5 (VA.cells (.mk 1 n ⟨#[]⟩ none 0 [] none 0 [])) rfl] at B9; have R9 := R6.only O9 (fun i hi e => by omega); have OO9 := OO6.trans O9 (fun i h => .inr (by omega))))
  try rw [Exit.noGoto_ret]
  refine bodyPost_ret (ret_cell1 Tryd.results50 _ w9 g4 (VA.cells (.mk 1 n ⟨#[]⟩ none 0 [] none 0 [])) B9 (by rfl) _ Tryd.underlying27 rfl (by rw [cells_len]; exact valStruct)) rfl ?_
  rw [HE.out]
  exact ⟨(.mk 1 n ⟨#[]⟩ none 0 [] none 0 []), rfl, (plain_value (w := w9) 1 n ⟨#[]⟩ (fun i => w.heap.size ≤ i) (by decide) HR.out empty_size).1, (plain_value (w := w9) 1 n ⟨#[]⟩ (fun i => w.heap.size ≤ i) (by decide) HR.out empty_size).2, by rfl, R9, OO9⟩
set_option maxRecDepth 20000 in
set_option maxHeartbeats 4000000 in
theorem read6 (fuel : Nat) (hf : fuel < 8) (g : Nat) (st : St) (w : World) (h : RD w g st) (hk : (numS 1 st).1 = 6) : ReadTo (fuel + 1) g st w := by
  have HE : Hid (rdV (fuel + 1) st = (.mk 6 (numS 1 (numS 1 st).2).1 [] [] [], (numS 1 (numS 1 st).2).2)) := by unfold Hid; show bodyV (rdV fuel) st = _; unfold bodyV; simp [hk]
  have HC := Lib.hid (fun w' (hw : RD w' g st) => single_rd g st w' hw)
  rw [hk] at HC
  have HR := Lib.hid (numS_range 1 (numS 1 st).2)
  generalize numS 1 st = q1 at HE HC HR
  obtain ⟨k0, st1⟩ := q1
  have HC2 := Lib.hid (fun w' (hw : RD w' g st1) => single_rd g st1 w' hw)
  generalize numS 1 st1 = q2 at HE HC2 HR
  obtain ⟨n, st2⟩ := q2
  have HH := Lib.hid h
  have hlt := h.choose_spec.choose_spec.1.lt
  have ho : ((8 - ((fuel + 1 : Nat) : Int)) == 8) = false := by simp; omega
  generalize (8 - ((fuel + 1 : Nat) : Int)) = oth at ho
  unfold ReadTo
  have HT : Hid True := trivial
  clear h hk hf
  go_enter Tryd.func50, Tryd.ntmps50
  go_wp2_with (first
    | (go_at_call 60; refine (HC.out _ R1).mono ?_; rintro _ w2 ⟨rfl, R2, O2⟩; have B42 := B4.only O2 (by have := hg4; omega); have q2 := build_kind 6 w2; have z2 : w.heap.size ≤ w2.heap.size := Nat.le_trans hb1.size O2.size; have z4 := B42.lt; have OO2 := (Only.new (F := fun i => i = g) hb1).trans O2 (fun i h => .inl h))
    | (have _ := q2; refine wpList_build_run rfl 27 [(0, .tmp 19)] rfl [(0, .int .i64 6)] rfl _ q2 ?_; clear q2; have HT5 : Hid True := trivial)
    | (have _ := HT5; refine wpList_alloc_blk rfl 27 rfl zero5 _ zeroVal rfl ?_; intro g5 w3 B5 O5 hg5; have hb3 : Below w2.heap.size w2 w3 := O5.below (fun _ h => h.elim) (Nat.le_refl _); have B43 := B42.kept hb3; have R3 := R2.kept hb3; have OO3 := OO2.then_ hb3; clear HT5 O5)
    | (have _ := B5; refine wpList_store_blk rfl 27 (.tmp 5) (.tmp 20) rfl g5 0 rfl (kind5 6) _ rfl rfl 27 _ B5 (by show 0 + 5 ≤ 5; decide) valStruct (by simp [kind5, Value.oneCell']) ?_; intro w4 B54 O4' hs4; clear B5; rw [lay_all zero5 (kind5 6) rfl] at B54; have R4 := R3.only O4' (fun i hi e => by omega); have B44 := B43.only O4' (by omega); have OO4 := OO3.trans O4' (fun i h => .inr (by omega)); have p0 : w4.cell? ⟨g5, 0, none⟩ = some (.int .i64 6) := B54.cell rfl; have hgg : ¬ g5 = g := (by have := hg5; omega); have z5 := B54.lt)
    | (have _ := HT; refine wpList_alloc_blk rfl 27 rfl zero5 _ zeroVal rfl ?_; intro g4 w1 B4 O4 hg4; have hb1 : Below w.heap.size w w1 := O4.below (fun _ h => h.elim) (Nat.le_refl _); have R1 := HH.out.kept hb1; clear HT O4))
  refine (HC2.out _ R4).mono ?_; rintro _ w5 ⟨rfl, R5, O5⟩
  have B55 := B54.only O5 hgg
  have B45 := B44.only O5 (by omega)
  have OO5 := OO4.trans O5 (fun i h => .inl h)
  clear R4 B54 B44 p0
  go_wp2_with (first
    | (have _ := B55; refine wpList_store_blk rfl 3 (.tmp 90) (.tmp 89) rfl g5 1 rfl [.int .i64 n] _ rfl rfl 27 _ B55 (by show 1 + 1 ≤ 5; decide) sizeInt (by simp [Value.oneCell']) ?_; intro w6 B6 O6 hs6; clear B55; have R6 := R5.only O6 (fun i hi e => by omega); have B46 := B45.only O6 (by omega); have OO6 := OO5.trans O6 (fun i h => .inr (by omega)); have q9 := load_whole (.mk 6 n ⟨#[]⟩ none 0 [] none 0 []) B6)
    | (have _ := q9; refine wpList_load_run rfl 27 (.tmp 5) rfl _ _ rfl q9 ?_; clear q9; have HT9 : Hid True := trivial)
    | (have _ := HT9; refine wpList_store_blk rfl 27 (.tmp 4) (.tmp 91) rfl g4 0 rfl (VA.cells (.mk 6 n ⟨#[]⟩ none 0 [] none 0 [])) _ rfl rfl 27 _ B46 (by show 0 + 5 ≤ 5; decide) valStruct (by simp [VA.cells, Value.oneCell']) ?_; intro w9 B9 O9 hs9; clear HT9; rw [lay_all zero5 (VA.cells (.mk 6 n ⟨#[]⟩ none 0 [] none 0 [])) rfl] at B9; have R9 := R6.only O9 (fun i hi e => by omega); have OO9 := OO6.trans O9 (fun i h => .inr (by omega))))
  try rw [Exit.noGoto_ret]
  refine bodyPost_ret (ret_cell1 Tryd.results50 _ w9 g4 (VA.cells (.mk 6 n ⟨#[]⟩ none 0 [] none 0 [])) B9 (by rfl) _ Tryd.underlying27 rfl (by rw [cells_len]; exact valStruct)) rfl ?_
  rw [HE.out]
  exact ⟨(.mk 6 n ⟨#[]⟩ none 0 [] none 0 []), rfl, (plain_value (w := w9) 6 n ⟨#[]⟩ (fun i => w.heap.size ≤ i) (by decide) HR.out empty_size).1, (plain_value (w := w9) 6 n ⟨#[]⟩ (fun i => w.heap.size ≤ i) (by decide) HR.out empty_size).2, by rfl, R9, OO9⟩
theorem sizeStr : (Tryd.prog.info? 9).map (·.size) = some 1 := by kernel_rfl
set_option maxRecDepth 20000 in
set_option maxHeartbeats 4000000 in
theorem read3 (fuel : Nat) (hf : fuel < 8) (g : Nat) (st : St) (w : World) (h : RD w g st) (hk : (numS 1 st).1 = 3) : ReadTo (fuel + 1) g st w := by
  have HE : Hid (rdV (fuel + 1) st = (.mk 3 0 (textS 64 (numS 1 st).2).1 [] [], (textS 64 (numS 1 st).2).2)) := by unfold Hid; show bodyV (rdV fuel) st = _; unfold bodyV; simp [hk]
  have HC := Lib.hid (fun w' (hw : RD w' g st) => single_rd g st w' hw)
  rw [hk] at HC
  generalize numS 1 st = q1 at HE HC
  obtain ⟨k0, st1⟩ := q1
  have HC2 := Lib.hid (fun w' (hw : RD w' g st1) => text_rd 64 (by decide) g st1 w' hw)
  have HTL : Hid ((textS 64 st1).1.length ≤ 1000) := by
    have h1 := takeS_len (countS 64 st1).1.toNat (countS 64 st1).2
    have h2 := count_nat 64 st1
    rw [show (((64 : Nat) : Int)) = 64 from rfl] at h2
    unfold Hid textS; omega
  rw [show (((64 : Nat) : Int)) = 64 from rfl] at HC2
  generalize textS 64 st1 = q2 at HE HC2 HTL
  obtain ⟨tx, st2⟩ := q2
  have HH := Lib.hid h
  have hlt := h.choose_spec.choose_spec.1.lt
  have ho : ((8 - ((fuel + 1 : Nat) : Int)) == 8) = false := by simp; omega
  generalize (8 - ((fuel + 1 : Nat) : Int)) = oth at ho
  unfold ReadTo
  have HT : Hid True := trivial
  clear h hk hf
  go_enter Tryd.func50, Tryd.ntmps50
  go_wp2_with (first
    | (go_at_call 60; refine (HC.out _ R1).mono ?_; rintro _ w2 ⟨rfl, R2, O2⟩; have B42 := B4.only O2 (by have := hg4; omega); have q2 := build_kind 3 w2; have z2 : w.heap.size ≤ w2.heap.size := Nat.le_trans hb1.size O2.size; have z4 := B42.lt; have OO2 := (Only.new (F := fun i => i = g) hb1).trans O2 (fun i h => .inl h))
    | (have _ := q2; refine wpList_build_run rfl 27 [(0, .tmp 19)] rfl [(0, .int .i64 3)] rfl _ q2 ?_; clear q2; have HT5 : Hid True := trivial)
    | (have _ := HT5; refine wpList_alloc_blk rfl 27 rfl zero5 _ zeroVal rfl ?_; intro g5 w3 B5 O5 hg5; have hb3 : Below w2.heap.size w2 w3 := O5.below (fun _ h => h.elim) (Nat.le_refl _); have B43 := B42.kept hb3; have R3 := R2.kept hb3; have OO3 := OO2.then_ hb3; clear HT5 O5)
    | (have _ := B5; refine wpList_store_blk rfl 27 (.tmp 5) (.tmp 20) rfl g5 0 rfl (kind5 3) _ rfl rfl 27 _ B5 (by show 0 + 5 ≤ 5; decide) valStruct (by simp [kind5, Value.oneCell']) ?_; intro w4 B54 O4' hs4; clear B5; rw [lay_all zero5 (kind5 3) rfl] at B54; have R4 := R3.only O4' (fun i hi e => by omega); have B44 := B43.only O4' (by omega); have OO4 := OO3.trans O4' (fun i h => .inr (by omega)); have p0 : w4.cell? ⟨g5, 0, none⟩ = some (.int .i64 3) := B54.cell rfl; have hgg : ¬ g5 = g := (by have := hg5; omega); have z5 := B54.lt)
    | (have _ := HT; refine wpList_alloc_blk rfl 27 rfl zero5 _ zeroVal rfl ?_; intro g4 w1 B4 O4 hg4; have hb1 : Below w.heap.size w w1 := O4.below (fun _ h => h.elim) (Nat.le_refl _); have R1 := HH.out.kept hb1; clear HT O4))
  refine (HC2.out _ R4).mono ?_; rintro _ w5 ⟨s, rfl, hsx, R5, O5⟩
  have HSX := Lib.hid hsx
  have HSZ : Hid (s.size ≤ 140737488355328) := by have h1 : tx.length ≤ 1000 := HTL.out; have h2 := size_bytes s; rw [hsx] at h2; show s.size ≤ 140737488355328; have h3 : tx.length = s.size := h2; omega
  have B55 := B54.only O5 hgg
  have B45 := B44.only O5 (by omega)
  have OO5 := OO4.trans O5 (fun i h => .inl h)
  clear R4 B54 B44 p0 hsx
  go_wp2_with (first
    | (have _ := B55; refine wpList_store_blk rfl 9 (.tmp 46) (.tmp 45) rfl g5 2 rfl [.string s] _ rfl rfl 27 _ B55 (by show 2 + 1 ≤ 5; decide) sizeStr (by simp [Value.oneCell']) ?_; intro w6 B6 O6 hs6; clear B55; have R6 := R5.only O6 (fun i hi e => by omega); have B46 := B45.only O6 (by omega); have OO6 := OO5.trans O6 (fun i h => .inr (by omega)); have q9 := load_whole (.mk 3 0 s none 0 [] none 0 []) B6)
    | (have _ := q9; refine wpList_load_run rfl 27 (.tmp 5) rfl _ _ rfl q9 ?_; clear q9; have HT9 : Hid True := trivial)
    | (have _ := HT9; refine wpList_store_blk rfl 27 (.tmp 4) (.tmp 91) rfl g4 0 rfl (VA.cells (.mk 3 0 s none 0 [] none 0 [])) _ rfl rfl 27 _ B46 (by show 0 + 5 ≤ 5; decide) valStruct (by simp [VA.cells, Value.oneCell']) ?_; intro w9 B9 O9 hs9; clear HT9; rw [lay_all zero5 (VA.cells (.mk 3 0 s none 0 [] none 0 [])) rfl] at B9; have R9 := R6.only O9 (fun i hi e => by omega); have OO9 := OO6.trans O9 (fun i h => .inr (by omega))))
  try rw [Exit.noGoto_ret]
  refine bodyPost_ret (ret_cell1 Tryd.results50 _ w9 g4 (VA.cells (.mk 3 0 s none 0 [] none 0 [])) B9 (by rfl) _ Tryd.underlying27 rfl (by rw [cells_len]; exact valStruct)) rfl ?_
  rw [HE.out]
  exact ⟨(.mk 3 0 s none 0 [] none 0 []), rfl, (plain_value (w := w9) 3 0 s (fun i => w.heap.size ≤ i) (by decide) (by decide) HSZ.out).1, (plain_value (w := w9) 3 0 s (fun i => w.heap.size ≤ i) (by decide) (by decide) HSZ.out).2, by (show Vl.mk 3 0 (bytesOf s) [] [] = _; rw [HSX.out]), R9, OO9⟩
set_option maxRecDepth 20000 in
set_option maxHeartbeats 4000000 in
theorem read2a (fuel : Nat) (hf : fuel < 8) (g : Nat) (st : St) (w : World) (h : RD w g st) (hk : (numS 1 st).1 = 2) (hn : 1 < (numS 1 (numS 1 st).2).1) : ReadTo (fuel + 1) g st w := by
  have HE : Hid (rdV (fuel + 1) st = (.mk 2 (numS 1 (numS 1 st).2).1 [] [] [], failS 4 (numS 1 (numS 1 st).2).2)) := by unfold Hid; show bodyV (rdV fuel) st = _; unfold bodyV; simp [hk, hn]
  have HC := Lib.hid (fun w' (hw : RD w' g st) => single_rd g st w' hw)
  rw [hk] at HC
  have HR := Lib.hid (numS_range 1 (numS 1 st).2)
  generalize numS 1 st = q1 at HE HC HR hn
  obtain ⟨k0, st1⟩ := q1
  have HC2 := Lib.hid (fun w' (hw : RD w' g st1) => single_rd g st1 w' hw)
  generalize numS 1 st1 = q2 at HE HC2 HR hn
  obtain ⟨n, st2⟩ := q2
  have hn' : 1 < n := hn
  clear hn
  have HH := Lib.hid h
  have hlt := h.choose_spec.choose_spec.1.lt
  have ho : ((8 - ((fuel + 1 : Nat) : Int)) == 8) = false := by simp; omega
  generalize (8 - ((fuel + 1 : Nat) : Int)) = oth at ho
  unfold ReadTo
  have HT : Hid True := trivial
  clear h hk hf
  go_enter Tryd.func50, Tryd.ntmps50
  go_wp2_with (first
    | (go_at_call 60; refine (HC.out _ R1).mono ?_; rintro _ w2 ⟨rfl, R2, O2⟩; have B42 := B4.only O2 (by have := hg4; omega); have q2 := build_kind 2 w2; have z2 : w.heap.size ≤ w2.heap.size := Nat.le_trans hb1.size O2.size; have z4 := B42.lt; have OO2 := (Only.new (F := fun i => i = g) hb1).trans O2 (fun i h => .inl h))
    | (have _ := q2; refine wpList_build_run rfl 27 [(0, .tmp 19)] rfl [(0, .int .i64 2)] rfl _ q2 ?_; clear q2; have HT5 : Hid True := trivial)
    | (have _ := HT5; refine wpList_alloc_blk rfl 27 rfl zero5 _ zeroVal rfl ?_; intro g5 w3 B5 O5 hg5; have hb3 : Below w2.heap.size w2 w3 := O5.below (fun _ h => h.elim) (Nat.le_refl _); have B43 := B42.kept hb3; have R3 := R2.kept hb3; have OO3 := OO2.then_ hb3; clear HT5 O5)
    | (have _ := B5; refine wpList_store_blk rfl 27 (.tmp 5) (.tmp 20) rfl g5 0 rfl (kind5 2) _ rfl rfl 27 _ B5 (by show 0 + 5 ≤ 5; decide) valStruct (by simp [kind5, Value.oneCell']) ?_; intro w4 B54 O4' hs4; clear B5; rw [lay_all zero5 (kind5 2) rfl] at B54; have R4 := R3.only O4' (fun i hi e => by omega); have B44 := B43.only O4' (by omega); have OO4 := OO3.trans O4' (fun i h => .inr (by omega)); have p0 : w4.cell? ⟨g5, 0, none⟩ = some (.int .i64 2) := B54.cell rfl; have hgg : ¬ g5 = g := (by have := hg5; omega); have z5 := B54.lt)
    | (have _ := HT; refine wpList_alloc_blk rfl 27 rfl zero5 _ zeroVal rfl ?_; intro g4 w1 B4 O4 hg4; have hb1 : Below w.heap.size w w1 := O4.below (fun _ h => h.elim) (Nat.le_refl _); have R1 := HH.out.kept hb1; clear HT O4))
  refine (HC2.out _ R4).mono ?_; rintro _ w5 ⟨rfl, R5, O5⟩
  have B55 := B54.only O5 hgg
  have B45 := B44.only O5 (by omega)
  have OO5 := OO4.trans O5 (fun i h => .inl h)
  clear R4 B54 B44 p0
  go_wp2_with (first
    | (have _ := B55; refine wpList_store_blk rfl 3 (.tmp 36) (.tmp 35) rfl g5 1 rfl [.int .i64 n] _ rfl rfl 27 _ B55 (by show 1 + 1 ≤ 5; decide) sizeInt (by simp [Value.oneCell']) ?_; intro w6 B6 O6 hs6; clear B55; have R6 := R5.only O6 (fun i hi e => by omega); have B46 := B45.only O6 (by omega); have OO6 := OO5.trans O6 (fun i h => .inr (by omega)); have p1 : w6.cell? ⟨g5, 1, none⟩ = some (.int .i64 n) := B6.cell rfl; skip)
    | (go_at_call 59; refine (fail_any 4 g st2 _ R6 (by decide)).mono ?_; rintro _ w8 ⟨rfl, R8, O8⟩; have B68 := B6.only O8 hgg; have B48 := B46.only O8 (by omega); have OO8 := OO6.trans O8 (fun i h => .inl h); have q9 := load_whole (.mk 2 n ⟨#[]⟩ none 0 [] none 0 []) B68)
    | (have _ := q9; refine wpList_load_run rfl 27 (.tmp 5) rfl _ _ rfl q9 ?_; clear q9; have HT9 : Hid True := trivial)
    | (have _ := HT9; refine wpList_store_blk rfl 27 (.tmp 4) (.tmp 91) rfl g4 0 rfl (VA.cells (.mk 2 n ⟨#[]⟩ none 0 [] none 0 [])) _ rfl rfl 27 _ B48 (by show 0 + 5 ≤ 5; decide) valStruct (by simp [VA.cells, Value.oneCell']) ?_; intro w9 B9 O9 hs9; clear HT9; rw [lay_all zero5 (VA.cells (.mk 2 n ⟨#[]⟩ none 0 [] none 0 [])) rfl] at B9; have R9 := R8.only O9 (fun i hi e => by omega); have OO9 := OO8.trans O9 (fun i h => .inr (by omega))))
  try rw [Exit.noGoto_ret]
  refine bodyPost_ret (ret_cell1 Tryd.results50 _ w9 g4 (VA.cells (.mk 2 n ⟨#[]⟩ none 0 [] none 0 [])) B9 (by rfl) _ Tryd.underlying27 rfl (by rw [cells_len]; exact valStruct)) rfl ?_
  rw [HE.out]
  exact ⟨(.mk 2 n ⟨#[]⟩ none 0 [] none 0 []), rfl, (plain_value (w := w9) 2 n ⟨#[]⟩ (fun i => w.heap.size ≤ i) (by decide) HR.out empty_size).1, (plain_value (w := w9) 2 n ⟨#[]⟩ (fun i => w.heap.size ≤ i) (by decide) HR.out empty_size).2, by rfl, R9, OO9⟩
set_option maxRecDepth 20000 in
set_option maxHeartbeats 4000000 in
theorem read2b (fuel : Nat) (hf : fuel < 8) (g : Nat) (st : St) (w : World) (h : RD w g st) (hk : (numS 1 st).1 = 2) (hn : ¬ 1 < (numS 1 (numS 1 st).2).1) : ReadTo (fuel + 1) g st w := by
  have HE : Hid (rdV (fuel + 1) st = (.mk 2 (numS 1 (numS 1 st).2).1 [] [] [], (numS 1 (numS 1 st).2).2)) := by unfold Hid; show bodyV (rdV fuel) st = _; unfold bodyV; simp [hk, hn]
  have HC := Lib.hid (fun w' (hw : RD w' g st) => single_rd g st w' hw)
  rw [hk] at HC
  have HR := Lib.hid (numS_range 1 (numS 1 st).2)
  generalize numS 1 st = q1 at HE HC HR hn
  obtain ⟨k0, st1⟩ := q1
  have HC2 := Lib.hid (fun w' (hw : RD w' g st1) => single_rd g st1 w' hw)
  generalize numS 1 st1 = q2 at HE HC2 HR hn
  obtain ⟨n, st2⟩ := q2
  have hn' : ¬ 1 < n := hn
  clear hn
  have HH := Lib.hid h
  have hlt := h.choose_spec.choose_spec.1.lt
  have ho : ((8 - ((fuel + 1 : Nat) : Int)) == 8) = false := by simp; omega
  generalize (8 - ((fuel + 1 : Nat) : Int)) = oth at ho
  unfold ReadTo
  have HT : Hid True := trivial
  clear h hk hf
  go_enter Tryd.func50, Tryd.ntmps50
  go_wp2_with (first
    | (go_at_call 60; refine (HC.out _ R1).mono ?_; rintro _ w2 ⟨rfl, R2, O2⟩; have B42 := B4.only O2 (by have := hg4; omega); have q2 := build_kind 2 w2; have z2 : w.heap.size ≤ w2.heap.size := Nat.le_trans hb1.size O2.size; have z4 := B42.lt; have OO2 := (Only.new (F := fun i => i = g) hb1).trans O2 (fun i h => .inl h))
    | (have _ := q2; refine wpList_build_run rfl 27 [(0, .tmp 19)] rfl [(0, .int .i64 2)] rfl _ q2 ?_; clear q2; have HT5 : Hid True := trivial)
    | (have _ := HT5; refine wpList_alloc_blk rfl 27 rfl zero5 _ zeroVal rfl ?_; intro g5 w3 B5 O5 hg5; have hb3 : Below w2.heap.size w2 w3 := O5.below (fun _ h => h.elim) (Nat.le_refl _); have B43 := B42.kept hb3; have R3 := R2.kept hb3; have OO3 := OO2.then_ hb3; clear HT5 O5)
    | (have _ := B5; refine wpList_store_blk rfl 27 (.tmp 5) (.tmp 20) rfl g5 0 rfl (kind5 2) _ rfl rfl 27 _ B5 (by show 0 + 5 ≤ 5; decide) valStruct (by simp [kind5, Value.oneCell']) ?_; intro w4 B54 O4' hs4; clear B5; rw [lay_all zero5 (kind5 2) rfl] at B54; have R4 := R3.only O4' (fun i hi e => by omega); have B44 := B43.only O4' (by omega); have OO4 := OO3.trans O4' (fun i h => .inr (by omega)); have p0 : w4.cell? ⟨g5, 0, none⟩ = some (.int .i64 2) := B54.cell rfl; have hgg : ¬ g5 = g := (by have := hg5; omega); have z5 := B54.lt)
    | (have _ := HT; refine wpList_alloc_blk rfl 27 rfl zero5 _ zeroVal rfl ?_; intro g4 w1 B4 O4 hg4; have hb1 : Below w.heap.size w w1 := O4.below (fun _ h => h.elim) (Nat.le_refl _); have R1 := HH.out.kept hb1; clear HT O4))
  refine (HC2.out _ R4).mono ?_; rintro _ w5 ⟨rfl, R5, O5⟩
  have B55 := B54.only O5 hgg
  have B45 := B44.only O5 (by omega)
  have OO5 := OO4.trans O5 (fun i h => .inl h)
  clear R4 B54 B44 p0
  go_wp2_with (first
    | (have _ := B55; refine wpList_store_blk rfl 3 (.tmp 36) (.tmp 35) rfl g5 1 rfl [.int .i64 n] _ rfl rfl 27 _ B55 (by show 1 + 1 ≤ 5; decide) sizeInt (by simp [Value.oneCell']) ?_; intro w6 B6 O6 hs6; clear B55; have R6 := R5.only O6 (fun i hi e => by omega); have B46 := B45.only O6 (by omega); have OO6 := OO5.trans O6 (fun i h => .inr (by omega)); have p1 : w6.cell? ⟨g5, 1, none⟩ = some (.int .i64 n) := B6.cell rfl; have q9 := load_whole (.mk 2 n ⟨#[]⟩ none 0 [] none 0 []) B6)
    | (have _ := q9; refine wpList_load_run rfl 27 (.tmp 5) rfl _ _ rfl q9 ?_; clear q9; have HT9 : Hid True := trivial)
    | (have _ := HT9; refine wpList_store_blk rfl 27 (.tmp 4) (.tmp 91) rfl g4 0 rfl (VA.cells (.mk 2 n ⟨#[]⟩ none 0 [] none 0 [])) _ rfl rfl 27 _ B46 (by show 0 + 5 ≤ 5; decide) valStruct (by simp [VA.cells, Value.oneCell']) ?_; intro w9 B9 O9 hs9; clear HT9; rw [lay_all zero5 (VA.cells (.mk 2 n ⟨#[]⟩ none 0 [] none 0 [])) rfl] at B9; have R9 := R6.only O9 (fun i hi e => by omega); have OO9 := OO6.trans O9 (fun i h => .inr (by omega))))
  try rw [Exit.noGoto_ret]
  refine bodyPost_ret (ret_cell1 Tryd.results50 _ w9 g4 (VA.cells (.mk 2 n ⟨#[]⟩ none 0 [] none 0 [])) B9 (by rfl) _ Tryd.underlying27 rfl (by rw [cells_len]; exact valStruct)) rfl ?_
  rw [HE.out]
  exact ⟨(.mk 2 n ⟨#[]⟩ none 0 [] none 0 []), rfl, (plain_value (w := w9) 2 n ⟨#[]⟩ (fun i => w.heap.size ≤ i) (by decide) HR.out empty_size).1, (plain_value (w := w9) 2 n ⟨#[]⟩ (fun i => w.heap.size ≤ i) (by decide) HR.out empty_size).2, by rfl, R9, OO9⟩
set_option maxRecDepth 20000 in
set_option maxHeartbeats 4000000 in
theorem readX (fuel : Nat) (hf : fuel < 8) (g : Nat) (st : St) (w : World) (h : RD w g st) (hk : ¬ (numS 1 st).1 = 0 ∧ ¬ (numS 1 st).1 = 1 ∧ ¬ (numS 1 st).1 = 2 ∧ ¬ (numS 1 st).1 = 3 ∧ ¬ (numS 1 st).1 = 4 ∧ ¬ (numS 1 st).1 = 5 ∧ ¬ (numS 1 st).1 = 6) : ReadTo (fuel + 1) g st w := by
  have HE : Hid (rdV (fuel + 1) st = (.mk (numS 1 st).1 0 [] [] [], failS 4 (numS 1 st).2)) := by unfold Hid; show bodyV (rdV fuel) st = _; unfold bodyV; simp [hk]
  have HC := Lib.hid (fun w' (hw : RD w' g st) => single_rd g st w' hw)
  have HR := Lib.hid (numS_range 1 st)
  generalize numS 1 st = q1 at HE HC HR hk
  obtain ⟨k, st1⟩ := q1
  obtain ⟨k0, k1, k2, k3, k4, k5, k6⟩ := (id hk : ¬ k = 0 ∧ ¬ k = 1 ∧ ¬ k = 2 ∧ ¬ k = 3 ∧ ¬ k = 4 ∧ ¬ k = 5 ∧ ¬ k = 6)
  have f0 : (k == 0) = false := by simpa using k0
  have f1 : (k == 1) = false := by simpa using k1
  have f2 : (k == 2) = false := by simpa using k2
  have f3 : (k == 3) = false := by simpa using k3
  have f4 : (k == 4) = false := by simpa using k4
  have f5 : (k == 5) = false := by simpa using k5
  have f6 : (k == 6) = false := by simpa using k6
  clear k0 k1 k2 k3 k4 k5 k6
  have HH := Lib.hid h
  have hlt := h.choose_spec.choose_spec.1.lt
  have ho : ((8 - ((fuel + 1 : Nat) : Int)) == 8) = false := by simp; omega
  generalize (8 - ((fuel + 1 : Nat) : Int)) = oth at ho
  unfold ReadTo
  have HT : Hid True := trivial
  clear h hk hf
  go_enter Tryd.func50, Tryd.ntmps50
  go_wp2_with (first
    | (go_at_call 60; refine (HC.out _ R1).mono ?_; rintro _ w2 ⟨rfl, R2, O2⟩; have B42 := B4.only O2 (by have := hg4; omega); have q2 := build_kind k w2; have z2 : w.heap.size ≤ w2.heap.size := Nat.le_trans hb1.size O2.size; have z4 := B42.lt; have OO2 := (Only.new (F := fun i => i = g) hb1).trans O2 (fun i h => .inl h))
    | (have _ := q2; refine wpList_build_run rfl 27 [(0, .tmp 19)] rfl [(0, .int .i64 k)] rfl _ q2 ?_; clear q2; have HT5 : Hid True := trivial)
    | (have _ := HT5; refine wpList_alloc_blk rfl 27 rfl zero5 _ zeroVal rfl ?_; intro g5 w3 B5 O5 hg5; have hb3 : Below w2.heap.size w2 w3 := O5.below (fun _ h => h.elim) (Nat.le_refl _); have B43 := B42.kept hb3; have R3 := R2.kept hb3; have OO3 := OO2.then_ hb3; clear HT5 O5)
    | (have _ := B5; refine wpList_store_blk rfl 27 (.tmp 5) (.tmp 20) rfl g5 0 rfl (kind5 k) _ rfl rfl 27 _ B5 (by show 0 + 5 ≤ 5; decide) valStruct (by simp [kind5, Value.oneCell']) ?_; intro w4 B54 O4' hs4; clear B5; rw [lay_all zero5 (kind5 k) rfl] at B54; have R4 := R3.only O4' (fun i hi e => by omega); have B44 := B43.only O4' (by omega); have OO4 := OO3.trans O4' (fun i h => .inr (by omega)); have p0 : w4.cell? ⟨g5, 0, none⟩ = some (.int .i64 k) := B54.cell rfl; have hgg : ¬ g5 = g := (by have := hg5; omega); have z5 := B54.lt)
    | (have _ := HT; refine wpList_alloc_blk rfl 27 rfl zero5 _ zeroVal rfl ?_; intro g4 w1 B4 O4 hg4; have hb1 : Below w.heap.size w w1 := O4.below (fun _ h => h.elim) (Nat.le_refl _); have R1 := HH.out.kept hb1; clear HT O4))
  refine (fail_any 4 g st1 _ R4 (by decide)).mono ?_; rintro _ w8 ⟨rfl, R8, O8⟩
  have B58 := B54.only O8 hgg
  have B48 := B44.only O8 (by omega)
  have OO8 := OO4.trans O8 (fun i h => .inl h)
  have q9 := load_whole (.mk k 0 ⟨#[]⟩ none 0 [] none 0 []) B58
  go_wp2_with (first
    | (have _ := q9; refine wpList_load_run rfl 27 (.tmp 5) rfl _ _ rfl q9 ?_; clear q9; have HT9 : Hid True := trivial)
    | (have _ := HT9; refine wpList_store_blk rfl 27 (.tmp 4) (.tmp 91) rfl g4 0 rfl (VA.cells (.mk k 0 ⟨#[]⟩ none 0 [] none 0 [])) _ rfl rfl 27 _ B48 (by show 0 + 5 ≤ 5; decide) valStruct (by simp [VA.cells, Value.oneCell']) ?_; intro w9 B9 O9 hs9; clear HT9; rw [lay_all zero5 (VA.cells (.mk k 0 ⟨#[]⟩ none 0 [] none 0 [])) rfl] at B9; have R9 := R8.only O9 (fun i hi e => by omega); have OO9 := OO8.trans O9 (fun i h => .inr (by omega))))
  try rw [Exit.noGoto_ret]
  refine bodyPost_ret (ret_cell1 Tryd.results50 _ w9 g4 (VA.cells (.mk k 0 ⟨#[]⟩ none 0 [] none 0 [])) B9 (by rfl) _ Tryd.underlying27 rfl (by rw [cells_len]; exact valStruct)) rfl ?_
  rw [HE.out]
  exact ⟨(.mk k 0 ⟨#[]⟩ none 0 [] none 0 []), rfl, (plain_value (w := w9) k 0 ⟨#[]⟩ (fun i => w.heap.size ≤ i) HR.out (by decide) empty_size).1, (plain_value (w := w9) k 0 ⟨#[]⟩ (fun i => w.heap.size ≤ i) HR.out (by decide) empty_size).2, by rfl, R9, OO9⟩
end Go.Proofs.YtnlhajhbmkhnjabDoor.ValW

/- The program's reader: a list. -/


namespace Go.Proofs.YtnlhajhbmkhnjabDoor.ValW
open Go.RowKit Wd ValM
theorem rdL_zero (f : St → Vl × St) (st : St) : rdL f 0 st = ([], st) := rfl
theorem rdL_succ (f : St → Vl × St) (n : Nat) (st : St) : rdL f (n + 1) st = ((f st).1 :: (rdL f n (f st).2).1, (rdL f n (f st).2).2) := rfl
theorem infoVal' : (Tryd.prog.info? 27).map (fun i => (i.zero, i.size, i.bytes)) = some (some (.agg zero5.toArray), 5, 80) := by kernel_rfl
theorem infoLs : (Tryd.prog.info? 24).map (·.size) = some 1 := by kernel_rfl
/-- A value's cells behind its kind, with a list that grows. -/
def kindL (k : Int) (v u : Value) : List Value := [.int .i64 k, .int .i64 0, .string ⟨#[]⟩, v, u]
theorem cells_one (y : VA) : ∀ u ∈ y.cells, u.oneCell' = true := by cases y; simp [VA.cells, Value.oneCell']
set_option maxRecDepth 20000 in
set_option maxHeartbeats 8000000 in
theorem read4 (fuel : Nat) (hf : fuel < 8) (ih : ∀ g st w, RD w g st → ReadTo fuel g st w) (g : Nat) (st : St) (w : World) (h : RD w g st) (hk : (numS 1 st).1 = 4) : ReadTo (fuel + 1) g st w := by
  obtain ⟨i0, hi, hz0, hz1, hz2⟩ := info_parts infoVal'
  have HE : Hid (rdV (fuel + 1) st = (.mk 4 0 [] (rdL (rdV fuel) (countS 32 (numS 1 st).2).1.toNat (countS 32 (numS 1 st).2).2).1 [], (rdL (rdV fuel) (countS 32 (numS 1 st).2).1.toNat (countS 32 (numS 1 st).2).2).2)) := by unfold Hid; show bodyV (rdV fuel) st = _; unfold bodyV; simp [hk]
  have HC := Lib.hid (fun w' (hw : RD w' g st) => single_rd g st w' hw)
  rw [hk] at HC
  have HIH := Lib.hid ih
  generalize numS 1 st = q1 at HE HC
  obtain ⟨k0, st1⟩ := q1
  have HC2 := Lib.hid (fun w' (hw : RD w' g st1) => count_rd 32 g st1 w' hw)
  have hcn := count_nat 32 st1
  rw [show (((32 : Nat) : Int)) = 32 from rfl] at hcn
  generalize countS 32 st1 = q2 at HE HC2 hcn
  obtain ⟨x, st2⟩ := q2
  obtain ⟨m, rfl⟩ : ∃ m : Nat, x = (m : Int) := ⟨x.toNat, by simp at hcn; omega⟩
  have hm : m ≤ 32 := by simp at hcn; omega
  have HE2 : Hid (rdV (fuel + 1) st = (.mk 4 0 [] (rdL (rdV fuel) m st2).1 [], (rdL (rdV fuel) m st2).2)) := by unfold Hid; rw [HE.out]; simp
  have HM := Lib.hid hm
  clear HE hcn hm ih
  have HH := Lib.hid h
  have hlt := h.choose_spec.choose_spec.1.lt
  have ho : ((8 - ((fuel + 1 : Nat) : Int)) == 8) = false := by simp; omega
  have ho2 : (8 - ((fuel + 1 : Nat) : Int)) + 1 = 8 - (fuel : Int) := by omega
  have ho3 : -9 ≤ (8 - ((fuel + 1 : Nat) : Int)) := by omega
  have ho4 : (8 - ((fuel + 1 : Nat) : Int)) ≤ 8 := by omega
  have ho5 : IntKind.i64.wrap (8 - (fuel : Int)) = 8 - (fuel : Int) := IntWalk.i64_in _ (by omega)
  unfold ReadTo
  generalize (8 - ((fuel + 1 : Nat) : Int)) = oth at ho ho2 ho3 ho4 ⊢
  have HT : Hid True := trivial
  clear h hk hf
  go_enter Tryd.func50, Tryd.ntmps50
  go_wp2_with (first
    | (go_at_call 60; refine (HC.out _ R1).mono ?_; rintro _ w2 ⟨rfl, R2, O2⟩; have B42 := B4.only O2 (by have := hg4; omega); have q2 := build_kind 4 w2; have z2 : w.heap.size ≤ w2.heap.size := Nat.le_trans hb1.size O2.size; have z4 := B42.lt; have OO2 := (Only.new (F := fun i => i = g) hb1).trans O2 (fun i h => .inl h))
    | (have _ := q2; refine wpList_build_run rfl 27 [(0, .tmp 19)] rfl [(0, .int .i64 4)] rfl _ q2 ?_; clear q2; have HT5 : Hid True := trivial)
    | (have _ := HT5; refine wpList_alloc_blk rfl 27 rfl zero5 _ zeroVal rfl ?_; intro g5 w3 B5 O5 hg5; have hb3 : Below w2.heap.size w2 w3 := O5.below (fun _ h => h.elim) (Nat.le_refl _); have B43 := B42.kept hb3; have R3 := R2.kept hb3; have OO3 := OO2.then_ hb3; clear HT5 O5)
    | (have _ := B5; refine wpList_store_blk rfl 27 (.tmp 5) (.tmp 20) rfl g5 0 rfl (kind5 4) _ rfl rfl 27 _ B5 (by show 0 + 5 ≤ 5; decide) valStruct (by simp [kind5, Value.oneCell']) ?_; intro w4 B54 O4' hs4; clear B5; rw [lay_all zero5 (kind5 4) rfl] at B54; have R4 := R3.only O4' (fun i hi e => by omega); have B44 := B43.only O4' (by omega); have OO4 := OO3.trans O4' (fun i h => .inr (by omega)); have p0 : w4.cell? ⟨g5, 0, none⟩ = some (.int .i64 4) := B54.cell rfl; have hgg : ¬ g5 = g := (by have := hg5; omega); have z5 := B54.lt)
    | (have _ := HT; refine wpList_alloc_blk rfl 27 rfl zero5 _ zeroVal rfl ?_; intro g4 w1 B4 O4 hg4; have hb1 : Below w.heap.size w w1 := O4.below (fun _ h => h.elim) (Nat.le_refl _); have R1 := HH.out.kept hb1; clear HT O4))
  refine (HC2.out _ R4).mono ?_; rintro _ w5 ⟨rfl, R5, O5⟩
  have B55 := B54.only O5 hgg
  have B45 := B44.only O5 (by omega)
  have OO5 := OO4.trans O5 (fun i h => .inl h)
  have z6 : w4.heap.size ≤ w5.heap.size := O5.size
  clear R4 B54 B44 p0 R3 B43 B42 R2 R1 OO4 OO3 OO2 O5 O4' O2 B4
  go_wp2_with fail
  go_loopw [51] (fun u wr => ∃ (i : Nat) (ys : List VA) (sti : St) (v : Value), u = .int .i64 (i : Int) ∧ i ≤ m ∧ ys.length = i ∧ rdL (rdV fuel) m st2 = (ys.map VA.val ++ (rdL (rdV fuel) (m - i) sti).1, (rdL (rdV fuel) (m - i) sti).2) ∧ ListV wr w4.heap.size ys v ∧ Block wr g5 27 (kindL 4 v (.slice none 0 0)) ∧ Block wr g4 27 zero5 ∧ RD wr g sti ∧ Only (fun i => i = g) w wr ∧ w4.heap.size ≤ wr.heap.size) (fun u _ => m - (intOf u).toNat)
  case atStart => exact ⟨0, [], st2, .slice none 0 0, rfl, Nat.zero_le _, rfl, by simp, listV_nil _ _, B55, B45, R5, OO5, z6⟩
  case round =>
    clear R5 B55 B45 OO5
    obtain ⟨i, ys, sti, v, rfl, him, hyl, hrd, hL, BR5, BR4, RR, OR, hsz⟩ := hrel
    rename_i wr _
    have HYL := Lib.hid hyl
    have HRD := Lib.hid hrd
    clear hyl hrd
    by_cases hlt2 : i < m
    · have hi0 : (0 : Int) ≤ (i : Int) := by omega
      have hi1 : (i : Int) < (m : Int) := by omega
      have hi3 : (i : Int) ≤ 32 := by have := HM.out; omega
      have HRS : Hid (rdL (rdV fuel) (m - i) sti = ((rdV fuel sti).1 :: (rdL (rdV fuel) (m - (i + 1)) (rdV fuel sti).2).1, (rdL (rdV fuel) (m - (i + 1)) (rdV fuel sti).2).2)) := by
        unfold Hid
        rw [show m - i = (m - (i + 1)) + 1 by omega, rdL_succ]
      go_wp2_with fail
      refine region_steps [.tk 0, .tk 1, .tk 2, .tk 3, .tk 4, .al 5, .al 6, .al 7, .tk 8, .al 9] 9 (fun z => Block z g5 27 (kindL 4 v (.slice none 0 0)))
        (by kernel_rfl) (by kernel_rfl) rfl (by kernel_rfl) (fun dd _ _ _ _ h => by cases dd <;> exact h) ?_
      intro wd hwd
      have hS : Block wd g5 27 (kindL 4 v (.slice none 0 0)) := by rw [hwd]; exact BR5.drew
      have hdr : Below wr.heap.size wr wd := by rw [hwd]; exact (Below.refl _ _).drew
      have Rd := RR.kept hdr
      have Ld := hL.kept hdr
      have B4d := BR4.kept hdr
      have Od := OR.then_ hdr
      have hsd : w4.heap.size ≤ wd.heap.size := Nat.le_trans hsz hdr.size
      clear hwd hdr RR hL BR4 BR5 OR hsz
      obtain ⟨A0, c0, rfl, _⟩ := own_slice' Ld.1
      repeat (first
        | (refine steps_take rfl rfl hS ?_
           apply Exists.intro
           constructor
           · intro v hv
             have q3 : v.cell? ⟨g5, 3, none⟩ = some (.slice A0 ys.length c0) := hv.cell rfl
             clear hv
             go_simp
             try with_reducible rfl
           simp only [Act.put, List.setIfInBounds_toArray, List.set_cons_zero, List.set_cons_succ])
        | (refine steps_skip rfl rfl hS ?_
           simp only [Act.put, List.setIfInBounds_toArray, List.set_cons_zero, List.set_cons_succ]))
      refine steps_do rfl (by rfl) (fun KK hKK => ?_)
      go_simp
      refine (HIH.out g sti wd Rd).mono ?_; rintro _ w6 ⟨y, rfl, Y6, N6, hyv, R6, O6⟩
      have HYV := Lib.hid hyv
      have L6 := Ld.only O6 (fun i h => .inl (by omega))
      have S6 := hS.only O6 hgg
      have B46 := B4d.only O6 (by omega)
      have OR6 := only_then Od O6
      have HOL := Lib.hid Ld.own_lt
      have hs6 : w4.heap.size ≤ w6.heap.size := Nat.le_trans hsd O6.size
      refine hKK _ _ (fun _ => S6) ?_
      clear hKK KK hS Ld B4d Od Rd O6 hyv
      try simp only [Act.put, List.setIfInBounds_toArray, List.set_cons_zero, List.set_cons_succ]
      refine steps_do rfl (by rfl) (fun KK hKK => ?_)
      refine wp_build1_blk 24 27 (.tmp 58) rfl Tryd.underlying24 y.cells (by rw [cells_len]; exact valStruct) (by rw [cells_len]; decide) (by rw [cells_len]; decide) _ zeroVal y.arg rfl rfl ?_; intro g7 w7 B7 O7 hg7
      have hb7 : Below w6.heap.size w6 w7 := O7.below (fun _ h => h.elim) (Nat.le_refl _)
      have S7 := S6.kept hb7
      have L7 := L6.kept hb7
      have Y7 := Y6.kept hb7
      have R7 := R6.kept hb7
      have B47 := B46.kept hb7
      have OR7 := OR6.then_ hb7
      refine hKK _ _ (fun _ => S7) ?_
      clear hKK KK S6 L6 Y6 R6 B46 OR6 O7
      try simp only [Act.put, List.setIfInBounds_toArray, List.set_cons_zero, List.set_cons_succ]
      refine steps_do rfl (by rfl) (fun KK hKK => ?_)
      refine wp_append_lies w7 _ _ 24 rfl w4.heap.size 27 i0 _ 5 80 Tryd.underlying24 hi hz0 hz1 hz2 rfl (by decide) (.slice A0 ys.length c0) ys.length (flat VA.cells ys) rfl L7.1 ⟨g7, 0, none⟩ 1 1 y.cells rfl (by rw [cells_len]) (fun j u hu => by rw [Addr.add_lit, Nat.zero_add]; exact B7.cell hu) (cells_one y) (by decide) (by unfold maxLen; have := HM.out; have := HYL.out; omega) (by have := HM.out; have := HYL.out; omega) (by have := hb7.size; omega) _ rfl ?_
      intro g8 cap8 w8 hown8 hgr8 hl8 hlt8
      have hO8 := Only.grownBy hgr8
      have hob : ∀ j, (Value.slice A0 ys.length c0).ownBlock = some j → w4.heap.size ≤ j := fun j e => (L7.1.lt j e).1
      have L8 := ListV.push (B := wd.heap.size) L7 Y7 N6 (fun j e => HOL.out j e) hsd hown8 hgr8 hl8
      have S8 := S7.only hO8 (fun e => by have := hob _ e; omega)
      have B48 := B47.only hO8 (fun e => by have := hob _ e; omega)
      have R8 := R7.only hO8 (fun j hj e => by have := hob _ e; omega)
      have OR8 := OR7.trans hO8 (fun j e => .inr (by have := hob _ e; omega))
      have hs8 : w4.heap.size ≤ w8.heap.size := by have := hO8.size; have := hb7.size; omega
      refine hKK _ _ (fun _ => S8) ?_
      clear hKK KK S7 L7 Y7 R7 B47 OR7 hown8 hgr8 hO8 hob B7 hb7
      try simp only [Act.put, List.setIfInBounds_toArray, List.set_cons_zero, List.set_cons_succ]
      repeat (first
        | (refine steps_take rfl rfl S8 ?_
           apply Exists.intro
           constructor
           · intro v hv
             go_simp
             try with_reducible rfl
           simp only [Act.put, List.setIfInBounds_toArray, List.set_cons_zero, List.set_cons_succ])
        | (refine steps_skip rfl rfl S8 ?_
           simp only [Act.put, List.setIfInBounds_toArray, List.set_cons_zero, List.set_cons_succ]))
      refine steps_do rfl (by rfl) (fun KK hKK => ?_)
      refine wp_store_blk 24 (.tmp 61) (.tmp 60) rfl g5 3 rfl [.slice (some ⟨g8, 0, none⟩) (ys.length + 1) cap8] _ rfl rfl 27 _ S8 (by show 3 + 1 ≤ 5; decide) infoLs (by simp [Value.oneCell']) ?_
      intro w9 B9 O9 hs9
      have L9 := L8.only O9 (fun j e => .inl (by omega))
      have B49 := B48.only O9 (by omega)
      have R9 := R8.only O9 (fun j hj e => by omega)
      have OR9 := OR8.trans O9 (fun j e => .inr (by omega))
      refine hKK _ _ (fun hz => absurd hz (by decide)) ?_
      clear hKK KK
      try simp only [Act.put]
      refine steps_end ?_
      go_wp2_with fail
      have hfin : rdL (rdV fuel) m st2 = ((ys ++ [y]).map VA.val ++ (rdL (rdV fuel) (m - (i + 1)) (rdV fuel sti).2).1, (rdL (rdV fuel) (m - (i + 1)) (rdV fuel sti).2).2) := by
        rw [HRD.out, HRS.out, List.map_append, List.append_assoc]
        simp [HYV.out]
      have HFIN := Lib.hid hfin
      clear hfin
      have B9' : Block w9 g5 27 (kindL 4 (.slice (some ⟨g8, 0, none⟩) (ys.length + 1) cap8) (.slice none 0 0)) := B9
      go_roundw
      case rel => exact ⟨i + 1, ys ++ [y], (rdV fuel sti).2, .slice (some ⟨g8, 0, none⟩) (ys.length + 1) cap8, by simp, hlt2, by rw [List.length_append, HYL.out]; rfl, HFIN.out, L9, B9', B49, R9, OR9, by rw [hs9]; exact hs8⟩
      case measure => simp [intOf]; omega
    · have hie : i = m := by omega
      have hi1 : ¬ (i : Int) < (m : Int) := by omega
      obtain ⟨A0, c0, rfl, _⟩ := own_slice' hL.1
      have HV : Hid ((rdV (fuel + 1) st) = (.mk 4 0 [] (ys.map VA.val) [], sti)) := by
        unfold Hid
        rw [HE2.out, HRD.out, show m - i = 0 by omega, rdL_zero]; simp
      have hyl2 : ys.length ≤ 1000 := by have := HYL.out; have := HM.out; omega
      have HY2 := Lib.hid hyl2
      have q9 := load_whole (.mk 4 0 ⟨#[]⟩ A0 c0 ys none 0 []) BR5
      clear hie hyl2
      go_wp2_with (first
        | (have _ := q9; refine wpList_load_run rfl 27 (.tmp 5) rfl _ _ rfl q9 ?_; clear q9; have HT9 : Hid True := trivial)
        | (have _ := HT9; refine wpList_store_blk rfl 27 (.tmp 4) (.tmp 91) rfl g4 0 rfl (VA.cells (.mk 4 0 ⟨#[]⟩ A0 c0 ys none 0 [])) _ rfl rfl 27 _ BR4 (by show 0 + 5 ≤ 5; decide) valStruct (by simp [VA.cells, Value.oneCell']) ?_; intro w9 B9 O9 hs9; clear HT9; rw [lay_all zero5 (VA.cells (.mk 4 0 ⟨#[]⟩ A0 c0 ys none 0 [])) rfl] at B9; have R9 := RR.only O9 (fun i hi e => by omega); have OO9 := OR.trans O9 (fun i h => .inr (by omega))))
      try rw [Exit.noGoto_ret]
      refine bodyPost_ret (ret_cell1 Tryd.results50 _ w9 g4 (VA.cells (.mk 4 0 ⟨#[]⟩ A0 c0 ys none 0 [])) B9 (by rfl) _ Tryd.underlying27 rfl (by rw [cells_len]; exact valStruct)) rfl ?_
      rw [HV.out]
      have L9 := hL.only O9 (fun j e => .inl (by omega))
      obtain ⟨h1, h2⟩ := made_value (k := 4) (n := 0) (s := ⟨#[]⟩) (N := []) (NA := none) (nc := 0) (nn := 0) (by decide) (by decide) empty_size L9 rfl (World.ownsRow_nil _ _ _ _) rfl HY2.out (by decide) (fun _ h => by cases h)
      exact ⟨_, rfl, h1, h2.mono fun j hj => by omega, by simp [VA.val, valL_map, bytesOf], R9, OO9⟩
end Go.Proofs.YtnlhajhbmkhnjabDoor.ValW

/- The program's reader: a record. -/

namespace Go.Proofs.YtnlhajhbmkhnjabDoor.ValW
open Go.RowKit Wd ValM
theorem rdR_zero (f : St → Vl × St) (st : St) : rdR f 0 st = (([], []), st) := rfl
theorem rdR_succ (f : St → Vl × St) (n : Nat) (st : St) : rdR f (n + 1) st = (((textS 16 st).1 :: (rdR f n (f (textS 16 st).2).2).1.1, (f (textS 16 st).2).1 :: (rdR f n (f (textS 16 st).2).2).1.2), (rdR f n (f (textS 16 st).2).2).2) := rfl
theorem textS_len (most : Nat) (st : St) : (textS (most : Int) st).1.length ≤ most := by
  have h1 := takeS_len (countS most st).1.toNat (countS most st).2
  have h2 := count_nat most st
  unfold textS; omega
theorem infoStr' : (Tryd.prog.info? 9).map (fun i => (i.zero, i.size, i.bytes)) = some (some (.string ⟨#[]⟩), 1, 16) := by kernel_rfl
theorem infoSs : (Tryd.prog.info? 25).map (·.size) = some 1 := by kernel_rfl
theorem zeroStr : (Tryd.prog.info? 9).map (·.zero) = some (some (.string ⟨#[]⟩)) := by kernel_rfl
theorem ListV.apart {w w' : World} {base : Nat} {ys : List VA} {v : Value} {F : Nat → Prop} (h : ListV w base ys v) (hO : Only F w w') (hF : ∀ g, v.ownBlock = some g → ¬ F g) (hy : ∀ y ∈ ys, VOn (fun i => ¬ F i) y) : ListV w' base ys v :=
  ⟨owns_only h.1 hO hF, fun y h' => ⟨(h.2 y h').1.only (hy y h') hO, (h.2 y h').2⟩⟩
set_option maxRecDepth 20000 in
set_option maxHeartbeats 8000000 in
theorem read5 (fuel : Nat) (hf : fuel < 8) (ih : ∀ g st w, RD w g st → ReadTo fuel g st w) (g : Nat) (st : St) (w : World) (h : RD w g st) (hk : (numS 1 st).1 = 5) : ReadTo (fuel + 1) g st w := by
  obtain ⟨i0, hi, hz0, hz1, hz2⟩ := info_parts infoVal'
  obtain ⟨i1, hi1', hs0, hs1, hs2⟩ := info_parts infoStr'
  have HE : Hid (rdV (fuel + 1) st = (.mk 5 0 [] (rdR (rdV fuel) (countS 8 (numS 1 st).2).1.toNat (countS 8 (numS 1 st).2).2).1.2 (rdR (rdV fuel) (countS 8 (numS 1 st).2).1.toNat (countS 8 (numS 1 st).2).2).1.1, (rdR (rdV fuel) (countS 8 (numS 1 st).2).1.toNat (countS 8 (numS 1 st).2).2).2)) := by unfold Hid; show bodyV (rdV fuel) st = _; unfold bodyV; simp [hk]
  have HC := Lib.hid (fun w' (hw : RD w' g st) => single_rd g st w' hw)
  rw [hk] at HC
  have HIH := Lib.hid ih
  generalize numS 1 st = q1 at HE HC
  obtain ⟨k0, st1⟩ := q1
  have HC2 := Lib.hid (fun w' (hw : RD w' g st1) => count_rd 8 g st1 w' hw)
  have hcn := count_nat 8 st1
  rw [show (((8 : Nat) : Int)) = 8 from rfl] at hcn
  generalize countS 8 st1 = q2 at HE HC2 hcn
  obtain ⟨x, st2⟩ := q2
  obtain ⟨m, rfl⟩ : ∃ m : Nat, x = (m : Int) := ⟨x.toNat, by simp at hcn; omega⟩
  have hm : m ≤ 8 := by simp at hcn; omega
  have HE2 : Hid (rdV (fuel + 1) st = (.mk 5 0 [] (rdR (rdV fuel) m st2).1.2 (rdR (rdV fuel) m st2).1.1, (rdR (rdV fuel) m st2).2)) := by unfold Hid; rw [HE.out]; simp
  have HM := Lib.hid hm
  clear HE hcn hm ih
  have HH := Lib.hid h
  have hlt := h.choose_spec.choose_spec.1.lt
  have ho : ((8 - ((fuel + 1 : Nat) : Int)) == 8) = false := by simp; omega
  have ho2 : (8 - ((fuel + 1 : Nat) : Int)) + 1 = 8 - (fuel : Int) := by omega
  have ho3 : -9 ≤ (8 - ((fuel + 1 : Nat) : Int)) := by omega
  have ho4 : (8 - ((fuel + 1 : Nat) : Int)) ≤ 8 := by omega
  have ho5 : IntKind.i64.wrap (8 - (fuel : Int)) = 8 - (fuel : Int) := IntWalk.i64_in _ (by omega)
  unfold ReadTo
  generalize (8 - ((fuel + 1 : Nat) : Int)) = oth at ho ho2 ho3 ho4 ⊢
  have HT : Hid True := trivial
  clear h hk hf
  go_enter Tryd.func50, Tryd.ntmps50
  go_wp2_with (first
    | (go_at_call 60; refine (HC.out _ R1).mono ?_; rintro _ w2 ⟨rfl, R2, O2⟩; have B42 := B4.only O2 (by have := hg4; omega); have q2 := build_kind 5 w2; have z2 : w.heap.size ≤ w2.heap.size := Nat.le_trans hb1.size O2.size; have z4 := B42.lt; have OO2 := (Only.new (F := fun i => i = g) hb1).trans O2 (fun i h => .inl h))
    | (have _ := q2; refine wpList_build_run rfl 27 [(0, .tmp 19)] rfl [(0, .int .i64 5)] rfl _ q2 ?_; clear q2; have HT5 : Hid True := trivial)
    | (have _ := HT5; refine wpList_alloc_blk rfl 27 rfl zero5 _ zeroVal rfl ?_; intro g5 w3 B5 O5 hg5; have hb3 : Below w2.heap.size w2 w3 := O5.below (fun _ h => h.elim) (Nat.le_refl _); have B43 := B42.kept hb3; have R3 := R2.kept hb3; have OO3 := OO2.then_ hb3; clear HT5 O5)
    | (have _ := B5; refine wpList_store_blk rfl 27 (.tmp 5) (.tmp 20) rfl g5 0 rfl (kind5 5) _ rfl rfl 27 _ B5 (by show 0 + 5 ≤ 5; decide) valStruct (by simp [kind5, Value.oneCell']) ?_; intro w4 B54 O4' hs4; clear B5; rw [lay_all zero5 (kind5 5) rfl] at B54; have R4 := R3.only O4' (fun i hi e => by omega); have B44 := B43.only O4' (by omega); have OO4 := OO3.trans O4' (fun i h => .inr (by omega)); have p0 : w4.cell? ⟨g5, 0, none⟩ = some (.int .i64 5) := B54.cell rfl; have hgg : ¬ g5 = g := (by have := hg5; omega); have z5 := B54.lt)
    | (have _ := HT; refine wpList_alloc_blk rfl 27 rfl zero5 _ zeroVal rfl ?_; intro g4 w1 B4 O4 hg4; have hb1 : Below w.heap.size w w1 := O4.below (fun _ h => h.elim) (Nat.le_refl _); have R1 := HH.out.kept hb1; clear HT O4))
  refine (HC2.out _ R4).mono ?_; rintro _ w5 ⟨rfl, R5, O5⟩
  have B55 := B54.only O5 hgg
  have B45 := B44.only O5 (by omega)
  have OO5 := OO4.trans O5 (fun i h => .inl h)
  have z6 : w4.heap.size ≤ w5.heap.size := O5.size
  clear R4 B54 B44 p0 R3 B43 B42 R2 R1 OO4 OO3 OO2 O5 O4' O2 B4
  go_wp2_with fail
  go_loopw [67] (fun q wr => ∃ (i : Nat) (ys : List VA) (N : List ByteArray) (sti : St) (v u : Value), q = .int .i64 (i : Int) ∧ i ≤ m ∧ (ys.length = i ∧ N.length = i ∧ ∀ t ∈ N, t.size ≤ 1000) ∧ rdR (rdV fuel) m st2 = ((N.map bytesOf ++ (rdR (rdV fuel) (m - i) sti).1.1, ys.map VA.val ++ (rdR (rdV fuel) (m - i) sti).1.2), (rdR (rdV fuel) (m - i) sti).2) ∧ ListV wr w4.heap.size ys v ∧ wr.ownsRow w4.heap.size 9 1 u N.length (strs N) ∧ (∀ y ∈ ys, VOn (fun j => u.ownBlock ≠ some j) y) ∧ Block wr g5 27 (kindL 5 v u) ∧ Block wr g4 27 zero5 ∧ RD wr g sti ∧ Only (fun i => i = g) w wr ∧ w4.heap.size ≤ wr.heap.size) (fun q _ => m - (intOf q).toNat)
  case atStart => exact ⟨0, [], [], st2, .slice none 0 0, .slice none 0 0, rfl, Nat.zero_le _, ⟨rfl, rfl, (by intro _ h; cases h)⟩, by simp, listV_nil _ _, World.ownsRow_nil _ _ _ _, (by intro _ h; cases h), B55, B45, R5, OO5, z6⟩
  case round =>
    clear R5 B55 B45 OO5
    obtain ⟨i, ys, N, sti, v, u, rfl, him, ⟨hyl, hnl, hns⟩, hrd, hL, hN, hap, BR5, BR4, RR, OR, hsz⟩ := hrel
    rename_i wr _
    have HYL := Lib.hid hyl
    have HNL := Lib.hid hnl
    have HNS := Lib.hid hns
    have HRD := Lib.hid hrd
    have HAP := Lib.hid hap
    clear hyl hrd hnl hns hap
    by_cases hlt2 : i < m
    · have hi0 : (0 : Int) ≤ (i : Int) := by omega
      have hi1 : (i : Int) < (m : Int) := by omega
      have hi3 : (i : Int) ≤ 8 := by have := HM.out; omega
      have HRS : Hid (rdR (rdV fuel) (m - i) sti = (((textS 16 sti).1 :: (rdR (rdV fuel) (m - (i + 1)) (rdV fuel (textS 16 sti).2).2).1.1, (rdV fuel (textS 16 sti).2).1 :: (rdR (rdV fuel) (m - (i + 1)) (rdV fuel (textS 16 sti).2).2).1.2), (rdR (rdV fuel) (m - (i + 1)) (rdV fuel (textS 16 sti).2).2).2)) := by
        unfold Hid
        rw [show m - i = (m - (i + 1)) + 1 by omega, rdR_succ]
      have HTL : Hid ((textS 16 sti).1.length ≤ 1000) := Nat.le_trans (textS_len 16 sti) (by decide)
      have hct := fun w' (hw : RD w' g sti) => text_rd 16 (by decide) g sti w' hw
      rw [show (((16 : Nat) : Int)) = 16 from rfl] at hct
      have HCT := Lib.hid hct
      clear hct
      generalize textS 16 sti = tq at HRS HTL HCT
      obtain ⟨tx, stt⟩ := tq
      go_wp2_with fail
      refine region_steps [.tk 0, .tk 1, .tk 2, .al 3, .al 4, .al 5, .tk 6, .al 7] 7 (fun z => Block z g5 27 (kindL 5 v u))
        (by kernel_rfl) (by kernel_rfl) rfl (by kernel_rfl) (fun dd _ _ _ _ h => by cases dd <;> exact h) ?_
      intro wd hwd
      have hS : Block wd g5 27 (kindL 5 v u) := by rw [hwd]; exact BR5.drew
      have hdr : Below wr.heap.size wr wd := by rw [hwd]; exact (Below.refl _ _).drew
      have Rd := RR.kept hdr
      have Ld := hL.kept hdr
      have Nd := owns_kept hN hdr
      have B4d := BR4.kept hdr
      have Od := OR.then_ hdr
      have hsd : w4.heap.size ≤ wd.heap.size := Nat.le_trans hsz hdr.size
      clear hwd hdr RR hL hN BR4 BR5 OR hsz
      obtain ⟨A1, c1, rfl, _⟩ := own_slice' Nd
      repeat (first
        | (refine steps_take rfl rfl hS ?_
           apply Exists.intro
           constructor
           · intro v hv
             have q4 : v.cell? ⟨g5, 4, none⟩ = some (.slice A1 N.length c1) := hv.cell rfl
             clear hv
             go_simp
             try with_reducible rfl
           simp only [Act.put, List.setIfInBounds_toArray, List.set_cons_zero, List.set_cons_succ])
        | (refine steps_skip rfl rfl hS ?_
           simp only [Act.put, List.setIfInBounds_toArray, List.set_cons_zero, List.set_cons_succ]))
      refine steps_do rfl (by rfl) (fun KK hKK => ?_)
      go_simp
      refine (HCT.out wd Rd).mono ?_; rintro _ w6 ⟨t, rfl, htx, R6, O6⟩
      have HTX := Lib.hid htx
      have HTS : Hid (t.size ≤ 1000) := by have h1 : tx.length ≤ 1000 := HTL.out; have h2 := size_bytes t; rw [htx] at h2; have h3 : tx.length = t.size := h2; unfold Hid; omega
      have L6 := Ld.only O6 (fun i h => .inl (by omega))
      have N6 := owns_only Nd O6 (fun j e hj => by have := (Nd.lt j e).1; omega)
      have S6 := hS.only O6 hgg
      have B46 := B4d.only O6 (by omega)
      have OR6 := only_then Od O6
      have hs6 : w4.heap.size ≤ w6.heap.size := Nat.le_trans hsd O6.size
      refine hKK _ _ (fun _ => S6) ?_
      clear hKK KK hS Ld Nd B4d Od Rd O6 htx
      try simp only [Act.put, List.setIfInBounds_toArray, List.set_cons_zero, List.set_cons_succ]
      refine steps_do rfl (by rfl) (fun KK hKK => ?_)
      refine wp_build1_blk 25 9 (.tmp 72) rfl Tryd.underlying25 [.string t] sizeStr (by show 0 < 1; decide) (by show 1 ≤ 16777216; decide) _ zeroStr (.string t) rfl rfl ?_; intro g7 w7 B7 O7 hg7
      have hb7 : Below w6.heap.size w6 w7 := O7.below (fun _ h => h.elim) (Nat.le_refl _)
      have S7 := S6.kept hb7
      have L7 := L6.kept hb7
      have N7 := owns_kept N6 hb7
      have R7 := R6.kept hb7
      have B47 := B46.kept hb7
      have OR7 := OR6.then_ hb7
      refine hKK _ _ (fun _ => S7) ?_
      clear hKK KK S6 L6 N6 R6 B46 OR6 O7
      try simp only [Act.put, List.setIfInBounds_toArray, List.set_cons_zero, List.set_cons_succ]
      refine steps_do rfl (by rfl) (fun KK hKK => ?_)
      refine wp_append_lies w7 _ _ 25 rfl w4.heap.size 9 i1 _ 1 16 Tryd.underlying25 hi1' hs0 hs1 hs2 rfl (by decide) (.slice A1 N.length c1) N.length (strs N) rfl N7 ⟨g7, 0, none⟩ 1 1 [.string t] rfl rfl (fun j u hu => by rw [Addr.add_lit, Nat.zero_add]; exact B7.cell hu) (by simp [Value.oneCell']) (by decide) (by unfold maxLen; have := HM.out; have := HNL.out; omega) (by have := HM.out; have := HNL.out; omega) (by have := hb7.size; omega) _ rfl ?_
      intro g8 cap8 w8 hown8 hgr8 hl8 hlt8
      have hO8 := Only.grownBy hgr8
      have hob : ∀ j, (Value.slice A1 N.length c1).ownBlock = some j → w4.heap.size ≤ j := fun j e => (N7.lt j e).1
      have L8 := L7.apart hO8 (fun j e hf => by
        rcases owns_apart L7.1 N7 (by decide) with h | h
        · rw [h] at e; cases e
        · exact h (by rw [e, hf])) (fun y hy => (HAP.out y hy))
      have S8 := S7.only hO8 (fun e => by have := hob _ e; omega)
      have B48 := B47.only hO8 (fun e => by have := hob _ e; omega)
      have R8 := R7.only hO8 (fun j hj e => by have := hob _ e; omega)
      have OR8 := OR7.trans hO8 (fun j e => .inr (by have := hob _ e; omega))
      have hs8 : w4.heap.size ≤ w8.heap.size := by have := hO8.size; have := hb7.size; omega
      have hlt7 := fun y hy => (L7.2 y hy).1.lt
      have HAP8 : Hid (∀ y ∈ ys, VOn (fun j => (Value.slice (some ⟨g8, 0, none⟩) (N.length + 1) cap8).ownBlock ≠ some j) y) := fun y hy => ((HAP.out y hy).both (hlt7 y hy)).mono fun j hj he => by
        have he : g8 = j := by simpa [Value.ownBlock] using he
        rcases hl8 with h | h
        · exact hj.1 (by rw [h, he])
        · omega
      have hown8' : w8.ownsRow w4.heap.size 9 1 (.slice (some ⟨g8, 0, none⟩) (N.length + 1) cap8) (N ++ [t]).length (strs (N ++ [t])) := by rw [List.length_append]; unfold strs; rw [List.map_append]; exact hown8
      refine hKK _ _ (fun _ => S8) ?_
      clear hKK KK S7 L7 N7 R7 B47 OR7 hown8 hgr8 hO8 hob B7 hb7 hlt7
      try simp only [Act.put, List.setIfInBounds_toArray, List.set_cons_zero, List.set_cons_succ]
      repeat (first
        | (refine steps_take rfl rfl S8 ?_
           apply Exists.intro
           constructor
           · intro v hv
             go_simp
             try with_reducible rfl
           simp only [Act.put, List.setIfInBounds_toArray, List.set_cons_zero, List.set_cons_succ])
        | (refine steps_skip rfl rfl S8 ?_
           simp only [Act.put, List.setIfInBounds_toArray, List.set_cons_zero, List.set_cons_succ]))
      refine steps_do rfl (by rfl) (fun KK hKK => ?_)
      refine wp_store_blk 25 (.tmp 75) (.tmp 74) rfl g5 4 rfl [.slice (some ⟨g8, 0, none⟩) (N.length + 1) cap8] _ rfl rfl 27 _ S8 (by show 4 + 1 ≤ 5; decide) infoSs (by simp [Value.oneCell']) ?_
      intro w9 B9 O9 hs9
      have L9 := L8.only O9 (fun j e => .inl (by omega))
      have N9 := owns_only hown8' O9 (fun j e hj => by have := (hown8'.lt j e).1; omega)
      have B49 := B48.only O9 (by omega)
      have R9 := R8.only O9 (fun j hj e => by omega)
      have OR9 := OR8.trans O9 (fun j e => .inr (by omega))
      have hs9' : w4.heap.size ≤ w9.heap.size := by rw [hs9]; exact hs8
      have S9 : Block w9 g5 27 (kindL 5 v (.slice (some ⟨g8, 0, none⟩) (N.length + 1) cap8)) := B9
      refine hKK _ _ (fun hz => absurd hz (by decide)) ?_
      clear hKK KK B9 L8 S8 B48 R8 OR8 hown8' O9
      try simp only [Act.put]
      refine steps_end ?_
      generalize hu9 : (Value.slice (some ⟨g8, 0, none⟩) (N.length + 1) cap8) = u9 at N9 S9 HAP8
      clear hu9
      go_wp2_with fail
      refine region_steps [.tk 0, .tk 1, .tk 2, .tk 3, .tk 4, .al 5, .al 6, .al 7, .tk 8, .al 9] 9 (fun z => Block z g5 27 (kindL 5 v u9))
        (by kernel_rfl) (by kernel_rfl) rfl (by kernel_rfl) (fun dd _ _ _ _ h => by cases dd <;> exact h) ?_
      intro we hwe
      have hdr : Below w9.heap.size w9 we := by rw [hwe]; exact (Below.refl _ _).drew
      have T0 := S9.kept hdr
      have Re := R9.kept hdr
      have Le := L9.kept hdr
      have Ne := owns_kept N9 hdr
      have B4e := B49.kept hdr
      have Oe := OR9.then_ hdr
      have hse : w4.heap.size ≤ we.heap.size := Nat.le_trans hs9' hdr.size
      clear hwe hdr S9 R9 L9 N9 B49 OR9
      obtain ⟨A0, c0, rfl, _⟩ := own_slice' Le.1
      repeat (first
        | (refine steps_take rfl rfl T0 ?_
           apply Exists.intro
           constructor
           · intro v hv
             have q3 : v.cell? ⟨g5, 3, none⟩ = some (.slice A0 ys.length c0) := hv.cell rfl
             clear hv
             go_simp
             try with_reducible rfl
           simp only [Act.put, List.setIfInBounds_toArray, List.set_cons_zero, List.set_cons_succ])
        | (refine steps_skip rfl rfl T0 ?_
           simp only [Act.put, List.setIfInBounds_toArray, List.set_cons_zero, List.set_cons_succ]))
      refine steps_do rfl (by rfl) (fun KK hKK => ?_)
      go_simp
      refine (HIH.out g stt we Re).mono ?_; rintro _ x6 ⟨y, rfl, Y6, M6, hyv, R6, O6⟩
      have HYV := Lib.hid hyv
      have L6 := Le.only O6 (fun i h => .inl (by omega))
      have N6 := owns_only Ne O6 (fun j e hj => by have := (Ne.lt j e).1; omega)
      have S6 := T0.only O6 hgg
      have B46 := B4e.only O6 (by omega)
      have OR6 := only_then Oe O6
      have HOL := Lib.hid Le.own_lt
      have HNO : Hid (∀ j, u9.ownBlock = some j → j < we.heap.size) := fun j e => (Ne.lt j e).2
      have hs6' : w4.heap.size ≤ x6.heap.size := Nat.le_trans hse O6.size
      refine hKK _ _ (fun _ => S6) ?_
      clear hKK KK T0 Le Ne B4e Oe Re O6 hyv
      try simp only [Act.put, List.setIfInBounds_toArray, List.set_cons_zero, List.set_cons_succ]
      refine steps_do rfl (by rfl) (fun KK hKK => ?_)
      refine wp_build1_blk 24 27 (.tmp 81) rfl Tryd.underlying24 y.cells (by rw [cells_len]; exact valStruct) (by rw [cells_len]; decide) (by rw [cells_len]; decide) _ zeroVal y.arg rfl rfl ?_; intro h7 x7 B7 O7 hg7'
      have hb7 : Below x6.heap.size x6 x7 := O7.below (fun _ h => h.elim) (Nat.le_refl _)
      have S7 := S6.kept hb7
      have L7 := L6.kept hb7
      have N7 := owns_kept N6 hb7
      have Y7 := Y6.kept hb7
      have R7 := R6.kept hb7
      have B47 := B46.kept hb7
      have OR7 := OR6.then_ hb7
      refine hKK _ _ (fun _ => S7) ?_
      clear hKK KK S6 L6 N6 Y6 R6 B46 OR6 O7
      try simp only [Act.put, List.setIfInBounds_toArray, List.set_cons_zero, List.set_cons_succ]
      refine steps_do rfl (by rfl) (fun KK hKK => ?_)
      refine wp_append_lies x7 _ _ 24 rfl w4.heap.size 27 i0 _ 5 80 Tryd.underlying24 hi hz0 hz1 hz2 rfl (by decide) (.slice A0 ys.length c0) ys.length (flat VA.cells ys) rfl L7.1 ⟨h7, 0, none⟩ 1 1 y.cells rfl (by rw [cells_len]) (fun j u hu => by rw [Addr.add_lit, Nat.zero_add]; exact B7.cell hu) (cells_one y) (by decide) (by unfold maxLen; have := HM.out; have := HYL.out; omega) (by have := HM.out; have := HYL.out; omega) (by have := hb7.size; omega) _ rfl ?_
      intro h8 dap8 x8 pown8 pgr8 pl8 plt8
      have hO8 := Only.grownBy pgr8
      have hob : ∀ j, (Value.slice A0 ys.length c0).ownBlock = some j → w4.heap.size ≤ j := fun j e => (L7.1.lt j e).1
      have L8 := ListV.push (B := we.heap.size) L7 Y7 M6 (fun j e => HOL.out j e) hse pown8 pgr8 pl8
      have N8 := owns_only N7 hO8 (fun j e hf => by
        rcases owns_apart N7 L7.1 (by decide) with h | h
        · rw [h] at e; cases e
        · exact h (by rw [e, hf]))
      have S8 := S7.only hO8 (fun e => by have := hob _ e; omega)
      have B48 := B47.only hO8 (fun e => by have := hob _ e; omega)
      have R8 := R7.only hO8 (fun j hj e => by have := hob _ e; omega)
      have OR8 := OR7.trans hO8 (fun j e => .inr (by have := hob _ e; omega))
      have ht8 : w4.heap.size ≤ x8.heap.size := by have := hO8.size; have := hb7.size; omega
      have HAP9 : Hid (∀ z ∈ ys ++ [y], VOn (fun j => u9.ownBlock ≠ some j) z) := fun z hz => by
        rcases List.mem_append.1 hz with hz | hz
        · exact HAP8.out z hz
        · rw [List.mem_singleton.1 hz]
          exact M6.mono fun j hj he => by have := HNO.out _ he; omega
      refine hKK _ _ (fun _ => S8) ?_
      clear hKK KK S7 L7 N7 Y7 R7 B47 OR7 pown8 pgr8 hO8 hob B7 hb7
      try simp only [Act.put, List.setIfInBounds_toArray, List.set_cons_zero, List.set_cons_succ]
      repeat (first
        | (refine steps_take rfl rfl S8 ?_
           apply Exists.intro
           constructor
           · intro v hv
             go_simp
             try with_reducible rfl
           simp only [Act.put, List.setIfInBounds_toArray, List.set_cons_zero, List.set_cons_succ])
        | (refine steps_skip rfl rfl S8 ?_
           simp only [Act.put, List.setIfInBounds_toArray, List.set_cons_zero, List.set_cons_succ]))
      refine steps_do rfl (by rfl) (fun KK hKK => ?_)
      refine wp_store_blk 24 (.tmp 84) (.tmp 83) rfl g5 3 rfl [.slice (some ⟨h8, 0, none⟩) (ys.length + 1) dap8] _ rfl rfl 27 _ S8 (by show 3 + 1 ≤ 5; decide) infoLs (by simp [Value.oneCell']) ?_
      intro x9 B9 O9' ht9
      have L9 := L8.only O9' (fun j e => .inl (by omega))
      have N9 := owns_only N8 O9' (fun j e hj => by have := (N8.lt j e).1; omega)
      have B49 := B48.only O9' (by omega)
      have R9 := R8.only O9' (fun j hj e => by omega)
      have OR9 := OR8.trans O9' (fun j e => .inr (by omega))
      refine hKK _ _ (fun hz => absurd hz (by decide)) ?_
      clear hKK KK
      try simp only [Act.put]
      refine steps_end ?_
      go_wp2_with fail
      have hfin : rdR (rdV fuel) m st2 = (((N ++ [t]).map bytesOf ++ (rdR (rdV fuel) (m - (i + 1)) (rdV fuel stt).2).1.1, (ys ++ [y]).map VA.val ++ (rdR (rdV fuel) (m - (i + 1)) (rdV fuel stt).2).1.2), (rdR (rdV fuel) (m - (i + 1)) (rdV fuel stt).2).2) := by
        rw [HRD.out, HRS.out, List.map_append, List.append_assoc, List.map_append, List.append_assoc]
        simp [HYV.out, HTX.out]
      have HFIN := Lib.hid hfin
      clear hfin
      have B9' : Block x9 g5 27 (kindL 5 (.slice (some ⟨h8, 0, none⟩) (ys.length + 1) dap8) u9) := B9
      go_roundw
      case rel => exact ⟨i + 1, ys ++ [y], N ++ [t], (rdV fuel stt).2, .slice (some ⟨h8, 0, none⟩) (ys.length + 1) dap8, u9, by simp, hlt2, ⟨by rw [List.length_append, HYL.out]; rfl, by rw [List.length_append, HNL.out]; rfl, fun z hz => by
        rcases List.mem_append.1 hz with hz | hz
        · exact HNS.out z hz
        · rw [List.mem_singleton.1 hz]; exact HTS.out⟩, HFIN.out, L9, N9, HAP9.out, B9', B49, R9, OR9, by rw [ht9]; exact ht8⟩
      case measure => simp [intOf]; omega
    · have hie : i = m := by omega
      have hi1 : ¬ (i : Int) < (m : Int) := by omega
      obtain ⟨A0, c0, rfl, _⟩ := own_slice' hL.1
      obtain ⟨A1, c1, rfl, _⟩ := own_slice' hN
      have HV : Hid ((rdV (fuel + 1) st) = (.mk 5 0 [] (ys.map VA.val) (N.map bytesOf), sti)) := by
        unfold Hid
        rw [HE2.out, HRD.out, show m - i = 0 by omega, rdR_zero]; simp
      have hyl2 : ys.length ≤ 1000 := by have := HYL.out; have := HM.out; omega
      have hnl2 : N.length ≤ 1000 := by have := HNL.out; have := HM.out; omega
      have HY2 := Lib.hid hyl2
      have HN2 := Lib.hid hnl2
      have q9 := load_whole (.mk 5 0 ⟨#[]⟩ A0 c0 ys A1 c1 N) BR5
      clear hie hyl2 hnl2
      go_wp2_with (first
        | (have _ := q9; refine wpList_load_run rfl 27 (.tmp 5) rfl _ _ rfl q9 ?_; clear q9; have HT9 : Hid True := trivial)
        | (have _ := HT9; refine wpList_store_blk rfl 27 (.tmp 4) (.tmp 91) rfl g4 0 rfl (VA.cells (.mk 5 0 ⟨#[]⟩ A0 c0 ys A1 c1 N)) _ rfl rfl 27 _ BR4 (by show 0 + 5 ≤ 5; decide) valStruct (by simp [VA.cells, Value.oneCell']) ?_; intro w9 B9 O9 hs9; clear HT9; rw [lay_all zero5 (VA.cells (.mk 5 0 ⟨#[]⟩ A0 c0 ys A1 c1 N)) rfl] at B9; have R9 := RR.only O9 (fun i hi e => by omega); have OO9 := OR.trans O9 (fun i h => .inr (by omega))))
      try rw [Exit.noGoto_ret]
      refine bodyPost_ret (ret_cell1 Tryd.results50 _ w9 g4 (VA.cells (.mk 5 0 ⟨#[]⟩ A0 c0 ys A1 c1 N)) B9 (by rfl) _ Tryd.underlying27 rfl (by rw [cells_len]; exact valStruct)) rfl ?_
      rw [HV.out]
      have L9 := hL.only O9 (fun j e => .inl (by omega))
      have N9 := owns_only hN O9 (fun j e hj => by have := (hN.lt j e).1; omega)
      obtain ⟨h1, h2⟩ := made_value (k := 5) (n := 0) (s := ⟨#[]⟩) (N := N) (by decide) (by decide) empty_size L9 rfl N9 rfl HY2.out HN2.out (fun t ht => Nat.le_trans (HNS.out t ht) (by decide))
      exact ⟨_, rfl, h1, h2.mono fun j hj => by omega, by simp [VA.val, valL_map, bytesOf], R9, OO9⟩
end Go.Proofs.YtnlhajhbmkhnjabDoor.ValW

/- The program's reader: values of every kind; Take. -/

namespace Go.Proofs.YtnlhajhbmkhnjabDoor.ValW
open Go.RowKit Wd ValM
theorem numS_bad (st : St) (h : (shortS 1 st).2 ≠ 0) : (numS 1 st).1 = 0 := by
  unfold numS takeS
  rw [if_neg h]
  show wrap64 ((0 : Nat) : Int) = 0
  unfold wrap64; decide
set_option maxRecDepth 20000 in
set_option maxHeartbeats 4000000 in
theorem read_end (g : Nat) (st : St) (w : World) (h : RD w g st) : ReadTo 0 g st w := by
  have HH := Lib.hid h
  have hlt := h.choose_spec.choose_spec.1.lt
  have ho : ((8 - ((0 : Nat) : Int)) == 8) = true := by decide
  unfold ReadTo
  generalize (8 - ((0 : Nat) : Int)) = oth at ho ⊢
  have HT : Hid True := trivial
  clear h
  by_cases hl : 0 < st.1.length
  · have hk : (numS 1 (failS 5 st)).1 = 0 := numS_bad _ (by unfold shortS failS; split <;> (try split) <;> (try split) <;> simp_all)
    have HE : Hid (rdV 0 st = (.mk 0 0 [] [] [], (numS 1 (failS 5 st)).2)) := by unfold Hid rdV; rw [if_pos hl]
    have HC := Lib.hid (fun w' (hw : RD w' g (failS 5 st)) => single_rd g (failS 5 st) w' hw)
    rw [hk] at HC
    have hli : (0 : Int) < (st.1.length : Int) := by omega
    generalize numS 1 (failS 5 st) = q1 at HE HC
    obtain ⟨k0, st1⟩ := q1
    clear hk hl
    go_enter Tryd.func50, Tryd.ntmps50
    go_wp2_with (first
    | (go_at_call 59; refine (fail_any 5 g st _ R0 (by decide)).mono ?_; rintro _ w11 ⟨rfl, R1, O11⟩; have B4 := B4o.only O11 (by have := hg4; omega); have OO11 := (Only.new (F := fun i => i = g) hb1).trans O11 (fun i h => .inl h); clear B4o)
    | (go_at_call 60; refine (HC.out _ R1).mono ?_; rintro _ w2 ⟨rfl, R2, O2⟩; have B42 := B4.only O2 (by have := hg4; omega); have q2 := build_kind 0 w2; have z2 : w.heap.size ≤ w2.heap.size := Nat.le_trans hb1.size (Nat.le_trans O11.size O2.size); have z4 := B42.lt; have OO2 := OO11.trans O2 (fun i h => .inl h))
    | (have _ := q2; refine wpList_build_run rfl 27 [(0, .tmp 19)] rfl [(0, .int .i64 0)] rfl _ q2 ?_; clear q2; have HT5 : Hid True := trivial)
    | (have _ := HT5; refine wpList_alloc_blk rfl 27 rfl zero5 _ zeroVal rfl ?_; intro g5 w3 B5 O5 hg5; have hb3 : Below w2.heap.size w2 w3 := O5.below (fun _ h => h.elim) (Nat.le_refl _); have B43 := B42.kept hb3; have R3 := R2.kept hb3; have OO3 := OO2.then_ hb3; clear HT5 O5)
    | (have _ := B5; refine wpList_store_blk rfl 27 (.tmp 5) (.tmp 20) rfl g5 0 rfl (kind5 0) _ rfl rfl 27 _ B5 (by show 0 + 5 ≤ 5; decide) valStruct (by simp [kind5, Value.oneCell']) ?_; intro w4 B54 O4' hs4; clear B5; rw [lay_all zero5 (kind5 0) rfl] at B54; have R4 := R3.only O4' (fun i hi e => by omega); have B44 := B43.only O4' (by omega); have OO4 := OO3.trans O4' (fun i h => .inr (by omega)); have p0 : w4.cell? ⟨g5, 0, none⟩ = some (.int .i64 0) := B54.cell rfl; have hgg : ¬ g5 = g := (by have := hg5; omega); have z5 := B54.lt; have q9 := load_whole (.mk 0 0 ⟨#[]⟩ none 0 [] none 0 []) B54)
    | (have _ := HT; refine wpList_alloc_blk rfl 27 rfl zero5 _ zeroVal rfl ?_; intro g4 w1 B4o O4 hg4; have hb1 : Below w.heap.size w w1 := O4.below (fun _ h => h.elim) (Nat.le_refl _); have R0 := HH.out.kept hb1; obtain ⟨A0, c0, BR0, _⟩ := id R0; have q0 : w1.cell? ⟨g, 0, none⟩ = some (.slice A0 st.1.length c0) := BR0.cell rfl; clear HT O4 BR0)
    | (have _ := q9; refine wpList_load_run rfl 27 (.tmp 5) rfl _ _ rfl q9 ?_; clear q9; have HT9 : Hid True := trivial)
    | (have _ := HT9; refine wpList_store_blk rfl 27 (.tmp 4) (.tmp 91) rfl g4 0 rfl (VA.cells (.mk 0 0 ⟨#[]⟩ none 0 [] none 0 [])) _ rfl rfl 27 _ B44 (by show 0 + 5 ≤ 5; decide) valStruct (by simp [VA.cells, Value.oneCell']) ?_; intro w9 B9 O9 hs9; clear HT9; rw [lay_all zero5 (VA.cells (.mk 0 0 ⟨#[]⟩ none 0 [] none 0 [])) rfl] at B9; have R9 := R4.only O9 (fun i hi e => by omega); have OO9 := OO4.trans O9 (fun i h => .inr (by omega))))
    try rw [Exit.noGoto_ret]
    refine bodyPost_ret (ret_cell1 Tryd.results50 _ w9 g4 (VA.cells (.mk 0 0 ⟨#[]⟩ none 0 [] none 0 [])) B9 (by rfl) _ Tryd.underlying27 rfl (by rw [cells_len]; exact valStruct)) rfl ?_
    rw [HE.out]
    exact ⟨(.mk 0 0 ⟨#[]⟩ none 0 [] none 0 []), rfl, (plain_value (w := w9) 0 0 ⟨#[]⟩ (fun i => w.heap.size ≤ i) (by decide) (by decide) empty_size).1, (plain_value (w := w9) 0 0 ⟨#[]⟩ (fun i => w.heap.size ≤ i) (by decide) (by decide) empty_size).2, by rfl, R9, OO9⟩
  · have hk : (numS 1 st).1 = 0 := numS_bad _ (by unfold shortS failS; rw [if_pos (by omega)]; split <;> simp_all)
    have HE : Hid (rdV 0 st = (.mk 0 0 [] [] [], (numS 1 st).2)) := by unfold Hid rdV; rw [if_neg hl]
    have HC := Lib.hid (fun w' (hw : RD w' g st) => single_rd g st w' hw)
    rw [hk] at HC
    have hli : ¬ (0 : Int) < (st.1.length : Int) := by omega
    generalize numS 1 st = q1 at HE HC
    obtain ⟨k0, st1⟩ := q1
    clear hk hl
    go_enter Tryd.func50, Tryd.ntmps50
    go_wp2_with (first
    | (go_at_call 60; refine (HC.out _ R1).mono ?_; rintro _ w2 ⟨rfl, R2, O2⟩; have B42 := B4.only O2 (by have := hg4; omega); have q2 := build_kind 0 w2; have z2 : w.heap.size ≤ w2.heap.size := Nat.le_trans hb1.size O2.size; have z4 := B42.lt; have OO2 := (Only.new (F := fun i => i = g) hb1).trans O2 (fun i h => .inl h))
    | (have _ := q2; refine wpList_build_run rfl 27 [(0, .tmp 19)] rfl [(0, .int .i64 0)] rfl _ q2 ?_; clear q2; have HT5 : Hid True := trivial)
    | (have _ := HT5; refine wpList_alloc_blk rfl 27 rfl zero5 _ zeroVal rfl ?_; intro g5 w3 B5 O5 hg5; have hb3 : Below w2.heap.size w2 w3 := O5.below (fun _ h => h.elim) (Nat.le_refl _); have B43 := B42.kept hb3; have R3 := R2.kept hb3; have OO3 := OO2.then_ hb3; clear HT5 O5)
    | (have _ := B5; refine wpList_store_blk rfl 27 (.tmp 5) (.tmp 20) rfl g5 0 rfl (kind5 0) _ rfl rfl 27 _ B5 (by show 0 + 5 ≤ 5; decide) valStruct (by simp [kind5, Value.oneCell']) ?_; intro w4 B54 O4' hs4; clear B5; rw [lay_all zero5 (kind5 0) rfl] at B54; have R4 := R3.only O4' (fun i hi e => by omega); have B44 := B43.only O4' (by omega); have OO4 := OO3.trans O4' (fun i h => .inr (by omega)); have p0 : w4.cell? ⟨g5, 0, none⟩ = some (.int .i64 0) := B54.cell rfl; have hgg : ¬ g5 = g := (by have := hg5; omega); have z5 := B54.lt; have q9 := load_whole (.mk 0 0 ⟨#[]⟩ none 0 [] none 0 []) B54)
    | (have _ := HT; refine wpList_alloc_blk rfl 27 rfl zero5 _ zeroVal rfl ?_; intro g4 w1 B4 O4 hg4; have hb1 : Below w.heap.size w w1 := O4.below (fun _ h => h.elim) (Nat.le_refl _); have R1 := HH.out.kept hb1; obtain ⟨A0, c0, BR0, _⟩ := id R1; have q0 : w1.cell? ⟨g, 0, none⟩ = some (.slice A0 st.1.length c0) := BR0.cell rfl; clear HT O4 BR0)
    | (have _ := q9; refine wpList_load_run rfl 27 (.tmp 5) rfl _ _ rfl q9 ?_; clear q9; have HT9 : Hid True := trivial)
    | (have _ := HT9; refine wpList_store_blk rfl 27 (.tmp 4) (.tmp 91) rfl g4 0 rfl (VA.cells (.mk 0 0 ⟨#[]⟩ none 0 [] none 0 [])) _ rfl rfl 27 _ B44 (by show 0 + 5 ≤ 5; decide) valStruct (by simp [VA.cells, Value.oneCell']) ?_; intro w9 B9 O9 hs9; clear HT9; rw [lay_all zero5 (VA.cells (.mk 0 0 ⟨#[]⟩ none 0 [] none 0 [])) rfl] at B9; have R9 := R4.only O9 (fun i hi e => by omega); have OO9 := OO4.trans O9 (fun i h => .inr (by omega))))
    try rw [Exit.noGoto_ret]
    refine bodyPost_ret (ret_cell1 Tryd.results50 _ w9 g4 (VA.cells (.mk 0 0 ⟨#[]⟩ none 0 [] none 0 [])) B9 (by rfl) _ Tryd.underlying27 rfl (by rw [cells_len]; exact valStruct)) rfl ?_
    rw [HE.out]
    exact ⟨(.mk 0 0 ⟨#[]⟩ none 0 [] none 0 []), rfl, (plain_value (w := w9) 0 0 ⟨#[]⟩ (fun i => w.heap.size ≤ i) (by decide) (by decide) empty_size).1, (plain_value (w := w9) 0 0 ⟨#[]⟩ (fun i => w.heap.size ≤ i) (by decide) (by decide) empty_size).2, by rfl, R9, OO9⟩
theorem read_any : ∀ (fuel : Nat), fuel ≤ 8 → ∀ g st w, RD w g st → ReadTo fuel g st w
  | 0, _, g, st, w, h => read_end g st w h
  | fuel + 1, hf, g, st, w, h => by
    have ih := read_any fuel (by omega)
    by_cases k0 : (numS 1 st).1 = 0
    · exact read0 fuel (by omega) g st w h k0
    by_cases k1 : (numS 1 st).1 = 1
    · exact read1 fuel (by omega) g st w h k1
    by_cases k2 : (numS 1 st).1 = 2
    · by_cases hn : 1 < (numS 1 (numS 1 st).2).1
      · exact read2a fuel (by omega) g st w h k2 hn
      · exact read2b fuel (by omega) g st w h k2 hn
    by_cases k3 : (numS 1 st).1 = 3
    · exact read3 fuel (by omega) g st w h k3
    by_cases k4 : (numS 1 st).1 = 4
    · exact read4 fuel (by omega) ih g st w h k4
    by_cases k5 : (numS 1 st).1 = 5
    · exact read5 fuel (by omega) ih g st w h k5
    by_cases k6 : (numS 1 st).1 = 6
    · exact read6 fuel (by omega) g st w h k6
    · exact readX fuel (by omega) g st w h ⟨k0, k1, k2, k3, k4, k5, k6⟩
end Go.Proofs.YtnlhajhbmkhnjabDoor.ValW

/- The program's Take. -/

namespace Go.Proofs.YtnlhajhbmkhnjabDoor.ValW
open Go.RowKit Wd ValM
theorem zeroRd : (Tryd.prog.info? 72).map (·.zero) = some (some (.agg #[.slice none 0 0, .int .i64 0])) := by kernel_rfl
theorem sizeRd : (Tryd.prog.info? 72).map (·.size) = some 2 := by kernel_rfl
theorem placesRd : placesOf Tryd.prog 72 = some [(0, 1), (1, 1)] := by kernel_rfl
theorem build_rd (A : Option Addr) (n c : Nat) (w : World) : (Instr.build 72 #[(0, .slice A n c)]).run Tryd.prog w = .ok (.agg [Value.slice A n c, .int .i64 0].toArray) w :=
  run_build_parts placesRd zeroRd _ _ (by rfl) w
theorem block_mem {w : World} {b e : Nat} {xs : List Value} (h : Block w b e xs) {p : Addr} (hp : p.block = b) {u : Value} (hu : w.cell? p = some u) : u ∈ xs := by
  unfold World.cell? at hu
  rw [hp, show w.heap[b]? = _ from h] at hu
  simp only at hu
  split at hu
  · cases hu
  · have := Array.mem_of_getElem? hu
    simpa using this
theorem row_off {w : World} {B g2 e : Nat} {xs : List Value} {A : Option Addr} {b : List UInt8} (hr : Row w B A (bvs b)) (hB : Block w g2 e xs) (hx : ∀ u ∈ xs, ∀ n, u ≠ .int .u8 n) : ∀ ad, A = some ad → 0 < (bvs b).length → ad.block ≠ g2 := fun ad ea h0 he => by
  rw [bvs_length] at h0
  obtain ⟨ad', e', _, hc⟩ := hr.byte h0
  rw [ea] at e'; injection e' with e'; subst e'
  exact hx _ (block_mem hB (by rw [add_block]; exact he) hc) _ rfl
theorem build_zero (w : World) : (Instr.build 27 #[]).run Tryd.prog w = .ok (.agg zero5.toArray) w := run_build_parts placesVal zeroVal _ _ (by rfl) w
section
variable {P : Program} {fn : Func} {T : TypeId}
theorem ret_cell3 {a b c : Tmp} (h : fn.results = #[.cell a T, .tmp b, .tmp c]) (tmps : Array Value) (w : World) (p : Nat) (cs : List Value) (hB : Block w p T cs) (h2 : tmps.getD a undef = .pointer (some ⟨p, 0, none⟩))
    (d : TypeDesc) (hu : P.underlying T = some d) (hd : d.isRow = true) (hi : (P.info? T).map (·.size) = some cs.length) : (results fn tmps).run P w = .ok (.tuple #[.agg cs.toArray, tmps.getD b undef, tmps.getD c undef]) w := by
  have hl := run_cellVar (P := P) w p cs hB d hu hd hi
  have h3 : tmps[a]?.getD undef = .pointer (some ⟨p, 0, none⟩) := by simpa using h2
  unfold results
  rw [h]
  simp [Result.andThen, h3, asAddr, hl]
end
set_option maxRecDepth 20000 in
set_option maxHeartbeats 4000000 in
theorem take_v (A : Option Addr) (c : Nat) (l : List UInt8) (w : World) (hc : l.length ≤ c) (hl : l.length ≤ 140737488355328) (h : Row w w.heap.size A (bvs l)) :
    Calls Tryd.prog 39 #[.slice A l.length c] w fun e w' => ∃ (y : VA) (r : Value), e = .returned (.tuple #[y.arg, r, .int .i64 (tkE l)]) ∧ VIn w' y ∧ VOn (fun i => w.heap.size ≤ i) y ∧ y.val = tkV l ∧ Got w' (tkR l) r ∧ NewV w.heap.size (tkR l) r ∧ Below w.heap.size w w' := by
  have HC := Lib.hid hc
  have HL := Lib.hid hl
  have HR := Lib.hid h
  have HT : Hid True := trivial
  have hrd := fun g w' (hw : RD w' g (l, 0)) => read_any 8 (by decide) g (l, 0) w' hw
  unfold ReadTo at hrd
  rw [show (8 - ((8 : Nat) : Int)) = 0 from by decide] at hrd
  have HRD := Lib.hid hrd
  clear hrd
  have HE : Hid (tkE l = if (rdV 8 (l, 0)).2.2 = 0 then chkV (rdV 8 (l, 0)).1 else (rdV 8 (l, 0)).2.2) := rfl
  have HV : Hid (tkV l = if tkE l = 0 then (rdV 8 (l, 0)).1 else zeroV) := rfl
  have HRR : Hid (tkR l = if tkE l = 0 then (rdV 8 (l, 0)).2.1 else []) := rfl
  clear hc hl h
  go_enter Tryd.func39, Tryd.ntmps39
  go_wp2_with (first
    | (have _ := HT; refine wpList_alloc_blk rfl 27 rfl zero5 _ zeroVal rfl ?_; intro g2 w1 B2 O2 hg2; have hb1 : Below w.heap.size w w1 := O2.below (fun _ h => h.elim) (Nat.le_refl _); have q2 := build_rd A l.length c w1; clear HT O2)
    | (have _ := q2; refine wpList_build_run rfl 72 [(0, .tmp 7)] rfl [(0, .slice A l.length c)] rfl _ q2 ?_; clear q2; have HT5 : Hid True := trivial)
    | (have _ := HT5; refine wpList_alloc_blk rfl 72 rfl [.slice none 0 0, .int .i64 0] _ zeroRd rfl ?_; intro g w3 B3 O3 hg3; have hb3 : Below w1.heap.size w1 w3 := O3.below (fun _ h => h.elim) (Nat.le_refl _); have B23 := B2.kept hb3; clear HT5 O3)
    | (have _ := B3; refine wpList_store_blk rfl 72 (.tmp 5) (.tmp 8) rfl g 0 rfl [.slice A l.length c, .int .i64 0] _ rfl rfl 72 _ B3 (by show 0 + 2 ≤ 2; decide) sizeRd (by simp [Value.oneCell']) ?_; intro w4 B4 O4 hs4; clear B3; rw [lay_all [Value.slice none 0 0, .int .i64 0] [.slice A l.length c, .int .i64 0] rfl] at B4))
  have hb13 := bthen hb1 hb3
  have hb14 : Below w.heap.size w w4 := below_only hb13 O4 (fun i h => by have := hb1.size; omega)
  have hb14' := hb14.size
  have hgw : w.heap.size ≤ g := by have := hb1.size; omega
  have R4 : RD w4 g (l, 0) := ⟨A, c, B4, HC.out, HL.out, (HR.out.below hb14).more hgw, by show (-9223372036854775808 : Int) ≤ 0; decide, by show (0 : Int) ≤ 9223372036854775807; decide⟩
  have B24 := B23.only O4 (by have := B2.lt; omega)
  have hg2g : ¬ g2 = g := by have := B2.lt; omega
  have z24 := B24.lt
  refine (HRD.out g w4 R4).mono ?_; rintro _ w5 ⟨y, rfl, Y5, N5, hyv, R5, O5⟩
  have HYV := Lib.hid hyv
  have B25 := B24.only O5 hg2g
  have hb15 : Below w.heap.size w w5 := below_only hb14 O5 (fun i h => by omega)
  clear hyv HRD R4 B24 B23 B2 B4 hb3 hb13 O4 hb14
  rcases hq : rdV 8 (l, 0) with ⟨V, b, e⟩
  rw [hq] at HE HV HRR HYV R5
  clear hq
  obtain ⟨A2, c2, BR5, hc2, hl2, hr2, hb2⟩ := id R5
  have p1 : w5.cell? ⟨g, 1, none⟩ = some (.int .i64 e) := BR5.cell rfl
  have z25 := B25.lt
  have hz : Hid (VOn (fun i => i ≠ g2) y) := (N5.mono fun i hi => by omega)
  by_cases he : e = 0
  · subst he
    have HE2 : Hid (tkE l = chkV V) := by unfold Hid; rw [HE.out, if_pos rfl]
    have HZ := Lib.hid hz
    have HNY := Lib.hid N5
    clear HE hz N5
    have HOFF := Lib.hid (row_off hr2 B25 (by simp [zero5]))
    have HCK : Hid (chkV y.val = chkV V) := by unfold Hid; rw [HYV.out]
    obtain ⟨ck, hck⟩ : ∃ ck, chkV V = ck := ⟨_, rfl⟩
    rw [hck] at HCK HE2
    have HCV := Lib.hid hck
    clear hck
    by_cases hc0 : ck = 0
    · subst hc0
      have HV2 : Hid (tkV l = V) := by unfold Hid; rw [HV.out, HE2.out, if_pos rfl]
      have HR2 : Hid (tkR l = b) := by unfold Hid; rw [HRR.out, HE2.out, if_pos rfl]
      clear HV HRR
      go_wp2_with (first
        | (go_at_call 44; refine (check_any y _ Y6).mono ?_; rintro _ w7 ⟨rfl, hb7⟩; rw [HCK.out])
        | (have _ := q9; refine wpList_load_run rfl 27 (.tmp 2) rfl _ _ rfl q9 ?_; clear q9)
        | (have _ := B25; refine wpList_store_blk rfl 27 (.tmp 2) (.tmp 9) rfl g2 0 rfl y.cells _ rfl rfl 27 _ B25 (by rw [cells_len]; decide) (by rw [cells_len]; exact valStruct) (cells_one y) ?_; intro w6 B6 O6 hs6; clear B25; rw [lay_all zero5 y.cells (cells_len y)] at B6; have B56 := BR5.only O6 (fun e => hg2g e.symm); have r6 := hr2.apart_if O6 (by have := BR5.lt; omega) (fun ad e h => HOFF.out ad e h); have p6 : w6.cell? ⟨g, 1, none⟩ = some (.int .i64 0) := B56.cell rfl; have Y6 := Y5.only HZ.out O6; have q9 := load_whole y B6))
      have hb16 : Below w.heap.size w w6 := below_only hb15 O6 (fun i h => by omega)
      have hb17 := bthen hb16 hb7
      have B7 := B6.kept hb7
      have Y7 := Y6.kept hb7
      have G7 := B56.kept hb7
      have r7 := r6.tight.below hb7
      clear hb16 p6 r6 B6 Y6 B56 R5 Y5 BR5 hb15 hr2
      refine region_steps [.tk 0, .tk 1, .tk 2, .al 3, .al 4, .tk 5, .tk 6] 7 (fun z => Block z g2 27 y.cells ∧ Block z g 72 [.slice A2 b.length c2, .int .i64 0])
        (by kernel_rfl) (by kernel_rfl) rfl (by kernel_rfl) (fun dd _ _ _ _ h => by cases dd <;> exact h) ?_
      intro wd hwd
      have hS : Block wd g2 27 y.cells ∧ Block wd g 72 [.slice A2 b.length c2, .int .i64 0] := by rw [hwd]; exact ⟨B7.drew, G7.drew⟩
      have hdr : Below w7.heap.size w7 wd := by rw [hwd]; exact (Below.refl _ _).drew
      have Yd := Y7.kept hdr
      have rd := r7.tight.below hdr
      have hbd := bthen hb17 hdr
      have HLB : Hid (b.length ≤ 140737488355328) := hl2
      clear hwd hdr B7 G7 Y7 r7 hb17
      repeat (first
        | (refine steps_load rfl rfl 27 (.tmp 2) rfl (.pointer (some ⟨g2, 0, none⟩)) y.arg rfl (fun w hw => load_whole y hw.1) hS ?_; simp only [Act.put, List.setIfInBounds_toArray, List.set_cons_zero, List.set_cons_succ])
        | (refine steps_take rfl rfl hS ?_
           apply Exists.intro
           constructor
           · intro v hv
             have q0 : v.cell? ⟨g, 0, none⟩ = some (.slice A2 b.length c2) := hv.2.cell rfl
             clear hv
             go_simp
             try with_reducible rfl
           simp only [Act.put, List.setIfInBounds_toArray, List.set_cons_zero, List.set_cons_succ])
        | (refine steps_skip rfl rfl hS ?_
           simp only [Act.put, List.setIfInBounds_toArray, List.set_cons_zero, List.set_cons_succ]))
      refine steps_do rfl (by rfl) (fun KK hKK => ?_)
      go_simp
      refine (clone_any _ A2 b.length c2 b wd rfl HLB.out rd).mono ?_; rintro _ w8 ⟨r, rfl, hM⟩
      have hb8 := hM.below
      have G8 := got_fresh hM.fresh
      have N8 : NewV wd.heap.size b r := by
        obtain ⟨A9, c9, rfl, ho, _⟩ := hM
        intro ad n' c' e hne
        injection e with e
        subst e
        obtain ⟨g', cap, hv', hb', _⟩ := ho.form (List.length_pos_iff.2 hne)
        injection hv' with hv'; injection hv' with hv'; subst hv'; exact hb'
      have S8 : Block w8 g2 27 y.cells ∧ Block w8 g 72 [.slice A2 b.length c2, .int .i64 0] := ⟨hS.1.kept hb8, hS.2.kept hb8⟩
      have Y8 := Yd.kept hb8
      have hbw8 := bthen hbd hb8
      refine hKK _ _ (fun _ => S8) ?_
      clear hKK KK
      try simp only [Act.put, List.setIfInBounds_toArray, List.set_cons_zero, List.set_cons_succ]
      refine steps_do rfl (by rfl) (fun KK hKK => ?_)
      refine wp_store_blk 27 (.tmp 2) (.tmp 22) rfl g2 0 rfl y.cells _ rfl rfl 27 _ S8.1 (by rw [cells_len]; decide) (by rw [cells_len]; exact valStruct) (cells_one y) ?_
      intro w9 B9 O9 hs9
      rw [lay_all y.cells y.cells rfl] at B9
      have S9 : Block w9 g2 27 y.cells ∧ Block w9 g 72 [.slice A2 b.length c2, .int .i64 0] := ⟨B9, S8.2.only O9 (fun e => hg2g e.symm)⟩
      have Y9 := Y8.only HZ.out O9
      have G9 : Got w9 b r := by
        obtain ⟨A9, c9, rfl, hc9, hr9⟩ := G8
        refine ⟨A9, c9, rfl, hc9, (hr9.apart_if O9 (Nat.le_refl _) (fun ad e h0 => ?_)).tight⟩
        rw [bvs_length] at h0
        have h1 := N8 ad _ _ (by rw [e]) (List.length_pos_iff.1 h0)
        have h2 := hS.1.lt
        omega
      have hb19 : Below w.heap.size w w9 := below_only hbw8 O9 (fun i h => by omega)
      refine hKK _ _ (fun _ => S9) ?_
      clear hKK KK
      try simp only [Act.put]
      repeat (first
        | (refine steps_take rfl rfl S9 ?_
           apply Exists.intro
           constructor
           · intro v hv
             go_simp
             try with_reducible rfl
           simp only [Act.put, List.setIfInBounds_toArray, List.set_cons_zero, List.set_cons_succ])
        | (refine steps_skip rfl rfl S9 ?_
           simp only [Act.put, List.setIfInBounds_toArray, List.set_cons_zero, List.set_cons_succ]))
      refine steps_end ?_
      go_wp2_with fail
      try rw [Exit.noGoto_ret]
      refine bodyPost_ret (ret_cell3 Tryd.results39 _ w9 g2 y.cells B9 (by rfl) _ Tryd.underlying27 rfl (by rw [cells_len]; exact valStruct)) rfl ?_
      rw [HE2.out, HV2.out, HR2.out]
      exact ⟨y, r, rfl, Y9, HNY.out.mono fun i hi => by have := hb14'; omega, HYV.out, G9, N8.le hbd.size, hb19⟩
    · have HV2 : Hid (tkV l = zeroV) := by unfold Hid; rw [HV.out, HE2.out, if_neg hc0]
      have HR2 : Hid (tkR l = []) := by unfold Hid; rw [HRR.out, HE2.out, if_neg hc0]
      have he2 : (ck != 0) = true := by rw [bne_iff_ne]; exact hc0
      clear HV HRR hc0
      go_wp2_with (first
        | (go_at_call 44; refine (check_any y _ Y6).mono ?_; rintro _ w7 ⟨rfl, hb7⟩; rw [HCK.out]; have B7 := B6.kept hb7; have q8 := build_zero w7)
        | (have _ := q9; refine wpList_load_run rfl 27 (.tmp 2) rfl _ _ rfl q9 ?_; clear q9)
        | (have _ := q8; refine wpList_build_run rfl 27 [] rfl [] rfl _ q8 ?_; clear q8; have HT7 : Hid True := trivial)
        | (have _ := HT7; refine wpList_store_blk rfl 27 (.tmp 2) (.tmp 20) rfl g2 0 rfl zero5 _ rfl rfl 27 _ B7 (by rw [cells_len]; decide) valStruct (by simp [zero5, Value.oneCell']) ?_; intro w8 B8 O8 hs8; clear HT7; rw [lay_all y.cells zero5 (cells_len y).symm] at B8)
        | (have _ := B25; refine wpList_store_blk rfl 27 (.tmp 2) (.tmp 9) rfl g2 0 rfl y.cells _ rfl rfl 27 _ B25 (by rw [cells_len]; decide) (by rw [cells_len]; exact valStruct) (cells_one y) ?_; intro w6 B6 O6 hs6; clear B25; rw [lay_all zero5 y.cells (cells_len y)] at B6; have B56 := BR5.only O6 (fun e => hg2g e.symm); have p6 : w6.cell? ⟨g, 1, none⟩ = some (.int .i64 0) := B56.cell rfl; have Y6 := Y5.only HZ.out O6; have q9 := load_whole y B6))
      have hb16 : Below w.heap.size w w6 := below_only hb15 O6 (fun i h => by omega)
      have hb18 : Below w.heap.size w w8 := below_only (bthen hb16 hb7) O8 (fun i h => by omega)
      try rw [Exit.noGoto_ret]
      refine bodyPost_ret (ret_cell3 Tryd.results39 _ w8 g2 (VA.cells (.mk 0 0 ⟨#[]⟩ none 0 [] none 0 [])) B8 (by rfl) _ Tryd.underlying27 rfl (by rw [cells_len]; exact valStruct)) rfl ?_
      rw [HE2.out, HV2.out, HR2.out]
      exact ⟨.mk 0 0 ⟨#[]⟩ none 0 [] none 0 [], .slice none 0 0, rfl, (plain_value (w := w8) 0 0 ⟨#[]⟩ (fun i => w.heap.size ≤ i) (by decide) (by decide) empty_size).1, (plain_value (w := w8) 0 0 ⟨#[]⟩ (fun i => w.heap.size ≤ i) (by decide) (by decide) empty_size).2, rfl, got_nil _, (by intro _ _ _ _ h; exact absurd rfl h), hb18⟩
  · have HE2 : Hid (tkE l = e) := by unfold Hid; rw [HE.out, if_neg he]
    have HV2 : Hid (tkV l = zeroV) := by unfold Hid; rw [HV.out, HE2.out, if_neg he]
    have HR2 : Hid (tkR l = []) := by unfold Hid; rw [HRR.out, HE2.out, if_neg he]
    have he2 : (e != 0) = true := by rw [bne_iff_ne]; exact he
    clear he HE HV HRR
    go_wp2_with (have _ := B25; refine wpList_store_blk rfl 27 (.tmp 2) (.tmp 9) rfl g2 0 rfl y.cells _ rfl rfl 27 _ B25 (by rw [cells_len]; decide) (by rw [cells_len]; exact valStruct) (cells_one y) ?_; intro w6 B6 O6 hs6; clear B25; have B56 := BR5.only O6 (fun e => hg2g e.symm); have p6 : w6.cell? ⟨g, 1, none⟩ = some (.int .i64 e) := B56.cell rfl)
    refine region_steps [.tk 0, .tk 1, .tk 2, .al 3, .tk 4, .tk 5] 6 (fun z => z.cell? ⟨g, 1, none⟩ = some (.int .i64 e))
      (by kernel_rfl) (by kernel_rfl) rfl (by kernel_rfl) (fun dd _ _ _ _ h => by cases dd <;> exact h) ?_
    intro wd hwd
    have hS : wd.cell? ⟨g, 1, none⟩ = some (.int .i64 e) := by rw [hwd]; exact p6
    have hb16 : Below w.heap.size w w6 := below_only hb15 O6 (fun i h => by omega)
    have Bd : Block wd g2 27 (lay zero5 0 y.cells) := by rw [hwd]; exact B6.drew
    have hbd : Below w.heap.size w wd := by rw [hwd]; exact hb16.drew
    have Bgd : Block wd g 72 [.slice A2 b.length c2, .int .i64 e] := by rw [hwd]; exact B56.drew
    clear hwd B6 p6 B56 hb16
    have qb := build_zero
    repeat (first
      | (refine steps_build rfl rfl 27 [] rfl [] (.agg zero5.toArray) rfl (fun w _ => build_zero w) hS ?_; simp only [Act.put, List.setIfInBounds_toArray, List.set_cons_zero, List.set_cons_succ])
      | (refine steps_take rfl rfl hS ?_
         apply Exists.intro
         constructor
         · intro v hv
           skip
           go_simp
           try with_reducible rfl
         simp only [Act.put, List.setIfInBounds_toArray, List.set_cons_zero, List.set_cons_succ])
      | (refine steps_skip rfl rfl hS ?_
         simp only [Act.put, List.setIfInBounds_toArray, List.set_cons_zero, List.set_cons_succ]))
    refine steps_do rfl (by rfl) (fun KK hKK => ?_)
    refine wp_store_blk 27 (.tmp 2) (.tmp 13) rfl g2 0 rfl zero5 _ rfl rfl 27 _ Bd (by rw [lay_length _ _ _ (by rw [cells_len]; decide)]; decide) valStruct (by simp [zero5, Value.oneCell']) ?_
    intro w7 B7 O7 hs7
    have B7' : Block w7 g2 27 (VA.cells (.mk 0 0 ⟨#[]⟩ none 0 [] none 0 [])) := by
      rw [lay_all _ _ (by rw [lay_length _ _ _ (by rw [cells_len]; decide)])] at B7; exact B7
    have S7 : w7.cell? ⟨g, 1, none⟩ = some (.int .i64 e) := (Bgd.only O7 (fun e => hg2g e.symm)).cell rfl
    have hb17 : Below w.heap.size w w7 := below_only hbd O7 (fun i h => by omega)
    refine hKK _ _ (fun _ => S7) ?_
    clear hKK KK
    try simp only [Act.put]
    repeat (first
      | (refine steps_take rfl rfl S7 ?_
         apply Exists.intro
         constructor
         · intro v hv
           go_simp
           try with_reducible rfl
         simp only [Act.put, List.setIfInBounds_toArray, List.set_cons_zero, List.set_cons_succ])
      | (refine steps_skip rfl rfl S7 ?_
         simp only [Act.put, List.setIfInBounds_toArray, List.set_cons_zero, List.set_cons_succ]))
    refine steps_end ?_
    go_wp2_with fail
    try rw [Exit.noGoto_ret]
    refine bodyPost_ret (ret_cell3 Tryd.results39 _ w7 g2 (VA.cells (.mk 0 0 ⟨#[]⟩ none 0 [] none 0 [])) B7' (by rfl) _ Tryd.underlying27 rfl (by rw [cells_len]; exact valStruct)) rfl ?_
    rw [HE2.out, HV2.out, HR2.out]
    exact ⟨.mk 0 0 ⟨#[]⟩ none 0 [] none 0 [], .slice none 0 0, rfl, (plain_value (w := w7) 0 0 ⟨#[]⟩ (fun i => w.heap.size ≤ i) (by decide) (by decide) empty_size).1, (plain_value (w := w7) 0 0 ⟨#[]⟩ (fun i => w.heap.size ≤ i) (by decide) (by decide) empty_size).2, rfl, got_nil _, (by intro _ _ _ _ h; exact absurd rfl h), hb17⟩
end Go.Proofs.YtnlhajhbmkhnjabDoor.ValW

/- What is taken off is written so, and not otherwise; no value's bytes are the beginning of another one's. -/

namespace Go.Proofs.YtnlhajhbmkhnjabDoor.ValM
open Go.RowKit
/-! What is taken off is written so, and not otherwise (P7.6). -/
theorem snd0 {q : St} (h : q.2 = 0) : q = (q.1, 0) := by
  obtain ⟨a, b⟩ := q
  have h : b = 0 := h
  rw [h]
theorem takeS_inv {n : Nat} {st : St} {r : List UInt8} (h : (takeS n st).2 = (r, 0)) : st.2 = 0 ∧ st.1 = (takeS n st).1 ++ r ∧ (takeS n st).1.length = n := by
  unfold takeS at h ⊢
  by_cases hs : (shortS n st).2 = 0
  · rw [if_pos hs] at h ⊢
    have hst : st.2 = 0 ∧ ¬ st.1.length < n := by
      unfold shortS at hs
      by_cases hl : st.1.length < n
      · rw [if_pos hl] at hs
        unfold failS at hs
        by_cases h2 : st.2 = 0
        · rw [if_pos h2] at hs; cases hs
        · rw [if_neg h2] at hs; exact absurd hs h2
      · rw [if_neg hl] at hs; exact ⟨hs, hl⟩
    have he : shortS n st = st := by unfold shortS; rw [if_neg hst.2]
    rw [he] at h ⊢
    injection h with h1 h2
    refine ⟨hst.1, ?_, ?_⟩
    · rw [← h1]; exact (List.take_append_drop n st.1).symm
    · show (st.1.take n).length = n
      rw [List.length_take]; omega
  · rw [if_neg hs] at h
    exact absurd (congrArg Prod.snd h) hs
theorem numS_inv {k : Nat} {st : St} {r : List UInt8} (h : (numS k st).2 = (r, 0)) : st.2 = 0 ∧ ∃ t, st.1 = t ++ r ∧ t.length = k ∧ (numS k st).1 = wrap64 (beN 0 t) := by
  obtain ⟨h1, h2, h3⟩ := takeS_inv (n := k) (st := st) h
  exact ⟨h1, _, h2, h3, rfl⟩
theorem num1_inv {st : St} {r : List UInt8} (h : (numS 1 st).2 = (r, 0)) : st.2 = 0 ∧ ∃ c : UInt8, st.1 = c :: r ∧ (numS 1 st).1 = (c.toNat : Int) := by
  obtain ⟨h1, t, h2, h3, h4⟩ := numS_inv h
  obtain ⟨c, rfl⟩ := List.length_eq_one_iff.1 h3
  refine ⟨h1, c, h2, ?_⟩
  rw [h4]
  have hc := c.toNat_lt
  simp only [beN]
  rw [Nat.mod_eq_of_lt (by omega), wrap_small _ (by omega) (by omega)]
  simp
theorem failS_ne (e : Int) (he : e ≠ 0) (st : St) (r : List UInt8) : failS e st ≠ (r, 0) := fun h => by
  unfold failS at h
  by_cases h2 : st.2 = 0
  · rw [if_pos h2] at h; exact he (congrArg Prod.snd h)
  · rw [if_neg h2] at h; exact h2 (congrArg Prod.snd h)
theorem countS_inv {most : Int} {st : St} {r : List UInt8} (h : (countS most st).2 = (r, 0)) : st.2 = 0 ∧ ∃ c : UInt8, st.1 = c :: r ∧ (countS most st).1 = (c.toNat : Int) := by
  unfold countS at h ⊢
  by_cases hm : most < (numS 1 st).1
  · rw [if_pos hm] at h; exact absurd h (failS_ne 5 (by decide) _ _)
  · rw [if_neg hm] at h ⊢; exact num1_inv h
theorem byteI_len (c : UInt8) (n : Nat) (h : n = c.toNat) : byteI (n : Int) = c := by rw [h]; exact byteI_of c
theorem text_part (c : UInt8) (s r t : List UInt8) (h : t = s ++ r) (hs : s.length = c.toNat) : c :: t = counted s ++ r := by
  unfold counted
  rw [byteI_len c s.length hs, h]
  rfl
theorem text_q (a : Int) (q : St) (st : St) (hc : ∀ r', q = (r', 0) → st.2 = 0 ∧ ∃ c : UInt8, st.1 = c :: r' ∧ a = (c.toNat : Int)) (r : List UInt8) (h : (takeS a.toNat q).2 = (r, 0)) : st.2 = 0 ∧ st.1 = counted (takeS a.toNat q).1 ++ r := by
  obtain ⟨h1, h2, h3⟩ := takeS_inv h
  obtain ⟨h4, c, h5, h6⟩ := hc _ (snd0 h1)
  generalize (takeS a.toNat q).1 = s at h2 h3 ⊢
  subst h6
  rw [Int.toNat_natCast] at h3
  exact ⟨h4, by rw [h5]; exact text_part c s r _ h2 h3⟩
theorem textS_inv {most : Int} {st : St} {r : List UInt8} (h : (textS most st).2 = (r, 0)) : st.2 = 0 ∧ st.1 = counted (textS most st).1 ++ r :=
  text_q (countS most st).1 (countS most st).2 st (fun _ e => countS_inv e) r h
section
variable {f : St → Vl × St}
def Inv (f : St → Vl × St) : Prop := ∀ st r, (f st).2 = (r, 0) → st.2 = 0 ∧ st.1 = encV (f st).1 ++ r
theorem rdL_inv (hf : Inv f) : ∀ (n : Nat) (st : St) (r : List UInt8), (rdL f n st).2 = (r, 0) → st.2 = 0 ∧ st.1 = encL (rdL f n st).1 ++ r ∧ (rdL f n st).1.length = n
  | 0, st, r, h => by
    have h : st = (r, 0) := h
    subst h
    exact ⟨rfl, rfl, rfl⟩
  | n + 1, st, r, h => by
    obtain ⟨h1, h2, h3⟩ := rdL_inv hf n _ r h
    have hs : (f st).2 = ((f st).2.1, 0) := snd0 h1
    obtain ⟨h4, h5⟩ := hf st _ hs
    refine ⟨h4, ?_, ?_⟩
    · show st.1 = encL ((f st).1 :: (rdL f n (f st).2).1) ++ r
      rw [encL, List.append_assoc, ← h2]; exact h5
    · show ((f st).1 :: (rdL f n (f st).2).1).length = n + 1
      rw [List.length_cons, h3]
theorem rdR_inv (hf : Inv f) : ∀ (n : Nat) (st : St) (r : List UInt8), (rdR f n st).2 = (r, 0) → st.2 = 0 ∧ st.1 = encR (rdR f n st).1.1 (rdR f n st).1.2 ++ r ∧ (rdR f n st).1.2.length = n
  | 0, st, r, h => by
    have h : st = (r, 0) := h
    subst h
    exact ⟨rfl, rfl, rfl⟩
  | n + 1, st, r, h => by
    obtain ⟨h1, h2, h3⟩ := rdR_inv hf n _ r h
    have hs : (f (textS 16 st).2).2 = ((f (textS 16 st).2).2.1, 0) := snd0 h1
    obtain ⟨h4, h5⟩ := hf _ _ hs
    have ht : (textS 16 st).2 = ((textS 16 st).2.1, 0) := snd0 h4
    obtain ⟨h6, h7⟩ := textS_inv ht
    refine ⟨h6, ?_, ?_⟩
    · show st.1 = encR ((textS 16 st).1 :: _) ((f (textS 16 st).2).1 :: _) ++ r
      rw [encR, List.append_assoc, List.append_assoc, ← h2, ← h5]; exact h7
    · show ((f (textS 16 st).2).1 :: (rdR f n (f (textS 16 st).2).2).1.2).length = n + 1
      rw [List.length_cons, h3]
end
theorem byte_at (m : Nat) (d : Nat) (_h : m < 18446744073709551616) (hd : d = 1 ∨ d = 256 ∨ d = 65536 ∨ d = 16777216 ∨ d = 4294967296 ∨ d = 1099511627776 ∨ d = 281474976710656 ∨ d = 72057594037927936) (u : UInt8) (hu : m / d % 256 = u.toNat) : byteI (wrap64 (m : Int) / (d : Int)) = u := by
  rw [← UInt8.toNat_inj]
  have h1 := byteI_toNat (wrap64 (m : Int) / (d : Int))
  have h2 : (wrap64 (m : Int) / (d : Int)) % 256 = ((m / d % 256 : Nat) : Int) := by
    unfold wrap64
    rcases hd with rfl | rfl | rfl | rfl | rfl | rfl | rfl | rfl <;> omega
  rw [h2, hu] at h1
  omega
theorem word_of (m : Nat) (h : m < 18446744073709551616) (a b c d e f g i : UInt8) (ha : m / 72057594037927936 % 256 = a.toNat) (hb : m / 281474976710656 % 256 = b.toNat) (hc : m / 1099511627776 % 256 = c.toNat) (hd : m / 4294967296 % 256 = d.toNat)
    (he : m / 16777216 % 256 = e.toNat) (hf : m / 65536 % 256 = f.toNat) (hg : m / 256 % 256 = g.toNat) (hi : m / 1 % 256 = i.toNat) : word (wrap64 (m : Int)) = [a, b, c, d, e, f, g, i] := by
  have k1 := byte_at m 72057594037927936 h (by simp) a ha
  have k2 := byte_at m 281474976710656 h (by simp) b hb
  have k3 := byte_at m 1099511627776 h (by simp) c hc
  have k4 := byte_at m 4294967296 h (by simp) d hd
  have k5 := byte_at m 16777216 h (by simp) e he
  have k6 := byte_at m 65536 h (by simp) f hf
  have k7 := byte_at m 256 h (by simp) g hg
  have k8 := byte_at m 1 h (by simp) i hi
  rw [show ((1 : Nat) : Int) = 1 from rfl, Int.ediv_one] at k8
  generalize wrap64 (m : Int) = z at *
  unfold word
  rw [← k1, ← k2, ← k3, ← k4, ← k5, ← k6, ← k7, ← k8]
  rfl
theorem beN_small (l : List UInt8) : ∀ (a k : Nat), a < 256 ^ k → k + l.length ≤ 8 → beN a l < 256 ^ (k + l.length) ∧ beN a l = l.foldl (fun a c => a * 256 + c.toNat) a := by
  induction l with
  | nil => intro a k h _; exact ⟨h, rfl⟩
  | cons c r ih =>
    intro a k h hk
    have hc := c.toNat_lt
    rw [List.length_cons] at hk
    have hp : a * 256 + c.toNat < 256 ^ (k + 1) := by rw [Nat.pow_succ]; omega
    have hp8 : 256 ^ (k + 1) ≤ 256 ^ 8 := Nat.pow_le_pow_right (by decide) (by omega)
    have hm : (a * 256 + c.toNat) % 18446744073709551616 = a * 256 + c.toNat := Nat.mod_eq_of_lt (Nat.lt_of_lt_of_le hp (Nat.le_trans hp8 (by decide)))
    obtain ⟨h1, h2⟩ := ih (a * 256 + c.toNat) (k + 1) hp (by omega)
    unfold beN
    rw [hm, List.length_cons, show k + (r.length + 1) = k + 1 + r.length by omega]
    exact ⟨h1, by rw [h2]; rfl⟩
theorem word_inv (t : List UInt8) (h : t.length = 8) : word (wrap64 (beN 0 t)) = t := by
  obtain ⟨hs, hv⟩ := beN_small t 0 0 (by decide) (by omega)
  rw [h] at hs
  match t, h with
  | [a, b, c, d, e, f, g, i], _ =>
    have ha := a.toNat_lt
    have hb := b.toNat_lt
    have hc := c.toNat_lt
    have hd := d.toNat_lt
    have he := e.toNat_lt
    have hf := f.toNat_lt
    have hg := g.toNat_lt
    have hi := i.toNat_lt
    generalize beN 0 [a, b, c, d, e, f, g, i] = m at hs hv
    simp only [List.foldl_cons, List.foldl_nil, Nat.zero_mul, Nat.zero_add] at hv
    obtain ⟨n1, h1⟩ : ∃ n, n = a.toNat * 256 + b.toNat := ⟨_, rfl⟩
    obtain ⟨n2, h2⟩ : ∃ n, n = n1 * 256 + c.toNat := ⟨_, rfl⟩
    obtain ⟨n3, h3⟩ : ∃ n, n = n2 * 256 + d.toNat := ⟨_, rfl⟩
    obtain ⟨n4, h4⟩ : ∃ n, n = n3 * 256 + e.toNat := ⟨_, rfl⟩
    obtain ⟨n5, h5⟩ : ∃ n, n = n4 * 256 + f.toNat := ⟨_, rfl⟩
    obtain ⟨n6, h6⟩ : ∃ n, n = n5 * 256 + g.toNat := ⟨_, rfl⟩
    rw [← h1, ← h2, ← h3, ← h4, ← h5, ← h6] at hv
    have d1 : m / 256 = n6 := by omega
    have d2 : n6 / 256 = n5 := by omega
    have d3 : n5 / 256 = n4 := by omega
    have d4 : n4 / 256 = n3 := by omega
    have d5 : n3 / 256 = n2 := by omega
    have d6 : n2 / 256 = n1 := by omega
    have d7 : n1 / 256 = a.toNat := by omega
    have e2 : m / 65536 = n5 := by rw [show (65536 : Nat) = 256 * 256 from rfl, ← Nat.div_div_eq_div_mul, d1, d2]
    have e3 : m / 16777216 = n4 := by rw [show (16777216 : Nat) = 65536 * 256 from rfl, ← Nat.div_div_eq_div_mul, e2, d3]
    have e4 : m / 4294967296 = n3 := by rw [show (4294967296 : Nat) = 16777216 * 256 from rfl, ← Nat.div_div_eq_div_mul, e3, d4]
    have e5 : m / 1099511627776 = n2 := by rw [show (1099511627776 : Nat) = 4294967296 * 256 from rfl, ← Nat.div_div_eq_div_mul, e4, d5]
    have e6 : m / 281474976710656 = n1 := by rw [show (281474976710656 : Nat) = 1099511627776 * 256 from rfl, ← Nat.div_div_eq_div_mul, e5, d6]
    have e7 : m / 72057594037927936 = a.toNat := by rw [show (72057594037927936 : Nat) = 281474976710656 * 256 from rfl, ← Nat.div_div_eq_div_mul, e6, d7]
    refine word_of m (Nat.lt_of_lt_of_le hs (by decide)) a b c d e f g i ?_ ?_ ?_ ?_ ?_ ?_ ?_ ?_
    · rw [e7]; exact Nat.mod_eq_of_lt ha
    · rw [e6]; omega
    · rw [e5]; omega
    · rw [e4]; omega
    · rw [e3]; omega
    · rw [e2]; omega
    · rw [d1]; omega
    · rw [Nat.div_one]; omega
def bodyP (k : Int) (q : St) (n8 n1 : Int × St) (t : List UInt8 × St) (L : List Vl × St) (R : (List (List UInt8) × List Vl) × St) : Vl × St :=
  if k = 0 then (.mk 0 0 [] [] [], q)
  else if k = 1 then (.mk 1 n8.1 [] [] [], n8.2)
  else if k = 2 then (.mk 2 n1.1 [] [] [], if 1 < n1.1 then failS 4 n1.2 else n1.2)
  else if k = 3 then (.mk 3 0 t.1 [] [], t.2)
  else if k = 4 then (.mk 4 0 [] L.1 [], L.2)
  else if k = 5 then (.mk 5 0 [] R.1.2 R.1.1, R.2)
  else if k = 6 then (.mk 6 n1.1 [] [] [], n1.2)
  else (.mk k 0 [] [] [], failS 4 q)
theorem body_P (f : St → Vl × St) (st : St) : bodyV f st = bodyP (numS 1 st).1 (numS 1 st).2 (numS 8 (numS 1 st).2) (numS 1 (numS 1 st).2) (textS 64 (numS 1 st).2) (rdL f (countS 32 (numS 1 st).2).1.toNat (countS 32 (numS 1 st).2).2) (rdR f (countS 8 (numS 1 st).2).1.toNat (countS 8 (numS 1 st).2).2) := rfl
theorem bodyP_inv (c : UInt8) (k : Int) (hk : byteI k = c) (q : St) (n8 n1 : Int × St) (t : List UInt8 × St) (L : List Vl × St) (R : (List (List UInt8) × List Vl) × St)
    (h8 : ∀ r, n8.2 = (r, 0) → q.2 = 0 ∧ q.1 = word n8.1 ++ r) (h1 : ∀ r, n1.2 = (r, 0) → q.2 = 0 ∧ q.1 = byteI n1.1 :: r) (ht : ∀ r, t.2 = (r, 0) → q.2 = 0 ∧ q.1 = counted t.1 ++ r)
    (hL : ∀ r, L.2 = (r, 0) → q.2 = 0 ∧ q.1 = byteI L.1.length :: (encL L.1 ++ r)) (hR : ∀ r, R.2 = (r, 0) → q.2 = 0 ∧ q.1 = byteI R.1.2.length :: (encR R.1.1 R.1.2 ++ r))
    (r : List UInt8) (h : (bodyP k q n8 n1 t L R).2 = (r, 0)) : q.2 = 0 ∧ c :: q.1 = encV (bodyP k q n8 n1 t L R).1 ++ r := by
  subst hk
  unfold bodyP at h ⊢
  by_cases k0 : k = 0
  · subst k0
    rw [if_pos rfl] at h ⊢
    dsimp only at h
    subst h
    exact ⟨rfl, rfl⟩
  by_cases k1 : k = 1
  · subst k1
    rw [if_neg k0, if_pos rfl] at h ⊢
    dsimp only at h ⊢
    obtain ⟨a, b⟩ := h8 r h
    exact ⟨a, by rw [b, encV, if_pos rfl]; rfl⟩
  by_cases k2 : k = 2
  · subst k2
    rw [if_neg k0, if_neg k1, if_pos rfl] at h ⊢
    dsimp only at h ⊢
    have h' : n1.2 = (r, 0) := by
      by_cases hb : 1 < n1.1
      · rw [if_pos hb] at h; exact absurd h (failS_ne 4 (by decide) _ _)
      · rw [if_neg hb] at h; exact h
    obtain ⟨a, b⟩ := h1 r h'
    exact ⟨a, by rw [b, encV, if_neg k1, if_pos (.inl rfl)]; rfl⟩
  by_cases k3 : k = 3
  · subst k3
    rw [if_neg k0, if_neg k1, if_neg k2, if_pos rfl] at h ⊢
    dsimp only at h ⊢
    obtain ⟨a, b⟩ := ht r h
    exact ⟨a, by rw [b, encV, if_neg k1, if_neg (by decide), if_pos rfl]; rfl⟩
  by_cases k4 : k = 4
  · subst k4
    rw [if_neg k0, if_neg k1, if_neg k2, if_neg k3, if_pos rfl] at h ⊢
    dsimp only at h ⊢
    obtain ⟨a, b⟩ := hL r h
    exact ⟨a, by rw [b, encV, if_neg k1, if_neg (by decide), if_neg k3, if_pos rfl]; rfl⟩
  by_cases k5 : k = 5
  · subst k5
    rw [if_neg k0, if_neg k1, if_neg k2, if_neg k3, if_neg k4, if_pos rfl] at h ⊢
    dsimp only at h ⊢
    obtain ⟨a, b⟩ := hR r h
    exact ⟨a, by rw [b, encV, if_neg k1, if_neg (by decide), if_neg k3, if_neg k4, if_pos rfl]; rfl⟩
  by_cases k6 : k = 6
  · subst k6
    rw [if_neg k0, if_neg k1, if_neg k2, if_neg k3, if_neg k4, if_neg k5, if_pos rfl] at h ⊢
    dsimp only at h ⊢
    obtain ⟨a, b⟩ := h1 r h
    exact ⟨a, by rw [b, encV, if_neg k1, if_pos (.inr rfl)]; rfl⟩
  · rw [if_neg k0, if_neg k1, if_neg k2, if_neg k3, if_neg k4, if_neg k5, if_neg k6] at h
    dsimp only at h
    exact absurd h (failS_ne 4 (by decide) _ _)
theorem many_inv {q : St} {α : Type} (g : Nat → St → α × St) (len : α → Nat) (e : α → List UInt8) (hg : ∀ n st r, (g n st).2 = (r, 0) → st.2 = 0 ∧ st.1 = e (g n st).1 ++ r ∧ len (g n st).1 = n) (a : Int) (s : St)
    (hc : ∀ r, s = (r, 0) → q.2 = 0 ∧ ∃ c : UInt8, q.1 = c :: r ∧ a = (c.toNat : Int)) (r : List UInt8) (h : (g a.toNat s).2 = (r, 0)) : q.2 = 0 ∧ q.1 = byteI (len (g a.toNat s).1) :: (e (g a.toNat s).1 ++ r) := by
  obtain ⟨h1, h2, h3⟩ := hg _ _ _ h
  obtain ⟨h4, c, h5, h6⟩ := hc _ (snd0 h1)
  refine ⟨h4, ?_⟩
  generalize (g a.toNat s).1 = x at h2 h3 ⊢
  subst h6
  rw [Int.toNat_natCast] at h3
  rw [h5, byteI_len c _ h3, h2]
theorem body_inv {f : St → Vl × St} (hf : Inv f) : Inv (bodyV f) := by
  intro st r h
  rw [body_P] at h ⊢
  have key : ∀ c : UInt8, byteI (numS 1 st).1 = c → (numS 1 st).2.2 = 0 ∧ c :: (numS 1 st).2.1 = _ := fun c e => bodyP_inv c _ e (numS 1 st).2 _ _ _ _ _
    (fun r' h' => by
      obtain ⟨a, t, b, c, d⟩ := numS_inv h'
      exact ⟨a, by rw [d, word_inv t c, b]⟩)
    (fun r' h' => by
      obtain ⟨a, d, b, c⟩ := num1_inv h'
      exact ⟨a, by rw [c, byteI_of, b]⟩)
    (fun r' h' => textS_inv h')
    (fun r' h' => many_inv (rdL f) List.length encL (fun n st r h => rdL_inv hf n st r h) _ _ (fun r'' e => countS_inv e) r' h')
    (fun r' h' => many_inv (rdR f) (fun x => x.2.length) (fun x => encR x.1 x.2) (fun n st r h => rdR_inv hf n st r h) _ _ (fun r'' e => countS_inv e) r' h') r h
  have hz := (key _ rfl).1
  obtain ⟨h1, c, h2, h3⟩ := num1_inv (snd0 hz)
  exact ⟨h1, by rw [h2]; exact (key c (by rw [h3]; exact byteI_of c)).2⟩
theorem rd_zero (st : St) : (rdV 0 st).2 = (numS 1 (if 0 < st.1.length then failS 5 st else st)).2 := rfl
theorem rd_succ (lv : Nat) (st : St) : rdV (lv + 1) st = bodyV (rdV lv) st := rfl
theorem rd_inv : ∀ lv : Nat, Inv (rdV lv)
  | 0 => fun st r h => by
    exfalso
    rw [rd_zero] at h
    obtain ⟨h1, c, h2, _⟩ := num1_inv h
    by_cases hl : 0 < st.1.length
    · rw [if_pos hl] at h1
      exact failS_ne 5 (by decide) st (failS 5 st).1 (snd0 h1)
    · rw [if_neg hl] at h2
      rw [h2] at hl; simp at hl
  | lv + 1 => fun st r h => by
    rw [rd_succ] at h ⊢
    exact body_inv (rd_inv lv) st r h
theorem take_inv {l : List UInt8} (h : tkE l = 0) : okV (tkV l) = true ∧ l = encV (tkV l) ++ tkR l := by
  unfold tkV tkR
  rw [if_pos h, if_pos h]
  unfold tkE at h
  by_cases hr : (rdV 8 (l, 0)).2.2 = 0
  · rw [if_pos hr] at h
    obtain ⟨_, h2⟩ := rd_inv 8 (l, 0) (rdV 8 (l, 0)).2.1 (snd0 hr)
    refine ⟨?_, h2⟩
    unfold chkV at h
    by_cases ho : okV (rdV 8 (l, 0)).1 = true
    · exact ho
    · rw [if_neg ho] at h; cases h
  · rw [if_neg hr] at h; exact absurd h hr
theorem take_zero {l : List UInt8} (h : tkE l ≠ 0) : tkV l = zeroV ∧ tkR l = [] := by
  unfold tkV tkR
  rw [if_neg h, if_neg h]; exact ⟨rfl, rfl⟩
/-- No value's bytes are the beginning of another one's. -/
theorem enc_prefix {x y : Vl} (hx : Wide x) (hy : Wide y) (h : okV x = true) (h' : okV y = true) (r : List UInt8) (e : encV y = encV x ++ r) : x = y := by
  have h1 := (tk_enc x hx h r).2.1
  have h2 := (tk_enc y hy h' []).2.1
  rw [List.append_nil, e, h1] at h2
  exact h2
theorem enc_apart {x y : Vl} (hx : Wide x) (hy : Wide y) (h : okV x = true) (h' : okV y = true) (n : Nat) (hn : n = min (encV x).length (encV y).length) : ((encV x).take n == (encV y).take n) = (cmpV x y == 0) := by
  rw [Bool.eq_iff_iff, beq_iff_eq, beq_iff_eq, (ord_V x).2.1]
  refine ⟨fun e => ?_, fun e => by rw [e]⟩
  rcases Nat.le_total (encV x).length (encV y).length with hl | hl
  · have : n = (encV x).length := by omega
    rw [this, List.take_length] at e
    exact enc_prefix hx hy h h' ((encV y).drop (encV x).length) (by conv => lhs; rw [← List.take_append_drop (encV x).length (encV y), ← e])
  · have : n = (encV y).length := by omega
    rw [this, List.take_length] at e
    exact (enc_prefix hy hx h' h ((encV x).drop (encV y).length) (by conv => lhs; rw [← List.take_append_drop (encV y).length (encV x), e])).symm
end Go.Proofs.YtnlhajhbmkhnjabDoor.ValM

/- The plain functions that the chapter on bytes is about, over numbers and lists: the encoding of a number, what it takes off bytes, and that they undo each other. -/

namespace Go.Proofs.YtnlhajhbmkhnjabDoor.BinM
/-- How many bytes follow the first one. -/
def more (v : Nat) : Nat := min (v.log2 / 7) 8
/-- The k low bytes of v, the highest first. -/
def be : Nat → Nat → List UInt8
  | 0, _ => []
  | k + 1, v => UInt8.ofNat (v / 256 ^ k) :: be k v
def head (v : Nat) : Nat := 256 - 2 ^ (8 - more v) + v / 256 ^ more v
def enc (v : Nat) : List UInt8 := UInt8.ofNat (head v) :: be (more v) v
theorem be_length (k v : Nat) : (be k v).length = k := by
  induction k with
  | zero => rfl
  | succ k ih => simp [be, ih]
theorem enc_length (v : Nat) : (enc v).length = 1 + more v := by simp [enc, be_length]; omega
theorem more_le (v : Nat) : more v ≤ 8 := Nat.min_le_right _ _
theorem more_lt (v : Nat) (h : more v < 8) : v < 2 ^ (7 * (more v + 1)) := by
  by_cases h0 : v = 0
  · subst h0; exact Nat.two_pow_pos _
  · apply (Nat.log2_lt h0).1
    have : more v = v.log2 / 7 := by unfold more at *; omega
    omega
theorem more_ge (v : Nat) (h : 0 < more v) : 2 ^ (7 * more v) ≤ v := by
  have h0 : v ≠ 0 := by rintro rfl; simp [more] at h
  apply (Nat.le_log2 h0).1
  unfold more at *; omega
theorem more_eq (v k : Nat) (hk : k ≤ 8) (h1 : k < 8 → v < 2 ^ (7 * (k + 1))) (h2 : 0 < k → 2 ^ (7 * k) ≤ v) : more v = k := by
  by_cases h0 : v = 0
  · subst h0
    by_cases hk0 : k = 0
    · subst hk0; simp [more]
    · have := h2 (by omega); have := Nat.two_pow_pos (7 * k); omega
  · by_cases h8 : k < 8
    · have := (Nat.log2_lt h0).2 (h1 h8)
      by_cases hk0 : k = 0
      · subst hk0; unfold more; omega
      · have := (Nat.le_log2 h0).2 (h2 (by omega))
        unfold more; omega
    · have := (Nat.le_log2 h0).2 (h2 (by omega))
      unfold more; omega
/-- How many ones a byte begins with. -/
def lead (c : Nat) : Nat := ((List.range 8).filter fun k => decide (256 - 2 ^ (7 - k) ≤ c)).length
theorem lead_join : ∀ k : Fin 9, ∀ x : Fin 128, x.val < 2 ^ (7 - k.val) → lead (256 - 2 ^ (8 - k.val) + x.val) = k.val ∧ (256 - 2 ^ (8 - k.val) + x.val) % 2 ^ (7 - k.val) = x.val ∧ 256 - 2 ^ (8 - k.val) + x.val < 256 := by decide +kernel
theorem lead_split : ∀ c : Fin 256, lead c.val ≤ 8 ∧ 256 - 2 ^ (8 - lead c.val) + c.val % 2 ^ (7 - lead c.val) = c.val := by decide +kernel
def acc (v : Nat) (l : List UInt8) : Nat := l.foldl (fun a c => a * 256 + c.toNat) v
theorem acc_snoc (v : Nat) (l : List UInt8) (c : UInt8) : acc v (l ++ [c]) = acc v l * 256 + c.toNat := by simp [acc]
theorem acc_be (x k v : Nat) : acc x (be k v) = x * 256 ^ k + v % 256 ^ k := by
  induction k generalizing x with
  | zero => simp [be, acc, Nat.mod_one]
  | succ k ih =>
    show acc (x * 256 + (UInt8.ofNat (v / 256 ^ k)).toNat) (be k v) = _
    have e : x * 256 ^ (k + 1) = x * 256 * 256 ^ k := by rw [Nat.pow_succ, Nat.mul_assoc x, Nat.mul_comm 256]
    rw [ih, Nat.mod_pow_succ, UInt8.toNat_ofNat', Nat.add_mul, e, Nat.mul_comm (256 ^ k) (v / 256 ^ k % 256)]
    show _ + (v / 256 ^ k % 256) * 256 ^ k + _ = _
    omega
theorem acc_split (l : List UInt8) (x : Nat) : acc x l = x * 256 ^ l.length + acc 0 l ∧ acc 0 l < 256 ^ l.length := by
  induction l generalizing x with
  | nil => simp [acc]
  | cons c l ih =>
    have h1 := ih (x * 256 + c.toNat)
    have h0 := ih (0 * 256 + c.toNat)
    have e1 : acc x (c :: l) = acc (x * 256 + c.toNat) l := rfl
    have e0 : acc 0 (c :: l) = acc (0 * 256 + c.toNat) l := rfl
    have hc := c.toNat_lt
    rw [e1, e0, h1.1, h0.1, List.length_cons, Nat.pow_succ]
    constructor
    · rw [Nat.add_mul, Nat.zero_mul, Nat.zero_add, Nat.mul_assoc, Nat.mul_comm 256]; omega
    · rw [Nat.zero_mul, Nat.zero_add]
      have := h0.2
      have : c.toNat * 256 ^ l.length ≤ 255 * 256 ^ l.length := Nat.mul_le_mul_right _ (by omega)
      omega
theorem be_acc (l : List UInt8) (x : Nat) : be l.length (acc x l) = l := by
  induction l generalizing x with
  | nil => rfl
  | cons c l ih =>
    have e1 : acc x (c :: l) = acc (x * 256 + c.toNat) l := rfl
    have h := acc_split l (x * 256 + c.toNat)
    rw [e1, List.length_cons]
    show UInt8.ofNat (acc (x * 256 + c.toNat) l / 256 ^ l.length) :: be l.length (acc (x * 256 + c.toNat) l) = _
    rw [ih]
    congr 1
    rw [h.1, Nat.mul_comm, Nat.mul_add_div (Nat.pow_pos (by decide)), Nat.div_eq_of_lt h.2]
    apply UInt8.toNat_inj.1
    rw [UInt8.toNat_ofNat']
    have := c.toNat_lt
    show (x * 256 + c.toNat + 0) % 256 = _
    omega
/-- What the bytes begin with: the value, how many bytes it takes, the error. -/
def rd (b : List UInt8) : Nat × Nat × Nat :=
  match b with
  | [] => (0, 0, 3)
  | c :: r =>
    if r.length < lead c.toNat then (0, 0, 3)
    else if 0 < lead c.toNat ∧ acc (c.toNat % 2 ^ (7 - lead c.toNat)) (r.take (lead c.toNat)) < 2 ^ (7 * lead c.toNat) then (0, 0, 4)
    else (acc (c.toNat % 2 ^ (7 - lead c.toNat)) (r.take (lead c.toNat)), 1 + lead c.toNat, 0)
theorem pow7 (k : Nat) (h : k < 8) : 2 ^ (7 * (k + 1)) = 2 ^ (7 - k) * 256 ^ k := by
  rw [show (256 : Nat) = 2 ^ 8 from rfl, ← Nat.pow_mul, ← Nat.pow_add]; congr 1; omega
theorem top_lt (v : Nat) (h : v < 2 ^ 64) : v / 256 ^ more v < 2 ^ (7 - more v) := by
  by_cases h8 : more v < 8
  · have h1 := more_lt v h8
    rw [pow7 _ h8, Nat.mul_comm] at h1
    exact Nat.div_lt_of_lt_mul h1
  · have : more v = 8 := by have := more_le v; omega
    rw [this]
    have : v / 256 ^ 8 = 0 := Nat.div_eq_of_lt (by simpa using h)
    rw [this]; decide
theorem head_facts (v : Nat) (h : v < 2 ^ 64) : lead (head v) = more v ∧ head v % 2 ^ (7 - more v) = v / 256 ^ more v ∧ head v < 256 := by
  have ht := top_lt v h
  have hm := more_le v
  have hx : v / 256 ^ more v < 128 := Nat.lt_of_lt_of_le ht (Nat.pow_le_pow_right (by decide) (by omega : 7 - more v ≤ 7))
  exact lead_join ⟨more v, by omega⟩ ⟨v / 256 ^ more v, hx⟩ ht
theorem rd_enc (v : Nat) (h : v < 2 ^ 64) (r : List UInt8) : rd (enc v ++ r) = (v, 1 + more v, 0) := by
  have hh := head_facts v h
  have e : (UInt8.ofNat (head v)).toNat = head v := by rw [UInt8.toNat_ofNat']; exact Nat.mod_eq_of_lt hh.2.2
  have ha : acc (v / 256 ^ more v) (be (more v) v) = v := by rw [acc_be, Nat.mul_comm]; exact Nat.div_add_mod _ _
  show rd (UInt8.ofNat (head v) :: (be (more v) v ++ r)) = _
  unfold rd
  simp only [e, hh.1, hh.2.1]
  rw [List.take_left' (be_length _ _), ha, if_neg (by simp [be_length]), if_neg]
  rintro ⟨h0, h1⟩
  have := more_ge v h0
  omega
theorem rd_some (b : List UInt8) (v n : Nat) (h : rd b = (v, n, 0)) : v < 2 ^ 64 ∧ n = 1 + more v ∧ n ≤ b.length ∧ b.take n = enc v := by
  cases b with
  | nil => simp [rd] at h
  | cons c r =>
    unfold rd at h
    simp only at h
    have hs := lead_split ⟨c.toNat, c.toNat_lt⟩
    simp only at hs
    generalize hk : lead c.toNat = k at *
    split at h
    · simp at h
    · split at h
      · simp at h
      · rename_i h1 h2
        simp only [Prod.mk.injEq, and_true] at h
        obtain ⟨hv, rfl⟩ := h
        have hx : c.toNat % 2 ^ (7 - k) < 2 ^ (7 - k) := Nat.mod_lt _ (Nat.two_pow_pos _)
        have hl : (r.take k).length = k := by simp; omega
        have ha := acc_split (r.take k) (c.toNat % 2 ^ (7 - k))
        have hb := be_acc (r.take k) (c.toNat % 2 ^ (7 - k))
        rw [hv, hl] at ha
        rw [hv, hl] at hb
        rw [hv] at h2
        generalize acc 0 (r.take k) = y at *
        have hm : more v = k := by
          apply more_eq v k hs.1
          · intro h8
            rw [pow7 k h8, ha.1]
            have : (c.toNat % 2 ^ (7 - k) + 1) * 256 ^ k ≤ 2 ^ (7 - k) * 256 ^ k := Nat.mul_le_mul_right _ hx
            rw [Nat.add_mul] at this
            omega
          · intro h0; omega
        have hv64 : v < 2 ^ 64 := by
          by_cases h8 : k < 8
          · have h3 := more_lt v (by omega)
            exact Nat.lt_of_lt_of_le h3 (Nat.pow_le_pow_right (by decide) (by omega))
          · have : k = 8 := by omega
            subst this
            have : c.toNat % 2 ^ (7 - 8) = 0 := Nat.mod_one _
            rw [this] at ha
            rw [ha.1]
            have := ha.2
            show 0 * 256 ^ 8 + y < 2 ^ 64
            have e : (256 : Nat) ^ 8 = 2 ^ 64 := by decide
            omega
        refine ⟨hv64, by omega, by simp; omega, ?_⟩
        rw [Nat.add_comm 1 k, List.take_succ_cons]
        unfold enc head
        rw [hm, hb]
        congr 1
        have hd : v / 256 ^ k = c.toNat % 2 ^ (7 - k) := by
          rw [ha.1, Nat.mul_comm, Nat.mul_add_div (Nat.pow_pos (by decide)), Nat.div_eq_of_lt ha.2, Nat.add_zero]
        rw [hd, hs.2]
        simp
theorem rd_short (v j : Nat) (h : v < 2 ^ 64) (hj : j < 1 + more v) : rd ((enc v).take j) = (0, 0, 3) := by
  cases j with
  | zero => rfl
  | succ j =>
    have hh := head_facts v h
    have e : (UInt8.ofNat (head v)).toNat = head v := by rw [UInt8.toNat_ofNat']; exact Nat.mod_eq_of_lt hh.2.2
    show rd (UInt8.ofNat (head v) :: (be (more v) v).take j) = _
    unfold rd
    simp only [e, hh.1]
    rw [if_pos (by simp [be_length]; omega)]
/-! bytes ahead of each other -/
def first : List UInt8 → List UInt8 → Bool
  | [], m => !m.isEmpty
  | _ :: _, [] => false
  | a :: l, b :: m => if a = b then first l m else decide (a.toNat < b.toNat)
theorem first_self (l : List UInt8) : first l l = false := by
  induction l with
  | nil => rfl
  | cons a l ih => simp [first, ih]
theorem first_cons (a b : UInt8) (l m : List UInt8) : first (a :: l) (b :: m) = if a = b then first l m else decide (a.toNat < b.toNat) := rfl
theorem first_other (l m : List UInt8) (h : first l m = true) : first m l = false := by
  induction l generalizing m with
  | nil => cases m with
    | nil => rfl
    | cons b m => rfl
  | cons a l ih => cases m with
    | nil => cases h
    | cons b m =>
      rw [first_cons] at *
      by_cases e : a = b
      · subst e; simp at *; exact ih m h
      · rw [if_neg e] at h
        rw [if_neg (fun h => e h.symm)]
        have := of_decide_eq_true h
        exact decide_eq_false (by omega)
theorem first_be (k u v : Nat) (h : u % 256 ^ k < v % 256 ^ k) : first (be k u) (be k v) = true := by
  induction k with
  | zero => simp [Nat.mod_one] at h
  | succ k ih =>
    show first (UInt8.ofNat (u / 256 ^ k) :: be k u) (UInt8.ofNat (v / 256 ^ k) :: be k v) = true
    unfold first
    rw [Nat.mod_pow_succ, Nat.mod_pow_succ] at h
    have eu : (UInt8.ofNat (u / 256 ^ k)).toNat = u / 256 ^ k % 256 := UInt8.toNat_ofNat'
    have ev : (UInt8.ofNat (v / 256 ^ k)).toNat = v / 256 ^ k % 256 := UInt8.toNat_ofNat'
    by_cases e : u / 256 ^ k % 256 = v / 256 ^ k % 256
    · rw [e] at h
      rw [if_pos (by apply UInt8.toNat_inj.1; omega)]
      exact ih (by omega)
    · rw [if_neg (by intro hc; apply e; rw [← eu, ← ev, hc])]
      apply decide_eq_true
      rw [eu, ev]
      rcases Nat.lt_or_ge (u / 256 ^ k % 256) (v / 256 ^ k % 256) with hl | hg
      · exact hl
      · exfalso
        have h1 : v / 256 ^ k % 256 + 1 ≤ u / 256 ^ k % 256 := by omega
        have h2 : 256 ^ k * (v / 256 ^ k % 256 + 1) ≤ 256 ^ k * (u / 256 ^ k % 256) := Nat.mul_le_mul_left _ h1
        have h3 : v % 256 ^ k < 256 ^ k := Nat.mod_lt _ (Nat.pow_pos (by decide))
        rw [Nat.mul_add] at h2
        omega
theorem more_mono (u v : Nat) (h : u ≤ v) : more u ≤ more v := by
  have : u.log2 ≤ v.log2 := by
    by_cases h0 : u = 0
    · subst h0; simp
    · have := (Nat.le_log2 (n := v) (k := u.log2) (by omega)).2 (Nat.le_trans (Nat.log2_self_le h0) h); exact this
  have := Nat.div_le_div_right (c := 7) this
  unfold more; omega
theorem head_step : ∀ k : Fin 9, ∀ m : Fin 9, k.val < m.val → 256 - 2 ^ (8 - k.val) + 2 ^ (7 - k.val) ≤ 256 - 2 ^ (8 - m.val) := by decide +kernel
theorem first_enc (u v : Nat) (hv : v < 2 ^ 64) (h : u < v) : first (enc u) (enc v) = true := by
  have hu : u < 2 ^ 64 := by omega
  have hm := more_mono u v (by omega)
  have fu := head_facts u hu
  have fv := head_facts v hv
  have eu : (UInt8.ofNat (head u)).toNat = head u := by rw [UInt8.toNat_ofNat']; exact Nat.mod_eq_of_lt fu.2.2
  have ev : (UInt8.ofNat (head v)).toNat = head v := by rw [UInt8.toNat_ofNat']; exact Nat.mod_eq_of_lt fv.2.2
  unfold enc first
  rcases Nat.lt_or_eq_of_le hm with hl | he
  · have hd : head u < head v := by
      have h1 := head_step ⟨more u, by have := more_le u; omega⟩ ⟨more v, by have := more_le v; omega⟩ hl
      have h2 := top_lt u hu
      simp only at h1
      unfold head; omega
    rw [if_neg (by intro hc; rw [← eu, ← ev, hc] at hd; omega)]
    apply decide_eq_true; omega
  · have hd : u / 256 ^ more v ≤ v / 256 ^ more v := Nat.div_le_div_right (by omega)
    by_cases e : u / 256 ^ more v = v / 256 ^ more v
    · have eh : head u = head v := by unfold head; rw [he, e]
      rw [if_pos (by rw [eh]), he]
      apply first_be
      have h1 := Nat.div_add_mod u (256 ^ more v)
      have h2 := Nat.div_add_mod v (256 ^ more v)
      rw [e] at h1
      omega
    · have hd : head u < head v := by unfold head; rw [he]; omega
      rw [if_neg (by intro hc; rw [← eu, ← ev, hc] at hd; omega)]
      apply decide_eq_true; omega
/-! ints -/
def zz (n : Int) : Nat := if 0 ≤ n then (2 * n).toNat else (-2 * n - 1).toNat
def unzz (v : Nat) : Int := if v % 2 = 0 then (v / 2 : Nat) else -((v / 2 : Nat) : Int) - 1
theorem zz_lt (n : Int) (h : -9223372036854775808 ≤ n ∧ n ≤ 9223372036854775807) : zz n < 2 ^ 64 := by unfold zz; split <;> omega
theorem unzz_zz (n : Int) : unzz (zz n) = n := by
  unfold unzz zz
  split <;> split <;> omega
theorem zz_unzz (v : Nat) : zz (unzz v) = v := by
  unfold unzz zz
  split <;> split <;> omega
theorem unzz_bounds (v : Nat) (h : v < 2 ^ 64) : -9223372036854775808 ≤ unzz v ∧ unzz v ≤ 9223372036854775807 := by
  unfold unzz; split <;> omega
end Go.Proofs.YtnlhajhbmkhnjabDoor.BinM

/- How many bits a number takes: the library functions that the program asks for it. -/







namespace Go.Proofs.YtnlhajhbmkhnjabDoor
open Go.RowKit
namespace BinW
open BinM Wd
theorem len8_bits : ∀ c : Fin 256, Lib.len8 (c.val : Int) = (bitLen c.val : Int) := by decide +kernel
theorem len8_int (y : Int) (h0 : 0 ≤ y) (h1 : y < 256) : Lib.len8 y = (bitLen y.toNat : Int) := by
  have h := len8_bits ⟨y.toNat, by omega⟩
  simp only at h
  rw [← h]; congr 1; omega
theorem len8_at (b : Nat) (x y : Int) (h0 : 0 ≤ y) (h1 : y < 256) (e : y.toNat = x.toNat / 2 ^ b) (hb : b ≠ 0 → y ≠ 0) : Lib.len8 y = (bitLen x.toNat : Int) - b ∧ 0 ≤ Lib.len8 y ∧ Lib.len8 y ≤ 8 := by
  have h2 := len8_int y h0 h1
  have h3 := bitLen_le8 y.toNat (by omega)
  by_cases hz : b = 0
  · subst hz
    have : y.toNat = x.toNat := by simpa using e
    rw [h2, ← this]; omega
  · have h4 := bitLen_shift x.toNat b (by rw [← e]; have := hb hz; omega)
    rw [← e] at h4
    rw [h2]; omega
theorem tabv (b : Nat) (x y : Int) (h : y.toNat < Lib.len8tab.size) (h0 : 0 ≤ y) (h1 : y < 256) (e : y.toNat = x.toNat / 2 ^ b) (hb : b ≠ 0 → y ≠ 0) : wrap64 ((Lib.len8tab[y.toNat]).toNat : Int) = (bitLen x.toNat : Int) - b ∧ (bitLen x.toNat : Int) - b ≤ 8 := by
  have h2 := len8_at b x y h0 h1 e hb
  have h3 : ((Lib.len8tab[y.toNat]).toNat : Int) = Lib.len8 y := by unfold Lib.len8; rw [ByteArray.getElem?_lt' _ _ h]; rfl
  rw [h3]; unfold wrap64; omega
theorem wrap_small (x : Int) (h : 0 ≤ x) (h1 : x ≤ 100) : wrap64 x = x := by unfold wrap64; omega
set_option maxRecDepth 100000 in
set_option maxHeartbeats 1000000 in
theorem len8_any (x : Int) (h0 : 0 ≤ x) (h1 : x < 256) (w : World) :
    Calls Tryd.prog 72 #[.int .u8 x] w fun e w' => e = .returned (.int .i64 (bitLen x.toNat : Int)) ∧ w = w' := by
  have hsz := Lib.len8tab_size
  go_enter Tryd.func72, Tryd.ntmps72
  go_wp2
  go_ret
  refine ⟨congrArg Ending.returned (congrArg (Value.int IntKind.i64) ?_), rfl⟩
  have h := tabv 0 x x (by rw [Lib.len8tab_size]; omega) h0 h1 (by simp) (by simp)
  omega
set_option maxRecDepth 100000 in
set_option maxHeartbeats 1000000 in
theorem len64_any (x : Int) (h0 : 0 ≤ x) (h1 : x < 18446744073709551616) (w : World) :
    Calls Tryd.prog 52 #[.int .u64 x] w fun e w' => e = .returned (.int .i64 (bitLen x.toNat : Int)) ∧ w = w' := by
  have hsz := Lib.len8tab_size
  go_enter Tryd.func52, Tryd.ntmps52
  go_wp2
  all_goals (go_ret; refine ⟨congrArg Ending.returned (congrArg (Value.int IntKind.i64) ?_), rfl⟩)
  all_goals first
    | (have h := tabv 56 x (x / 4294967296 / 65536 / 256) (by rw [Lib.len8tab_size]; omega) (by omega) (by omega) (by omega) (by omega); rw [h.1, wrap_small _ (by omega) (by omega)]; omega)
    | (have h := tabv 48 x (x / 4294967296 / 65536) (by rw [Lib.len8tab_size]; omega) (by omega) (by omega) (by omega) (by omega); rw [h.1, wrap_small _ (by omega) (by omega)]; omega)
    | (have h := tabv 40 x (x / 4294967296 / 256) (by rw [Lib.len8tab_size]; omega) (by omega) (by omega) (by omega) (by omega); rw [h.1, wrap_small _ (by omega) (by omega)]; omega)
    | (have h := tabv 32 x (x / 4294967296) (by rw [Lib.len8tab_size]; omega) (by omega) (by omega) (by omega) (by omega); rw [h.1, wrap_small _ (by omega) (by omega)]; omega)
    | (have h := tabv 24 x (x / 65536 / 256) (by rw [Lib.len8tab_size]; omega) (by omega) (by omega) (by omega) (by omega); rw [h.1, wrap_small _ (by omega) (by omega)]; omega)
    | (have h := tabv 16 x (x / 65536) (by rw [Lib.len8tab_size]; omega) (by omega) (by omega) (by omega) (by omega); rw [h.1, wrap_small _ (by omega) (by omega)]; omega)
    | (have h := tabv 8 x (x / 256) (by rw [Lib.len8tab_size]; omega) (by omega) (by omega) (by omega) (by omega); rw [h.1, wrap_small _ (by omega) (by omega)]; omega)
    | (have h := tabv 0 x (x) (by rw [Lib.len8tab_size]; omega) (by omega) (by omega) (by omega) (by omega); rw [h.1, wrap_small _ (by omega) (by omega)]; omega)
set_option maxRecDepth 20000 in
set_option maxHeartbeats 1000000 in
theorem lead8_any (x : Int) (h0 : 0 ≤ x) (h1 : x < 256) (w : World) :
    Calls Tryd.prog 67 #[.int .u8 x] w fun e w' => e = .returned (.int .i64 (8 - (bitLen x.toNat : Int))) ∧ w = w' := by
  have hl := bitLen_le8 x.toNat (by omega)
  generalize hb : bitLen x.toNat = b at *
  have HB := Lib.hid hb
  clear hb
  go_enter Tryd.func67, Tryd.ntmps67
  go_wp2_with fail
  refine (len8_any x h0 h1 _).mono ?_; rintro e w' ⟨rfl, rfl⟩
  rw [HB.out]
  go_wp2_with fail
  go_ret
  exact ⟨rfl, rfl⟩
end BinW
end Go.Proofs.YtnlhajhbmkhnjabDoor

/- The walk of the program's encoding of a number: the bytes that the chapter says, in new memory. -/







namespace Go.Proofs.YtnlhajhbmkhnjabDoor
open Go.RowKit
namespace BinW
open BinM Wd
theorem more_bits (v : Nat) : min (max ((bitLen v : Int) - 1) 0 / 7) 8 = (more v : Int) := by
  unfold more bitLen
  split
  · subst_vars; decide
  · omega
theorem shr8 (v k : Nat) : (v : Int) / 2 ^ (8 * k) = ((v / 256 ^ k : Nat) : Int) := by
  rw [show (256 : Nat) = 2 ^ 8 from rfl, ← Nat.pow_mul]; simp
theorem byte_mod (v k : Nat) : (v : Int) / 2 ^ (8 * k) % 256 = ((UInt8.ofNat (v / 256 ^ k)).toNat : Int) := by
  rw [shr8, UInt8.toNat_ofNat']; simp
theorem head_or : ∀ k : Fin 9, ∀ x : Fin 128, x.val < 2 ^ (7 - k.val) → bits .or .u8 (bits .xor .u8 IntKind.u8.max (255 / 2 ^ k.val)) (IntKind.u8.wrap (x.val : Int)) = ((UInt8.ofNat (256 - 2 ^ (8 - k.val) + x.val)).toNat : Int) := by decide +kernel
theorem head_byte (v : Nat) (hv : v < 2 ^ 64) : bits .or .u8 (bits .xor .u8 IntKind.u8.max (255 / 2 ^ more v)) (IntKind.u8.wrap ((v : Int) / 2 ^ (8 * (more v : Int)).toNat)) = ((UInt8.ofNat (head v)).toNat : Int) := by
  have ht := top_lt v hv
  have hm := more_le v
  have hx : v / 256 ^ more v < 128 := Nat.lt_of_lt_of_le ht (Nat.pow_le_pow_right (by decide) (by omega : 7 - more v ≤ 7))
  have h := head_or ⟨more v, by omega⟩ ⟨v / 256 ^ more v, hx⟩ ht
  simp only at h
  rw [show (8 * (more v : Int)).toNat = 8 * more v by omega, shr8, h]; rfl
/-- The rounds that put the bytes behind the first one. -/
def PutAt (v k m : Nat) (l : List UInt8) : Prop := l ++ be m v = be k v ∧ l.length + m = k
theorem PutAt.step {v k m : Nat} {l : List UInt8} (h : PutAt v k (m + 1) l) : PutAt v k m (l ++ [UInt8.ofNat (v / 256 ^ m)]) := by
  obtain ⟨h1, h2⟩ := h
  refine ⟨?_, by simp; omega⟩
  rw [List.append_assoc]; exact h1
theorem PutAt.last {v k : Nat} {l : List UInt8} (h : PutAt v k 0 l) : l = be k v := by have := h.1; simpa [be] using this
set_option maxRecDepth 20000 in
set_option maxHeartbeats 1000000 in
theorem put_any (v : Nat) (hv : v < 18446744073709551616) (w : World) :
    Calls Tryd.prog 45 #[.int .u64 (v : Int)] w fun e w' => ∃ r, e = .returned r ∧ Made w w' (enc v) r := by
  obtain ⟨i0, hi, hz0, hz1, hz2⟩ := info_parts infoU8
  have hk := more_bits v
  have hk8 := more_le v
  have hbl : bitLen v ≤ 64 := by
    unfold bitLen; split
    · omega
    · rename_i h0; have := (Nat.log2_lt h0).2 (show v < 2 ^ 64 from hv); omega
  have hhd := head_byte v hv
  have henc : enc v = UInt8.ofNat (head v) :: be (more v) v := rfl
  generalize hb : bitLen v = b at *
  have HB := Lib.hid hb
  clear hb
  generalize hkk : more v = k at *
  have HK := Lib.hid hkk
  clear hkk
  have HH := Lib.hid hhd
  clear hhd
  generalize UInt8.ofNat (head v) = hd at *
  have HE := Lib.hid henc
  clear henc
  have h8k : IntKind.i64.wrap (8 * (k : Int)) = 8 * (k : Int) := IntWalk.i64_in _ (by omega)
  have hsg : IntKind.u8.signed = false := rfl
  go_enter Tryd.func45, Tryd.ntmps45
  go_wp2_with fail
  refine (len64_any (v : Int) (by omega) (by omega) _).mono ?_; rintro e w' ⟨rfl, rfl⟩
  rw [Int.toNat_natCast, HB.out]
  go_wp2_with (at_make; refine wpList_make_own _ rfl _ _ 22 rfl w.heap.size 5 i0 (.int .u8 0) 1 Tryd.underlying22 hi hz0 hz1 .i64 .i64 _ (k + 1) rfl rfl (by omega) (by rw [hz2]; omega) (by unfold maxLen; omega) (Nat.le_refl _) ?_; intro w1 hown1 hgrow1)
  have hb1 : Below w.heap.size w w1 := (Below.refl _ _).grown hgrow1 (Nat.le_refl _) (fun _ h => by cases h)
  have hsz := hb1.size
  have HLT := Lib.hid hown1.lt
  clear hgrow1
  go_region_held3 (fun w' => True)
     (first | trivial)
     ((refine step_append_lies _ (by rfl) _ _ _ (by rfl) w.heap.size 5 i0 _ 1 1 Tryd.underlying22 hi hz0 hz1 hz2 rfl (by omega) _ 0 [] (by rfl) ((hown1.alloc _).drew) ⟨w1.heap.size, 0, none⟩ 1 1 [.int .u8 (bits .or .u8 (bits .xor .u8 IntKind.u8.max (255 / 2 ^ k)) (IntKind.u8.wrap ((v : Int) / 2 ^ (8 * (k : Int)).toNat)))] (by rfl) (by rfl) (World.news_of_block (cs := #[.int .u8 (bits .or .u8 (bits .xor .u8 IntKind.u8.max (255 / 2 ^ k)) (IntKind.u8.wrap ((v : Int) / 2 ^ (8 * (k : Int)).toNat)))]) (t := 5) (fr := (0, 0)) (heap_alloc_new w1 _)) (by simp [Value.oneCell']) (by omega) (by unfold maxLen; omega) (by omega) (by simp; omega) (w1.heap.size + 1) (by simp) ?_; intro gg cap w2 hown2 hgrow hat hlt2))
  have hb2 : Below w.heap.size w w2 := ((hb1.alloc hsz _).drew).grown hgrow (by simp; omega) (fun g hg => (HLT.out g hg).1)
  rw [HH.out] at hown2
  have hown2 : w2.ownsRow w.heap.size 5 1 (.slice (some ⟨gg, 0, none⟩) 1 cap) 1 (bvs [hd]) := hown2
  clear hown1 hgrow hat hlt2 hb1 hsz HLT h8k
  go_wp2_with fail
  go_loopw [4, 5] (fun r i wr => ∃ (m : Nat) (l : List UInt8), m ≤ k ∧ i = .int .i64 ((m : Int) - 1) ∧ PutAt v k m l ∧ wr.ownsRow w.heap.size 5 1 r (1 + l.length) (bvs (hd :: l)) ∧ Below w.heap.size w wr) (fun _ i _ => (intOf i + 1).toNat)
  case atStart => exact ⟨k, [], Nat.le_refl _, rfl, ⟨rfl, by simp⟩, hown2, hb2⟩
  case round =>
    clear hown2 hb2
    obtain ⟨m, l, hm, rfl, hp, hown, hb⟩ := hrel
    by_cases h0 : m = 0
    · subst h0
      go_wp2
      go_ret
      have e := hp.last
      have hl : l.length = k := by have := hp.2; omega
      obtain ⟨A, c, hv⟩ := own_slice hown
      subst hv
      refine ⟨_, rfl, A, c, ?_, ?_, hb⟩
      · rw [enc_length, HK.out, hl]; rfl
      · rw [enc_length, HE.out, HK.out, ← e, ← hl]; exact hown
    · obtain ⟨m, rfl⟩ : ∃ q, m = q + 1 := ⟨m - 1, by omega⟩
      have hi1 : (((m + 1 : Nat) : Int) - 1) = (m : Int) := by omega
      have HP := Lib.hid hp.step
      have hll := hp.2
      have hby := byte_mod v m
      have hsz := hb.size
      have HLT := Lib.hid hown.lt
      have HA : Hid (bvs (hd :: l) ++ bvs [UInt8.ofNat (v / 256 ^ m)] = bvs (hd :: (l ++ [UInt8.ofNat (v / 256 ^ m)]))) := by unfold Hid; simp [bvs]
      clear hp
      generalize UInt8.ofNat (v / 256 ^ m) = cb at *
      have hro := row_one wr 5 cb
      have hone := bvs_one [cb]
      go_wp2_with (at_builtin; refine wpList_append_row rfl _ _ 22 rfl w.heap.size 5 i0 (.int .u8 0) 1 Tryd.underlying22 hi hz0 hz1 hz2 rfl _ (1 + l.length) (bvs (hd :: l)) rfl (hown.alloc _) (wr.heap.size + 1) (some ⟨wr.heap.size, 0, none⟩) 1 1 (bvs [cb]) rfl rfl hro hone (by unfold maxLen; omega) (by omega) (by simp; omega) ?_; intro v' w3 hown3 hgrow3)
      have hg3 : (wr.alloc (.cells #[.int .u8 (cb.toNat : Int)] 5)).grownBy w3 u4.ownBlock := hgrow3
      have hb3 : Below w.heap.size w w3 := (hb.alloc hsz _).grown hg3 (by simp; omega) (fun g hg => (HLT.out g hg).1)
      rw [HA.out] at hown3
      clear hgrow3 hg3
      go_roundw
      case rel => exact ⟨_, _, _, _, _, _, _, _, _, _, _, _, _, _, ⟨m, l ++ [cb], by omega, rfl, HP.out, by rw [List.length_append, List.length_singleton, ← Nat.add_assoc]; exact hown3, hb3⟩, rfl⟩
      case measure => simp [intOf]
end BinW
end Go.Proofs.YtnlhajhbmkhnjabDoor

/- The walks of the program's encodings: numbers, ints and texts are the bytes that the chapter says, in new memory. -/



namespace Go.Proofs.YtnlhajhbmkhnjabDoor
open Go.RowKit
namespace BinM
def isNum (n : Int) : Bool := decide (0 ≤ n ∧ n ≤ 9007199254740991)
def numE (n : Int) : Int := if isNum n then 0 else 9
def numB (n : Int) : List UInt8 := if isNum n then enc n.toNat else []
def textOk (n : Nat) (most : Int) : Bool := decide ((n : Int) ≤ most ∧ n ≤ 9007199254740991)
def textE (s : List UInt8) (most : Int) : Int := if textOk s.length most then 0 else 5
def textB (s : List UInt8) (most : Int) : List UInt8 := if textOk s.length most then enc s.length ++ s else []
end BinM
namespace BinW
open BinM Wd
set_option maxRecDepth 20000 in
set_option maxHeartbeats 1000000 in
theorem num_any (n : Int) (hn : -9223372036854775808 ≤ n ∧ n ≤ 9223372036854775807) (w : World) :
    Calls Tryd.prog 29 #[.int .i64 n] w fun e w' => ∃ r, e = .returned (.tuple #[r, .int .i64 (numE n)]) ∧ Made w w' (numB n) r := by
  by_cases h0 : n < 0
  · have HI : Hid (isNum n = false) := decide_eq_false (by omega)
    go_enter Tryd.func29, Tryd.ntmps29
    go_wp2
    go_ret2
    exact ⟨_, by unfold numE; rw [HI.out]; rfl, by unfold numB; rw [HI.out]; exact made_nil w⟩
  · by_cases h1 : 9007199254740991 < n
    · have HI : Hid (isNum n = false) := decide_eq_false (by omega)
      go_enter Tryd.func29, Tryd.ntmps29
      go_wp2
      go_ret2
      exact ⟨_, by unfold numE; rw [HI.out]; rfl, by unfold numB; rw [HI.out]; exact made_nil w⟩
    · have HI : Hid (isNum n = true) := decide_eq_true (by omega)
      obtain ⟨m, rfl⟩ : ∃ m : Nat, n = (m : Int) := ⟨n.toNat, by omega⟩
      have HB : Hid (numB (m : Int) = enc m) := by unfold Hid numB; rw [HI.out]; rfl
      go_enter Tryd.func29, Tryd.ntmps29
      go_wp2_with fail
      refine (put_any m (by omega) _).mono ?_; rintro e w' ⟨r, rfl, hm⟩
      go_wp2_with fail
      go_ret2
      exact ⟨r, by unfold numE; rw [HI.out]; rfl, by rw [HB.out]; exact hm⟩
theorem zz_bits (n : Int) (hn : -9223372036854775808 ≤ n ∧ n ≤ 9223372036854775807) : bits .xor .u64 (IntKind.u64.wrap (IntKind.u64.wrap n * 2)) (IntKind.u64.wrap (n / 9223372036854775808)) = (zz n : Int) := by
  simp only [IntKind.wrap_u64]
  rw [u64_xor _ _ (by omega) (by omega) (by omega) (by omega)]
  congr 1
  by_cases h : 0 ≤ n
  · have e1 : (n / 9223372036854775808 % 18446744073709551616).toNat = 0 := by omega
    rw [e1, Nat.xor_zero]; unfold zz; rw [if_pos h]; omega
  · have e1 : (n / 9223372036854775808 % 18446744073709551616).toNat = 2 ^ 64 - 1 := by omega
    have e2 : (n % 18446744073709551616 * 2 % 18446744073709551616).toNat = (2 * n + 18446744073709551616).toNat := by omega
    rw [e1, e2]; unfold zz; rw [if_neg h]
    have h3 : (2 * n + 18446744073709551616).toNat < 2 ^ 64 := by omega
    apply Nat.eq_of_testBit_eq
    intro i
    have h4 := Nat.testBit_two_pow_sub_succ (x := (2 * n + 18446744073709551616).toNat) (n := 64) h3 i
    rw [Nat.testBit_xor, Nat.testBit_two_pow_sub_one]
    have h5 : (-2 * n - 1).toNat = 2 ^ 64 - ((2 * n + 18446744073709551616).toNat + 1) := by omega
    rw [h5, h4]
    by_cases hi : i < 64
    · simp [hi]
    · have : (2 * n + 18446744073709551616).toNat.testBit i = false := Nat.testBit_lt_two_pow (Nat.lt_of_lt_of_le h3 (Nat.pow_le_pow_right (by decide) (by omega)))
      simp [hi, this]
set_option maxRecDepth 20000 in
set_option maxHeartbeats 1000000 in
theorem int_any (n : Int) (hn : -9223372036854775808 ≤ n ∧ n ≤ 9223372036854775807) (w : World) :
    Calls Tryd.prog 30 #[.int .i64 n] w fun e w' => ∃ r, e = .returned r ∧ Made w w' (enc (zz n)) r := by
  have hz := zz_bits n hn
  have hz2 := zz_lt n hn
  generalize zz n = z at *
  go_enter Tryd.func30, Tryd.ntmps30
  go_wp2_with fail
  refine (put_any z hz2 _).mono ?_; rintro e w' ⟨r, rfl, hm⟩
  go_wp2_with fail
  go_ret
  exact ⟨r, rfl, hm⟩
theorem enc_lt (v : Nat) : (enc v).length ≤ 9 := by have := more_le v; rw [enc_length]; omega
theorem strCells_bvs (s : ByteArray) : Lib.strCells s = bvs s.data.toList := rfl
set_option maxRecDepth 20000 in
set_option maxHeartbeats 1000000 in
theorem text_any (s : ByteArray) (hs : s.size ≤ 140737488351232) (most : Int) (w : World) :
    Calls Tryd.prog 31 #[.string s, .int .i64 most] w fun e w' => ∃ r, e = .returned (.tuple #[r, .int .i64 (textE s.data.toList most)]) ∧ Made w w' (textB s.data.toList most) r := by
  obtain ⟨i0, hi, hz0, hz1, hz2⟩ := info_parts infoU8
  have hss : s.data.toList.length = s.size := rfl
  have HSS := Lib.hid hss
  clear hss
  by_cases h0 : (s.size : Int) ≤ most
  · by_cases h1 : 9007199254740991 < s.size
    · omega
    · have HI : Hid (textOk s.data.toList.length most = true) := decide_eq_true (by rw [HSS.out]; omega)
      have HB : Hid (textB s.data.toList most = enc s.size ++ s.data.toList) := by unfold Hid textB; rw [HI.out, HSS.out]; rfl
      have HL := Lib.hid (enc_lt s.size)
      go_enter Tryd.func31, Tryd.ntmps31
      go_wp2_with fail
      refine (put_any s.size (by omega) _).mono ?_; rintro e w1 ⟨r, rfl, hm⟩
      obtain ⟨A, c, rfl, hown, hb⟩ := hm
      have hsz := hb.size
      have HLT := Lib.hid hown.lt
      go_wp2_with (at_builtin; refine Lib.wpList_append_own_string _ rfl _ _ 22 9 rfl w.heap.size 5 i0 Tryd.underlying22 Tryd.underlying9 hi hz0 hz1 hz2 _ _ _ rfl hown s rfl (by have := HL.out; unfold maxLen; omega) (by have := HL.out; omega) hsz ?_; intro v' w2 hown2 hgrow2 _)
      have hg : w1.grownBy w2 (Value.slice A (enc s.size).length c).ownBlock := hgrow2
      have hb2 : Below w.heap.size w w2 := hb.grown hg hsz (fun k hk => (HLT.out k hk).1)
      clear hgrow2 hg
      obtain ⟨A', c', rfl⟩ := own_slice hown2
      go_wp2_with fail
      go_ret2
      refine ⟨.slice A' ((enc s.size).length + s.size) c', by unfold textE; rw [HI.out]; rfl, A', c', ?_, ?_, hb2⟩
      · rw [HB.out, List.length_append, HSS.out]
      · rw [HB.out, List.length_append, HSS.out]
        have e : bvs (enc s.size) ++ Lib.strCells s = bvs (enc s.size ++ s.data.toList) := by rw [strCells_bvs]; simp [bvs]
        rw [e] at hown2; exact hown2
  · have HI : Hid (textOk s.data.toList.length most = false) := decide_eq_false (by rw [HSS.out]; omega)
    go_enter Tryd.func31, Tryd.ntmps31
    go_wp2
    go_ret2
    exact ⟨_, by unfold textE; rw [HI.out]; rfl, by unfold textB; rw [HI.out]; exact made_nil w⟩
end BinW
end Go.Proofs.YtnlhajhbmkhnjabDoor

/- The walk of what the program takes off bytes. -/




namespace Go.Proofs.YtnlhajhbmkhnjabDoor
open Go.RowKit
namespace BinW
open BinM Wd
theorem lead_bits : ∀ c : Fin 256, (8 - (bitLen (255 - c.val) : Int)) = (lead c.val : Int) := by decide +kernel
theorem flip_byte : ∀ c : Fin 256, bits .xor .u8 IntKind.u8.max (c.val : Int) = ((255 - c.val : Nat) : Int) := by decide +kernel
theorem low_bits : ∀ k : Fin 9, ∀ c : Fin 256, bits .and .u8 (c.val : Int) (127 / 2 ^ k.val) = ((c.val % 2 ^ (7 - k.val) : Nat) : Int) := by decide +kernel
theorem lead8_flip (c : Nat) (hc : c < 256) (w : World) : Calls Tryd.prog 67 #[.int .u8 ((255 - c : Nat) : Int)] w fun e w' => e = .returned (.int .i64 (lead c : Int)) ∧ w = w' := by
  have h := lead8_any ((255 - c : Nat) : Int) (by omega) (by omega) w
  rw [Int.toNat_natCast, lead_bits ⟨c, hc⟩] at h; exact h
theorem rd_cons (l : List UInt8) (h : 0 < l.length) : rd l =
    if l.length ≤ lead (l.getD 0 0).toNat then (0, 0, 3)
    else if 0 < lead (l.getD 0 0).toNat ∧ acc ((l.getD 0 0).toNat % 2 ^ (7 - lead (l.getD 0 0).toNat)) ((l.drop 1).take (lead (l.getD 0 0).toNat)) < 2 ^ (7 * lead (l.getD 0 0).toNat) then (0, 0, 4)
    else (acc ((l.getD 0 0).toNat % 2 ^ (7 - lead (l.getD 0 0).toNat)) ((l.drop 1).take (lead (l.getD 0 0).toNat)), 1 + lead (l.getD 0 0).toNat, 0) := by
  cases l with
  | nil => simp at h
  | cons c r =>
    simp only [List.getD_cons_zero, List.drop_one, List.tail_cons, List.length_cons]
    unfold rd
    simp only
    by_cases h1 : r.length < lead c.toNat
    · have h2 : r.length + 1 ≤ lead c.toNat := by omega
      rw [if_pos h1, if_pos h2]
    · have h2 : ¬ r.length + 1 ≤ lead c.toNat := by omega
      rw [if_neg h1, if_neg h2]
theorem acc_lt (x k j : Nat) (r : List UInt8) (hx : x < 2 ^ (7 - k)) (hk : k ≤ 8) (hj : j ≤ k) (hr : k ≤ r.length) : acc x (r.take j) < 18446744073709551616 ∧ (j < k → acc x (r.take j) * 256 < 18446744073709551616) := by
  have h := acc_split (r.take j) x
  rw [List.length_take, Nat.min_eq_left (by omega)] at h
  have h2 : (x + 1) * 256 ^ j ≤ 2 ^ (7 - k) * 256 ^ j := Nat.mul_le_mul_right _ hx
  rw [show (256 : Nat) = 2 ^ 8 from rfl, ← Nat.pow_mul, ← Nat.pow_add, Nat.add_mul] at h2
  rw [show (256 : Nat) = 2 ^ 8 from rfl, ← Nat.pow_mul] at h
  have h3 : acc x (r.take j) < 2 ^ (7 - k + 8 * j) := by omega
  have h5 : acc x (r.take j) < 2 ^ 64 := Nat.lt_of_lt_of_le h3 (Nat.pow_le_pow_right (by decide) (by omega))
  refine ⟨h5, fun hjk => ?_⟩
  have h4 : acc x (r.take j) < 2 ^ 56 := Nat.lt_of_lt_of_le h3 (Nat.pow_le_pow_right (by decide) (by omega))
  omega
theorem join_byte (a : Nat) (c : UInt8) (h : a * 256 < 18446744073709551616) : bits .or .u64 ((a : Int) * 256) (c.toNat : Int) = ((a * 256 + c.toNat : Nat) : Int) := by
  have hc := c.toNat_lt
  have e : ((a : Int) * 256) = ((a * 256 : Nat) : Int) := by omega
  rw [e, u64_or_nat _ _ h (by omega)]
  congr 1
  exact nat_join 8 _ _ (by omega) (by omega)
/-- The bytes behind the first one, as the piece that the program ranges over. -/
theorem rest_cut (B : Nat) (ad : Addr) (n c k : Nat) (l : List UInt8) (hn : n = l.length) (hc : n ≤ c) (hk : k < n) :
    ∃ A1, (∀ w, (Instr.slice 22 (.slice (some ad) n c) (some (.int .i64 1)) (some (.int .i64 (1 + (k : Int)))) none).run Tryd.prog w = .ok (.slice A1 k (c - 1)) w) ∧
      ∀ w, Row w B (some ad) (bvs l) → Row w B A1 (bvs ((l.drop 1).take k)) := by
  refine ⟨cutAt (some ad) c 1, fun w => ?_, fun w h => ?_⟩
  · rw [slice_lh _ _ _ _ _ _ _ (by omega) (by omega) (by omega)]
    congr 2
    omega
  · have h1 := (h.take (1 + k)).cut c 1 (by rw [List.length_take, bvs_length]; omega)
    rw [bvs_take, bvs_drop, List.drop_take, show 1 + k - 1 = k by omega] at h1
    exact h1
set_option maxRecDepth 20000 in
set_option maxHeartbeats 1000000 in
theorem get_any (B : Nat) (A : Option Addr) (n c : Nat) (l : List UInt8) (w : World) (hn : n = l.length) (hl : n ≤ 140737488355328) (hc : n ≤ c) (h : Row w B A (bvs l)) :
    Calls Tryd.prog 58 #[.slice A n c] w fun e w' => e = .returned (.tuple #[.int .u64 ((rd l).1 : Int), .int .i64 ((rd l).2.1 : Int), .int .i64 ((rd l).2.2 : Int)]) ∧ ∃ q, w' = w.drewN q := by
  by_cases h0 : n = 0
  · obtain rfl : l = [] := List.length_eq_zero_iff.1 (by omega)
    subst h0
    clear h hn hl
    go_enter Tryd.func58, Tryd.ntmps58
    go_wp2_with fail
    go_ret3
    exact ⟨rfl, 0, rfl⟩
  · have hne : ((n : Int) == 0) = false := by simp; omega
    obtain ⟨ad, rfl, hb, hc0⟩ := h.byte (k := 0) (by omega)
    rw [Addr.add_zero'] at hc0
    have HN := Lib.hid hn
    clear hn
    generalize hx0 : l.getD 0 0 = x at *
    have HX := Lib.hid hx0
    clear hx0
    have hfl := flip_byte ⟨x.toNat, x.toNat_lt⟩
    have hx := x.toNat_lt
    have hlo : ∀ k, k < 9 → bits .and .u8 (x.toNat : Int) (127 / 2 ^ k) = ((x.toNat % 2 ^ (7 - k) : Nat) : Int) := fun k hk => low_bits ⟨k, hk⟩ ⟨x.toNat, x.toNat_lt⟩
    have hk8 : lead x.toNat ≤ 8 := (lead_split ⟨x.toNat, x.toNat_lt⟩).1
    have hG := rd_cons l (by have := HN.out; omega)
    rw [HX.out] at hG
    have hcall := fun w => lead8_flip x.toNat hx w
    generalize lead x.toNat = k at *
    have hlo := hlo k (by omega)
    have hxk : x.toNat % 2 ^ (7 - k) < 2 ^ (7 - k) := Nat.mod_lt _ (Nat.two_pow_pos _)
    generalize x.toNat % 2 ^ (7 - k) = y at *
    have HXK := Lib.hid hxk
    have HRW := Lib.hid h
    clear h
    have HG := Lib.hid hG
    have HCL := Lib.hid hcall
    clear hG hcall hxk
    by_cases hk : n ≤ k
    · have HR : Hid (rd l = (0, 0, 3)) := by unfold Hid; rw [HG.out, if_pos (by rw [← HN.out]; exact hk)]
      clear HG hlo
      go_enter Tryd.func58, Tryd.ntmps58
      go_wp2_with fail
      refine (HCL.out _).mono ?_; rintro e w' ⟨rfl, rfl⟩
      go_wp2_with fail
      go_ret3
      exact ⟨by rw [HR.out]; rfl, 0, rfl⟩
    · have hk0 : (0 : Int) < (n : Int) := by omega
      have hyl := (acc_lt y k 0 (l.drop 1) HXK.out (by omega) (by omega) (by simp; have := HN.out; omega)).1
      have hyl : y < 18446744073709551616 := by simpa [acc] using hyl
      have hwr : IntKind.u64.wrap (y : Int) = (y : Int) := by rw [IntKind.wrap_u64]; omega
      obtain ⟨A1, hsl, hr1⟩ := rest_cut B ad n c k l HN.out hc (by omega)
      have HR1 := Lib.hid hr1
      clear hr1
      go_enter Tryd.func58, Tryd.ntmps58
      go_wp2_with fail
      refine (HCL.out _).mono ?_; rintro e w' ⟨rfl, rfl⟩
      go_wp2_with fail
      go_quiet (fail)
      have hw : ∃ q, w.drewN nq = w.drewN q := ⟨_, rfl⟩
      have hrow := HRW.out.below (drawn_below B w nq)
      generalize w.drewN nq = w2 at *
      have HW := Lib.hid hw
      clear hw hc0 hlo hfl
      have hrow1 := HR1.out w2 hrow
      have hrl : k ≤ (l.drop 1).length := by rw [List.length_drop]; have := HN.out; omega
      generalize l.drop 1 = r at *
      clear hrow HR1 hwr hyl hx
      go_wp2_with fail
      go_loop [2, 32] (fun v i => ∃ j : Nat, j ≤ k ∧ i = .int .i64 (j : Int) ∧ v = .int .u64 ((acc y (r.take j) : Nat) : Int)) (fun _ i => k - (intOf i).toNat)
      case atStart => exact ⟨0, Nat.zero_le _, rfl, rfl⟩
      case round =>
        obtain ⟨j, hj, rfl, rfl⟩ := hrel
        by_cases hlt : j < k
        · obtain ⟨ad1, rfl, _, hc1⟩ := hrow1.byte (k := j) (by rw [List.length_take]; omega)
          have hu := u8_le ((r.take k).getD j 0)
          have hac := (acc_lt y k j r HXK.out hk8 (by omega) hrl).2 hlt
          have HS : Hid (acc y (r.take (j + 1)) = acc y (r.take j) * 256 + ((r.take k).getD j 0).toNat) := by
            unfold Hid
            rw [take_getD r j (by omega), acc_snoc]
            congr 2
            simp [List.getD, List.getElem?_take_of_lt hlt]
          have hjo := join_byte (acc y (r.take j)) ((r.take k).getD j 0) hac
          generalize acc y (r.take j) = a at *
          generalize (r.take k).getD j 0 = u at *
          have hwa : IntKind.u64.wrap ((a : Int) * 256) = (a : Int) * 256 := by rw [IntKind.wrap_u64]; omega
          go_wp2
          go_round
          case rel => exact ⟨j + 1, by omega, by go_num, by rw [HS.out, Int.natCast_add, Int.natCast_mul]; rfl⟩
          case measure => simp [intOf]; omega
        · have ej : j = k := by omega
          subst ej
          have hV := (acc_lt y j j r HXK.out hk8 (Nat.le_refl _) hrl).1
          have HG2 : Hid (rd l = if 0 < j ∧ acc y (r.take j) < 2 ^ (7 * j) then (0, 0, 4) else (acc y (r.take j), 1 + j, 0)) := by
            unfold Hid; rw [HG.out, if_neg (by have := HN.out; omega)]
          clear HG hrow1
          generalize acc y (r.take j) = V at *
          by_cases hj0 : j = 0
          · subst hj0
            go_wp2
            go_ret3
            exact ⟨by rw [HG2.out]; rfl, HW.out⟩
          · have hd : decide ((0 : Int) < (j : Int)) = true := by simp; omega
            have e7 : (V : Int) / 2 ^ (7 * j) = ((V / 2 ^ (7 * j) : Nat) : Int) := by simp
            by_cases hz : V < 2 ^ (7 * j)
            · have hq : ((V : Int) / 2 ^ (7 * j) == 0) = true := by rw [e7, Nat.div_eq_of_lt hz]; rfl
              have HR : Hid (rd l = (0, 0, 4)) := by unfold Hid; rw [HG2.out, if_pos ⟨by omega, hz⟩]
              clear e7 hz HG2
              go_wp2
              go_ret3
              exact ⟨by rw [HR.out]; rfl, HW.out⟩
            · have hq : ((V : Int) / 2 ^ (7 * j) == 0) = false := by
                rw [e7]
                have := Nat.div_pos (Nat.not_lt.1 hz) (Nat.two_pow_pos (7 * j))
                simp; omega
              have HR : Hid (rd l = (V, 1 + j, 0)) := by unfold Hid; rw [HG2.out, if_neg (fun h => hz h.2)]
              clear e7 hz HG2
              go_wp2
              go_ret3
              exact ⟨by rw [HR.out]; rfl, HW.out⟩
end BinW
end Go.Proofs.YtnlhajhbmkhnjabDoor

/- The walks of what the program takes off bytes: numbers, ints and texts. -/



namespace Go.Proofs.YtnlhajhbmkhnjabDoor
open Go.RowKit
namespace Wd
/-- A row whose memory is the call's own: it may be written. -/
def Mine (w : World) (base : Nat) (A : Option Addr) (l : List UInt8) : Prop :=
  l = [] ∨ ∃ g o cur, A = some ⟨g, o, none⟩ ∧ base ≤ g ∧ w.heap[g]? = some (.cells cur 5 (0, 0))
/-- A row that a call has handed back: new memory, its bytes. -/
def Gave (w w' : World) (l : List UInt8) (r : Value) : Prop :=
  ∃ A c, r = .slice A l.length c ∧ l.length ≤ c ∧ Row w' w'.heap.size A (bvs l) ∧ Mine w' w.heap.size A l ∧ Below w.heap.size w w'
theorem gave_nil (w w' : World) (h : Below w.heap.size w w') : Gave w w' [] (.slice none 0 0) := ⟨none, 0, rfl, Nat.le_refl _, Row.nil _ _ _, .inl rfl, h⟩
theorem Made.gave {w w' : World} {l : List UInt8} {r : Value} (h : Made w w' l r) : Gave w w' l r := by
  obtain ⟨A, c, rfl, hown, hb⟩ := h
  refine ⟨A, c, rfl, ?_, Row.own hown, ?_, hb⟩
  · rcases hown.2 with ⟨hv, h0⟩ | ⟨g, cap, cur, hv, _, _, hnc, _⟩
    · rw [h0]; exact Nat.zero_le _
    · injection hv with _ _ h3; rw [h3]; exact hnc
  · rcases hown.2 with ⟨hv, h0⟩ | ⟨g, cap, cur, hv, hg, hh, _⟩
    · exact .inl (List.length_eq_zero_iff.1 h0)
    · injection hv with h1; exact .inr ⟨g, 0, cur, h1, hg, hh⟩
theorem Below.drewN {B : Nat} {w w' : World} (h : Below B w w') (n : Nat) : Below B w (w'.drewN n) := h.trans (drawn_below _ _ _)
/-- .. with draws ahead of it. -/
theorem gave_drew {w w1 w' : World} {l : List UInt8} {r : Value} (h : Gave w1 w' l r) (hb : Below w.heap.size w w1) : Gave w w' l r := by
  obtain ⟨A, c, hr, hc, hrow, hm, hb'⟩ := h
  refine ⟨A, c, hr, hc, hrow, ?_, bthen hb hb'⟩
  rcases hm with h0 | ⟨g, o, cur, h1, h2, h3⟩
  · exact .inl h0
  · exact .inr ⟨g, o, cur, h1, Nat.le_trans hb.size h2, h3⟩
end Wd
namespace BinW
open BinM Wd
theorem method_num (F : Nat) (v : Int) (w : World) : (method (F + 1) 68 (.int .u64 v) "encore/bin.plain").run Tryd.prog w = .ok (91, .int .u64 v) w := by kernel_rfl
theorem method_int (F : Nat) (v : Int) (w : World) : (method (F + 1) 69 (.int .u64 v) "encore/bin.plain").run Tryd.prog w = .ok (92, .int .u64 v) w := by kernel_rfl
theorem numPlain_any (v : Nat) (hv : v < 18446744073709551616) (w : World) :
    Calls Tryd.prog 91 #[.int .u64 (v : Int)] w fun e w' => e = .returned (if 9007199254740991 < v then .tuple #[.int .i64 0, .int .i64 4] else .tuple #[.int .i64 (v : Int), .int .i64 0]) ∧ w = w' := by
  by_cases h : 9007199254740991 < v
  · rw [if_pos h]
    go_enter Tryd.func91, Tryd.ntmps91
    go_wp2
    go_ret2
    exact ⟨rfl, rfl⟩
  · rw [if_neg h]
    go_enter Tryd.func91, Tryd.ntmps91
    go_wp2
    go_ret2
    exact ⟨rfl, rfl⟩
theorem unzz_bits (v : Nat) (hv : v < 18446744073709551616) : bits .xor .i64 ((v : Int) / 2) (wrap64 (-wrap64 (bits .and .u64 (v : Int) 1))) = unzz v := by
  have h1 : bits .and .u64 (v : Int) 1 = ((v % 2 : Nat) : Int) := by
    rw [show (1 : Int) = ((1 : Nat) : Int) from rfl, u64_and_nat v 1 hv (by decide), nat_mask1]
  have h2 : (v : Int) / 2 = ((v / 2 : Nat) : Int) := by omega
  rw [h1, h2]
  unfold unzz
  show IntKind.i64.wrap ((BitVec.ofInt 64 ((v / 2 : Nat) : Int) ^^^ BitVec.ofInt 64 _).toNat : Int) = _
  have h3 : (BitVec.ofInt 64 ((v / 2 : Nat) : Int)).toNat = v / 2 := by rw [BitVec.ofInt_natCast, BitVec.toNat_ofNat]; exact Nat.mod_eq_of_lt (by omega)
  by_cases ho : v % 2 = 0
  · rw [ho, if_pos rfl, show wrap64 (-wrap64 ((0 : Nat) : Int)) = 0 by decide +kernel]
    rw [show BitVec.ofInt 64 0 = 0#64 from rfl, BitVec.xor_zero, h3]
    exact IntWalk.i64_in _ (by omega)
  · have ho : v % 2 = 1 := by omega
    rw [ho, if_neg (by decide), show wrap64 (-wrap64 ((1 : Nat) : Int)) = -1 by decide +kernel]
    rw [show BitVec.ofInt 64 (-1) = BitVec.allOnes 64 from rfl, BitVec.xor_allOnes, BitVec.toNat_not, h3]
    have h4 : ((2 ^ 64 - 1 - v / 2 : Nat) : Int) = 18446744073709551615 - ((v / 2 : Nat) : Int) := by omega
    rw [h4]
    simp only [IntKind.wrap, IntKind.bits, IntKind.signed]
    simp
    omega
theorem intPlain_any (v : Nat) (hv : v < 18446744073709551616) (w : World) :
    Calls Tryd.prog 92 #[.int .u64 (v : Int)] w fun e w' => e = .returned (.tuple #[.int .i64 (unzz v), .int .i64 0]) ∧ w = w' := by
  go_enter Tryd.func92, Tryd.ntmps92
  go_wp2
  go_ret2
  refine ⟨?_, rfl⟩
  rw [← unzz_bits v hv]; rfl
end BinW
namespace BinM
def tkNum (l : List UInt8) : Int × List UInt8 × Int :=
  if (rd l).2.2 ≠ 0 then (0, [], (rd l).2.2) else if 9007199254740991 < (rd l).1 then (0, [], 4) else ((rd l).1, l.drop (rd l).2.1, 0)
def tkInt (l : List UInt8) : Int × List UInt8 × Int :=
  if (rd l).2.2 ≠ 0 then (0, [], (rd l).2.2) else (unzz (rd l).1, l.drop (rd l).2.1, 0)
theorem rd_facts (l : List UInt8) : (rd l).1 < 18446744073709551616 ∧ (rd l).2.1 ≤ l.length ∧ (rd l).2.2 ≤ 4 := by
  rcases hr : rd l with ⟨v, n, e⟩
  by_cases he : e = 0
  · subst he
    have h := rd_some l v n hr
    exact ⟨h.1, h.2.2.1, by simp⟩
  · cases l with
    | nil => simp [rd] at hr; obtain ⟨rfl, rfl, rfl⟩ := hr; simp
    | cons c r =>
      unfold rd at hr
      simp only at hr
      split at hr
      · simp only [Prod.mk.injEq] at hr; obtain ⟨rfl, rfl, rfl⟩ := hr; simp
      · split at hr
        · simp only [Prod.mk.injEq] at hr; obtain ⟨rfl, rfl, rfl⟩ := hr; simp
        · simp only [Prod.mk.injEq] at hr; exact absurd hr.2.2.symm he
end BinM
namespace BinW
open BinM Wd
/-- What lies behind the value, as the program cuts it off. -/
theorem behind_cut (A : Option Addr) (n c s : Nat) (l : List UInt8) (hn : n = l.length) (hc : n ≤ c) (hs : s ≤ n) :
    ∃ A1, (∀ w, (Instr.slice 22 (.slice A n c) (some (.int .i64 (s : Int))) none none).run Tryd.prog w = .ok (.slice A1 (n - s) (c - s)) w) ∧
      (∀ w B, Row w B A (bvs l) → Row w B A1 (bvs (l.drop s))) ∧ ∀ w base, Mine w base A l → Mine w base A1 (l.drop s) := by
  refine ⟨cutAt A c s, fun w => slice_l A n c .i64 s (by omega) (by omega) w, fun w B h => ?_, fun w base h => ?_⟩
  · have h1 := h.cut c s (by rw [bvs_length]; omega)
    rw [bvs_drop] at h1
    exact h1
  · rcases h with rfl | ⟨g, o, cur, rfl, h2, h3⟩
    · exact .inl (by simp)
    · unfold cutAt
      split
      · exact .inr ⟨g, o, cur, rfl, h2, h3⟩
      · exact .inr ⟨g, o + s, cur, by simp [Addr.add_lit], h2, h3⟩
theorem third_cut (A : Option Addr) (m c : Nat) (hc : m ≤ c) (w : World) : (Instr.slice 22 (.slice A m c) none (some (.int .i64 (m : Int))) (some (.int .i64 (m : Int)))).run Tryd.prog w = .ok (.slice A m m) w := by
  rw [slice_hm _ _ _ _ _ _ _ (by omega) (by omega) (by omega), cutAt_zero]; rfl
set_option maxRecDepth 20000 in
set_option maxHeartbeats 1000000 in
theorem takeNum_any (B : Nat) (A : Option Addr) (n c : Nat) (l : List UInt8) (w : World) (hn : n = l.length) (hl : n ≤ 140737488355328) (hc : n ≤ c) (h : Row w B A (bvs l)) :
    Calls Tryd.prog 47 #[.slice A n c] w fun e w' => ∃ r, e = .returned (.tuple #[.int .i64 (tkNum l).1, r, .int .i64 (tkNum l).2.2]) ∧ Gave w w' (tkNum l).2.1 r := by
  have hm := method_num
  have hg := get_any B A n c l w hn hl hc h
  have hf := rd_facts l
  have HT : Hid (tkNum l = if (rd l).2.2 ≠ 0 then (0, [], ((rd l).2.2 : Int)) else if 9007199254740991 < (rd l).1 then (0, [], 4) else (((rd l).1 : Int), l.drop (rd l).2.1, 0)) := rfl
  generalize rd l = vse at *
  obtain ⟨v, s, e⟩ := vse
  have hg : Calls Tryd.prog 58 #[.slice A n c] w fun e' w' => e' = .returned (.tuple #[.int .u64 (v : Int), .int .i64 (s : Int), .int .i64 (e : Int)]) ∧ ∃ q, w' = w.drewN q := hg
  have hf : v < 18446744073709551616 ∧ s ≤ l.length ∧ e ≤ 4 := hf
  have HT : Hid (tkNum l = if e ≠ 0 then (0, [], (e : Int)) else if 9007199254740991 < v then (0, [], 4) else ((v : Int), l.drop s, 0)) := HT
  have HG := Lib.hid hg
  have HR := Lib.hid h
  have HN := Lib.hid hn
  clear hg h hn
  by_cases he : e = 0
  · subst he
    by_cases hv : 9007199254740991 < v
    · have HP := Lib.hid (fun w => numPlain_any v hf.1 w)
      have HK : Hid (tkNum l = (0, [], 4)) := by unfold Hid; rw [HT.out, if_neg (by decide), if_pos hv]
      go_enter Tryd.func47, Tryd.ntmps47
      go_wp2_with fail
      refine HG.out.mono ?_; rintro e w' ⟨rfl, q, rfl⟩
      go_wp2_with fail
      refine (HP.out _).mono ?_; rintro e w' ⟨rfl, rfl⟩
      rw [if_pos hv]
      go_wp2_with fail
      go_ret3
      exact ⟨.slice none 0 0, by rw [HK.out]; rfl, by rw [HK.out]; exact gave_nil w _ (drawn_below _ _ _)⟩
    · have HP := Lib.hid (fun w => numPlain_any v hf.1 w)
      have HK : Hid (tkNum l = ((v : Int), l.drop s, 0)) := by unfold Hid; rw [HT.out, if_neg (by decide), if_neg hv]
      obtain ⟨A1, hsl, hr1, _⟩ := behind_cut A n c s l HN.out hc (by rw [HN.out]; exact hf.2.1)
      have HR1 := Lib.hid hr1
      clear hr1
      go_enter Tryd.func47, Tryd.ntmps47
      go_wp2_with fail
      refine HG.out.mono ?_; rintro e w' ⟨rfl, q, rfl⟩
      go_wp2_with fail
      refine (HP.out _).mono ?_; rintro e w' ⟨rfl, rfl⟩
      rw [if_neg hv]
      have hb1 := drawn_below w.heap.size w q
      have hrow := (HR1.out w B HR.out).below (drawn_below B w q)
      generalize w.drewN q = w1 at *
      go_wp2_with fail
      refine (clone_any B A1 (n - s) (c - s) (l.drop s) w1 (by rw [List.length_drop, HN.out]) (by omega) hrow).mono ?_; rintro e w2 ⟨r, rfl, hmade⟩
      have hgave := gave_drew hmade.gave hb1
      generalize l.drop s = t at *
      obtain ⟨A', c', rfl, hcap, hrow2, hmine, hb2⟩ := hgave
      have htc := third_cut A' t.length c' hcap
      have HR2 := Lib.hid hrow2
      have HM2 := Lib.hid hmine
      clear hrow hrow2 hmine hmade hsl
      generalize hmm : t.length = m at *
      have HMM := Lib.hid hmm
      clear hmm
      go_wp2_with fail
      go_quiet (fail)
      go_wp2_with fail
      go_ret3
      refine ⟨.slice A' m m, by rw [HK.out]; rfl, ?_⟩
      rw [HK.out]
      exact ⟨A', m, by rw [HMM.out], by rw [HMM.out]; exact Nat.le_refl _, HR2.out.below (drawn_below _ _ _), HM2.out, Wd.Below.drewN hb2 _⟩
  · have hne : ((e : Int) != 0) = true := by simp; omega
    have HK : Hid (tkNum l = (0, [], (e : Int))) := by unfold Hid; rw [HT.out, if_pos he]
    go_enter Tryd.func47, Tryd.ntmps47
    go_wp2_with fail
    refine HG.out.mono ?_; rintro e w' ⟨rfl, q, rfl⟩
    go_wp2_with fail
    go_ret3
    exact ⟨.slice none 0 0, by rw [HK.out]; rfl, by rw [HK.out]; exact gave_nil w _ (drawn_below _ _ _)⟩
set_option maxRecDepth 20000 in
set_option maxHeartbeats 1000000 in
theorem takeInt_any (B : Nat) (A : Option Addr) (n c : Nat) (l : List UInt8) (w : World) (hn : n = l.length) (hl : n ≤ 140737488355328) (hc : n ≤ c) (h : Row w B A (bvs l)) :
    Calls Tryd.prog 48 #[.slice A n c] w fun e w' => ∃ r, e = .returned (.tuple #[.int .i64 (tkInt l).1, r, .int .i64 (tkInt l).2.2]) ∧ Gave w w' (tkInt l).2.1 r := by
  have hm := method_int
  have hg := get_any B A n c l w hn hl hc h
  have hf := rd_facts l
  have HT : Hid (tkInt l = if (rd l).2.2 ≠ 0 then (0, [], ((rd l).2.2 : Int)) else (unzz (rd l).1, l.drop (rd l).2.1, 0)) := rfl
  generalize rd l = vse at *
  obtain ⟨v, s, e⟩ := vse
  have hg : Calls Tryd.prog 58 #[.slice A n c] w fun e' w' => e' = .returned (.tuple #[.int .u64 (v : Int), .int .i64 (s : Int), .int .i64 (e : Int)]) ∧ ∃ q, w' = w.drewN q := hg
  have hf : v < 18446744073709551616 ∧ s ≤ l.length ∧ e ≤ 4 := hf
  have HT : Hid (tkInt l = if e ≠ 0 then (0, [], (e : Int)) else (unzz v, l.drop s, 0)) := HT
  have HG := Lib.hid hg
  have HR := Lib.hid h
  have HN := Lib.hid hn
  clear hg h hn
  by_cases he : e = 0
  · subst he
    have HP := Lib.hid (fun w => intPlain_any v hf.1 w)
    have HK : Hid (tkInt l = (unzz v, l.drop s, 0)) := by unfold Hid; rw [HT.out, if_neg (by decide)]
    obtain ⟨A1, hsl, hr1, _⟩ := behind_cut A n c s l HN.out hc (by rw [HN.out]; exact hf.2.1)
    have HR1 := Lib.hid hr1
    clear hr1
    go_enter Tryd.func48, Tryd.ntmps48
    go_wp2_with fail
    refine HG.out.mono ?_; rintro e w' ⟨rfl, q, rfl⟩
    go_wp2_with fail
    refine (HP.out _).mono ?_; rintro e w' ⟨rfl, rfl⟩
    have hb1 := drawn_below w.heap.size w q
    have hrow := (HR1.out w B HR.out).below (drawn_below B w q)
    generalize w.drewN q = w1 at *
    go_wp2_with fail
    refine (clone_any B A1 (n - s) (c - s) (l.drop s) w1 (by rw [List.length_drop, HN.out]) (by omega) hrow).mono ?_; rintro e w2 ⟨r, rfl, hmade⟩
    have hgave := gave_drew hmade.gave hb1
    generalize l.drop s = t at *
    obtain ⟨A', c', rfl, hcap, hrow2, hmine, hb2⟩ := hgave
    have htc := third_cut A' t.length c' hcap
    have HR2 := Lib.hid hrow2
    have HM2 := Lib.hid hmine
    clear hrow hrow2 hmine hmade hsl
    generalize hmm : t.length = m at *
    have HMM := Lib.hid hmm
    clear hmm
    go_wp2_with fail
    go_quiet (fail)
    go_wp2_with fail
    go_ret3
    refine ⟨.slice A' m m, by rw [HK.out]; rfl, ?_⟩
    rw [HK.out]
    exact ⟨A', m, by rw [HMM.out], by rw [HMM.out]; exact Nat.le_refl _, HR2.out.below (drawn_below _ _ _), HM2.out, Wd.Below.drewN hb2 _⟩
  · have hne : ((e : Int) != 0) = true := by simp; omega
    have HK : Hid (tkInt l = (0, [], (e : Int))) := by unfold Hid; rw [HT.out, if_pos he]
    go_enter Tryd.func48, Tryd.ntmps48
    go_wp2_with fail
    refine HG.out.mono ?_; rintro e w' ⟨rfl, q, rfl⟩
    go_wp2_with fail
    go_ret3
    exact ⟨.slice none 0 0, by rw [HK.out]; rfl, by rw [HK.out]; exact gave_nil w _ (drawn_below _ _ _)⟩
set_option maxRecDepth 20000 in
set_option maxHeartbeats 1000000 in
theorem TakeNum_any (B : Nat) (A : Option Addr) (n c : Nat) (l : List UInt8) (w : World) (hn : n = l.length) (hl : n ≤ 140737488355328) (hc : n ≤ c) (h : Row w B A (bvs l)) :
    Calls Tryd.prog 34 #[.slice A n c] w fun e w' => ∃ r, e = .returned (.tuple #[.int .i64 (tkNum l).1, r, .int .i64 (tkNum l).2.2]) ∧ Gave w w' (tkNum l).2.1 r := by
  have HG := Lib.hid (takeNum_any B A n c l w hn hl hc h)
  clear hn h
  go_enter Tryd.func34, Tryd.ntmps34
  go_wp2_with fail
  refine HG.out.mono ?_; rintro e w' ⟨r, rfl, hg⟩
  go_wp2_with fail
  go_ret3
  exact ⟨r, rfl, hg⟩
set_option maxRecDepth 20000 in
set_option maxHeartbeats 1000000 in
theorem TakeInt_any (B : Nat) (A : Option Addr) (n c : Nat) (l : List UInt8) (w : World) (hn : n = l.length) (hl : n ≤ 140737488355328) (hc : n ≤ c) (h : Row w B A (bvs l)) :
    Calls Tryd.prog 35 #[.slice A n c] w fun e w' => ∃ r, e = .returned (.tuple #[.int .i64 (tkInt l).1, r, .int .i64 (tkInt l).2.2]) ∧ Gave w w' (tkInt l).2.1 r := by
  have HG := Lib.hid (takeInt_any B A n c l w hn hl hc h)
  clear hn h
  go_enter Tryd.func35, Tryd.ntmps35
  go_wp2_with fail
  refine HG.out.mono ?_; rintro e w' ⟨r, rfl, hg⟩
  go_wp2_with fail
  go_ret3
  exact ⟨r, rfl, hg⟩
end BinW
end Go.Proofs.YtnlhajhbmkhnjabDoor

/- The walk of what the program takes off bytes as a text. -/


namespace Go.Proofs.YtnlhajhbmkhnjabDoor
open Go.RowKit
namespace BinM
def tkText (l : List UInt8) (most : Int) : List UInt8 × List UInt8 × Int :=
  if (tkNum l).2.2 ≠ 0 then ([], [], (tkNum l).2.2) else if most < (tkNum l).1 then ([], [], 5)
  else if ((tkNum l).2.1.length : Int) < (tkNum l).1 then ([], [], 3) else ((tkNum l).2.1.take (tkNum l).1.toNat, (tkNum l).2.1.drop (tkNum l).1.toNat, 0)
theorem tkNum_facts (l : List UInt8) : 0 ≤ (tkNum l).1 ∧ (tkNum l).1 ≤ 9007199254740991 ∧ (tkNum l).2.1.length ≤ l.length ∧ 0 ≤ (tkNum l).2.2 ∧ (tkNum l).2.2 ≤ 4 := by
  have h := rd_facts l
  unfold tkNum
  split
  · simp; omega
  · split
    · simp
    · simp; omega
end BinM
namespace Wd
theorem text_of (A : Option Addr) (B cap : Nat) (l : List UInt8) (w : World) (h : Row w B A (bvs l)) : (convert 22 9 (.slice A l.length cap)).run Tryd.prog w = .ok (.string ⟨l.toArray⟩) w := by
  cases A with
  | none =>
    have hl0 : l = [] := by have := h.none; simpa [bvs] using this
    subst hl0
    rw [run_convert_bytes_string w _ _ _ none _ _ Tryd.underlying22 Tryd.underlying5 Tryd.underlying9]
    simp [Conv.bytesToString]
    rfl
  | some ad =>
    refine run_convert_bytes_back w _ _ 5 ad cap l Tryd.underlying22 Tryd.underlying5 Tryd.underlying9 (fun j hj => ?_)
    have := h.some j _ (bvs_at l j hj)
    rw [this]
    simp [bv, List.getD, hj]
end Wd
namespace BinW
open BinM Wd
set_option maxRecDepth 20000 in
set_option maxHeartbeats 1000000 in
theorem TakeText_any (B : Nat) (A : Option Addr) (n c : Nat) (l : List UInt8) (most : Int) (w : World) (hn : n = l.length) (hl : n ≤ 140737488355328) (hc : n ≤ c) (h : Row w B A (bvs l)) :
    Calls Tryd.prog 49 #[.slice A n c, .int .i64 most] w fun e w' => ∃ r, e = .returned (.tuple #[.string ⟨(tkText l most).1.toArray⟩, r, .int .i64 (tkText l most).2.2]) ∧ Gave w w' (tkText l most).2.1 r := by
  have hg := takeNum_any B A n c l w hn hl hc h
  have hf := tkNum_facts l
  have HT : Hid (tkText l most = if (tkNum l).2.2 ≠ 0 then ([], [], (tkNum l).2.2) else if most < (tkNum l).1 then ([], [], 5)
    else if ((tkNum l).2.1.length : Int) < (tkNum l).1 then ([], [], 3) else ((tkNum l).2.1.take (tkNum l).1.toNat, (tkNum l).2.1.drop (tkNum l).1.toNat, 0)) := rfl
  generalize tkNum l = T at *
  obtain ⟨v, t, e⟩ := T
  have hg : Calls Tryd.prog 47 #[.slice A n c] w fun e' w' => ∃ r, e' = .returned (.tuple #[.int .i64 v, r, .int .i64 e]) ∧ Gave w w' t r := hg
  have hf : 0 ≤ v ∧ v ≤ 9007199254740991 ∧ t.length ≤ l.length ∧ 0 ≤ e ∧ e ≤ 4 := hf
  have HT : Hid (tkText l most = if e ≠ 0 then ([], [], e) else if most < v then ([], [], 5) else if (t.length : Int) < v then ([], [], 3) else (t.take v.toNat, t.drop v.toNat, 0)) := HT
  obtain ⟨m, rfl⟩ : ∃ m : Nat, v = (m : Int) := ⟨v.toNat, by omega⟩
  rw [Int.toNat_natCast] at HT
  have HG := Lib.hid hg
  have HN := Lib.hid hn
  clear hg h hn
  by_cases he : e = 0
  · subst he
    by_cases h1 : most < (m : Int)
    · have HK : Hid (tkText l most = ([], [], 5)) := by unfold Hid; rw [HT.out, if_neg (by decide), if_pos h1]
      go_enter Tryd.func49, Tryd.ntmps49
      go_wp2_with fail
      refine HG.out.mono ?_; rintro e w' ⟨r, rfl, hg⟩
      obtain ⟨A', c', rfl, hcap, hrow2, hmine, hb2⟩ := hg
      go_wp2_with fail
      go_ret3
      exact ⟨.slice none 0 0, by rw [HK.out]; rfl, by rw [HK.out]; exact gave_nil w _ hb2⟩
    · by_cases h2 : (t.length : Int) < (m : Int)
      · have HK : Hid (tkText l most = ([], [], 3)) := by unfold Hid; rw [HT.out, if_neg (by decide), if_neg h1, if_pos h2]
        generalize hmm : t.length = tl at *
        have HMM := Lib.hid hmm
        clear hmm
        go_enter Tryd.func49, Tryd.ntmps49
        go_wp2_with fail
        refine HG.out.mono ?_; rintro e w' ⟨r, rfl, hg⟩
        obtain ⟨A', c', rfl, hcap, hrow2, hmine, hb2⟩ := hg
        rw [HMM.out]
        go_wp2_with fail
        go_ret3
        exact ⟨.slice none 0 0, by rw [HK.out]; rfl, by rw [HK.out]; exact gave_nil w _ hb2⟩
      · have HK : Hid (tkText l most = (t.take m, t.drop m, 0)) := by unfold Hid; rw [HT.out, if_neg (by decide), if_neg h1, if_neg h2]
        generalize hmm : t.length = tl at *
        have HMM := Lib.hid hmm
        clear hmm
        go_enter Tryd.func49, Tryd.ntmps49
        go_wp2_with fail
        refine HG.out.mono ?_; rintro e w1 ⟨r, rfl, hg⟩
        obtain ⟨A', c', rfl, hcap, hrow2, hmine, hb2⟩ := hg
        rw [HMM.out] at hcap
        rw [HMM.out]
        have hsh : ∀ w, (Instr.slice 22 (.slice A' tl c') none (some (.int .i64 (m : Int))) none).run Tryd.prog w = .ok (.slice A' m c') w := fun w => by
          rw [slice_h _ _ _ _ _ (by omega) (by omega), cutAt_zero]; rfl
        obtain ⟨A2, hsl, hr1, hm1⟩ := behind_cut A' tl c' m t HMM.out.symm hcap (by omega)
        have hcv : ∀ q, (convert 22 9 (.slice A' m c')).run Tryd.prog (w1.drewN q) = .ok (.string ⟨(t.take m).toArray⟩) (w1.drewN q) := fun q => by
          have h := text_of A' w1.heap.size c' (t.take m) (w1.drewN q) (by have := (hrow2.below (drawn_below w1.heap.size w1 q)).take m; rw [bvs_take] at this; exact this)
          rw [List.length_take, HMM.out, Nat.min_eq_left (by omega)] at h; exact h
        have HR2 := Lib.hid hrow2
        have HM2 := Lib.hid hmine
        have HR1 := Lib.hid hr1
        have HM1 := Lib.hid hm1
        clear hrow2 hmine hr1 hm1
        go_wp2_with fail
        go_quiet (fail)
        go_wp2_with fail
        go_ret3
        refine ⟨.slice A2 (tl - m) (c' - m), by rw [HK.out]; rfl, ?_⟩
        rw [HK.out]
        exact ⟨A2, c' - m, by rw [List.length_drop, HMM.out], by rw [List.length_drop, HMM.out]; omega, HR1.out _ _ (HR2.out.below (drawn_below _ _ _)), HM1.out _ _ HM2.out, Wd.Below.drewN hb2 _⟩
  · have hne : (e != 0) = true := by simp; omega
    have HK : Hid (tkText l most = ([], [], e)) := by unfold Hid; rw [HT.out, if_pos he]
    go_enter Tryd.func49, Tryd.ntmps49
    go_wp2_with fail
    refine HG.out.mono ?_; rintro e w' ⟨r, rfl, hg⟩
    obtain ⟨A', c', rfl, hcap, hrow2, hmine, hb2⟩ := hg
    go_wp2_with fail
    go_ret3
    exact ⟨.slice none 0 0, by rw [HK.out]; rfl, by rw [HK.out]; exact gave_nil w _ hb2⟩
end BinW
end Go.Proofs.YtnlhajhbmkhnjabDoor

/- Events as they read: which are valid, their bytes, reading: plain functions, and what holds of them. -/



namespace Go.Proofs.YtnlhajhbmkhnjabDoor.EvM
open Go.RowKit ValM ValW BinM
/-- An event as it reads. -/
structure Ev where
  k : Int
  f : Int
  i : Int
  n : Int
  s : List UInt8
  v : Vl
def masks : List Nat := [0, 31, 27, 7, 7, 19, 23, 23, 3, 11, 25, 31, 7, 7, 1, 21]
def has (k : Int) (j : Nat) : Bool := (masks.getD k.toNat 0).testBit j
def isKind (k : Int) : Bool := decide (1 ≤ k) && decide (k ≤ 15)
def isFlow (k : Int) : Bool := decide (1 ≤ k) && decide (k ≤ 8)
def isStart (k : Int) : Bool := decide (1 ≤ k) && decide (k ≤ 64)
def isCount (k : Int) : Bool := decide (1 ≤ k) && decide (k ≤ 9007199254740991)
def isTick (k : Int) : Bool := decide (0 ≤ k) && decide (k ≤ 9007199254740991)
def idF (e : Ev) : Bool :=
  if has e.k 1 = false then decide (e.i = 0) else if e.k = 9 ∨ e.k = 12 ∨ e.k = 13 then isCount e.i else if e.k = 1 ∧ e.n = 0 then decide (e.i = 0) else isStart e.i
def nF (e : Ev) : Bool :=
  if e.k = 1 then decide (e.n = 0) || isFlow e.n else if e.k = 3 ∨ e.k = 4 ∨ e.k = 6 then isCount e.n else if e.k = 7 ∨ e.k = 12 ∨ e.k = 13 then isTick e.n else if e.k = 11 then isFlow e.n else if e.k = 15 then true else decide (e.n = 0)
def sF (e : Ev) : Bool := if has e.k 3 = false then decide (e.s = []) else nameB e.s
def vF (e : Ev) : Bool :=
  okV e.v && (if has e.k 4 = false ∨ (e.k = 15 ∧ e.n ≠ 0) then decide (e.v.k = 0) else if e.k = 6 then decide (e.v.k = 1) && !decide (e.v.n = 0) else if e.k = 7 then decide (e.v.k = 1) else true)
def okE (e : Ev) : Bool := isKind e.k && isFlow e.f && idF e && nF e && sF e && vF e
def chkE (e : Ev) : Int := if okE e then 0 else 2
/-! bytes -/
def field (j : Nat) (e : Ev) : List UInt8 :=
  match j with
  | 0 => enc e.f.toNat
  | 1 => enc e.i.toNat
  | 2 => enc (zz e.n)
  | 3 => enc e.s.length ++ e.s
  | _ => encV e.v
def part (j : Nat) (e : Ev) : List UInt8 := if has e.k j then field j e else []
/-- The first parts. -/
def pre : Nat → Ev → List UInt8
  | 0, e => [1, byteI e.k]
  | j + 1, e => pre j e ++ part j e
/-- The parts from one on. -/
def post : Nat → Nat → Ev → List UInt8
  | 0, _, _ => []
  | m + 1, j, e => part j e ++ post m (j + 1) e
def encE (e : Ev) : List UInt8 := pre 5 e
theorem encE_post (e : Ev) : encE e = [1, byteI e.k] ++ post 5 0 e := by
  unfold encE
  simp only [pre, post, List.append_assoc, List.append_nil]
/-! reading -/
def takeF (j : Nat) (x : Ev) (l : List UInt8) : Ev × List UInt8 × Int :=
  match j with
  | 0 => ({ x with f := (tkNum l).1 }, (tkNum l).2.1, (tkNum l).2.2)
  | 1 => ({ x with i := (tkNum l).1 }, (tkNum l).2.1, (tkNum l).2.2)
  | 2 => ({ x with n := (tkInt l).1 }, (tkInt l).2.1, (tkInt l).2.2)
  | 3 => ({ x with s := (tkText l 16).1 }, (tkText l 16).2.1, (tkText l 16).2.2)
  | _ => ({ x with v := tkV l }, tkR l, tkE l)
def decL : Nat → Nat → Ev → List UInt8 → Ev × List UInt8 × Int
  | 0, _, x, l => (x, l, chkE x)
  | m + 1, j, x, l =>
    if has x.k j then (if (takeF j x l).2.2 = 0 then decL m (j + 1) (takeF j x l).1 (takeF j x l).2.1 else ((takeF j x l).1, [], (takeF j x l).2.2)) else decL m (j + 1) x l
def zeroE : Ev := ⟨0, 0, 0, 0, [], zeroV⟩
def decE (l : List UInt8) : Ev × List UInt8 × Int :=
  match l with
  | c :: d :: r => if c = 1 ∧ isKind d.toNat = true then decL 5 0 { zeroE with k := d.toNat } r else ({ zeroE with k := d.toNat }, [], 4)
  | _ => (zeroE, [], 3)
def tkEE (l : List UInt8) : Int := (decE l).2.2
def tkEX (l : List UInt8) : Ev := if tkEE l = 0 then (decE l).1 else zeroE
def tkER (l : List UInt8) : List UInt8 := if tkEE l = 0 then (decE l).2.1 else []
/-! there and back -/
theorem num_enc (v : Nat) (h : v ≤ 9007199254740991) (r : List UInt8) : tkNum (enc v ++ r) = ((v : Int), r, 0) := by
  unfold tkNum
  rw [rd_enc v (by omega) r]
  simp only [ne_eq, not_true_eq_false, if_false]
  rw [if_neg (by omega)]
  have : (enc v).length = 1 + more v := enc_length v
  rw [List.drop_left' this]
theorem int_enc (z : Int) (hz : wide z) (r : List UInt8) : tkInt (enc (zz z) ++ r) = (z, r, 0) := by
  unfold tkInt
  rw [rd_enc (zz z) (zz_lt z hz) r]
  simp only [ne_eq, not_true_eq_false, if_false]
  have : (enc (zz z)).length = 1 + more (zz z) := enc_length _
  rw [List.drop_left' this, unzz_zz]
theorem text_enc (s : List UInt8) (hs : s.length ≤ 16) (r : List UInt8) : tkText ((enc s.length ++ s) ++ r) 16 = (s, r, 0) := by
  unfold tkText
  rw [List.append_assoc, num_enc s.length (by omega)]
  simp only [ne_eq, not_true_eq_false, if_false]
  rw [if_neg (by omega), if_neg (by rw [List.length_append]; omega), Int.toNat_natCast, List.take_left' rfl, List.drop_left' rfl]
theorem dec_ne {b : List UInt8} {v n : Nat} (h : rd b = (v, n, 0)) : b = enc v ++ b.drop n := by
  have := rd_some b v n h
  rw [← this.2.2.2, List.take_append_drop]
theorem num_inv {l r : List UInt8} {z : Int} (h : tkNum l = (z, r, 0)) : 0 ≤ z ∧ z ≤ 9007199254740991 ∧ l = enc z.toNat ++ r := by
  unfold tkNum at h
  rcases hr : rd l with ⟨v, n, e⟩
  rw [hr] at h
  simp only at h
  by_cases he : e = 0
  · subst he
    simp only [ne_eq, not_true_eq_false, if_false] at h
    split at h
    · simp only [Prod.mk.injEq] at h; exact absurd h.2.2 (by decide)
    · simp only [Prod.mk.injEq] at h
      obtain ⟨rfl, rfl, _⟩ := h
      exact ⟨by omega, by omega, by rw [Int.toNat_natCast]; exact dec_ne hr⟩
  · rw [if_pos he] at h
    simp only [Prod.mk.injEq] at h
    exact absurd h.2.2 (by omega)
theorem int_inv {l r : List UInt8} {z : Int} (h : tkInt l = (z, r, 0)) : wide z ∧ l = enc (zz z) ++ r := by
  unfold tkInt at h
  rcases hr : rd l with ⟨v, n, e⟩
  rw [hr] at h
  simp only at h
  by_cases he : e = 0
  · subst he
    simp only [ne_eq, not_true_eq_false, if_false] at h
    simp only [Prod.mk.injEq] at h
    obtain ⟨rfl, rfl, _⟩ := h
    exact ⟨unzz_bounds v (rd_some l v n hr).1, by rw [zz_unzz]; exact dec_ne hr⟩
  · rw [if_pos he] at h
    simp only [Prod.mk.injEq] at h
    exact absurd h.2.2 (by omega)
theorem text_inv {l r s : List UInt8} (h : tkText l 16 = (s, r, 0)) : s.length ≤ 16 ∧ l = (enc s.length ++ s) ++ r := by
  unfold tkText at h
  rcases hr : tkNum l with ⟨z, t, e⟩
  rw [hr] at h
  simp only at h
  by_cases he : e = 0
  · subst he
    obtain ⟨h0, h1, h2⟩ := num_inv hr
    simp only [ne_eq, not_true_eq_false, if_false] at h
    split at h
    · simp only [Prod.mk.injEq] at h; exact absurd h.2.2 (by decide)
    · split at h
      · simp only [Prod.mk.injEq] at h; exact absurd h.2.2 (by decide)
      · simp only [Prod.mk.injEq] at h
        obtain ⟨rfl, rfl, _⟩ := h
        have hl : (t.take z.toNat).length = z.toNat := by rw [List.length_take]; omega
        refine ⟨by omega, ?_⟩
        rw [hl, List.append_assoc, List.take_append_drop]; exact h2
  · rw [if_pos he] at h
    simp only [Prod.mk.injEq] at h
    exact absurd h.2.2 he
/-- All numbers of an event are ints. -/
structure WideE (e : Ev) : Prop where
  k : wide e.k
  f : wide e.f
  i : wide e.i
  n : wide e.n
  v : Wide e.v
theorem has_lt (k : Int) (j : Nat) (h : has k j = true) : 1 ≤ k ∧ k ≤ 15 := by
  by_cases h0 : 1 ≤ k ∧ k ≤ 15
  · exact h0
  exfalso
  unfold has at h
  have : masks.getD k.toNat 0 = 0 := by
    by_cases hk : k ≤ 0
    · have : k.toNat = 0 := by omega
      rw [this]; rfl
    · obtain ⟨m, hm⟩ : ∃ m, k.toNat = m + 16 := ⟨k.toNat - 16, by omega⟩
      rw [hm]; rfl
  rw [this, Nat.zero_testBit] at h
  cases h
theorem kinds {k : Int} (h : isKind k = true) : k = 1 ∨ k = 2 ∨ k = 3 ∨ k = 4 ∨ k = 5 ∨ k = 6 ∨ k = 7 ∨ k = 8 ∨ k = 9 ∨ k = 10 ∨ k = 11 ∨ k = 12 ∨ k = 13 ∨ k = 14 ∨ k = 15 := by
  unfold isKind at h
  simp only [Bool.and_eq_true, decide_eq_true_eq] at h
  omega
theorem ok_parts {e : Ev} (h : okE e = true) : isKind e.k = true ∧ (1 ≤ e.f ∧ e.f ≤ 8) ∧ idF e = true ∧ nF e = true ∧ sF e = true ∧ vF e = true := by
  unfold okE at h
  simp only [Bool.and_eq_true] at h
  obtain ⟨⟨⟨⟨⟨h1, h2⟩, h3⟩, h4⟩, h5⟩, h6⟩ := h
  refine ⟨h1, ?_, h3, h4, h5, h6⟩
  unfold isFlow at h2
  simpa using h2
theorem ok_id {e : Ev} (h : idF e = true) : 0 ≤ e.i ∧ e.i ≤ 9007199254740991 ∧ (has e.k 1 = false → e.i = 0) := by
  unfold idF isCount isStart at h
  by_cases h1 : has e.k 1 = false
  · rw [if_pos h1] at h; simp only [decide_eq_true_eq] at h; exact ⟨by omega, by omega, fun _ => h⟩
  · rw [if_neg h1] at h
    refine ⟨?_, ?_, fun hh => absurd hh h1⟩ <;> split at h <;> (try split at h) <;> simp only [Bool.and_eq_true, decide_eq_true_eq] at h <;> omega
theorem ok_n {e : Ev} (hk : isKind e.k = true) (h : nF e = true) : has e.k 2 = false → e.n = 0 := by
  intro h2
  have h1 := kinds hk
  rcases h1 with h1 | h1 | h1 | h1 | h1 | h1 | h1 | h1 | h1 | h1 | h1 | h1 | h1 | h1 | h1 <;> rw [h1] at h2 <;> first | (exact absurd h2 (by decide)) | (unfold nF at h; rw [h1] at h; simpa using h)
theorem ok_s {e : Ev} (h : sF e = true) : e.s.length ≤ 16 ∧ (has e.k 3 = false → e.s = []) := by
  unfold sF at h
  by_cases h1 : has e.k 3 = false
  · rw [if_pos h1] at h; simp only [decide_eq_true_eq] at h; exact ⟨by rw [h]; simp, fun _ => h⟩
  · rw [if_neg h1] at h
    refine ⟨?_, fun hh => absurd hh h1⟩
    unfold nameB at h
    split at h
    · cases h
    · simp only [Bool.and_eq_true, decide_eq_true_eq] at h; exact h.1.1
theorem ok_v {e : Ev} (h : vF e = true) : okV e.v = true ∧ (has e.k 4 = false → e.v = zeroV) := by
  unfold vF at h
  rw [Bool.and_eq_true] at h
  refine ⟨h.1, fun h4 => ?_⟩
  have h2 := h.2
  rw [if_pos (.inl h4)] at h2
  simp only [decide_eq_true_eq] at h2
  have hsh := (spend_shaped (show (spendV (7 + 1) e.v 256).2 = true from h.1)).1
  revert hsh h2
  cases e.v with
  | mk k n s L N =>
    intro h2
    have h2 : k = 0 := h2
    subst h2
    unfold shaped
    intro hs
    simp only [if_pos, Bool.and_eq_true, decide_eq_true_eq] at hs
    obtain ⟨⟨rfl, rfl⟩, hN, hL⟩ := hs
    obtain rfl : N = [] := List.length_eq_zero_iff.1 hN
    obtain rfl : L = [] := List.length_eq_zero_iff.1 hL
    rfl
/-- What reading has laid so far: of x the fields below j. -/
def upto (j : Nat) (x : Ev) : Ev := ⟨x.k, if 0 < j then x.f else 0, if 1 < j then x.i else 0, if 2 < j then x.n else 0, if 3 < j then x.s else [], if 4 < j then x.v else zeroV⟩
theorem dec_step {x : Ev} (hw : WideE x) (h : okE x = true) (j : Nat) (hj : j < 5) (m : Nat) (r : List UInt8) :
    decL (m + 1) j (upto j x) (part j x ++ r) = decL m (j + 1) (upto (j + 1) x) r := by
  obtain ⟨hk, hf, h1, h2, h3, h4⟩ := ok_parts h
  have hid := ok_id h1
  have hn := ok_n hk h2
  have hs := ok_s h3
  have hv := ok_v h4
  rw [decL]
  have hkk : (upto j x).k = x.k := rfl
  rw [hkk]
  unfold part
  by_cases hh : has x.k j = true
  · rw [if_pos hh, if_pos hh]
    have key : takeF j (upto j x) (field j x ++ r) = (upto (j + 1) x, r, 0) := by
      match j, hj with
      | 0, _ => unfold takeF field; simp only; rw [num_enc x.f.toNat (by omega)]; simp [upto]; omega
      | 1, _ => unfold takeF field; simp only; rw [num_enc x.i.toNat (by omega)]; simp [upto]; omega
      | 2, _ => unfold takeF field; simp only; rw [int_enc x.n hw.n]; simp [upto]
      | 3, _ => unfold takeF field; simp only; rw [text_enc x.s hs.1]; simp [upto]
      | 4, _ => unfold takeF field; simp only; obtain ⟨t1, t2, t3⟩ := tk_enc x.v hw.v hv.1 r; rw [t1, t2, t3]; simp [upto]
    rw [key, if_pos rfl]
  · have hh : has x.k j = false := by simpa using hh
    rw [hh]
    have : upto j x = upto (j + 1) x := by
      match j, hj with
      | 0, _ =>
        exfalso
        have := kinds hk
        rcases this with h1 | h1 | h1 | h1 | h1 | h1 | h1 | h1 | h1 | h1 | h1 | h1 | h1 | h1 | h1 <;> rw [h1] at hh <;> exact absurd hh (by decide)
      | 1, _ => simp [upto, hid.2.2 hh]
      | 2, _ => simp [upto, hn hh]
      | 3, _ => simp [upto, hs.2 hh]
      | 4, _ => simp [upto, hv.2 hh]
    simp [this]
theorem dec_all {x : Ev} (hw : WideE x) (h : okE x = true) : ∀ (m j : Nat) (r : List UInt8), m + j = 5 → decL m j (upto j x) (post m j x ++ r) = (x, r, 0)
  | 0, j, r, hj => by
    obtain rfl : j = 5 := by omega
    show (upto 5 x, r, chkE (upto 5 x)) = _
    have : upto 5 x = x := by cases x; rfl
    rw [this]; unfold chkE; rw [if_pos h]
  | m + 1, j, r, hj => by
    show decL (m + 1) j (upto j x) ((part j x ++ post m (j + 1) x) ++ r) = _
    rw [List.append_assoc, dec_step hw h j (by omega), dec_all hw h m (j + 1) r (by omega)]
theorem dec_enc {x : Ev} (hw : WideE x) (h : okE x = true) (r : List UInt8) : decE (encE x ++ r) = (x, r, 0) := by
  have hk := (ok_parts h).1
  rw [encE_post, List.append_assoc]
  show decE (1 :: byteI x.k :: (post 5 0 x ++ r)) = _
  have hb : ((byteI x.k).toNat : Int) = x.k := by have := kinds hk; rw [byteI_toNat]; omega
  unfold decE
  simp only [hb]
  rw [if_pos ⟨trivial, hk⟩]
  have := dec_all hw h 5 0 r rfl
  exact this
theorem tkE_enc {x : Ev} (hw : WideE x) (h : okE x = true) (r : List UInt8) : tkEE (encE x ++ r) = 0 ∧ tkEX (encE x ++ r) = x ∧ tkER (encE x ++ r) = r := by
  have h1 := dec_enc hw h r
  have h2 : tkEE (encE x ++ r) = 0 := by unfold tkEE; rw [h1]
  exact ⟨h2, by unfold tkEX; rw [if_pos h2, h1], by unfold tkER; rw [if_pos h2, h1]⟩
/-! what is read, was written so -/
theorem take_k (j : Nat) (x : Ev) (l : List UInt8) : (takeF j x l).1.k = x.k := by
  match j with
  | 0 => simp only [takeF]
  | 1 => simp only [takeF]
  | 2 => simp only [takeF]
  | 3 => simp only [takeF]
  | _ + 4 => simp only [takeF]
/-- Fields below j are the same. -/
def alike (j : Nat) (x y : Ev) : Prop := x.k = y.k ∧ (0 < j → x.f = y.f) ∧ (1 < j → x.i = y.i) ∧ (2 < j → x.n = y.n) ∧ (3 < j → x.s = y.s) ∧ (4 < j → x.v = y.v)
theorem take_field {j : Nat} (hj : j < 5) {x : Ev} {l : List UInt8} (h : (takeF j x l).2.2 = 0) : l = field j (takeF j x l).1 ++ (takeF j x l).2.1 ∧ alike j x (takeF j x l).1 := by
  match j, hj with
  | 0, _ =>
    simp only [takeF] at h
    have := num_inv (l := l) (z := (tkNum l).1) (r := (tkNum l).2.1) (by rw [← h])
    simp only [takeF, field]
    exact ⟨this.2.2, by simp [alike]⟩
  | 1, _ =>
    simp only [takeF] at h
    have := num_inv (l := l) (z := (tkNum l).1) (r := (tkNum l).2.1) (by rw [← h])
    simp only [takeF, field]
    exact ⟨this.2.2, by simp [alike]⟩
  | 2, _ =>
    simp only [takeF] at h
    have := int_inv (l := l) (z := (tkInt l).1) (r := (tkInt l).2.1) (by rw [← h])
    simp only [takeF, field]
    exact ⟨this.2, by simp [alike]⟩
  | 3, _ =>
    simp only [takeF] at h
    have := text_inv (l := l) (s := (tkText l 16).1) (r := (tkText l 16).2.1) (by rw [← h])
    simp only [takeF, field]
    exact ⟨this.2, by simp [alike]⟩
  | 4, _ =>
    simp only [takeF] at h
    have := take_inv (l := l) h
    simp only [takeF, field]
    exact ⟨this.2, by simp [alike]⟩
theorem field_alike {j i : Nat} (hi : i < j) (hj : i < 5) {x y : Ev} (h : alike j x y) : field i x = field i y := by
  obtain ⟨_, h0, h1, h2, h3, h4⟩ := h
  match i, hj with
  | 0, _ => unfold field; simp only; rw [h0 (by omega)]
  | 1, _ => unfold field; simp only; rw [h1 (by omega)]
  | 2, _ => unfold field; simp only; rw [h2 (by omega)]
  | 3, _ => unfold field; simp only; rw [h3 (by omega)]
  | 4, _ => unfold field; simp only; rw [h4 (by omega)]
theorem alike_trans {j : Nat} {x y z : Ev} (h : alike j x y) (k : alike (j + 1) y z) : alike j x z := by
  obtain ⟨a, b, c, d, e, f⟩ := h
  obtain ⟨a', b', c', d', e', f'⟩ := k
  exact ⟨a.trans a', fun h => (b h).trans (b' (by omega)), fun h => (c h).trans (c' (by omega)), fun h => (d h).trans (d' (by omega)), fun h => (e h).trans (e' (by omega)), fun h => (f h).trans (f' (by omega))⟩
theorem dec_inv : ∀ (m j : Nat) (x : Ev) (l : List UInt8), m + j = 5 → (decL m j x l).2.2 = 0 →
    l = post m j (decL m j x l).1 ++ (decL m j x l).2.1 ∧ okE (decL m j x l).1 = true ∧ alike j x (decL m j x l).1
  | 0, j, x, l, _, h => by
    have h : chkE x = 0 := h
    have ho : okE x = true := by unfold chkE at h; split at h; assumption; exact absurd h (by decide)
    exact ⟨rfl, ho, rfl, fun _ => rfl, fun _ => rfl, fun _ => rfl, fun _ => rfl, fun _ => rfl⟩
  | m + 1, j, x, l, hj, h => by
    rw [decL] at h ⊢
    by_cases hh : has x.k j = true
    · rw [if_pos hh] at h ⊢
      by_cases he : (takeF j x l).2.2 = 0
      · rw [if_pos he] at h ⊢
        obtain ⟨i1, i2, i3⟩ := dec_inv m (j + 1) _ _ (by omega) h
        obtain ⟨t1, t2⟩ := take_field (by omega) he
        refine ⟨?_, i2, alike_trans t2 i3⟩
        have hk2 : has (decL m (j + 1) (takeF j x l).1 (takeF j x l).2.1).1.k j = true := by rw [← i3.1, take_k]; exact hh
        show l = (part j _ ++ _) ++ _
        unfold part
        rw [if_pos hk2, ← field_alike (by omega) (by omega) i3, List.append_assoc, ← i1]
        exact t1
      · rw [if_neg he] at h
        exact absurd h he
    · rw [if_neg hh] at h ⊢
      obtain ⟨i1, i2, i3⟩ := dec_inv m (j + 1) _ _ (by omega) h
      refine ⟨?_, i2, alike_trans ⟨rfl, fun _ => rfl, fun _ => rfl, fun _ => rfl, fun _ => rfl, fun _ => rfl⟩ i3⟩
      show l = (part j _ ++ _) ++ _
      unfold part
      rw [← i3.1, if_neg hh, List.nil_append]
      exact i1
theorem takeE_inv {l : List UInt8} (h : tkEE l = 0) : okE (tkEX l) = true ∧ l = encE (tkEX l) ++ tkER l := by
  have hX : tkEX l = (decE l).1 := by unfold tkEX; rw [if_pos h]
  have hR : tkER l = (decE l).2.1 := by unfold tkER; rw [if_pos h]
  rw [hX, hR]
  unfold tkEE at h
  clear hX hR
  match l with
  | [] => exact absurd h (by decide)
  | [c] => exact absurd h (by show ¬ (3 : Int) = 0; decide)
  | c :: d :: r =>
    unfold decE at h ⊢
    simp only at h ⊢
    by_cases hc : c = 1 ∧ isKind d.toNat = true
    · rw [if_pos hc] at h ⊢
      obtain ⟨i1, i2, i3⟩ := dec_inv 5 0 _ r rfl h
      refine ⟨i2, ?_⟩
      rw [encE_post, ← i3.1]
      show c :: d :: r = ([1, byteI d.toNat] ++ _) ++ _
      rw [byteI_of, hc.1]
      show (1 : UInt8) :: d :: r = 1 :: d :: (post 5 0 _ ++ _)
      rw [← i1]
    · rw [if_neg hc] at h
      exact absurd h (by show ¬ (4 : Int) = 0; decide)
theorem takeE_zero {l : List UInt8} (h : tkEE l ≠ 0) : tkEX l = zeroE ∧ tkER l = [] := by
  unfold tkEX tkER; rw [if_neg h, if_neg h]; exact ⟨rfl, rfl⟩
/-! how long -/
theorem enc_le9 (v : Nat) : (enc v).length ≤ 9 := by have := more_le v; rw [enc_length]; omega
theorem encE_len {x : Ev} (h : okE x = true) : 3 ≤ (encE x).length ∧ (encE x).length ≤ 2400 := by
  obtain ⟨hk, hf, h1, h2, h3, h4⟩ := ok_parts h
  have hs := ok_s h3
  have hv := ok_v h4
  have hsz := ok_size hv.1
  have hel := enc_len 8 x.v 256 hv.1
  have a0 := enc_le9 x.f.toNat
  have a1 := enc_le9 x.i.toNat
  have a2 := enc_le9 (zz x.n)
  have a3 := enc_le9 x.s.length
  have a4 := enc_length x.f.toNat
  have h0 : has x.k 0 = true := by
    rcases kinds hk with h1 | h1 | h1 | h1 | h1 | h1 | h1 | h1 | h1 | h1 | h1 | h1 | h1 | h1 | h1 <;> rw [h1] <;> decide
  have p : ∀ j n, (field j x).length ≤ n → (part j x).length ≤ n := fun j n hn => by unfold part; split; exact hn; exact Nat.zero_le _
  have p1 := p 1 9 a1
  have p2 := p 2 9 a2
  have p3 := p 3 25 (by unfold field; simp only [List.length_append]; omega)
  have p4 := p 4 2304 (by unfold field; simp only; omega)
  have p0 : part 0 x = enc x.f.toNat := by unfold part; rw [if_pos h0]; rfl
  unfold encE
  simp only [pre, List.length_append, p0, List.length_cons, List.length_nil]
  omega
/-! only the first bytes count -/
theorem rd_nine (l : List UInt8) : rd (l.take 9) = rd l := by
  match l with
  | [] => rfl
  | c :: r =>
    show rd (c :: r.take 8) = rd (c :: r)
    have hl : lead c.toNat ≤ 8 := (lead_split ⟨c.toNat, c.toNat_lt⟩).1
    unfold rd
    simp only [List.take_take, List.length_take, Nat.min_eq_left hl]
    by_cases h : r.length < lead c.toNat
    · rw [if_pos h, if_pos (by omega)]
    · rw [if_neg h, if_neg (by omega)]
theorem num_nine (l : List UInt8) : (tkNum (l.take 9)).1 = (tkNum l).1 ∧ (tkNum (l.take 9)).2.2 = (tkNum l).2.2 ∧
    ((tkNum l).2.2 = 0 → (tkNum l).2.1 = l.drop ((l.take 9).length - (tkNum (l.take 9)).2.1.length)) := by
  have hf := rd_facts (l.take 9)
  unfold tkNum
  rw [rd_nine] at hf ⊢
  generalize rd l = z at hf ⊢
  obtain ⟨v, n, e⟩ := z
  simp only at hf ⊢
  by_cases he : e = 0
  · subst he
    simp only [ne_eq, Int.natCast_zero, not_true_eq_false, if_false]
    by_cases hv : 9007199254740991 < v
    · simp only [if_pos hv]; exact ⟨trivial, trivial, fun h => absurd h (by decide)⟩
    · simp only [if_neg hv]
      refine ⟨trivial, trivial, fun _ => ?_⟩
      rw [List.length_drop]; congr 1; omega
  · simp only [if_pos (show (e : Nat) ≠ 0 from he)]
    exact ⟨trivial, trivial, fun h => absurd h (by omega)⟩
theorem int_nine (l : List UInt8) : (tkInt (l.take 9)).1 = (tkInt l).1 ∧ (tkInt (l.take 9)).2.2 = (tkInt l).2.2 ∧
    ((tkInt l).2.2 = 0 → (tkInt l).2.1 = l.drop ((l.take 9).length - (tkInt (l.take 9)).2.1.length)) := by
  have hf := rd_facts (l.take 9)
  unfold tkInt
  rw [rd_nine] at hf ⊢
  generalize rd l = z at hf ⊢
  obtain ⟨v, n, e⟩ := z
  simp only at hf ⊢
  by_cases he : e = 0
  · subst he
    simp only [ne_eq, Int.natCast_zero, not_true_eq_false, if_false]
    refine ⟨trivial, trivial, fun _ => ?_⟩
    rw [List.length_drop]; congr 1; omega
  · simp only [if_pos (show (e : Nat) ≠ 0 from he)]
    exact ⟨trivial, trivial, fun h => absurd h (by omega)⟩
theorem text_nine (l : List UInt8) : (tkText (l.take 25) 16).1 = (tkText l 16).1 ∧ (tkText (l.take 25) 16).2.2 = (tkText l 16).2.2 ∧
    ((tkText l 16).2.2 = 0 → (tkText l 16).2.1 = l.drop ((l.take 25).length - (tkText (l.take 25) 16).2.1.length)) := by
  have h25 := num_nine (l.take 25)
  have h9 := num_nine l
  have hm : (l.take 25).take 9 = l.take 9 := by rw [List.take_take]; rfl
  rw [hm] at h25
  have hfa := tkNum_facts l
  have e1 : (tkNum (l.take 25)).1 = (tkNum l).1 := h25.1.symm.trans h9.1
  have e2 : (tkNum (l.take 25)).2.2 = (tkNum l).2.2 := h25.2.1.symm.trans h9.2.1
  have hc := h25.2.2
  have hd := h9.2.2
  rw [e2] at hc
  have hq : (l.take 9).length ≤ 9 ∧ (l.take 9).length ≤ l.length := by rw [List.length_take]; omega
  generalize hk : (l.take 9).length - (tkNum (l.take 9)).2.1.length = k at hc hd
  have hk9 : k ≤ 9 ∧ k ≤ l.length := by omega
  unfold tkText
  rw [e1, e2]
  clear h25 h9 hm e1 e2 hk hq
  generalize tkNum (l.take 25) = T25 at hc ⊢
  generalize tkNum l = T at hc hd hfa ⊢
  obtain ⟨z, t, e⟩ := T
  obtain ⟨z', t', e'⟩ := T25
  simp only at hc hd hfa ⊢
  by_cases he : e = 0
  · subst he
    have hc := hc rfl
    have hd := hd rfl
    simp only [ne_eq, not_true_eq_false, if_false]
    by_cases hz : 16 < z
    · simp only [if_pos hz]; exact ⟨trivial, trivial, fun h => absurd h (by decide)⟩
    · simp only [if_neg hz]
      have ht' : t' = t.take (25 - k) := by rw [hc, hd, List.drop_take]
      have hl' : t'.length = min (25 - k) t.length := by rw [ht', List.length_take]
      have hl : t.length = l.length - k := by rw [hd, List.length_drop]
      by_cases hlt : (t.length : Int) < z
      · rw [if_pos hlt, if_pos (by omega)]; exact ⟨rfl, rfl, fun h => absurd h (by decide)⟩
      · rw [if_neg hlt, if_neg (by omega)]
        refine ⟨?_, rfl, fun _ => ?_⟩
        · show t'.take z.toNat = t.take z.toNat
          rw [ht', List.take_take, Nat.min_eq_left (by omega)]
        · show t.drop z.toNat = l.drop _
          rw [hd, List.drop_drop]
          congr 1
          show _ = (l.take 25).length - (t'.drop z.toNat).length
          rw [List.length_drop, List.length_take, hl', hl]; omega
  · simp only [if_pos he]
    exact ⟨trivial, trivial, fun h => absurd h he⟩
end Go.Proofs.YtnlhajhbmkhnjabDoor.EvM

/- Events where they lie in memory. -/


namespace Go.Proofs.YtnlhajhbmkhnjabDoor.EvW
open Go.RowKit Wd ValM ValW EvM
theorem vin_wide {w : World} {x : VA} (h : VIn w x) : Wide x.val := by
  induction h with
  | mk k n s A c L NA nc N hk hn hs hL hc hrow hx hN hnc hNr hNs ih =>
    unfold VA.val
    refine .mk k n _ _ _ hk hn (fun y hy => ?_)
    rw [valL_map] at hy
    obtain ⟨z, hz, rfl⟩ := List.mem_map.1 hy
    exact ih z hz
/-- An event, and where its parts lie. -/
structure EA where
  k : Int
  f : Int
  i : Int
  n : Int
  s : ByteArray
  v : VA
def EA.head (x : EA) : List Value := [.int .i64 x.k, .int .i64 x.f, .int .i64 x.i, .int .i64 x.n, .string x.s]
def EA.cells (x : EA) : List Value := x.head ++ x.v.cells
def EA.arg (x : EA) : Value := .agg x.cells.toArray
def EA.ev (x : EA) : Ev := ⟨x.k, x.f, x.i, x.n, bytesOf x.s, x.v.val⟩
theorem ecells_len (x : EA) : x.cells.length = 10 := by unfold EA.cells; rw [List.length_append, cells_len]; rfl
def in64 (n : Int) : Prop := -9223372036854775808 ≤ n ∧ n ≤ 9223372036854775807
/-- It lies there. -/
structure EIn (w : World) (x : EA) : Prop where
  k : in64 x.k
  f : in64 x.f
  i : in64 x.i
  n : in64 x.n
  s : x.s.size ≤ 140737488355328
  v : VIn w x.v
theorem EIn.kept {w w' : World} {x : EA} (h : EIn w x) (hb : Below w.heap.size w w') : EIn w' x := ⟨h.k, h.f, h.i, h.n, h.s, h.v.kept hb⟩
theorem EIn.wide {w : World} {x : EA} (h : EIn w x) : WideE x.ev := ⟨h.k, h.f, h.i, h.n, vin_wide h.v⟩
theorem evStruct : (Tryd.prog.info? 29).map (·.size) = some 10 := by kernel_rfl
/-- The head's cells in a block. -/
theorem ecell {w : World} {g e : Nat} {x : EA} (h : Block w g e x.cells) :
    w.cell? ⟨g, 0, none⟩ = some (.int .i64 x.k) ∧ w.cell? ⟨g, 1, none⟩ = some (.int .i64 x.f) ∧ w.cell? ⟨g, 2, none⟩ = some (.int .i64 x.i) ∧ w.cell? ⟨g, 3, none⟩ = some (.int .i64 x.n) ∧ w.cell? ⟨g, 4, none⟩ = some (.string x.s) :=
  ⟨h.cell rfl, h.cell rfl, h.cell rfl, h.cell rfl, h.cell rfl⟩
/-- The value's cells. -/
theorem vcell {w : World} {g e : Nat} {x : EA} (h : Block w g e x.cells) (j : Nat) (u : Value) (hu : x.v.cells[j]? = some u) : w.cell? ⟨g, 5 + j, none⟩ = some u :=
  h.cell (by unfold EA.cells; rw [List.getElem?_append_right (by show 5 ≤ 5 + j; omega)]; show x.v.cells[5 + j - 5]? = _; rw [show 5 + j - 5 = j by omega]; exact hu)
/-- The whole of it, and its value. -/
theorem eload {w : World} {g : Nat} (x : EA) (h : Block w g 29 x.cells) : (Instr.loadAt 29 (.pointer (some ⟨g, 0, none⟩))).run Tryd.prog w = .ok x.arg w :=
  run_load_blk w 29 g 0 _ _ h x.cells (by rw [List.drop_zero, ecells_len]; exact List.take_of_length_le (by rw [ecells_len]; decide)) _ Tryd.underlying29 rfl (by rw [ecells_len]; exact evStruct)
theorem vload {w : World} {g e : Nat} (x : EA) (h : Block w g e x.cells) : (Instr.loadAt 27 (.pointer (some ⟨g, 5, none⟩))).run Tryd.prog w = .ok x.v.arg w :=
  load_elem x.v fun j u hu => by rw [Addr.add_lit]; exact vcell h j u hu
theorem ecells_one (x : EA) : ∀ u ∈ x.cells, u.oneCell' = true := fun u hu => by
  unfold EA.cells EA.head at hu
  rcases List.mem_append.1 hu with hu | hu
  · simp only [List.mem_cons, List.not_mem_nil, or_false] at hu
    rcases hu with rfl | rfl | rfl | rfl | rfl <;> rfl
  · exact cells_one x.v u hu
end Go.Proofs.YtnlhajhbmkhnjabDoor.EvW

/- The walks of package event's small functions: kinds, numbers, which fields a kind has. -/


namespace Go.Proofs.YtnlhajhbmkhnjabDoor.EvW
open Go.RowKit Wd ValM ValW EvM
/-- The table of fields lies as the program lays it. -/
def FTab (w : World) : Prop := ∃ t f, w.heap[0]? = some (.cells (masks.map fun m : Nat => Value.int .i64 (m : Int)).toArray t f)
theorem FTab.kept {w w' : World} (h : FTab w) (hb : Below w.heap.size w w') : FTab w' := by
  obtain ⟨t, f, h⟩ := h
  exact ⟨t, f, (hb.block _ (Array.getElem?_eq_some_iff.1 h).1).trans h⟩
theorem FTab.cell {w : World} (h : FTab w) (k : Nat) (hk : k < 16) : w.cell? ⟨0, k, none⟩ = some (.int .i64 ((masks.getD k 0 : Nat) : Int)) := by
  obtain ⟨t, f, h⟩ := h
  unfold World.cell?
  simp only [h]
  have : ∀ k : Fin 16, ((masks.map fun m : Nat => Value.int .i64 (m : Int)).toArray)[k.val]? = some (.int .i64 ((masks.getD k.val 0 : Nat) : Int)) := by
    intro k
    rw [List.getElem?_toArray, List.getElem?_map]
    have hl : k.val < masks.length := k.isLt
    rw [List.getElem?_eq_getElem hl, List.getD_eq_getElem?_getD, List.getElem?_eq_getElem hl]
    rfl
  exact this ⟨k, hk⟩
theorem mask_bit : ∀ k : Fin 16, ∀ j : Fin 5, (bits .and .i64 ((masks.getD k.val 0 : Nat) : Int) ((2 ^ j.val : Nat) : Int) != 0) = has (k.val : Int) j.val := by decide +kernel
set_option maxRecDepth 20000 in
set_option maxHeartbeats 1000000 in
theorem has_any (k : Int) (j : Nat) (z : Int) (w : World) (h : FTab w) (hk : 0 ≤ k ∧ k ≤ 15) (hj : j < 5) (hz : z = ((2 ^ j : Nat) : Int)) :
    Calls Tryd.prog 17 #[.int .i64 k, .int .i64 z] w fun e w' => e = .returned (.bool (has k j)) ∧ w = w' := by
  obtain ⟨m, rfl⟩ : ∃ m : Nat, k = (m : Int) := ⟨k.toNat, by omega⟩
  have hc := h.cell m (by omega)
  have hm := mask_bit ⟨m, by omega⟩ ⟨j, hj⟩
  simp only at hm
  rw [← hz] at hm
  generalize masks.getD m 0 = q at hc hm
  generalize has (m : Int) j = b at hm
  have hk2 : (m : Int) < 16 := by omega
  have hk0 : (0 : Int) ≤ (m : Int) := by omega
  clear h hk hj hz
  go_enter Tryd.func17, Tryd.ntmps17
  go_wp2_with fail
  go_ret
  exact ⟨rfl, rfl⟩
theorem isKind_any (n : Int) (w : World) : Calls Tryd.prog 18 #[.int .i64 n] w fun e w' => e = .returned (.bool (EvM.isKind n)) ∧ w = w' := by
  by_cases h1 : 1 ≤ n
  · by_cases h2 : n ≤ 15
    · have HE : Hid (EvM.isKind n = true) := by unfold Hid EvM.isKind; rw [decide_eq_true h1, decide_eq_true h2]; rfl
      go_enter Tryd.func18, Tryd.ntmps18
      go_wp2_with fail
      go_ret
      exact ⟨by rw [HE.out] <;> rfl, rfl⟩
    · have HE : Hid (EvM.isKind n = false) := by unfold Hid EvM.isKind; rw [decide_eq_true h1, decide_eq_false h2]; rfl
      go_enter Tryd.func18, Tryd.ntmps18
      go_wp2_with fail
      go_ret
      exact ⟨by rw [HE.out] <;> rfl, rfl⟩
  · have HE : Hid (EvM.isKind n = false) := by unfold Hid EvM.isKind; rw [decide_eq_false h1]; rfl
    go_enter Tryd.func18, Tryd.ntmps18
    go_wp2_with fail
    go_ret
    exact ⟨by rw [HE.out] <;> rfl, rfl⟩
theorem isFlow_any (n : Int) (w : World) : Calls Tryd.prog 24 #[.int .i64 n] w fun e w' => e = .returned (.bool (EvM.isFlow n)) ∧ w = w' := by
  by_cases h1 : 1 ≤ n
  · by_cases h2 : n ≤ 8
    · have HE : Hid (EvM.isFlow n = true) := by unfold Hid EvM.isFlow; rw [decide_eq_true h1, decide_eq_true h2]; rfl
      go_enter Tryd.func24, Tryd.ntmps24
      go_wp2_with fail
      go_ret
      exact ⟨by rw [HE.out] <;> rfl, rfl⟩
    · have HE : Hid (EvM.isFlow n = false) := by unfold Hid EvM.isFlow; rw [decide_eq_true h1, decide_eq_false h2]; rfl
      go_enter Tryd.func24, Tryd.ntmps24
      go_wp2_with fail
      go_ret
      exact ⟨by rw [HE.out] <;> rfl, rfl⟩
  · have HE : Hid (EvM.isFlow n = false) := by unfold Hid EvM.isFlow; rw [decide_eq_false h1]; rfl
    go_enter Tryd.func24, Tryd.ntmps24
    go_wp2_with fail
    go_ret
    exact ⟨by rw [HE.out] <;> rfl, rfl⟩
theorem isStart_any (n : Int) (w : World) : Calls Tryd.prog 41 #[.int .i64 n] w fun e w' => e = .returned (.bool (EvM.isStart n)) ∧ w = w' := by
  by_cases h1 : 1 ≤ n
  · by_cases h2 : n ≤ 64
    · have HE : Hid (EvM.isStart n = true) := by unfold Hid EvM.isStart; rw [decide_eq_true h1, decide_eq_true h2]; rfl
      go_enter Tryd.func41, Tryd.ntmps41
      go_wp2_with fail
      go_ret
      exact ⟨by rw [HE.out] <;> rfl, rfl⟩
    · have HE : Hid (EvM.isStart n = false) := by unfold Hid EvM.isStart; rw [decide_eq_true h1, decide_eq_false h2]; rfl
      go_enter Tryd.func41, Tryd.ntmps41
      go_wp2_with fail
      go_ret
      exact ⟨by rw [HE.out] <;> rfl, rfl⟩
  · have HE : Hid (EvM.isStart n = false) := by unfold Hid EvM.isStart; rw [decide_eq_false h1]; rfl
    go_enter Tryd.func41, Tryd.ntmps41
    go_wp2_with fail
    go_ret
    exact ⟨by rw [HE.out] <;> rfl, rfl⟩
theorem isCount_any (n : Int) (w : World) : Calls Tryd.prog 40 #[.int .i64 n] w fun e w' => e = .returned (.bool (EvM.isCount n)) ∧ w = w' := by
  by_cases h1 : 1 ≤ n
  · by_cases h2 : n ≤ 9007199254740991
    · have HE : Hid (EvM.isCount n = true) := by unfold Hid EvM.isCount; rw [decide_eq_true h1, decide_eq_true h2]; rfl
      go_enter Tryd.func40, Tryd.ntmps40
      go_wp2_with fail
      go_ret
      exact ⟨by rw [HE.out] <;> rfl, rfl⟩
    · have HE : Hid (EvM.isCount n = false) := by unfold Hid EvM.isCount; rw [decide_eq_true h1, decide_eq_false h2]; rfl
      go_enter Tryd.func40, Tryd.ntmps40
      go_wp2_with fail
      go_ret
      exact ⟨by rw [HE.out] <;> rfl, rfl⟩
  · have HE : Hid (EvM.isCount n = false) := by unfold Hid EvM.isCount; rw [decide_eq_false h1]; rfl
    go_enter Tryd.func40, Tryd.ntmps40
    go_wp2_with fail
    go_ret
    exact ⟨by rw [HE.out] <;> rfl, rfl⟩
theorem isTick_any (n : Int) (w : World) : Calls Tryd.prog 42 #[.int .i64 n] w fun e w' => e = .returned (.bool (EvM.isTick n)) ∧ w = w' := by
  by_cases h1 : 0 ≤ n
  · by_cases h2 : n ≤ 9007199254740991
    · have HE : Hid (EvM.isTick n = true) := by unfold Hid EvM.isTick; rw [decide_eq_true h1, decide_eq_true h2]; rfl
      go_enter Tryd.func42, Tryd.ntmps42
      go_wp2_with fail
      go_ret
      exact ⟨by rw [HE.out] <;> rfl, rfl⟩
    · have HE : Hid (EvM.isTick n = false) := by unfold Hid EvM.isTick; rw [decide_eq_true h1, decide_eq_false h2]; rfl
      go_enter Tryd.func42, Tryd.ntmps42
      go_wp2_with fail
      go_ret
      exact ⟨by rw [HE.out] <;> rfl, rfl⟩
  · have HE : Hid (EvM.isTick n = false) := by unfold Hid EvM.isTick; rw [decide_eq_false h1]; rfl
    go_enter Tryd.func42, Tryd.ntmps42
    go_wp2_with fail
    go_ret
    exact ⟨by rw [HE.out] <;> rfl, rfl⟩
end Go.Proofs.YtnlhajhbmkhnjabDoor.EvW
