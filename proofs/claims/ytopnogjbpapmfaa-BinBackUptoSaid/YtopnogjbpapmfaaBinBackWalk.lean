/- The walk of the statement on ints and texts one behind the other. -/
import Derived.Test.YtopnogjbpapmfaaBinLaws
import Derived.Test.YtopnogjbpapmfaaBinLaws2
import Derived.Test.YtopnogjbpapmfaaCells
import Derived.Deep.RegionHeld3
import Derived.BigRegion
namespace Go.Proofs.Ytopnogjbpapmfaa
open Go.RowKit
namespace BinM
def seg (zs : List Int) (ts : List ByteArray) (k : Nat) : List UInt8 :=
  enc (zz (zs.getD k 0)) ++ (if k < ts.length then textB (ts.getD k ByteArray.empty).data.toList (ts.getD k ByteArray.empty).size else [])
def out (zs : List Int) (ts : List ByteArray) : Nat → List UInt8
  | 0 => []
  | k + 1 => out zs ts k ++ seg zs ts k
/-- j pieces from the k-th on, and what stands behind. -/
def tl (zs : List Int) (ts : List ByteArray) (be : List UInt8) : Nat → Nat → List UInt8
  | 0, _ => be
  | j + 1, k => seg zs ts k ++ tl zs ts be j (k + 1)
theorem out_tl (zs : List Int) (ts : List ByteArray) (be : List UInt8) (j k : Nat) : out zs ts (k + j) ++ be = out zs ts k ++ tl zs ts be j k := by
  induction j generalizing k with
  | zero => rfl
  | succ j ih =>
    have h := ih (k + 1)
    rw [show k + 1 + j = k + (j + 1) by omega] at h
    rw [h]
    show (out zs ts k ++ seg zs ts k) ++ _ = _
    rw [List.append_assoc]; rfl
theorem enc_len9 (v : Nat) : (enc v).length ≤ 9 := by rw [enc_length]; have := more_le v; omega
theorem textB_len9 (l : List UInt8) (most : Int) : (textB l most).length ≤ 9 + l.length := by
  unfold textB; split
  · have := enc_len9 l.length; rw [List.length_append]; omega
  · exact Nat.zero_le _
def Short (ts : List ByteArray) : Prop := ∀ k, (ts.getD k ByteArray.empty).size ≤ 1048576
theorem seg_len (zs : List Int) (ts : List ByteArray) (h : Short ts) (k : Nat) : (seg zs ts k).length ≤ 1048594 := by
  unfold seg
  rw [List.length_append]
  have h1 := enc_len9 (zz (zs.getD k 0))
  have h2 := h k
  split
  · have h3 := textB_len9 (ts.getD k ByteArray.empty).data.toList (ts.getD k ByteArray.empty).size
    rw [show (ts.getD k ByteArray.empty).data.toList.length = (ts.getD k ByteArray.empty).size from rfl] at h3
    omega
  · rw [List.length_nil]; omega
theorem out_len (zs : List Int) (ts : List ByteArray) (h : Short ts) (k : Nat) : (out zs ts k).length ≤ k * 1048594 := by
  induction k with
  | zero => simp [out]
  | succ k ih => have := seg_len zs ts h k; unfold out; rw [List.length_append, Nat.add_mul]; omega
theorem tl_len (zs : List Int) (ts : List ByteArray) (be : List UInt8) (h : Short ts) (j k : Nat) : (tl zs ts be j k).length ≤ j * 1048594 + be.length := by
  induction j generalizing k with
  | zero => simp [tl]
  | succ j ih => have := seg_len zs ts h k; have := ih (k + 1); unfold tl; rw [List.length_append, Nat.add_mul]; omega
theorem tkInt_enc (z : Int) (hz : -9223372036854775808 ≤ z ∧ z ≤ 9223372036854775807) (r : List UInt8) : tkInt (enc (zz z) ++ r) = (z, r, 0) := by
  unfold tkInt
  rw [rd_enc _ (zz_lt z hz)]
  simp only
  rw [if_neg (by decide), unzz_zz, ← enc_length, List.drop_left]
theorem tkText_enc (p : List UInt8) (hp : p.length ≤ 9007199254740991) (r : List UInt8) : tkText (textB p p.length ++ r) p.length = (p, r, 0) := by
  have hok : textOk p.length p.length = true := decide_eq_true (by omega)
  have hb : textB p p.length = enc p.length ++ p := by unfold textB; rw [hok]; rfl
  rw [hb, List.append_assoc]
  have hn : tkNum (enc p.length ++ (p ++ r)) = ((p.length : Int), p ++ r, 0) := by
    unfold tkNum
    rw [rd_enc _ (by omega)]
    simp only
    rw [if_neg (by decide), if_neg (by omega), ← enc_length, List.drop_left]
  unfold tkText
  rw [hn]
  simp only
  rw [if_neg (by decide), if_neg (by omega), if_neg (by rw [List.length_append]; omega), Int.toNat_natCast, List.take_left, List.drop_left]
end BinM
namespace BinL
open BinM Wd BinW
theorem bvs_app (l m : List UInt8) : bvs l ++ bvs m = bvs (l ++ m) := by simp [bvs]
theorem own_below {w w' : World} {base n s : Nat} {e : TypeId} {v : Value} {xs : List Value} (h : w.ownsRow base e s v n xs) (hb : Below w.heap.size w w') : w'.ownsRow base e s v n xs := by
  refine ⟨h.1, ?_⟩
  rcases h.2 with h0 | ⟨g, cap, cur, hv, h1, h2, h3⟩
  · exact .inl h0
  · exact .inr ⟨g, cap, cur, hv, h1, (hb.block g (Array.getElem?_eq_some_iff.1 h2).1).trans h2, h3⟩
theorem text_ok (s : ByteArray) (hs : s.size ≤ 1048576) (w : World) :
    Calls Try.prog 17 #[.string s, .int .i64 (s.size : Int)] w fun e w' => ∃ A c, e = .returned (.tuple #[.slice A (textB s.data.toList s.size).length c, .int .i64 0]) ∧ Row w' w'.heap.size A (bvs (textB s.data.toList s.size)) ∧ Below w.heap.size w w' :=
  (text_any s (by omega) s.size w).mono fun e w' ⟨r, h1, h2⟩ => by
    obtain ⟨A, c, rfl, h3, h4⟩ := Made.open h2
    refine ⟨A, c, ?_, h3, h4⟩
    rw [h1]
    have : textOk s.data.toList.length (s.size : Int) = true := decide_eq_true (by rw [show s.data.toList.length = s.size from rfl]; omega)
    unfold textE; rw [this]; rfl
theorem takeInt_ok (z : Int) (hz : -9223372036854775808 ≤ z ∧ z ≤ 9223372036854775807) (l r : List UInt8) (hl : l = enc (zz z) ++ r) (A : Option Addr) (c : Nat) (w : World) (hn : l.length ≤ 140737488355328) (hc : l.length ≤ c) (h : Row w w.heap.size A (bvs l)) :
    Calls Try.prog 22 #[.slice A l.length c] w fun e w' => ∃ A' c', e = .returned (.tuple #[.int .i64 z, .slice A' r.length c', .int .i64 0]) ∧ r.length ≤ c' ∧ Row w' w'.heap.size A' (bvs r) ∧ Below w.heap.size w w' :=
  (TakeInt_any _ A _ c l w rfl hn hc h).mono fun e w' ⟨q, h1, h2⟩ => by
    rw [hl, tkInt_enc z hz r] at h1 h2
    obtain ⟨A', c', rfl, h3, h4, _, h5⟩ := Gave.open h2
    exact ⟨A', c', h1, h3, h4, h5⟩
theorem takeText_ok (s : ByteArray) (hs : s.size ≤ 1048576) (l r : List UInt8) (hl : l = textB s.data.toList s.size ++ r) (A : Option Addr) (c : Nat) (w : World) (hn : l.length ≤ 140737488355328) (hc : l.length ≤ c) (h : Row w w.heap.size A (bvs l)) :
    Calls Try.prog 24 #[.slice A l.length c, .int .i64 (s.size : Int)] w fun e w' => ∃ A' c', e = .returned (.tuple #[.string s, .slice A' r.length c', .int .i64 0]) ∧ r.length ≤ c' ∧ Row w' w'.heap.size A' (bvs r) ∧ Below w.heap.size w w' :=
  (TakeText_any _ A _ c l s.size w rfl hn hc h).mono fun e w' ⟨q, h1, h2⟩ => by
    have hp := tkText_enc s.data.toList (by rw [show s.data.toList.length = s.size from rfl]; omega) r
    rw [show s.data.toList.length = s.size from rfl] at hp
    rw [hl, hp] at h1 h2
    obtain ⟨A', c', rfl, h3, h4, _, h5⟩ := Gave.open h2
    exact ⟨A', c', by rw [h1], h3, h4, h5⟩
theorem tl_int (zs : List Int) (ts : List ByteArray) (be : List UInt8) (j k : Nat) : tl zs ts be (j + 1) k = enc (zz (zs.getD k 0)) ++ ((if k < ts.length then textB (ts.getD k ByteArray.empty).data.toList (ts.getD k ByteArray.empty).size else []) ++ tl zs ts be j (k + 1)) := by
  show seg zs ts k ++ _ = _
  unfold seg; rw [List.append_assoc]
set_option maxRecDepth 100000 in
set_option maxHeartbeats 4000000 in
theorem binBack_few (A : Option Addr) (n c : Nat) (zs : List Int) (A1 : Option Addr) (n1 c1 : Nat) (ts : List ByteArray) (A2 : Option Addr) (n2 c2 : Nat) (be : List UInt8) (w : World)
    (hn : n = zs.length) (hl : n ≤ 140737488351232) (hz : ∀ k, -9223372036854775808 ≤ zs.getD k 0 ∧ zs.getD k 0 ≤ 9223372036854775807) (h : Row w w.heap.size A (ivs zs))
    (hn1 : n1 = ts.length) (_ : n1 ≤ 140737488351232) (hs : Short ts) (h1 : Row w w.heap.size A1 (svs ts))
    (hn2 : n2 = be.length) (hl2 : n2 ≤ 1048576) (h2 : Row w w.heap.size A2 (bvs be)) (hK : n ≤ 30) :
    Calls Try.prog 6 #[.slice A n c, .slice A1 n1 c1, .slice A2 n2 c2] w fun e w' => e = .returned (.bool true) ∧ Below w.heap.size w w' := by
  obtain ⟨i0, hi, hz0, hz1, hz2⟩ := info_parts infoU8
  have HN := Lib.hid hn
  have HN1 := Lib.hid hn1
  have HN2 := Lib.hid hn2
  have HZ := Lib.hid hz
  have HSH := Lib.hid hs
  clear hn hn1 hn2 hz hs
  go_enter Try.func6, Try.ntmps6
  go_wp2_with fail
  refine (works_any _).mono ?_; rintro e w1 ⟨rfl, b1⟩
  go_wp2_with fail
  go_loopw [7, 8] (fun r i wr => ∃ k : Nat, k ≤ n ∧ i = .int .i64 (k : Int) ∧ wr.ownsRow w.heap.size 5 1 r (out zs ts k).length (bvs (out zs ts k)) ∧ Below w.heap.size w wr) (fun _ i _ => n - (intOf i).toNat)
  case atStart => exact ⟨0, Nat.zero_le _, rfl, World.ownsRow_nil _ _ _ _, b1⟩
  case round =>
    obtain ⟨k, hk, rfl, hown, hb⟩ := hrel
    by_cases hlt : k < n
    · have kl : k < zs.length := by have := HN.out; omega
      have hd1 : decide ((k : Int) < (n : Int)) = true := by simp; omega
      have hd2 : decide ((k : Int) < 30) = true := by simp; omega
      obtain ⟨ad, rfl, _, hc⟩ := (h.below hb) k _ (ivs_at zs k kl)
      have hzk := HZ.out k
      have hi1 : (k : Int) < (n : Int) := by omega
      have hol := out_len zs ts HSH.out k
      have hseg := seg_len zs ts HSH.out k
      have HE : Hid (out zs ts (k + 1) = out zs ts k ++ seg zs ts k) := rfl
      have HSEG : Hid (seg zs ts k = enc (zz (zs.getD k 0)) ++ (if k < ts.length then textB (ts.getD k ByteArray.empty).data.toList (ts.getD k ByteArray.empty).size else [])) := rfl
      generalize zs.getD k 0 = z at *
      have HLX := Lib.hid (enc_lt (zz z))
      generalize out zs ts k = o at *
      by_cases ht : k < n1
      · have ktl : k < ts.length := by have := HN1.out; omega
        have ht1 : (k : Int) < (n1 : Int) := by omega
        have hd3 : decide ((k : Int) < (n1 : Int)) = true := by simp; omega
        obtain ⟨ad1, rfl, hadb, hcw⟩ := h1 k _ (svs_at ts k ktl)
        have hsk := HSH.out k
        have HS2 : Hid (seg zs ts k = enc (zz z) ++ textB (ts.getD k ByteArray.empty).data.toList (ts.getD k ByteArray.empty).size) := by unfold Hid; rw [HSEG.out, if_pos ktl]
        clear HSEG
        generalize ts.getD k ByteArray.empty = s at *
        generalize hTB : textB s.data.toList s.size = tb at *
        have HTX : Hid (∀ w, Calls Try.prog 17 #[.string s, .int .i64 (s.size : Int)] w fun e w' => ∃ A c, e = .returned (.tuple #[.slice A tb.length c, .int .i64 0]) ∧ Row w' w'.heap.size A (bvs tb) ∧ Below w.heap.size w w') := fun w => by
          have := text_ok s hsk w
          rw [hTB] at this; exact this
        have htb : tb.length ≤ 1048585 := by rw [← hTB]; have := textB_len9 s.data.toList s.size; rw [show s.data.toList.length = s.size from rfl] at this; omega
        clear hTB
        have hk0 : (0 : Int) ≤ (k : Int) := Int.natCast_nonneg _
        go_wp2_with fail
        refine (int_any z hzk _).mono ?_; rintro e w2 ⟨r, rfl, hm⟩
        obtain ⟨B2, d2, rfl, rr, b2⟩ := Made.open hm
        clear hm
        have hown := own_below hown b2
        have hbw2 : Below w.heap.size w w2 := bthen hb b2
        have sz := hbw2.size
        have HL := Lib.hid hown.lt
        have HX := Lib.hid (bvs_length (enc (zz z)))
        have HO := Lib.hid (bvs_one (enc (zz z)))
        go_wp2_with (at_builtin; refine wpList_append_row rfl _ _ 22 rfl w.heap.size 5 i0 (.int .u8 0) 1 Try.underlying22 hi hz0 hz1 hz2 rfl _ o.length (bvs o) rfl hown w2.heap.size B2 (enc (zz z)).length d2 (bvs (enc (zz z))) rfl HX.out rr HO.out (by have := HLX.out; unfold maxLen; omega) (by have := HLX.out; omega) sz ?_; intro v3 w3 own3 grow3)
        have gr3 : w2.grownBy w3 (u7).ownBlock := grow3
        have hb3 : Below w.heap.size w w3 := hbw2.grown gr3 sz (fun g hg => (HL.out g hg).1)
        clear grow3 gr3 hown HL HX HO rr
        rw [bvs_app, ← List.length_append] at own3
        have hc1 := (hb3.cell (p := ad1.add k) (by rw [add_block]; exact hadb)).trans hcw
        have hcB : ∀ w', Below w.heap.size w w' → w'.cell? (ad1.add k) = some (.string s) := fun w' hb' => (hb'.cell (p := ad1.add k) (by rw [add_block]; exact hadb)).trans hcw
        go_region_held3 (fun w' => w'.cell? (ad1.add k) = some (.string s))
          (first | go_keep | exact hcB _ (bthen hb3.drew hbel) | exact hcB _ hb3.drew)
          (first | (go_at_call 17; refine (HTX.out _).mono ?_; rintro e w4 ⟨A4, c4, rfl, r4, hbel⟩))
        have own4 := own_below (show w3.drew.ownsRow w.heap.size 5 1 v3 (o ++ enc (zz z)).length (bvs (o ++ enc (zz z))) from own3) hbel
        have hbw4 : Below w.heap.size w w4 := bthen (hb3.drew) hbel
        clear own3
        have sz4 := hbw4.size
        have HL4 := Lib.hid own4.lt
        have HX4 := Lib.hid (bvs_length tb)
        have HO4 := Lib.hid (bvs_one tb)
        have hlo : (o ++ enc (zz z)).length ≤ k * 1048594 + 9 := by rw [List.length_append]; have := HLX.out; omega
        have HOZ : Hid ((o ++ enc (zz z)) ++ tb = o ++ seg zs ts k) := by unfold Hid; rw [HS2.out, List.append_assoc]
        generalize o ++ enc (zz z) = oz at *
        go_wp2_with (at_builtin; refine wpList_append_row rfl _ _ 22 rfl w.heap.size 5 i0 (.int .u8 0) 1 Try.underlying22 hi hz0 hz1 hz2 rfl _ oz.length (bvs oz) rfl own4 w4.heap.size A4 tb.length c4 (bvs tb) rfl HX4.out r4 HO4.out (by unfold maxLen; omega) (by omega) sz4 ?_; intro v5 w5 own5 grow5)
        have gr5 : w4.grownBy w5 (v3).ownBlock := grow5
        have hb5 : Below w.heap.size w w5 := hbw4.grown gr5 sz4 (fun g hg => (HL4.out g hg).1)
        clear grow5 gr5 own4 HL4 HX4 HO4 r4
        rw [bvs_app, ← List.length_append, HOZ.out, ← HE.out] at own5
        go_roundw
        case rel => exact ⟨k + 1, by omega, by go_num, own5, hb5⟩
        case measure => simp [intOf]; omega
      · have ktl : ¬ k < ts.length := by have := HN1.out; omega
        have hd3 : decide ((k : Int) < (n1 : Int)) = false := by simp; omega
        have HS2 : Hid (seg zs ts k = enc (zz z)) := by unfold Hid; rw [HSEG.out, if_neg ktl, List.append_nil]
        clear HSEG
        go_wp2_with fail
        refine (int_any z hzk _).mono ?_; rintro e w2 ⟨r, rfl, hm⟩
        obtain ⟨B2, d2, rfl, rr, b2⟩ := Made.open hm
        clear hm
        have hown := own_below hown b2
        have hbw2 : Below w.heap.size w w2 := bthen hb b2
        have sz := hbw2.size
        have HL := Lib.hid hown.lt
        have HX := Lib.hid (bvs_length (enc (zz z)))
        have HO := Lib.hid (bvs_one (enc (zz z)))
        go_wp2_with (at_builtin; refine wpList_append_row rfl _ _ 22 rfl w.heap.size 5 i0 (.int .u8 0) 1 Try.underlying22 hi hz0 hz1 hz2 rfl _ o.length (bvs o) rfl hown w2.heap.size B2 (enc (zz z)).length d2 (bvs (enc (zz z))) rfl HX.out rr HO.out (by have := HLX.out; unfold maxLen; omega) (by have := HLX.out; omega) sz ?_; intro v3 w3 own3 grow3)
        have gr3 : w2.grownBy w3 (u7).ownBlock := grow3
        have hb3 : Below w.heap.size w w3 := hbw2.grown gr3 sz (fun g hg => (HL.out g hg).1)
        clear grow3 gr3 hown HL HX HO rr
        rw [bvs_app, ← List.length_append] at own3
        have HOZ : Hid (o ++ enc (zz z) = out zs ts (k + 1)) := by unfold Hid; rw [HE.out, HS2.out]
        rw [HOZ.out] at own3
        go_roundw
        case rel => exact ⟨k + 1, by omega, by go_num, own3, hb3⟩
        case measure => simp [intOf]; omega
    · have ek : k = n := by omega
      have hd1 : decide ((k : Int) < (n : Int)) = false := by simp; omega
      have hol := out_len zs ts HSH.out k
      have hk30 : k ≤ 30 := by omega
      have EK := Lib.hid ek
      clear ek
      have rbe := h2.below hb
      have hown2 := hown
      have sz := hb.size
      have HL := Lib.hid hown.lt
      have HX := Lib.hid (bvs_length be)
      have HO := Lib.hid (bvs_one be)
      have HT0 : Hid (out zs ts k ++ be = tl zs ts be k 0) := by
        have := out_tl zs ts be k 0
        rw [Nat.zero_add] at this; exact this
      have HTL := Lib.hid (fun j q => tl_len zs ts be HSH.out j q)
      have HSTEP := Lib.hid (fun j q => tl_int zs ts be j q)
      have HZERO : Hid (∀ q, tl zs ts be 0 q = be) := fun q => rfl
      generalize out zs ts k = o at *
      clear hown2
      go_wp2_with (at_builtin; refine wpList_append_row rfl _ _ 22 rfl w.heap.size 5 i0 (.int .u8 0) 1 Try.underlying22 hi hz0 hz1 hz2 rfl _ o.length (bvs o) rfl hown w.heap.size A2 n2 c2 (bvs be) rfl (by rw [HX.out]; exact HN2.out.symm) rbe HO.out (by unfold maxLen; omega) (by omega) sz ?_; intro v5 w5 own5 grow5)
      have gr5 : wr.grownBy w5 (u7).ownBlock := grow5
      have hb5 : Below w.heap.size w w5 := hb.grown gr5 sz (fun g hg => (HL.out g hg).1)
      clear grow5 gr5 hown HL HX HO rbe
      obtain ⟨A5, c5, hr, hc5, r5, _, _⟩ := Made.gave (w := w) (w' := w5) (l := o ++ be) (r := v5) (by
        obtain ⟨A5, c5, hv⟩ := own_slice own5
        refine ⟨A5, c5, by rw [hv, List.length_append, HN2.out], ?_, hb5⟩
        rw [bvs_app] at own5
        rw [List.length_append, ← HN2.out]; exact own5)
      subst hr
      rw [HT0.out] at hc5 r5 ⊢
      clear own5 HT0
      go_wp2_with fail
      go_loopw [7, 11] (fun r i wx => ∃ (q : Nat) (A' : Option Addr) (c' : Nat), q ≤ k ∧ i = .int .i64 (q : Int) ∧ r = .slice A' (tl zs ts be (k - q) q).length c' ∧ (tl zs ts be (k - q) q).length ≤ c' ∧ Row wx wx.heap.size A' (bvs (tl zs ts be (k - q) q)) ∧ Below w.heap.size w wx) (fun _ i _ => k - (intOf i).toNat)
      case atStart => exact ⟨0, A5, c5, Nat.zero_le _, rfl, rfl, hc5, r5, hb5⟩
      case round =>
        clear hc5 r5
        rename_i wx _
        obtain ⟨q, A', c', hq, rfl, rfl, hc', r', hbx⟩ := hrel
        by_cases hlt2 : q < k
        · have hqn : q < n := by have := EK.out; omega
          have kl : q < zs.length := by have := HN.out; omega
          have hd1 : decide ((q : Int) < (n : Int)) = true := by simp; omega
          have hd2 : decide ((q : Int) < 30) = true := by simp; omega
          obtain ⟨ad, rfl, hadz, hcz⟩ := h q _ (ivs_at zs q kl)
          have hzk := HZ.out q
          have hi1 : (q : Int) < (n : Int) := by omega
          clear hqn
          have htl := HTL.out (k - q) q
          have hjj : k - q = (k - (q + 1)) + 1 := by omega
          have hst := HSTEP.out (k - (q + 1)) q
          rw [← hjj] at hst
          have hj30 : (k - q) ≤ 30 := by omega
          have hlen : (tl zs ts be (k - q) q).length ≤ 140737488355328 := by have := HN2.out; omega
          generalize hTT : tl zs ts be (k - q) q = T at *
          clear hTT
          generalize hUU : tl zs ts be (k - (q + 1)) (q + 1) = U at *
          have HU := Lib.hid hUU
          clear hUU
          generalize hzz : zs.getD q 0 = z at *
          clear hzz
          by_cases ht : q < n1
          · have ktl : q < ts.length := by have := HN1.out; omega
            have ht1 : (q : Int) < (n1 : Int) := by omega
            have hd3 : decide ((q : Int) < (n1 : Int)) = true := by simp; omega
            obtain ⟨ad1, rfl, hadb, hcw⟩ := h1 q _ (svs_at ts q ktl)
            have hsk := HSH.out q
            rw [if_pos ktl] at hst
            generalize ts.getD q ByteArray.empty = s at *
            have HST := Lib.hid hst
            have HCI := Lib.hid (fun w h => takeInt_ok z hzk T _ hst A' c' w hlen hc' h)
            have htb : (textB s.data.toList s.size ++ U).length ≤ 140737488355328 := by
              have := congrArg List.length hst
              rw [List.length_append] at this; omega
            clear hst
            generalize hV : textB s.data.toList s.size ++ U = V at *
            have HCT := Lib.hid (fun A c w hc h => takeText_ok s hsk V U hV.symm A c w htb hc h)
            clear hV
            have hcz1 := (hbx.cell (p := ad.add q) (by rw [add_block]; exact hadz)).trans hcz
            go_wp2_with fail
            refine (HCI.out _ r').mono ?_; rintro e x1 ⟨B1, d1, rfl, hd1c, p1, b1x⟩
            have hbx1 := bthen hbx b1x
            have hcz2 := (hbx1.cell (p := ad.add q) (by rw [add_block]; exact hadz)).trans hcz
            have hcw1 := (hbx1.cell (p := ad1.add q) (by rw [add_block]; exact hadb)).trans hcw
            clear hcz1
            go_wp2_with fail
            refine (HCT.out B1 d1 _ hd1c p1).mono ?_; rintro e x2 ⟨B2, d2, rfl, hd2c, p2, b2x⟩
            have hbx2 := bthen hbx1 b2x
            have hcw2 := (hbx2.cell (p := ad1.add q) (by rw [add_block]; exact hadb)).trans hcw
            clear hcw1 hcz2 p1
            go_wp2_with fail
            go_roundw
            case rel => exact ⟨q + 1, B2, d2, by omega, by go_num, by rw [HU.out], by rw [HU.out]; exact hd2c, by rw [HU.out]; exact p2, hbx2⟩
            case measure => simp [intOf]; omega
          · have ktl : ¬ q < ts.length := by have := HN1.out; omega
            have hd3 : decide ((q : Int) < (n1 : Int)) = false := by simp; omega
            rw [if_neg ktl, List.nil_append] at hst
            have HCI := Lib.hid (fun w h => takeInt_ok z hzk T _ hst A' c' w hlen hc' h)
            clear hst
            have hcz1 := (hbx.cell (p := ad.add q) (by rw [add_block]; exact hadz)).trans hcz
            go_wp2_with fail
            refine (HCI.out _ r').mono ?_; rintro e x1 ⟨B1, d1, rfl, hd1c, p1, b1x⟩
            have hbx1 := bthen hbx b1x
            have hcz2 := (hbx1.cell (p := ad.add q) (by rw [add_block]; exact hadz)).trans hcz
            clear hcz1
            go_wp2_with fail
            go_roundw
            case rel => exact ⟨q + 1, B1, d1, by omega, by go_num, by rw [HU.out], by rw [HU.out]; exact hd1c, by rw [HU.out]; exact p1, hbx1⟩
            case measure => simp [intOf]; omega
        · have eq : q = k := by omega
          have ekk := EK.out
          have hd1 : decide ((k : Int) < (n : Int)) = false := by simp; omega
          clear ekk
          rw [eq, Nat.sub_self, HZERO.out] at r' hc' ⊢
          have rbe := h2.below hbx
          go_wp2_with fail
          refine (eqBytes_same _ _ A' A2 _ _ c' c2 be _ rfl HN2.out (by have := HN2.out; omega) r' rbe).mono ?_; rintro e x1 ⟨rfl, b1x⟩
          go_wp2_with fail
          go_ret
          exact ⟨rfl, bthen hbx b1x⟩
set_option maxRecDepth 100000 in
set_option maxHeartbeats 4000000 in
theorem binBack_many (A : Option Addr) (n c : Nat) (zs : List Int) (A1 : Option Addr) (n1 c1 : Nat) (ts : List ByteArray) (A2 : Option Addr) (n2 c2 : Nat) (be : List UInt8) (w : World)
    (hn : n = zs.length) (hl : n ≤ 140737488351232) (hz : ∀ k, -9223372036854775808 ≤ zs.getD k 0 ∧ zs.getD k 0 ≤ 9223372036854775807) (h : Row w w.heap.size A (ivs zs))
    (hn1 : n1 = ts.length) (_ : n1 ≤ 140737488351232) (hs : Short ts) (h1 : Row w w.heap.size A1 (svs ts))
    (hn2 : n2 = be.length) (hl2 : n2 ≤ 1048576) (h2 : Row w w.heap.size A2 (bvs be)) (hK : 30 < n) :
    Calls Try.prog 6 #[.slice A n c, .slice A1 n1 c1, .slice A2 n2 c2] w fun e w' => e = .returned (.bool true) ∧ Below w.heap.size w w' := by
  obtain ⟨i0, hi, hz0, hz1, hz2⟩ := info_parts infoU8
  have HN := Lib.hid hn
  have HN1 := Lib.hid hn1
  have HN2 := Lib.hid hn2
  have HZ := Lib.hid hz
  have HSH := Lib.hid hs
  clear hn hn1 hn2 hz hs
  go_enter Try.func6, Try.ntmps6
  go_wp2_with fail
  refine (works_any _).mono ?_; rintro e w1 ⟨rfl, b1⟩
  go_wp2_with fail
  go_loopw [7, 8] (fun r i wr => ∃ k : Nat, k ≤ 30 ∧ i = .int .i64 (k : Int) ∧ wr.ownsRow w.heap.size 5 1 r (out zs ts k).length (bvs (out zs ts k)) ∧ Below w.heap.size w wr) (fun _ i _ => 30 - (intOf i).toNat)
  case atStart => exact ⟨0, Nat.zero_le _, rfl, World.ownsRow_nil _ _ _ _, b1⟩
  case round =>
    obtain ⟨k, hk, rfl, hown, hb⟩ := hrel
    by_cases hlt : k < 30
    · have kl : k < zs.length := by have := HN.out; omega
      have hd1 : decide ((k : Int) < (n : Int)) = true := by simp; omega
      have hd2 : decide ((k : Int) < 30) = true := by simp; omega
      obtain ⟨ad, rfl, _, hc⟩ := (h.below hb) k _ (ivs_at zs k kl)
      have hzk := HZ.out k
      have hi1 : (k : Int) < (n : Int) := by omega
      have hol := out_len zs ts HSH.out k
      have hseg := seg_len zs ts HSH.out k
      have HE : Hid (out zs ts (k + 1) = out zs ts k ++ seg zs ts k) := rfl
      have HSEG : Hid (seg zs ts k = enc (zz (zs.getD k 0)) ++ (if k < ts.length then textB (ts.getD k ByteArray.empty).data.toList (ts.getD k ByteArray.empty).size else [])) := rfl
      generalize zs.getD k 0 = z at *
      have HLX := Lib.hid (enc_lt (zz z))
      generalize out zs ts k = o at *
      by_cases ht : k < n1
      · have ktl : k < ts.length := by have := HN1.out; omega
        have ht1 : (k : Int) < (n1 : Int) := by omega
        have hd3 : decide ((k : Int) < (n1 : Int)) = true := by simp; omega
        obtain ⟨ad1, rfl, hadb, hcw⟩ := h1 k _ (svs_at ts k ktl)
        have hsk := HSH.out k
        have HS2 : Hid (seg zs ts k = enc (zz z) ++ textB (ts.getD k ByteArray.empty).data.toList (ts.getD k ByteArray.empty).size) := by unfold Hid; rw [HSEG.out, if_pos ktl]
        clear HSEG
        generalize ts.getD k ByteArray.empty = s at *
        generalize hTB : textB s.data.toList s.size = tb at *
        have HTX : Hid (∀ w, Calls Try.prog 17 #[.string s, .int .i64 (s.size : Int)] w fun e w' => ∃ A c, e = .returned (.tuple #[.slice A tb.length c, .int .i64 0]) ∧ Row w' w'.heap.size A (bvs tb) ∧ Below w.heap.size w w') := fun w => by
          have := text_ok s hsk w
          rw [hTB] at this; exact this
        have htb : tb.length ≤ 1048585 := by rw [← hTB]; have := textB_len9 s.data.toList s.size; rw [show s.data.toList.length = s.size from rfl] at this; omega
        clear hTB
        have hk0 : (0 : Int) ≤ (k : Int) := Int.natCast_nonneg _
        go_wp2_with fail
        refine (int_any z hzk _).mono ?_; rintro e w2 ⟨r, rfl, hm⟩
        obtain ⟨B2, d2, rfl, rr, b2⟩ := Made.open hm
        clear hm
        have hown := own_below hown b2
        have hbw2 : Below w.heap.size w w2 := bthen hb b2
        have sz := hbw2.size
        have HL := Lib.hid hown.lt
        have HX := Lib.hid (bvs_length (enc (zz z)))
        have HO := Lib.hid (bvs_one (enc (zz z)))
        go_wp2_with (at_builtin; refine wpList_append_row rfl _ _ 22 rfl w.heap.size 5 i0 (.int .u8 0) 1 Try.underlying22 hi hz0 hz1 hz2 rfl _ o.length (bvs o) rfl hown w2.heap.size B2 (enc (zz z)).length d2 (bvs (enc (zz z))) rfl HX.out rr HO.out (by have := HLX.out; unfold maxLen; omega) (by have := HLX.out; omega) sz ?_; intro v3 w3 own3 grow3)
        have gr3 : w2.grownBy w3 (u7).ownBlock := grow3
        have hb3 : Below w.heap.size w w3 := hbw2.grown gr3 sz (fun g hg => (HL.out g hg).1)
        clear grow3 gr3 hown HL HX HO rr
        rw [bvs_app, ← List.length_append] at own3
        have hc1 := (hb3.cell (p := ad1.add k) (by rw [add_block]; exact hadb)).trans hcw
        have hcB : ∀ w', Below w.heap.size w w' → w'.cell? (ad1.add k) = some (.string s) := fun w' hb' => (hb'.cell (p := ad1.add k) (by rw [add_block]; exact hadb)).trans hcw
        go_region_held3 (fun w' => w'.cell? (ad1.add k) = some (.string s))
          (first | go_keep | exact hcB _ (bthen hb3.drew hbel) | exact hcB _ hb3.drew)
          (first | (go_at_call 17; refine (HTX.out _).mono ?_; rintro e w4 ⟨A4, c4, rfl, r4, hbel⟩))
        have own4 := own_below (show w3.drew.ownsRow w.heap.size 5 1 v3 (o ++ enc (zz z)).length (bvs (o ++ enc (zz z))) from own3) hbel
        have hbw4 : Below w.heap.size w w4 := bthen (hb3.drew) hbel
        clear own3
        have sz4 := hbw4.size
        have HL4 := Lib.hid own4.lt
        have HX4 := Lib.hid (bvs_length tb)
        have HO4 := Lib.hid (bvs_one tb)
        have hlo : (o ++ enc (zz z)).length ≤ k * 1048594 + 9 := by rw [List.length_append]; have := HLX.out; omega
        have HOZ : Hid ((o ++ enc (zz z)) ++ tb = o ++ seg zs ts k) := by unfold Hid; rw [HS2.out, List.append_assoc]
        generalize o ++ enc (zz z) = oz at *
        go_wp2_with (at_builtin; refine wpList_append_row rfl _ _ 22 rfl w.heap.size 5 i0 (.int .u8 0) 1 Try.underlying22 hi hz0 hz1 hz2 rfl _ oz.length (bvs oz) rfl own4 w4.heap.size A4 tb.length c4 (bvs tb) rfl HX4.out r4 HO4.out (by unfold maxLen; omega) (by omega) sz4 ?_; intro v5 w5 own5 grow5)
        have gr5 : w4.grownBy w5 (v3).ownBlock := grow5
        have hb5 : Below w.heap.size w w5 := hbw4.grown gr5 sz4 (fun g hg => (HL4.out g hg).1)
        clear grow5 gr5 own4 HL4 HX4 HO4 r4
        rw [bvs_app, ← List.length_append, HOZ.out, ← HE.out] at own5
        go_roundw
        case rel => exact ⟨k + 1, by omega, by go_num, own5, hb5⟩
        case measure => simp [intOf]; omega
      · have ktl : ¬ k < ts.length := by have := HN1.out; omega
        have hd3 : decide ((k : Int) < (n1 : Int)) = false := by simp; omega
        have HS2 : Hid (seg zs ts k = enc (zz z)) := by unfold Hid; rw [HSEG.out, if_neg ktl, List.append_nil]
        clear HSEG
        go_wp2_with fail
        refine (int_any z hzk _).mono ?_; rintro e w2 ⟨r, rfl, hm⟩
        obtain ⟨B2, d2, rfl, rr, b2⟩ := Made.open hm
        clear hm
        have hown := own_below hown b2
        have hbw2 : Below w.heap.size w w2 := bthen hb b2
        have sz := hbw2.size
        have HL := Lib.hid hown.lt
        have HX := Lib.hid (bvs_length (enc (zz z)))
        have HO := Lib.hid (bvs_one (enc (zz z)))
        go_wp2_with (at_builtin; refine wpList_append_row rfl _ _ 22 rfl w.heap.size 5 i0 (.int .u8 0) 1 Try.underlying22 hi hz0 hz1 hz2 rfl _ o.length (bvs o) rfl hown w2.heap.size B2 (enc (zz z)).length d2 (bvs (enc (zz z))) rfl HX.out rr HO.out (by have := HLX.out; unfold maxLen; omega) (by have := HLX.out; omega) sz ?_; intro v3 w3 own3 grow3)
        have gr3 : w2.grownBy w3 (u7).ownBlock := grow3
        have hb3 : Below w.heap.size w w3 := hbw2.grown gr3 sz (fun g hg => (HL.out g hg).1)
        clear grow3 gr3 hown HL HX HO rr
        rw [bvs_app, ← List.length_append] at own3
        have HOZ : Hid (o ++ enc (zz z) = out zs ts (k + 1)) := by unfold Hid; rw [HE.out, HS2.out]
        rw [HOZ.out] at own3
        go_roundw
        case rel => exact ⟨k + 1, by omega, by go_num, own3, hb3⟩
        case measure => simp [intOf]; omega
    · have ek : k = 30 := by omega
      have hd1 : decide ((k : Int) < (n : Int)) = true := by simp; omega
      have hd2 : decide ((k : Int) < 30) = false := by simp; omega
      have hol := out_len zs ts HSH.out k
      have hk30 : k ≤ 30 := by omega
      have EK := Lib.hid ek
      clear ek
      have rbe := h2.below hb
      have hown2 := hown
      have sz := hb.size
      have HL := Lib.hid hown.lt
      have HX := Lib.hid (bvs_length be)
      have HO := Lib.hid (bvs_one be)
      have HT0 : Hid (out zs ts k ++ be = tl zs ts be k 0) := by
        have := out_tl zs ts be k 0
        rw [Nat.zero_add] at this; exact this
      have HTL := Lib.hid (fun j q => tl_len zs ts be HSH.out j q)
      have HSTEP := Lib.hid (fun j q => tl_int zs ts be j q)
      have HZERO : Hid (∀ q, tl zs ts be 0 q = be) := fun q => rfl
      generalize out zs ts k = o at *
      clear hown2
      go_wp2_with (at_builtin; refine wpList_append_row rfl _ _ 22 rfl w.heap.size 5 i0 (.int .u8 0) 1 Try.underlying22 hi hz0 hz1 hz2 rfl _ o.length (bvs o) rfl hown w.heap.size A2 n2 c2 (bvs be) rfl (by rw [HX.out]; exact HN2.out.symm) rbe HO.out (by unfold maxLen; omega) (by omega) sz ?_; intro v5 w5 own5 grow5)
      have gr5 : wr.grownBy w5 (u7).ownBlock := grow5
      have hb5 : Below w.heap.size w w5 := hb.grown gr5 sz (fun g hg => (HL.out g hg).1)
      clear grow5 gr5 hown HL HX HO rbe
      obtain ⟨A5, c5, hr, hc5, r5, _, _⟩ := Made.gave (w := w) (w' := w5) (l := o ++ be) (r := v5) (by
        obtain ⟨A5, c5, hv⟩ := own_slice own5
        refine ⟨A5, c5, by rw [hv, List.length_append, HN2.out], ?_, hb5⟩
        rw [bvs_app] at own5
        rw [List.length_append, ← HN2.out]; exact own5)
      subst hr
      rw [HT0.out] at hc5 r5 ⊢
      clear own5 HT0
      go_wp2_with fail
      go_loopw [7, 11] (fun r i wx => ∃ (q : Nat) (A' : Option Addr) (c' : Nat), q ≤ k ∧ i = .int .i64 (q : Int) ∧ r = .slice A' (tl zs ts be (k - q) q).length c' ∧ (tl zs ts be (k - q) q).length ≤ c' ∧ Row wx wx.heap.size A' (bvs (tl zs ts be (k - q) q)) ∧ Below w.heap.size w wx) (fun _ i _ => k - (intOf i).toNat)
      case atStart => exact ⟨0, A5, c5, Nat.zero_le _, rfl, rfl, hc5, r5, hb5⟩
      case round =>
        clear hc5 r5
        rename_i wx _
        obtain ⟨q, A', c', hq, rfl, rfl, hc', r', hbx⟩ := hrel
        by_cases hlt2 : q < k
        · have hqn : q < 30 := by have := EK.out; omega
          have kl : q < zs.length := by have := HN.out; omega
          have hd1 : decide ((q : Int) < (n : Int)) = true := by simp; omega
          have hd2 : decide ((q : Int) < 30) = true := by simp; omega
          obtain ⟨ad, rfl, hadz, hcz⟩ := h q _ (ivs_at zs q kl)
          have hzk := HZ.out q
          have hi1 : (q : Int) < (n : Int) := by omega
          clear hqn
          have htl := HTL.out (k - q) q
          have hjj : k - q = (k - (q + 1)) + 1 := by omega
          have hst := HSTEP.out (k - (q + 1)) q
          rw [← hjj] at hst
          have hj30 : (k - q) ≤ 30 := by omega
          have hlen : (tl zs ts be (k - q) q).length ≤ 140737488355328 := by have := HN2.out; omega
          generalize hTT : tl zs ts be (k - q) q = T at *
          clear hTT
          generalize hUU : tl zs ts be (k - (q + 1)) (q + 1) = U at *
          have HU := Lib.hid hUU
          clear hUU
          generalize hzz : zs.getD q 0 = z at *
          clear hzz
          by_cases ht : q < n1
          · have ktl : q < ts.length := by have := HN1.out; omega
            have ht1 : (q : Int) < (n1 : Int) := by omega
            have hd3 : decide ((q : Int) < (n1 : Int)) = true := by simp; omega
            obtain ⟨ad1, rfl, hadb, hcw⟩ := h1 q _ (svs_at ts q ktl)
            have hsk := HSH.out q
            rw [if_pos ktl] at hst
            generalize ts.getD q ByteArray.empty = s at *
            have HST := Lib.hid hst
            have HCI := Lib.hid (fun w h => takeInt_ok z hzk T _ hst A' c' w hlen hc' h)
            have htb : (textB s.data.toList s.size ++ U).length ≤ 140737488355328 := by
              have := congrArg List.length hst
              rw [List.length_append] at this; omega
            clear hst
            generalize hV : textB s.data.toList s.size ++ U = V at *
            have HCT := Lib.hid (fun A c w hc h => takeText_ok s hsk V U hV.symm A c w htb hc h)
            clear hV
            have hcz1 := (hbx.cell (p := ad.add q) (by rw [add_block]; exact hadz)).trans hcz
            go_wp2_with fail
            refine (HCI.out _ r').mono ?_; rintro e x1 ⟨B1, d1, rfl, hd1c, p1, b1x⟩
            have hbx1 := bthen hbx b1x
            have hcz2 := (hbx1.cell (p := ad.add q) (by rw [add_block]; exact hadz)).trans hcz
            have hcw1 := (hbx1.cell (p := ad1.add q) (by rw [add_block]; exact hadb)).trans hcw
            clear hcz1
            go_wp2_with fail
            refine (HCT.out B1 d1 _ hd1c p1).mono ?_; rintro e x2 ⟨B2, d2, rfl, hd2c, p2, b2x⟩
            have hbx2 := bthen hbx1 b2x
            have hcw2 := (hbx2.cell (p := ad1.add q) (by rw [add_block]; exact hadb)).trans hcw
            clear hcw1 hcz2 p1
            go_wp2_with fail
            go_roundw
            case rel => exact ⟨q + 1, B2, d2, by omega, by go_num, by rw [HU.out], by rw [HU.out]; exact hd2c, by rw [HU.out]; exact p2, hbx2⟩
            case measure => simp [intOf]; omega
          · have ktl : ¬ q < ts.length := by have := HN1.out; omega
            have hd3 : decide ((q : Int) < (n1 : Int)) = false := by simp; omega
            rw [if_neg ktl, List.nil_append] at hst
            have HCI := Lib.hid (fun w h => takeInt_ok z hzk T _ hst A' c' w hlen hc' h)
            clear hst
            have hcz1 := (hbx.cell (p := ad.add q) (by rw [add_block]; exact hadz)).trans hcz
            go_wp2_with fail
            refine (HCI.out _ r').mono ?_; rintro e x1 ⟨B1, d1, rfl, hd1c, p1, b1x⟩
            have hbx1 := bthen hbx b1x
            have hcz2 := (hbx1.cell (p := ad.add q) (by rw [add_block]; exact hadz)).trans hcz
            clear hcz1
            go_wp2_with fail
            go_roundw
            case rel => exact ⟨q + 1, B1, d1, by omega, by go_num, by rw [HU.out], by rw [HU.out]; exact hd1c, by rw [HU.out]; exact p1, hbx1⟩
            case measure => simp [intOf]; omega
        · have eq : q = k := by omega
          have ekk := EK.out
          have hd1 : decide ((k : Int) < (n : Int)) = true := by simp; omega
          have hd2 : decide ((k : Int) < 30) = false := by simp; omega
          clear ekk
          rw [eq, Nat.sub_self, HZERO.out] at r' hc' ⊢
          have rbe := h2.below hbx
          go_wp2_with fail
          refine (eqBytes_same _ _ A' A2 _ _ c' c2 be _ rfl HN2.out (by have := HN2.out; omega) r' rbe).mono ?_; rintro e x1 ⟨rfl, b1x⟩
          go_wp2_with fail
          go_ret
          exact ⟨rfl, bthen hbx b1x⟩
theorem binBack (A : Option Addr) (n c : Nat) (zs : List Int) (A1 : Option Addr) (n1 c1 : Nat) (ts : List ByteArray) (A2 : Option Addr) (n2 c2 : Nat) (be : List UInt8) (w : World)
    (hn : n = zs.length) (hl : n ≤ 140737488351232) (hz : ∀ k, -9223372036854775808 ≤ zs.getD k 0 ∧ zs.getD k 0 ≤ 9223372036854775807) (h : Row w w.heap.size A (ivs zs))
    (hn1 : n1 = ts.length) (hl1 : n1 ≤ 140737488351232) (hs : Short ts) (h1 : Row w w.heap.size A1 (svs ts))
    (hn2 : n2 = be.length) (_ : n2 ≤ 140737488351232) (hl2 : n2 ≤ 1048576) (h2 : Row w w.heap.size A2 (bvs be)) :
    Calls Try.prog 6 #[.slice A n c, .slice A1 n1 c1, .slice A2 n2 c2] w fun e w' => e = .returned (.bool true) ∧ Below w.heap.size w w' := by
  by_cases hK : n ≤ 30
  · exact binBack_few A n c zs A1 n1 c1 ts A2 n2 c2 be w hn hl hz h hn1 hl1 hs h1 hn2 hl2 h2 hK
  · exact binBack_many A n c zs A1 n1 c1 ts A2 n2 c2 be w hn hl hz h hn1 hl1 hs h1 hn2 hl2 h2 (by omega)

end BinL
end Go.Proofs.Ytopnogjbpapmfaa
