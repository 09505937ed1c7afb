/- FrameTurned: one bit that is turned behind the number makes ErrSum. -/
import Derived.Test.YtmjfhdihegblbaaDoorFrameSumWalk
import Derived.Test.YtmjfhdihegblbaaDoorCrcTurnWalk
import Derived.Lib.MinMax
namespace Go.Proofs.YtmjfhdihegblbaaDoor
open Go.RowKit
namespace FrameM
open BinM CrcM BinW
theorem nx_alt (L : Nat) (t : List UInt8) (hL : L ≤ 8192) (ht : t.length = L + 4) (hne : t.drop L ≠ sum4 (enc L ++ t.take L)) : nxE (enc L ++ t) = 40 := by
  have hr : rd (enc L ++ t) = (L, 1 + more L, 0) := rd_enc _ (by omega) _
  have hn : nn (enc L ++ t) = L := by unfold nn; rw [hr]
  have hh : hd (enc L ++ t) = (enc L).length := by unfold hd; rw [hr, enc_length]
  have e1 : (enc L ++ t).take ((enc L).length + L) = enc L ++ t.take L := by rw [List.take_append, List.take_of_length_le (by omega), Nat.add_sub_cancel_left]
  have e2 : ((enc L ++ t).drop ((enc L).length + L)).take 4 = t.drop L := by
    rw [List.drop_append, List.drop_of_length_le (by omega), List.nil_append, Nat.add_sub_cancel_left, List.take_of_length_le (by rw [List.length_drop]; omega)]
  unfold nxE
  rw [if_neg (by rw [hr]; simp), if_neg (by rw [hn]; omega), if_neg (by rw [hn]; omega), if_neg (by rw [hn, hh, List.length_append, ht]; omega), if_pos]
  rw [hn, hh, e1, e2]; exact hne
theorem bit_ne : ∀ m : Fin 8, (1 : UInt8) <<< UInt8.ofNat m.val ≠ 0 := by decide
theorem xor_ne (c b : UInt8) (h : b ≠ 0) : c ^^^ b ≠ c := fun e => h (by
  have : c ^^^ (c ^^^ b) = b := by rw [← UInt8.xor_assoc, UInt8.xor_self, UInt8.zero_xor]
  rw [← this, e, UInt8.xor_self])
theorem sum4_inj {a b : List UInt8} (h : sum4 a = sum4 b) : sumOf 0#32 a = sumOf 0#32 b := by
  have sm : ∀ m : List UInt8, acc 0 (sum4 m) = (sumOf 0#32 m).toNat := fun m => by
    unfold sum4
    rw [acc_be]
    have := (sumOf 0#32 m).isLt
    rw [Nat.mod_eq_of_lt (by simpa using this)]; simp
  apply BitVec.eq_of_toNat_eq
  rw [← sm a, ← sm b, h]
theorem nx_turned (d : List UInt8) (p : Nat) (hd : d.length ≤ 8192) (h1 : 8 * (enc d.length).length ≤ p) (h2 : p < 8 * (pack d).length) : nxE (CrcM.flip (pack d) p) = 40 := by
  have hpl := pack_length d
  have hs := sum4_length (body d)
  have hE : (enc d.length).length ≤ p / 8 := by omega
  have hb : (1 : UInt8) <<< UInt8.ofNat (p % 8) ≠ 0 := bit_ne ⟨p % 8, Nat.mod_lt _ (by decide)⟩
  have hpk : pack d = enc d.length ++ (d ++ sum4 (body d)) := by unfold pack body; rw [List.append_assoc]
  have hfl : CrcM.flip (pack d) p = enc d.length ++ (d ++ sum4 (body d)).set (p / 8 - (enc d.length).length) ((d ++ sum4 (body d)).getD (p / 8 - (enc d.length).length) 0 ^^^ ((1 : UInt8) <<< UInt8.ofNat (p % 8))) := by
    unfold CrcM.flip
    rw [hpk, List.set_append_right _ _ hE]
    congr 3
    simp only [List.getD, List.getElem?_append_right hE]
  rw [hfl]
  refine nx_alt d.length _ hd (by rw [List.length_set, List.length_append, hs]) ?_
  by_cases hj : p / 8 < (enc d.length).length + d.length
  · have hlt : p / 8 - (enc d.length).length < d.length := by omega
    rw [List.set_append_left _ _ hlt, List.drop_left' (by simp), List.take_left' (by simp)]
    intro h
    have h3 := sum4_inj h
    have hbf : enc d.length ++ d.set (p / 8 - (enc d.length).length) ((d ++ sum4 (body d)).getD (p / 8 - (enc d.length).length) 0 ^^^ ((1 : UInt8) <<< UInt8.ofNat (p % 8))) = CrcM.flip (body d) p := by
      unfold CrcM.flip body
      rw [List.set_append_right _ _ hE]
      congr 3
      simp only [List.getD, List.getElem?_append_right hE, List.getElem?_append_left hlt]
    rw [hbf, sum_flip (body d) p (by simp [body]; omega)] at h3
    exact absurd ((sums_eq _ _ _).1 h3) (by decide)
  · have hge : d.length ≤ p / 8 - (enc d.length).length := by omega
    rw [List.set_append_right _ _ hge, List.drop_left, List.take_left]
    intro h
    have hlt : p / 8 - (enc d.length).length - d.length < (sum4 (body d)).length := by rw [hs]; omega
    have h4 := congrArg (fun l : List UInt8 => l[p / 8 - (enc d.length).length - d.length]?) h
    simp only [List.getElem?_set_self hlt] at h4
    have h5 : (sum4 (enc d.length ++ d))[p / 8 - (enc d.length).length - d.length]? = some ((d ++ sum4 (body d)).getD (p / 8 - (enc d.length).length) 0) := by
      simp only [List.getD, List.getElem?_append_right hge]
      show (sum4 (body d))[_]? = _
      rw [List.getElem?_eq_getElem hlt]; rfl
    rw [h5] at h4
    injection h4 with h4
    exact xor_ne _ _ hb h4
end FrameM
namespace FrameL
open BinM CrcM BinW FrameM Wd CrcW FrameW
set_option maxHeartbeats 4000000 in
theorem frameTurned (A : Option Addr) (n c : Nat) (l : List UInt8) (z : Int) (w : World) (ht : Tab w) (hn : n = l.length) (hl : n ≤ 140737488351232) (hc : n ≤ c) (h : Row w w.heap.size A (bvs l)) (hz : -9223372036854775808 ≤ z ∧ z ≤ 9223372036854775807) :
    Calls Tryd.prog 7 #[.slice A n c, .int .i64 z] w fun e w' => e = .returned (.bool true) ∧ Below w.heap.size w w' := by
  subst hn
  have hmin : min (l.length : Int) 500 = ((min l.length 500 : Nat) : Int) := by omega
  have hcut := cut_most A c l 500 hc
  have HR := Lib.hid (row_most h 500)
  have HD : Hid ((l.take 500).length = min l.length 500) := by unfold Hid; rw [List.length_take]; omega
  have HTAB := Lib.hid ht
  generalize l.take 500 = d at *
  have hm : min l.length 500 ≤ 500 := by omega
  generalize min l.length 500 = m at *
  have HPK := Lib.hid (packs (d := d) (by rw [HD.out]; omega))
  have HTU : Hid (∀ p, 8 * (enc m).length ≤ p → p < 8 * (pack d).length → nxE (CrcM.flip (pack d) p) = 40) := fun p h1 h2 => nx_turned d p (by rw [HD.out]; omega) (by rw [HD.out]; exact h1) h2
  have hpl : (pack d).length = (enc m).length + m + 4 := by rw [pack_length, HD.out]
  have hE := enc_lt m
  have hE1 : 1 ≤ (enc m).length := by rw [enc_length]; omega
  clear h ht
  go_enter Tryd.func7, Tryd.ntmps7
  go_wp2_with fail
  refine (pack_to w.heap.size A m c d w HD.out.symm (by omega) HTAB.out HR.out HPK.out.1 HPK.out.2 rfl).mono ?_; rintro _ w1 ⟨A1, c1, rfl, ho1, hb1⟩
  have hc1 := fresh_cap ho1
  obtain ⟨g, rfl, hg, hh⟩ := CrcL.Holds.of_own ho1 (by omega)
  have HQ : Hid ((pack d).length = (pack d).length) := rfl
  generalize hq : (pack d).length = q at *
  generalize (enc m).length = E at *
  have HQL := Lib.hid hq
  have hqe : (q : Int) - ((m : Int) + 4) = (E : Int) := by omega
  have hq5 : ¬ (q : Int) < (m : Int) + 4 + 1 := by omega
  have hq6 : (q : Int) ≤ 1000 := by omega
  have hq7 : q = E + m + 4 := hpl
  have HQ7 := Lib.hid hq7
  clear ho1 hq HQ HR hpl hq7
  go_wp2_with fail
  refine (bring_any z (8 * ((m : Int) + 4)) w1 hz (by omega)).mono ?_; rintro _ _ ⟨rfl, rfl⟩
  obtain ⟨hk0, hk1⟩ := bringTo_lt z (8 * ((m : Int) + 4)) (by omega)
  have hq7 := HQ7.out
  generalize bringTo z (8 * ((m : Int) + 4)) = k0 at *
  obtain ⟨b, rfl⟩ := Int.eq_ofNat_of_zero_le hk0
  have hpp : 8 * (E : Int) + (b : Int) = ((8 * E + b : Nat) : Int) := by omega
  have hp1 : 8 * E ≤ 8 * E + b := by omega
  have hp2 : 8 * E + b < 8 * q := by omega
  have hf : 8 * E + b < 8 * q → nxE (CrcM.flip (pack d) (8 * E + b)) = 40 := HTU.out (8 * E + b) hp1
  have HF := Lib.hid hf
  have hp3 : (8 * E + b) / 8 < q := by omega
  generalize 8 * E + b = p at *
  have hcell := hh.cell (p / 8) (by rw [HQL.out]; exact hp3)
  have hfree := hh.free (p / 8)
  have hu := u8_le ((pack d).getD (p / 8) 0)
  clear hf HTU hk0 hk1 hp1 hq7
  go_wp2_with fail
  go_region
  have hbs : CrcL.Holds ((w1.setCell ⟨g, p / 8, none⟩ (.int .u8 (Go.bits .xor .u8 (((pack d)[p / 8]?.getD 0).toNat : Int) (2 ^ (p % 8) % 256)))).drew) g (CrcM.flip (pack d) p) := by
    rw [CrcL.flip_val (pack d) p]
    exact hh.set _ (by rw [HQL.out]; exact hp3) _
  have hb2 : Below w.heap.size w ((w1.setCell ⟨g, p / 8, none⟩ (.int .u8 (Go.bits .xor .u8 (((pack d)[p / 8]?.getD 0).toNat : Int) (2 ^ (p % 8) % 256)))).drew) := (hb1.setCell hg _).drew
  generalize (w1.setCell ⟨g, p / 8, none⟩ (.int .u8 (Go.bits .xor .u8 (((pack d)[p / 8]?.getD 0).toNat : Int) (2 ^ (p % 8) % 256)))).drew = w2 at *
  have hfl : (CrcM.flip (pack d) p).length = q := by rw [flip_length, HQL.out]
  have HFR := Lib.hid hbs.row
  have HT2 := Lib.hid (HTAB.out.kept hb2)
  have HN := Lib.hid (nx_nil (by rw [HF.out hp2]; decide))
  have HF2 := Lib.hid (HF.out hp2)
  have HFL := Lib.hid hfl
  clear hcell hfree hh hbs hfl HF
  generalize CrcM.flip (pack d) p = fl at *
  go_wp2_with fail
  refine (next_to w2.heap.size (some ⟨g, 0, none⟩) q c1 fl w2 HFL.out.symm (by omega) hc1 HT2.out HFR.out HF2.out HN.out.1 HN.out.2 (np := 0) (nr := 0) rfl rfl).mono ?_; rintro _ w3 ⟨A3, c3, A4, c4, rfl, _, _, _, hb3⟩
  have hb3' := hb2.trans (hb3.mono hb2.size)
  go_wp2_with fail
  refine (works_any w3 (HTAB.out.kept hb3')).mono ?_; rintro _ w9 ⟨rfl, hb9⟩
  have hb := hb3'.trans (hb9.mono hb3'.size)
  go_wp2_with fail
  go_ret
  exact ⟨rfl, hb⟩
end FrameL
end Go.Proofs.YtmjfhdihegblbaaDoor
