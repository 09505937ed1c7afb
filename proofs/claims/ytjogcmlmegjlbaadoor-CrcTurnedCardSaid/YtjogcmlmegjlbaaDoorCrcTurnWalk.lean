/- The walk of the statement on bits that are turned. -/
import Derived.Test.YtjogcmlmegjlbaaDoorCrcLaws
import Derived.Test.YtjogcmlmegjlbaaDoorCrcTurnMath
import Derived.Test.YtjogcmlmegjlbaaDoorBring
import Derived.Outline
import Derived.Deep.DeepCutAuto
import Derived.BigRegion
namespace Go.Proofs.YtjogcmlmegjlbaaDoor
open Go.RowKit
namespace CrcL
open CrcM Wd CrcW
/-- A row of the call's own, as a block: its first cells are the bytes. -/
def Holds (w : World) (g : Nat) (l : List UInt8) : Prop := ∃ xs : List Value, Block w g 5 (bvs l ++ xs)
theorem Holds.row {w : World} {g : Nat} {l : List UInt8} (h : Holds w g l) : Row w w.heap.size (some ⟨g, 0, none⟩) (bvs l) := by
  obtain ⟨xs, hb⟩ := h
  have := hb.row.take (bvs l).length
  rwa [List.take_left'] at this
  rfl
theorem Holds.cell {w : World} {g : Nat} {l : List UInt8} (h : Holds w g l) (k : Nat) (hk : k < l.length) : w.cell? ⟨g, k, none⟩ = some (.int .u8 ((l.getD k 0).toNat : Int)) := by
  obtain ⟨xs, hb⟩ := h
  exact hb.cell (by rw [List.getElem?_append_left (by rw [bvs_length]; exact hk)]; exact bvs_at l k hk)
theorem Holds.free {w : World} {g : Nat} {l : List UInt8} (h : Holds w g l) (k : Nat) : w.frozen? ⟨g, k, none⟩ = false := by
  obtain ⟨xs, hb⟩ := h; exact hb.free k
theorem Holds.set {w : World} {g : Nat} {l : List UInt8} (h : Holds w g l) (k : Nat) (hk : k < l.length) (x : UInt8) : Holds (w.setCell ⟨g, k, none⟩ (.int .u8 (x.toNat : Int))) g (l.set k x) := by
  obtain ⟨xs, hb⟩ := h
  refine ⟨xs, ?_⟩
  have := hb.set k (.int .u8 (x.toNat : Int))
  rw [List.set_append_left _ _ (by rw [bvs_length]; exact hk)] at this
  have e : (bvs l).set k (.int .u8 (x.toNat : Int)) = bvs (l.set k x) := by simp [bvs, List.map_set, bv]
  rwa [e] at this
theorem Holds.of_own {w : World} {base n c : Nat} {A : Option Addr} {l : List UInt8} (h : w.ownsRow base 5 1 (.slice A n c) n (bvs l)) (hn : 0 < n) : ∃ g, A = some ⟨g, 0, none⟩ ∧ base ≤ g ∧ Holds w g l := by
  have hl : l.length = n := by have := h.1; simpa [bvs] using this
  rcases h.2 with ⟨_, h0⟩ | ⟨g, cap, cur, hv, hb, hg, hnc, _, hcs, ht⟩
  · omega
  · injection hv with e1 e2 e3
    subst e1
    refine ⟨g, rfl, hb, cur.toList.drop n, ?_⟩
    unfold Block
    rw [hg]
    congr 2
    rw [Nat.mul_one] at ht
    rw [← ht, List.take_append_drop]
theorem u8x (a b : UInt8) : bits .xor .u8 (a.toNat : Int) (b.toNat : Int) = ((a ^^^ b).toNat : Int) := by
  rw [u8_xor_nat _ _ a.toNat_lt b.toNat_lt, UInt8.toNat_xor]
def Turn (w wr : World) (g : Nat) (l : List UInt8) (bits : W) (k i : Nat) (tb : Bool) : Prop :=
  (∃ l' : List UInt8, l'.length = l.length ∧ Holds wr g l' ∧ sumOf 0#32 l' = sumOf 0#32 l ^^^ stpN (8 * l.length - k) (thr bitAt bits i)) ∧
  (tb = true ↔ thr bitAt bits i ≠ 0#32) ∧ Below w.heap.size w wr
theorem flip_val (l : List UInt8) (p : Nat) : Go.bits .xor .u8 ((l[p / 8]?.getD 0).toNat : Int) (2 ^ (p % 8) % 256) = ((l.getD (p / 8) 0 ^^^ (1 <<< UInt8.ofNat (p % 8))).toNat : Int) := by
  have e : ((2 : Int) ^ (p % 8) % 256) = (((1 : UInt8) <<< UInt8.ofNat (p % 8)).toNat : Int) := by
    have : ∀ m : Fin 8, ((2 : Int) ^ m.val % 256) = (((1 : UInt8) <<< UInt8.ofNat m.val).toNat : Int) := by decide
    exact this ⟨p % 8, Nat.mod_lt _ (by decide)⟩
  rw [e, show l[p / 8]?.getD 0 = l.getD (p / 8) 0 from rfl, u8x]
set_option maxHeartbeats 4000000 in
theorem crcTurned (A : Option Addr) (n c : Nat) (l : List UInt8) (from_ : Int) (bits : W) (w : World) (ht : Tab w)
    (hn : n = l.length) (hl : n ≤ 140737488351232) (h : Row w w.heap.size A (bvs l)) (hf : -9223372036854775808 ≤ from_ ∧ from_ ≤ 9223372036854775807) :
    Calls Tryd.prog 8 #[.slice A n c, .int .i64 from_, .int .u32 (bits.toNat : Int)] w fun e w' => e = .returned (.bool true) ∧ Below w.heap.size w w' := by
  subst hn
  by_cases h0 : l.length = 0
  · have hz : ((l.length : Int) == 0) = true := by rw [h0]; rfl
    clear h0
    go_enter Tryd.func8, Tryd.ntmps8
    go_wp2_with (go_at_call 15; refine (works_any _ ht).mono ?_; rintro e w3 ⟨rfl, hb3⟩)
    go_ret
    exact ⟨rfl, hb3⟩
  · have hz : ((l.length : Int) == 0) = false := by rw [beq_eq_false_iff_ne]; omega
    by_cases hb0 : bits = 0#32
    · have hz2 : ((bits.toNat : Int) == 0) = true := by rw [hb0]; rfl
      clear h0 hb0
      go_enter Tryd.func8, Tryd.ntmps8
      go_wp2_with (go_at_call 15; refine (works_any _ ht).mono ?_; rintro e w3 ⟨rfl, hb3⟩)
      go_ret
      exact ⟨rfl, hb3⟩
    · have hz2 : ((bits.toNat : Int) == 0) = false := by
        rw [beq_eq_false_iff_ne]; intro h; apply hb0; apply BitVec.eq_of_toNat_eq; simp; omega
      have hlp : 0 < l.length := by omega
      clear h0 hb0
      go_enter Tryd.func8, Tryd.ntmps8
      go_wp2_with fail
      refine (copyBytes_any w.heap.size A _ c l _ rfl (by omega) h).mono ?_; rintro e w1 ⟨A', c', rfl, hown, hb1⟩
      obtain ⟨g, rfl, hg, hh⟩ := Holds.of_own hown hlp
      clear hown
      go_wp2_with fail
      refine (bring_any from_ _ _ hf (by omega)).mono ?_; rintro e w2 ⟨rfl, rfl⟩
      obtain ⟨hk0, hk1⟩ := bringTo_lt from_ (8 * (l.length : Int)) (by omega)
      generalize bringTo from_ (8 * (l.length : Int)) = k0 at *
      obtain ⟨k, rfl⟩ := Int.eq_ofNat_of_zero_le hk0
      go_wp2_with fail
      go_loopw [9, 10] (fun t i wr => ∃ (m : Nat) (tb : Bool), m ≤ 32 ∧ k + m ≤ 8 * l.length ∧ i = .int .i64 m ∧ t = .bool tb ∧ Turn w wr g l bits k m tb) (fun _ i _ => 32 - (intOf i).toNat)
      case atStart => exact ⟨0, false, by omega, by omega, rfl, rfl, ⟨l, rfl, hh, by simp [thr, stepN_zero]⟩, by simp [thr], hb1⟩
      case round =>
        obtain ⟨m, tb, hm, hkm, rfl, rfl, ⟨l', hl', hh', hs⟩, htb, hb⟩ := hrel
        have HS := Lib.hid hs
        have HTB := Lib.hid htb
        have HL := Lib.hid hl'
        clear hs htb hl' hh
        by_cases hlt : m < 32 ∧ k + m < 8 * l.length
        · obtain ⟨hlt1, hlt2⟩ := hlt
          have hsh : (bits.toNat : Int) / 2 ^ m = ((bits >>> m).toNat : Int) := by rw [← b32_shr]; simp
          have hbit := u32_bit bits m
          cases hbt : bits.getLsbD m with
          | false =>
            have HB := Lib.hid hbt
            rw [hbt] at hbit
            clear hbt
            generalize bits >>> m = bm at *
            go_wp2
            go_roundw
            case rel => exact ⟨m + 1, tb, by omega, by omega, by go_num, rfl, ⟨l', HL.out, hh', by rw [thr_same bits m HB.out]; exact HS.out⟩, by rw [thr_same bits m HB.out]; exact HTB.out, hb⟩
            case measure => simp [intOf]; omega
          | true =>
            have HB := Lib.hid hbt
            rw [hbt] at hbit
            clear hbt
            generalize bits >>> m = bm at *
            have hcell := hh'.cell ((k + m) / 8) (by rw [HL.out]; omega)
            have hfree := hh'.free ((k + m) / 8)
            have hu := u8_le (l'.getD ((k + m) / 8) 0)
            go_wp2_with fail
            go_region
            have hbs : Holds ((wr.setCell ⟨g, (k + m) / 8, none⟩ (.int .u8 (Go.bits .xor .u8 ((l'[(k + m) / 8]?.getD 0).toNat : Int) (2 ^ ((k + m) % 8) % 256)))).drew) g (flip l' (k + m)) := by
              rw [flip_val l' (k + m)]
              exact hh'.set _ (by rw [HL.out]; omega) _
            have hb2 : Below w.heap.size w ((wr.setCell ⟨g, (k + m) / 8, none⟩ (.int .u8 (Go.bits .xor .u8 ((l'[(k + m) / 8]?.getD 0).toNat : Int) (2 ^ ((k + m) % 8) % 256)))).drew) := (hb.setCell hg _).drew
            generalize (wr.setCell ⟨g, (k + m) / 8, none⟩ (.int .u8 (Go.bits .xor .u8 ((l'[(k + m) / 8]?.getD 0).toNat : Int) (2 ^ ((k + m) % 8) % 256)))).drew = wn at *
            clear hcell hfree hh'
            go_wp2
            go_roundw
            case rel => exact ⟨m + 1, true, by omega, by omega, by go_num, rfl, ⟨flip l' (k + m), by rw [flip_length, HL.out], hbs, by rw [sum_flip_at l' k m (by rw [HL.out]; exact hlt2) hlt1, HL.out]; exact thr_next bits _ m _ _ HS.out HB.out⟩, by simp [thr_ne bits m hlt1 HB.out], hb2⟩
            case measure => simp [intOf]; omega
        · have hr := hh'.row
          have ht1 := ht.below hb
          have hra := h.below hb
          have HE : Hid ((((sumOf 0#32 l).toNat : Int) == ((sumOf 0#32 l').toNat : Int)) = !tb) := by
            unfold Hid
            rw [HS.out]
            have e := sums_eq (sumOf 0#32 l) (8 * l.length - k) (thr bitAt bits m)
            cases tb with
            | true =>
              have := HTB.out.1 rfl
              simp only [Bool.not_true, beq_eq_false_iff_ne]
              intro hc; apply this; rw [← e]; apply BitVec.eq_of_toNat_eq; omega
            | false =>
              have : thr bitAt bits m = 0#32 := by
                rcases Classical.em (thr bitAt bits m = 0#32) with h | h
                · exact h
                · have := HTB.out.2 h; cases this
              simp only [Bool.not_false, beq_iff_eq]
              rw [← e.2 this]
          clear h hh' HS
          by_cases hm32 : m < 32
          · have hge : ¬ k + m < 8 * l.length := fun h => hlt ⟨hm32, h⟩
            clear hlt
            go_wp2_with fail
            refine (of_any _ A _ c l _ rfl (by omega) ht1 hra).mono ?_; rintro e w3 ⟨rfl, rfl⟩
            go_wp2_with fail
            refine (of_any _ _ _ c' l' _ HL.out.symm (by omega) ht1 hr).mono ?_; rintro e w3 ⟨rfl, rfl⟩
            have hE := HE.out
            generalize sumOf 0#32 l = s1 at *
            generalize sumOf 0#32 l' = s2 at *
            go_wp2_with fail
            refine (works_any _ ht1).mono ?_; rintro e w4 ⟨rfl, hb4⟩
            go_wp2_with fail
            go_ret
            exact ⟨rfl, bthen hb hb4⟩
          · have hm1 : ¬ (m : Int) < 32 := by omega
            clear hlt
            go_wp2_with fail
            refine (of_any _ A _ c l _ rfl (by omega) ht1 hra).mono ?_; rintro e w3 ⟨rfl, rfl⟩
            go_wp2_with fail
            refine (of_any _ _ _ c' l' _ HL.out.symm (by omega) ht1 hr).mono ?_; rintro e w3 ⟨rfl, rfl⟩
            have hE := HE.out
            generalize sumOf 0#32 l = s1 at *
            generalize sumOf 0#32 l' = s2 at *
            go_wp2_with fail
            refine (works_any _ ht1).mono ?_; rintro e w4 ⟨rfl, hb4⟩
            go_wp2_with fail
            go_ret
            exact ⟨rfl, bthen hb hb4⟩
end CrcL
end Go.Proofs.YtjogcmlmegjlbaaDoor
