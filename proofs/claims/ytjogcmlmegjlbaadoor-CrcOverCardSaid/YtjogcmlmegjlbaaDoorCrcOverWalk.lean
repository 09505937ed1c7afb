/- The walk of the statement on three rows put over each other. -/
import Derived.Test.YtjogcmlmegjlbaaDoorCrcLaws
import Derived.Outline
import Derived.Deep.RegionHeld3
import Derived.Deep.DeepCutAuto
import Derived.StillTailTactics
namespace Go.Proofs.YtjogcmlmegjlbaaDoor
open Go.RowKit
namespace CrcL
open CrcM Wd CrcW
theorem overOf_length : ∀ l m q : List UInt8, (overOf l m q).length = min (min l.length m.length) q.length
  | [], m, q => by simp [overOf]
  | a :: l, [], q => by simp [overOf]
  | a :: l, b :: m, [] => by simp [overOf]
  | a :: l, b :: m, c :: q => by simp only [overOf, List.length_cons, overOf_length l m q]; omega
theorem overOf_at : ∀ (l m q : List UInt8) (k : Nat), k < l.length → k < m.length → k < q.length → (overOf l m q).getD k 0 = l.getD k 0 ^^^ m.getD k 0 ^^^ q.getD k 0
  | a :: l, b :: m, c :: q, 0, _, _, _ => rfl
  | a :: l, b :: m, c :: q, k + 1, h1, h2, h3 => by
    have := overOf_at l m q k (by simpa using h1) (by simpa using h2) (by simpa using h3)
    simpa [overOf, List.getD] using this
theorem overOf_take : ∀ (l m q : List UInt8), overOf l m q = overOf (l.take (overOf l m q).length) (m.take (overOf l m q).length) (q.take (overOf l m q).length)
  | [], m, q => by simp [overOf]
  | a :: l, [], q => by simp [overOf]
  | a :: l, b :: m, [] => by simp [overOf]
  | a :: l, b :: m, c :: q => by
    show (a ^^^ b ^^^ c) :: overOf l m q = overOf ((a :: l).take ((overOf l m q).length + 1)) ((b :: m).take ((overOf l m q).length + 1)) ((c :: q).take ((overOf l m q).length + 1))
    simp only [List.take_succ_cons, overOf]
    rw [← overOf_take l m q]
theorem u8x (a b : UInt8) : bits .xor .u8 (a.toNat : Int) (b.toNat : Int) = ((a ^^^ b).toNat : Int) := by
  rw [u8_xor_nat _ _ a.toNat_lt b.toNat_lt, UInt8.toNat_xor]
theorem own_far {w : World} {base e n : Nat} {v : Value} {xs : List Value} (hown : w.ownsRow base e 1 v n xs) (ad : Addr) (k : Nat) (x : Value) (hb : ad.block < base) (_hc : w.cell? (ad.add k) = some x) :
    ∀ W W1 : World, W.grownBy W1 v.ownBlock → W.cell? (ad.add k) = some x → W1.cell? (ad.add k) = some x := fun W W1 hg hc =>
  hg.cell hc (fun e => by have := (hown.lt _ e.symm).1; rw [add_block] at this; omega)
set_option maxHeartbeats 4000000 in
theorem crcOver (A : Option Addr) (n c : Nat) (l : List UInt8) (A1 : Option Addr) (n1 c1 : Nat) (l1 : List UInt8) (A2 : Option Addr) (n2 c2 : Nat) (l2 : List UInt8) (w : World) (ht : Tab w)
    (hn : n = l.length) (hl : n ≤ 140737488351232) (hc : n ≤ c) (h : Row w w.heap.size A (bvs l)) (hn1 : n1 = l1.length) (hl1 : n1 ≤ 140737488351232) (hc1 : n1 ≤ c1) (h1 : Row w w.heap.size A1 (bvs l1))
    (hn2 : n2 = l2.length) (hl2 : n2 ≤ 140737488351232) (hc2 : n2 ≤ c2) (h2 : Row w w.heap.size A2 (bvs l2)) :
    Calls Tryd.prog 9 #[.slice A n c, .slice A1 n1 c1, .slice A2 n2 c2] w fun e w' => e = .returned (.bool true) ∧ Below w.heap.size w w' := by
  subst hn hn1 hn2
  obtain ⟨i0, hi, hz0, hz1, hz2⟩ := info_parts infoU8
  obtain ⟨N, hN⟩ : ∃ N, N = (overOf l l1 l2).length := ⟨_, rfl⟩
  have hNm : N = min (min l.length l1.length) l2.length := by rw [hN, overOf_length]
  have b0 : N ≤ l.length := by omega
  have b1 : N ≤ l1.length := by omega
  have b2 : N ≤ l2.length := by omega
  have HN := Lib.hid hN
  have HM := Lib.hid hNm
  clear hN hNm
  go_enter Tryd.func9, Tryd.ntmps9
  go_upto_region 1 with fail
  go_cut [7] (fun s7 wx => s7 = .int .i64 N ∧ wx = w)
  case first =>
    go_wp2_with fail
    all_goals go_meet
    all_goals exact ⟨by have := HM.out; congr 1; omega, rfl⟩
  case rest =>
    obtain ⟨rfl, rfl⟩ := hcut
    go_wp2_with fail
    go_loopw [8, 9] (fun v i wr => (∃ k : Nat, k ≤ N ∧ i = .int .i64 k ∧ wr.ownsRow wc.heap.size 5 1 v k (bvs ((overOf l l1 l2).take k))) ∧ Below wc.heap.size wc wr) (fun _ i _ => N - (intOf i).toNat)
    case atStart => exact ⟨⟨0, Nat.zero_le _, rfl, World.ownsRow_nil _ _ _ _⟩, Below.refl _ _⟩
    case round =>
      obtain ⟨⟨k, hk, rfl, hown⟩, hb⟩ := hrel
      by_cases hlt : k < N
      · obtain ⟨ad, rfl, hb0, hc0⟩ := (h.below hb).byte (show k < l.length by omega)
        obtain ⟨ad1, rfl, hb1, hc1'⟩ := (h1.below hb).byte (show k < l1.length by omega)
        obtain ⟨ad2, rfl, hb2, hc2'⟩ := (h2.below hb).byte (show k < l2.length by omega)
        have hx1 := u8x (l.getD k 0) (l1.getD k 0)
        have hx2 := u8x (l.getD k 0 ^^^ l1.getD k 0) (l2.getD k 0)
        have ho := overOf_at l l1 l2 k (by omega) (by omega) (by omega)
        rw [← ho] at hx2
        have hu := u8_le ((overOf l l1 l2).getD k 0)
        have HT : Hid (bvs ((overOf l l1 l2).take k) ++ [.int .u8 (((overOf l l1 l2).getD k 0).toNat : Int)] = bvs ((overOf l l1 l2).take (k + 1))) := by
          unfold Hid
          rw [take_getD (overOf l l1 l2) k (by rw [← HN.out]; exact hlt)]; simp [bvs, bv]
        clear ho h h1 h2
        generalize l.getD k 0 ^^^ l1.getD k 0 = x01 at *
        generalize (overOf l l1 l2).getD k 0 = x at *
        generalize l.getD k 0 = x0 at *
        generalize l1.getD k 0 = x1 at *
        generalize l2.getD k 0 = x2 at *
        have hsz := hb.size
        have HLT := Lib.hid hown.lt
        have HF0 := Lib.hid (own_far hown ad k _ hb0 hc0)
        have HF1 := Lib.hid (own_far hown ad1 k _ hb1 hc1')
        have HF2 := Lib.hid (own_far hown ad2 k _ hb2 hc2')
        have hk0 : (0 : Int) ≤ (k : Int) := Int.natCast_nonneg _
        have hk1 : (k : Int) < (l.length : Int) := by omega
        have hk2 : (k : Int) < (l1.length : Int) := by omega
        have hk3 : (k : Int) < (l2.length : Int) := by omega
        go_wp2_with fail
        go_region_held3 (fun w' => w'.cell? (ad.add k) = some (.int .u8 (x0.toNat : Int)) ∧ w'.cell? (ad1.add k) = some (.int .u8 (x1.toNat : Int)) ∧ w'.cell? (ad2.add k) = some (.int .u8 (x2.toNat : Int)))
          (first | go_keep | (go_split_ands; exact ⟨HF0.out _ _ hgrow (by assumption), HF1.out _ _ hgrow (by assumption), HF2.out _ _ hgrow (by assumption)⟩))
          ((refine step_append_lies _ (by rfl) _ _ _ (by rfl) wc.heap.size 5 i0 _ 1 1 Tryd.underlying22 hi hz0 hz1 hz2 rfl (by omega) u8 k (bvs ((overOf l l1 l2).take k)) (by rfl) ((hown.alloc _).drew) ⟨wr.heap.size, 0, none⟩ 1 1 [.int .u8 (x.toNat : Int)] (by rfl) (by rfl) (World.news_of_block (cs := #[.int .u8 (x.toNat : Int)]) (t := 5) (fr := (0, 0)) (heap_alloc_new wr _)) (by simp [Value.oneCell']) (by omega) (by unfold maxLen; omega) (by omega) (by simp; omega) (wr.heap.size + 1) (by simp) ?_; intro gg cap w1 hown1 hgrow hat hlt2))
        have hbw : Below wc.heap.size wc w1 := ((hb.alloc hsz _).drew).grown hgrow (by simp; omega) (fun g hg => (HLT.out g hg).1)
        go_wp2
        go_roundw
        case rel => exact ⟨⟨k + 1, by omega, by go_num, by rw [← HT.out]; exact hown1⟩, hbw⟩
        case measure => simp [intOf]; omega
      · obtain rfl : k = N := by omega
        obtain ⟨Av, cv, hv⟩ : ∃ Av cv, u8 = .slice Av k cv := by
          rcases hown.2 with ⟨hv, h0⟩ | ⟨g, cap, cur, hv, _⟩
          · exact ⟨none, 0, by rw [hv, h0]⟩
          · exact ⟨_, cap, hv⟩
        subst hv
        have hr := Row.own hown
        rw [List.take_of_length_le (by rw [← HN.out]; exact Nat.le_refl _)] at hr
        have ht1 := ht.below hb
        have q0 := (h.below hb).take k
        have q1 := (h1.below hb).take k
        have q2 := (h2.below hb).take k
        rw [bvs_take] at q0 q1 q2
        clear h h1 h2 hown
        have HS : Hid (sumOf 0#32 (overOf l l1 l2) = sumOf 0#32 (l.take k) ^^^ sumOf 0#32 (l1.take k) ^^^ sumOf 0#32 (l2.take k)) := by
          have e := overOf_take l l1 l2
          rw [← HN.out] at e
          unfold Hid
          rw [e]
          exact more3 _ _ _ (by simp; omega) (by simp; omega)
        have L0 : Hid (k = (l.take k).length) := by unfold Hid; simp; omega
        have L1 : Hid (k = (l1.take k).length) := by unfold Hid; simp; omega
        have L2 : Hid (k = (l2.take k).length) := by unfold Hid; simp; omega
        have hk0 : (0 : Int) ≤ (k : Int) := Int.natCast_nonneg _
        have hk1 : (k : Int) ≤ (c : Int) := by omega
        have hk2 : (k : Int) ≤ (c1 : Int) := by omega
        have hk3 : (k : Int) ≤ (c2 : Int) := by omega
        have hx1 := b32_xor (sumOf 0#32 (l.take k)) (sumOf 0#32 (l1.take k))
        have hx2 := b32_xor (sumOf 0#32 (l.take k) ^^^ sumOf 0#32 (l1.take k)) (sumOf 0#32 (l2.take k))
        rw [← HS.out] at hx2
        generalize sumOf 0#32 (l.take k) ^^^ sumOf 0#32 (l1.take k) = x01 at *
        go_wp2_with fail
        have H0 := of_any wr.heap.size Av k cv (overOf l l1 l2) wr.drew HN.out (by omega) ht1 hr
        have H1 := of_any _ A k c (l.take k) wr.drew L0.out (by omega) ht1 q0
        have H2 := of_any _ A1 k c1 (l1.take k) wr.drew L1.out (by omega) ht1 q1
        have H3 := of_any _ A2 k c2 (l2.take k) wr.drew L2.out (by omega) ht1 q2
        have K0 := Lib.hid H0
        have K1 := Lib.hid H1
        have K2 := Lib.hid H2
        have K3 := Lib.hid H3
        clear H0 H1 H2 H3 hr q0 q1 q2
        go_still_tail 18, (by kernel_rfl)
        still_call (K0.out.mono fun _ _ h => ⟨h.1, h.2.symm⟩)
        repeat still_step
        still_call (K1.out.mono fun _ _ h => ⟨h.1, h.2.symm⟩)
        repeat still_step
        still_call (K2.out.mono fun _ _ h => ⟨h.1, h.2.symm⟩)
        repeat still_step
        still_call (K3.out.mono fun _ _ h => ⟨h.1, h.2.symm⟩)
        repeat still_step
        refine wpStill_nil ?_
        change wpList _ _ _ _ _ wr.drew
        have ht2 : Tab wr.drew := ht1
        have hb2 : Below wc.heap.size wc wr.drew := hb.drew
        generalize wr.drew = w2 at *
        clear K0 K1 K2 K3
        go_wp2_with fail
        refine (works_any _ ht2).mono ?_; rintro e w3 ⟨rfl, hb3⟩
        go_wp2_with fail
        go_ret
        exact ⟨rfl, bthen hb2 hb3⟩
end CrcL
end Go.Proofs.YtjogcmlmegjlbaaDoor
