/- The walk of the document's own answer for Join, and of the statement that holds Join to it. -/
import Derived.Test.YtjogcmlmegjlbaaDoorCrcLaws
import Derived.Outline
import Derived.Deep.DeepCutAuto
import Derived.BigRegion
import Derived.Deep.RegionHeld3
namespace Go.Proofs.YtjogcmlmegjlbaaDoor
open Go.RowKit
namespace CrcR
open CrcM Wd
open CrcW (Tab b32_xor u32_bit b32_shr)
/-- a row of 32 numbers -/
def uv (x : W) : Value := .int .u32 (x.toNat : Int)
def arr (f : Nat → W) : List Value := (List.range 32).map fun i => uv (f i)
theorem arr_length (f : Nat → W) : (arr f).length = 32 := by simp [arr]
theorem arr_at (f : Nat → W) (i : Nat) (h : i < 32) : (arr f)[i]? = some (uv (f i)) := by simp [arr, h]
theorem thr_step (f : Nat → W) (r : W) (i : Nat) : thr f r (i + 1) = thr f r i ^^^ (if r.getLsbD i then f i else 0#32) := rfl
set_option maxHeartbeats 2000000 in
theorem through_any (f : Nat → W) (r : W) (w : World) :
    Calls Tryd.prog 24 #[.agg (arr f).toArray, .int .u32 (r.toNat : Int)] w fun e w' => e = .returned (.int .u32 ((thr f r 32).toNat : Int)) ∧ Below w.heap.size w w' := by
  have hblk := Block.new w (arr f).toArray 39
  have hbel : Below w.heap.size w (w.alloc (.cells (arr f).toArray 39)) := (Below.refl _ _).alloc (Nat.le_refl _) _
  have HBEL := Lib.hid hbel
  have HBLK := Lib.hid hblk
  clear hblk hbel
  generalize hA : (arr f).toArray = cs at *
  have HA := Lib.hid hA
  clear hA
  go_enter Tryd.func24, Tryd.ntmps24
  go_wp2_with fail
  have hblk := HBLK.out
  rw [← HA.out] at hblk
  rw [show (arr f).toArray.toList = arr f from by simp] at hblk
  have hbel := HBEL.out
  generalize hb : w.heap.size = b at *
  have HB := Lib.hid hb
  clear hb
  generalize hw1 : w.alloc (.cells cs 39) = w1 at *
  rw [HA.out, hw1] at hblk
  clear HBLK HBEL HA hw1
  go_loop [5, 6] (fun q i => ∃ k : Nat, k ≤ 32 ∧ i = .int .i64 k ∧ q = .int .u32 ((thr f r k).toNat : Int)) (fun _ i => 32 - (intOf i).toNat)
  case atStart => exact ⟨0, Nat.zero_le _, rfl, rfl⟩
  case round =>
    obtain ⟨k, hk, rfl, rfl⟩ := hrel
    by_cases hlt : k < 32
    · have hc : w1.cell? ⟨b, k, none⟩ = some (.int .u32 ((f k).toNat : Int)) := hblk.cell (arr_at f k hlt)
      have hsh : (r.toNat : Int) / 2 ^ k = ((r >>> k).toNat : Int) := by rw [← b32_shr]; simp
      have hbit := u32_bit r k
      have hx := b32_xor (thr f r k) (f k)
      have ht := thr_step f r k
      cases hbt : r.getLsbD k with
      | false =>
        rw [hbt] at hbit ht
        simp only [Bool.false_eq_true, if_false, BitVec.xor_zero] at ht
        have HT := Lib.hid ht
        clear hbt hx ht
        generalize r >>> k = rk at *
        go_wp2
        go_round
        case rel => exact ⟨k + 1, by omega, by go_num, by rw [HT.out]⟩
        case measure => simp [intOf]; omega
      | true =>
        rw [hbt] at hbit ht
        simp only [if_true] at ht
        have HT := Lib.hid ht
        clear hbt ht
        generalize r >>> k = rk at *
        generalize thr f r k ^^^ f k = z at *
        go_wp2
        go_round
        case rel => exact ⟨k + 1, by omega, by go_num, by rw [HT.out]⟩
        case measure => simp [intOf]; omega
    · obtain rfl : k = 32 := by omega
      generalize hz : thr f r 32 = z at *
      have HZ := Lib.hid hz
      clear hz
      go_wp2
      go_ret
      exact ⟨by rw [HZ.out]; rfl, by rw [HB.out]; exact hbel⟩

theorem thr_congr (f g : Nat → W) (r : W) (n : Nat) (h : ∀ j, j < n → f j = g j) : thr f r n = thr g r n := by
  induction n with
  | zero => rfl
  | succ n ih => rw [thr_step, thr_step, ih (fun j hj => h j (by omega)), h n (by omega)]
theorem dwn_zero (r : W) : dwn r 0#32 = stp r := by rw [down_eq]; simp
theorem arr_set (f : Nat → W) (i : Nat) (x : W) : (arr f).set i (uv x) = arr (fun j => if j = i then x else f j) := by
  apply List.ext_getElem?
  intro j
  by_cases hj : j < 32
  · rw [arr_at _ j hj]
    by_cases e : j = i
    · subst e; rw [List.getElem?_set_self (by rw [arr_length]; exact hj)]; simp
    · rw [List.getElem?_set_ne (by omega), arr_at _ j hj]; simp [e]
  · rw [List.getElem?_eq_none (by simp [arr_length]; omega), List.getElem?_eq_none (by simp [arr_length]; omega)]
theorem arr_one (f : Nat → W) : ∀ u ∈ arr f, u.oneCell' = true := by
  intro u hu
  obtain ⟨i, _, rfl⟩ := List.mem_map.1 hu
  rfl
theorem down_zero_any (r : W) (w : World) :
    Calls Tryd.prog 22 #[.int .u32 (r.toNat : Int), .int .u32 0] w fun e w' => e = .returned (.int .u32 ((stp r).toNat : Int)) ∧ w = w' := by
  have h := down_any r 0#32 w
  rw [dwn_zero] at h; exact h
def zeros : List Value := arr fun _ => 0#32
/-- what the row holds: its first places have gone so far -/
def Upto (w wr : World) (b i : Nat) : Prop := ∃ f : Nat → W, Block wr b 39 (arr f) ∧ (∀ j, j < i → f j = stpN 8 (bitAt j)) ∧ w.heap.size ≤ b ∧ Below w.heap.size w wr
def Within (w wr : World) (b i m : Nat) : Prop := ∃ f : Nat → W, Block wr b 39 (arr f) ∧ f i = stpN m (bitAt i) ∧ (∀ j, j < i → f j = stpN 8 (bitAt j)) ∧ w.heap.size ≤ b ∧ Below w.heap.size w wr
theorem Upto.within {w wr : World} {b i : Nat} (h : Upto w wr b i) : Within w (wr.setCell ⟨b, i, none⟩ (uv (bitAt i))) b i 0 := by
  obtain ⟨f, hb, hf, hB, hw⟩ := h
  refine ⟨_, by rw [← arr_set]; exact hb.set i _, by simp [stpN], fun j hj => ?_, hB, hw.setCell hB _⟩
  rw [if_neg (by omega)]; exact hf j hj
theorem Within.next {w wr : World} {b i m : Nat} (h : Within w wr b i m) : Within w (wr.setCell ⟨b, i, none⟩ (uv (stpN (m + 1) (bitAt i)))) b i (m + 1) := by
  obtain ⟨f, hb, hfi, hf, hB, hw⟩ := h
  refine ⟨_, by rw [← arr_set]; exact hb.set i _, by simp, fun j hj => ?_, hB, hw.setCell hB _⟩
  rw [if_neg (by omega)]; exact hf j hj
theorem Within.upto {w wr : World} {b i : Nat} (h : Within w wr b i 8) : Upto w wr b (i + 1) := by
  obtain ⟨f, hb, hfi, hf, hB, hw⟩ := h
  refine ⟨f, hb, fun j hj => ?_, hB, hw⟩
  by_cases e : j = i
  · subst e; exact hfi
  · exact hf j (by omega)
theorem upto_start (w : World) (C : Array Value) (hC : C = zeros.toArray) : Upto w (w.alloc (.cells C 39)) w.heap.size 0 := by
  subst hC
  refine ⟨fun _ => 0#32, ?_, fun j hj => by omega, Nat.le_refl _, (Below.refl _ _).alloc (Nat.le_refl _) _⟩
  have := Block.new w zeros.toArray 39
  simpa [zeros] using this
/-- the row stands at a power -/
def Full (w wr : World) (b m : Nat) : Prop := ∃ f : Nat → W, Block wr b 39 (arr f) ∧ (∀ j, j < 32 → f j = stpN m (bitAt j)) ∧ w.heap.size ≤ b ∧ Below w.heap.size w wr
theorem Upto.full {w wr : World} {b : Nat} (h : Upto w wr b 32) : Full w wr b 8 := h
theorem Full.thr {f : Nat → W} {m : Nat} (hf : ∀ j, j < 32 → f j = stpN m (bitAt j)) (x : W) : thr f x 32 = stpN m x := by
  rw [thr_congr f (fun j => stpN m (bitAt j)) x 32 hf, thr_power]
/-- the second row, so far -/
def Both (w wr : World) (b b2 : Nat) (f : Nat → W) (m i : Nat) : Prop := ∃ f2 : Nat → W, Block wr b2 39 (arr f2) ∧ (∀ j, j < i → f2 j = stpN (m + m) (bitAt j)) ∧ Block wr b 39 (arr f) ∧ b ≠ b2 ∧ w.heap.size ≤ b ∧ w.heap.size ≤ b2 ∧ Below w.heap.size w wr
theorem both_start {w wr : World} {b : Nat} {f : Nat → W} (m : Nat) (hb : Block wr b 39 (arr f)) (hB : w.heap.size ≤ b) (hw : Below w.heap.size w wr) (C : Array Value) (hC : C = zeros.toArray) : Both w (wr.alloc (.cells C 39)) b wr.heap.size f m 0 := by
  subst hC
  have hs := hw.size
  refine ⟨fun _ => 0#32, ?_, fun j hj => by omega, hb.alloc _, Nat.ne_of_lt hb.lt, hB, hs, hw.alloc hs _⟩
  have := Block.new wr zeros.toArray 39
  simpa [zeros] using this
theorem range_below {w w' : World} {b o B : Nat} {cs : List Value} (h : w.rangeAt b o cs) (hb : Below B w w') (hB : b < B) : w'.rangeAt b o cs := fun j v hv => by
  rw [hb.cell (p := ⟨b, o + j, none⟩) hB]; exact h j v hv
theorem range_set {w : World} {b o : Nat} {cs : List Value} {a : Addr} {v : Value} (h : w.rangeAt b o cs) (hne : b ≠ a.block) : (w.setCell a v).rangeAt b o cs := fun j u hu => by
  rw [World.cell?_setCell_other w a ⟨b, o + j, none⟩ v (fun e => hne (by first | exact congrArg Addr.block e | exact (congrArg Addr.block e).symm))]; exact h j u hu
theorem cell_set {w : World} {b o : Nat} {u : Value} {a : Addr} {v : Value} (h : w.cell? ⟨b, o, none⟩ = some u) (hne : b ≠ a.block) : (w.setCell a v).cell? ⟨b, o, none⟩ = some u := by
  rw [World.cell?_setCell_other w a ⟨b, o, none⟩ v (fun e => hne (by first | exact congrArg Addr.block e | exact (congrArg Addr.block e).symm))]; exact h
theorem both_round {w wr w' : World} {b b2 m q : Nat} {f f2 : Nat → W} {x : W} (g1 : Block wr b 39 (arr f)) (g2 : Block wr b2 39 (arr f2)) (hf2 : ∀ j, j < q → f2 j = stpN (m + m) (bitAt j)) (hne : b ≠ b2)
    (hB : w.heap.size ≤ b) (hB2 : w.heap.size ≤ b2) (hw : Below w.heap.size w wr) (hb : Below wr.heap.size wr w') (hx : x = stpN (m + m) (bitAt q)) :
    Both w (w'.setCell ⟨b2, q, none⟩ (.int .u32 (x.toNat : Int))) b b2 f m (q + 1) := by
  refine ⟨fun j => if j = q then x else f2 j, ?_, fun j hj => ?_, (g1.kept hb).other _ _ hne, hne, hB, hB2, (bthen hw hb).setCell hB2 _⟩
  · rw [← arr_set f2 q x]; exact (g2.kept hb).set q _
  · show (if j = q then x else f2 j) = _
    by_cases e : j = q
    · rw [if_pos e, hx, e]
    · rw [if_neg e]; exact hf2 j (by omega)
theorem below_setRow (w : World) (B g : Nat) (cs : Array Value) (h : B ≤ g) : Below B w (w.setRow g cs) := ⟨rfl, rfl, rfl, by simp, fun k hk => setRow_other w g k _ (by omega)⟩
theorem block_lt {w : World} {b : Nat} {o : Obj} (h : w.heap[b]? = some o) : b < w.heap.size := (Array.getElem?_eq_some_iff.1 h).1
set_option maxHeartbeats 4000000 in
theorem join_any (a c : W) (n0 : Int) (hn0 : n0 ≤ 9223372036854775807) (w : World) :
    Calls Tryd.prog 19 #[.int .u32 (a.toNat : Int), .int .u32 (c.toNat : Int), .int .i64 n0] w fun e w' => e = .returned (.int .u32 ((joinOf a c n0.toNat).toNat : Int)) ∧ Below w.heap.size w w' := by
  go_enter Tryd.func19, Tryd.ntmps19
  go_wp2_with fail
  go_loopw [8, 9] (fun i _ wr => ∃ m : Nat, m ≤ 32 ∧ i = .int .i64 m ∧ Upto w wr w.heap.size m) (fun i _ _ => 32 - (intOf i).toNat)
  case atStart => exact ⟨0, Nat.zero_le _, rfl, upto_start w _ rfl⟩
  case round =>
    obtain ⟨i, hi, rfl, hU⟩ := hrel
    by_cases hlt : i < 32
    · have HW := Lib.hid hU.within
      obtain ⟨f, hb, _, _, _⟩ := hU
      have hc : wr.cell? ⟨w.heap.size, i, none⟩ = some (uv (f i)) := hb.cell (arr_at f i hlt)
      have hf := hb.free i
      have hsh : (2 : Int) ^ i % 4294967296 = ((bitAt i).toNat : Int) := by
        have : ∀ i : Fin 32, (2 : Int) ^ i.val % 4294967296 = ((bitAt i.val).toNat : Int) := by decide
        exact this ⟨i, hlt⟩
      clear hb
      unfold uv at hc HW
      rw [← hsh] at HW
      have hd : decide ((i : Int) < 32) = true := by simp; omega
      clear hsh
      generalize f i = fi at *
      go_wp2_with fail
      go_loopw [9] (fun k wr => ∃ m : Nat, m ≤ 8 ∧ k = .int .i64 m ∧ Within w wr w.heap.size i m) (fun k _ => 8 - (intOf k).toNat)
      case atStart => exact ⟨0, Nat.zero_le _, rfl, HW.out⟩
      case round =>
        obtain ⟨m, hm, rfl, hU⟩ := hrel
        by_cases hlt8 : m < 8
        · have HN := Lib.hid hU.next
          obtain ⟨f, hb, hfi, _, _⟩ := hU
          have hc : wr.cell? ⟨w.heap.size, i, none⟩ = some (uv (f i)) := hb.cell (arr_at f i hlt)
          have hf := hb.free i
          rw [hfi] at hc
          unfold uv at hc HN
          rw [stepN_succ'] at HN
          clear hfi hb
          generalize stpN m (bitAt i) = y at *
          go_wp2_with fail
          refine (down_zero_any _ _).mono ?_; rintro e w' ⟨rfl, rfl⟩
          go_wp2
          go_roundw
          case rel => exact ⟨m + 1, by omega, by go_num, HN.out⟩
          case measure => simp [intOf]; omega
        · obtain rfl : m = 8 := by omega
          have HN := Lib.hid hU.upto
          clear hU
          go_wp2
          go_roundw
          case rel => exact ⟨i + 1, by omega, by go_num, HN.out⟩
          case measure => simp [intOf]; omega
    · have hF : Full w wr w.heap.size 8 := by
        have h32 : i = 32 := by omega
        rw [h32] at hU; exact hU.full
      clear hU
      go_wp2_with fail
      go_loopw [2, 10, 11, 12] (fun i r _ _ wr => ∃ (x : W) (m : Nat) (z : Int), z ≤ 9223372036854775807 ∧ i = .int .i64 z ∧ r = .int .u32 (x.toNat : Int) ∧ CrcW.JoinAt a n0.toNat x m z.toNat ∧ Full w wr w.heap.size m) (fun i _ _ _ _ => (intOf i).toNat)
      case atStart => exact ⟨a, 8, n0, hn0, rfl, rfl, rfl, hF⟩
      case round =>
        clear hF
        obtain ⟨x, m, z, hz, rfl, rfl, hj, f, hb, hf, hB, hw⟩ := hrel
        by_cases hlt : 0 < z
        · obtain ⟨n, rfl⟩ := Int.eq_ofNat_of_zero_le (show 0 ≤ z by omega)
          rw [Int.toNat_natCast] at hj
          have hn : n < 9223372036854775808 := by omega
          have hand := CrcW.i64_and_1 n hn
          have hd : decide (0 < (n : Int)) = true := by simp; omega
          have hd2 : decide (0 < n) = true := by simp; omega
          rcases Nat.mod_two_eq_zero_or_one n with ho | ho
          · have HJ := Lib.hid (hj.even ho)
            have hbo : ((n : Int) % 2 == 1) = false := by rw [beq_eq_false_iff_ne]; omega
            clear ho hj
            obtain ⟨y, rfl⟩ : ∃ y, y = x := ⟨x, rfl⟩
            obtain ⟨w2, rfl⟩ : ∃ w2, w2 = wr := ⟨wr, rfl⟩
            have HF := Lib.hid hf
            have HW2 := Lib.hid hw
            clear hf hw
            have HS := Lib.hid (both_start m hb hB HW2.out _ rfl)
            clear hb
            go_wp2_with fail
            go_loopw [12] (fun i wr' => ∃ q : Nat, q ≤ 32 ∧ i = .int .i64 q ∧ Both w wr' w.heap.size w2.heap.size f m q) (fun i _ => 32 - (intOf i).toNat)
            case atStart => exact ⟨0, Nat.zero_le _, rfl, HS.out⟩
            case round =>
              clear HS
              obtain ⟨q, hq, rfl, f2, g2, hf2, g1, hne, hB1, hB2, hw'⟩ := hrel
              by_cases hlt2 : q < 32
              · have hc1 : wr.cell? ⟨w.heap.size, q, none⟩ = some (.int .u32 ((f q).toNat : Int)) := g1.cell (arr_at f q hlt2)
                have hc2 : wr.cell? ⟨w2.heap.size, q, none⟩ = some (.int .u32 ((f2 q).toNat : Int)) := g2.cell (arr_at f2 q hlt2)
                have hfz := g2.free q
                have hh : wr.heap[w.heap.size]? = some (.cells (arr f).toArray 39 (0, 0)) := g1
                have hthr : thr f (f q) 32 = stpN (m + m) (bitAt q) := by rw [Full.thr HF.out, HF.out q hlt2, ← stepN_add]
                have HT := Lib.hid hthr
                clear hthr
                have hq0 : (0 : Int) ≤ (q : Int) := Int.natCast_nonneg _
                have hq1 : (q : Int) < 32 := by omega
                go_wp2_with fail
                have hrg : wr.rangeAt w.heap.size 0 (arr f) := fun j v hv => by rw [Nat.zero_add]; exact g1.cell hv
                have hun := Tryd.underlying39
                have hin : (Tryd.prog.info? 39).map (·.size) = some (arr f).length := by rw [arr_length]; kernel_rfl
                have hlt9 : w.heap.size < wr.heap.size := g1.lt
                have hlt8 : w2.heap.size < wr.heap.size := g2.lt
                have G1 := Lib.hid g1
                have G2 := Lib.hid g2
                clear hh g1 g2
                go_region_held3 (fun w' => w'.rangeAt w.heap.size 0 (arr f) ∧ w'.cell? ⟨w.heap.size, q, none⟩ = some (.int .u32 ((f q).toNat : Int)))
                  (first | go_keep | (go_split_ands; exact ⟨range_below (by assumption) hbel (by simp; omega), (hbel.cell (World.block_lt_of_cell? _ _ (by assumption))).trans (by assumption)⟩) | (go_split_ands; exact ⟨range_set (by assumption) hne, cell_set (by assumption) hne⟩))
                  (first | (go_at_call 24; refine (through_any f (f q) _).mono ?_; rintro e w' ⟨rfl, hbel⟩; have hc2' := (hbel.cell (p := ⟨w2.heap.size, q, none⟩) hlt8).trans hc2; have hfz' := (hbel.frozen (p := ⟨w2.heap.size, q, none⟩) hlt8).trans hfz))
                have hb9 : Below wr.heap.size wr w' := (Below.refl wr.heap.size wr).drew.trans hbel
                have HR := Lib.hid (both_round G1.out G2.out hf2 hne hB1 hB2 hw' hb9 HT.out)
                clear hf2 hrg hc1 hc2
                go_wp2
                go_roundw
                case rel => exact ⟨q + 1, by omega, by go_num, HR.out⟩
                case measure => simp [intOf]; omega
              · have hf2' : ∀ j, j < 32 → f2 j = stpN (m + m) (bitAt j) := fun j hj => hf2 j (by omega)
                have hh2 : wr.heap[w2.heap.size]? = some (.cells (arr f2).toArray 39 (0, 0)) := g2
                have hh1 : wr.heap[w.heap.size]? = some (.cells (arr f).toArray 39 (0, 0)) := g1
                have hin : (Tryd.prog.info? 39).map (·.size) = some (arr f2).toArray.size := by rw [List.size_toArray, arr_length]; kernel_rfl
                have hsz : (arr f).toArray.size = (arr f2).toArray.size := by rw [List.size_toArray, List.size_toArray, arr_length, arr_length]
                have hone : (arr f2).toArray.all (·.oneCell') = true := by rw [Array.all_eq_true']; intro x hx; exact arr_one f2 x (by simpa using hx)
                have HFULL : Hid (∀ W : World, W = wr.setRow w.heap.size (arr f2).toArray → Full w W w.heap.size (m + m)) := fun W hW => by
                  subst hW
                  refine ⟨f2, setRow_heap wr _ _ _ _ _ hh1, hf2', Nat.le_refl _, hw'.trans (below_setRow wr _ _ _ (Nat.le_refl _))⟩
                clear hf2 hf2' g1 g2
                generalize (arr f2).toArray = C2 at *
                generalize (arr f).toArray = C1 at *
                go_wp2_with (first | (refine wpList_load_row rfl 39 _ rfl w2.heap.size rfl 39 C2 (0, 0) _ hh2 Tryd.underlying39 rfl hin ?_) | (refine wpList_store_row rfl 39 _ _ rfl w.heap.size C2 rfl rfl 39 C1 hh1 hin hsz hone ?_))
                have hFU := HFULL.out _ rfl
                generalize wr.setRow w.heap.size C2 = wn at *
                go_wp2
                go_roundw
                case rel => exact ⟨y, m + m, ((n / 2 : Nat) : Int), by omega, by go_num, rfl, by rw [Int.toNat_natCast]; exact HJ.out, hFU⟩
                case measure => simp [intOf]; omega
          · have HJ := Lib.hid (hj.odd ho)
            have hbo : ((n : Int) % 2 == 1) = true := by rw [beq_iff_eq]; omega
            clear ho hj
            have hh1 : wr.heap[w.heap.size]? = some (.cells (arr f).toArray 39 (0, 0)) := hb
            have hin : (Tryd.prog.info? 39).map (·.size) = some (arr f).toArray.size := by rw [List.size_toArray, arr_length]; kernel_rfl
            go_wp2_with (refine wpList_load_row rfl 39 _ rfl w.heap.size rfl 39 (arr f).toArray (0, 0) _ hh1 Tryd.underlying39 rfl hin ?_)
            refine (through_any f x _).mono ?_; rintro e w2 ⟨rfl, hbel⟩
            have HF := Lib.hid hf
            have HW2 := Lib.hid (bthen hw hbel)
            replace hb := hb.kept hbel
            generalize hcs : (arr f).toArray = cs9 at *
            have HCS := Lib.hid hcs
            clear hcs hh1 hin hbel
            obtain ⟨y, hy⟩ : ∃ y, thr f x 32 = y := ⟨_, rfl⟩
            rw [← Full.thr HF.out x, hy] at HJ
            rw [hy]
            clear hy
            clear hf hw
            have HS := Lib.hid (both_start m hb hB HW2.out _ rfl)
            clear hb
            go_wp2_with fail
            go_loopw [12] (fun i wr' => ∃ q : Nat, q ≤ 32 ∧ i = .int .i64 q ∧ Both w wr' w.heap.size w2.heap.size f m q) (fun i _ => 32 - (intOf i).toNat)
            case atStart => exact ⟨0, Nat.zero_le _, rfl, HS.out⟩
            case round =>
              clear HS
              obtain ⟨q, hq, rfl, f2, g2, hf2, g1, hne, hB1, hB2, hw'⟩ := hrel
              by_cases hlt2 : q < 32
              · have hc1 : wr.cell? ⟨w.heap.size, q, none⟩ = some (.int .u32 ((f q).toNat : Int)) := g1.cell (arr_at f q hlt2)
                have hc2 : wr.cell? ⟨w2.heap.size, q, none⟩ = some (.int .u32 ((f2 q).toNat : Int)) := g2.cell (arr_at f2 q hlt2)
                have hfz := g2.free q
                have hh : wr.heap[w.heap.size]? = some (.cells (arr f).toArray 39 (0, 0)) := g1
                have hthr : thr f (f q) 32 = stpN (m + m) (bitAt q) := by rw [Full.thr HF.out, HF.out q hlt2, ← stepN_add]
                have HT := Lib.hid hthr
                clear hthr
                have hq0 : (0 : Int) ≤ (q : Int) := Int.natCast_nonneg _
                have hq1 : (q : Int) < 32 := by omega
                go_wp2_with fail
                have hrg : wr.rangeAt w.heap.size 0 (arr f) := fun j v hv => by rw [Nat.zero_add]; exact g1.cell hv
                have hun := Tryd.underlying39
                have hin : (Tryd.prog.info? 39).map (·.size) = some (arr f).length := by rw [arr_length]; kernel_rfl
                have hlt9 : w.heap.size < wr.heap.size := g1.lt
                have hlt8 : w2.heap.size < wr.heap.size := g2.lt
                have G1 := Lib.hid g1
                have G2 := Lib.hid g2
                clear hh g1 g2
                go_region_held3 (fun w' => w'.rangeAt w.heap.size 0 (arr f) ∧ w'.cell? ⟨w.heap.size, q, none⟩ = some (.int .u32 ((f q).toNat : Int)))
                  (first | go_keep | (go_split_ands; exact ⟨range_below (by assumption) hbel (by simp; omega), (hbel.cell (World.block_lt_of_cell? _ _ (by assumption))).trans (by assumption)⟩) | (go_split_ands; exact ⟨range_set (by assumption) hne, cell_set (by assumption) hne⟩))
                  (first | (go_at_call 24; refine (through_any f (f q) _).mono ?_; rintro e w' ⟨rfl, hbel⟩; have hc2' := (hbel.cell (p := ⟨w2.heap.size, q, none⟩) hlt8).trans hc2; have hfz' := (hbel.frozen (p := ⟨w2.heap.size, q, none⟩) hlt8).trans hfz))
                have hb9 : Below wr.heap.size wr w' := (Below.refl wr.heap.size wr).drew.trans hbel
                have HR := Lib.hid (both_round G1.out G2.out hf2 hne hB1 hB2 hw' hb9 HT.out)
                clear hf2 hrg hc1 hc2
                go_wp2
                go_roundw
                case rel => exact ⟨q + 1, by omega, by go_num, HR.out⟩
                case measure => simp [intOf]; omega
              · have hf2' : ∀ j, j < 32 → f2 j = stpN (m + m) (bitAt j) := fun j hj => hf2 j (by omega)
                have hh2 : wr.heap[w2.heap.size]? = some (.cells (arr f2).toArray 39 (0, 0)) := g2
                have hh1 : wr.heap[w.heap.size]? = some (.cells (arr f).toArray 39 (0, 0)) := g1
                have hin : (Tryd.prog.info? 39).map (·.size) = some (arr f2).toArray.size := by rw [List.size_toArray, arr_length]; kernel_rfl
                have hsz : (arr f).toArray.size = (arr f2).toArray.size := by rw [List.size_toArray, List.size_toArray, arr_length, arr_length]
                have hone : (arr f2).toArray.all (·.oneCell') = true := by rw [Array.all_eq_true']; intro x hx; exact arr_one f2 x (by simpa using hx)
                have HFULL : Hid (∀ W : World, W = wr.setRow w.heap.size (arr f2).toArray → Full w W w.heap.size (m + m)) := fun W hW => by
                  subst hW
                  refine ⟨f2, setRow_heap wr _ _ _ _ _ hh1, hf2', Nat.le_refl _, hw'.trans (below_setRow wr _ _ _ (Nat.le_refl _))⟩
                clear hf2 hf2' g1 g2
                generalize (arr f2).toArray = C2 at *
                generalize (arr f).toArray = C1 at *
                go_wp2_with (first | (refine wpList_load_row rfl 39 _ rfl w2.heap.size rfl 39 C2 (0, 0) _ hh2 Tryd.underlying39 rfl hin ?_) | (refine wpList_store_row rfl 39 _ _ rfl w.heap.size C2 rfl rfl 39 C1 hh1 hin hsz hone ?_))
                have hFU := HFULL.out _ rfl
                generalize wr.setRow w.heap.size C2 = wn at *
                go_wp2
                go_roundw
                case rel => exact ⟨y, m + m, ((n / 2 : Nat) : Int), by omega, by go_num, rfl, by rw [Int.toNat_natCast]; exact HJ.out, hFU⟩
                case measure => simp [intOf]; omega
        · have hx := b32_xor x c
          rw [show z.toNat = 0 by omega] at hj
          have he : x ^^^ c = joinOf a c n0.toNat := by unfold joinOf; rw [← hj]; rfl
          rw [he] at hx
          clear he
          go_wp2
          go_ret
          exact ⟨rfl, hw⟩
end CrcR
namespace CrcL
open CrcM Wd CrcW
set_option maxHeartbeats 1000000 in
theorem crcJoin (x y : W) (n : Int) (w : World) (ht : Tab w) (hn : -9223372036854775808 ≤ n ∧ n ≤ 9223372036854775807) :
    Calls Tryd.prog 5 #[.int .u32 (x.toNat : Int), .int .u32 (y.toNat : Int), .int .i64 n] w fun e w' => e = .returned (.bool true) ∧ Below w.heap.size w w' := by
  go_enter Tryd.func5, Tryd.ntmps5
  go_wp2_with fail
  refine (join_any x y n hn.2 _ ht).mono ?_; rintro e w1 ⟨rfl, hd⟩
  have hb1 := hd.below
  have ht1 := hd.tab ht
  clear hd
  go_wp2_with fail
  refine (CrcR.join_any x y n hn.2 _).mono ?_; rintro e w2 ⟨rfl, hb2⟩
  have ht2 := ht1.below hb2
  go_wp2_with fail
  refine (works_any _ ht2).mono ?_; rintro e w3 ⟨rfl, hb3⟩
  go_wp2_with fail
  go_ret
  exact ⟨rfl, bthen hb1 (bthen hb2 hb3)⟩
end CrcL
end Go.Proofs.YtjogcmlmegjlbaaDoor
