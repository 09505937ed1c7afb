/- The walks of the statements' helpers on package bin: what spoils, what orders, and the chapter's examples. -/
import Derived.Test.YtopnogjbpapmfaaBinTakeText
import Derived.Test.YtopnogjbpapmfaaEqBytes
namespace Go.Proofs.Ytopnogjbpapmfaa
open Go.RowKit
namespace BinL
open BinM Wd BinW
theorem u8x (a b : UInt8) : bits .xor .u8 (a.toNat : Int) (b.toNat : Int) = ((a ^^^ b).toNat : Int) := by
  rw [u8_xor_nat _ _ a.toNat_lt b.toNat_lt, UInt8.toNat_xor]
/-- A block whose cells from o on are bytes. -/
def Bytes (w : World) (g o n : Nat) : Prop := ∃ cur : Array Value, w.heap[g]? = some (.cells cur 5 (0, 0)) ∧ ∀ j, j < n → ∃ c : UInt8, cur[o + j]? = some (bv c)
theorem Bytes.set {w : World} {g o n : Nat} (h : Bytes w g o n) (k : Nat) (c : UInt8) : Bytes (w.setCell ⟨g, o + k, none⟩ (.int .u8 (c.toNat : Int))) g o n := by
  obtain ⟨cur, hg, hc⟩ := h
  refine ⟨cur.setIfInBounds (o + k) (.int .u8 (c.toNat : Int)), heap_setCell_same w g (o + k) cur 5 _ hg, fun j hj => ?_⟩
  obtain ⟨d, hd⟩ := hc j hj
  by_cases e : k = j
  · subst e
    refine ⟨c, ?_⟩
    have hlt : o + k < cur.size := (Array.getElem?_eq_some_iff.1 hd).1
    rw [Array.getElem?_setIfInBounds]
    simp [hlt, bv]
  · refine ⟨d, ?_⟩
    rw [Array.getElem?_setIfInBounds, if_neg (by omega)]; exact hd
theorem Bytes.at {w : World} {g o n : Nat} (h : Bytes w g o n) (k : Nat) (hk : k < n) : ∃ c : UInt8, w.cell? ((⟨g, o, none⟩ : Addr).add k) = some (.int .u8 (c.toNat : Int)) ∧ w.frozen? ((⟨g, o, none⟩ : Addr).add k) = false := by
  obtain ⟨cur, hg, hc⟩ := h
  obtain ⟨c, hd⟩ := hc k hk
  refine ⟨c, ?_, ?_⟩
  · rw [Addr.add_lit]; unfold World.cell?
    rw [show w.heap[(⟨g, o + k, none⟩ : Addr).block]? = _ from hg]; simpa [bv] using hd
  · rw [Addr.add_lit]; unfold World.frozen?
    rw [show w.heap[(⟨g, o + k, none⟩ : Addr).block]? = _ from hg]; simp
/-- Memory of the call's own, of this many bytes, between two marks: it may be written. -/
def Own (w : World) (lo hi : Nat) (A : Option Addr) (n : Nat) : Prop := n = 0 ∨ ∃ g o, A = some ⟨g, o, none⟩ ∧ lo ≤ g ∧ g < hi ∧ Bytes w g o n
theorem Own.keep {w w' : World} {lo hi : Nat} {A : Option Addr} {n : Nat} (h : Own w lo hi A n) (hk : ∀ b, lo ≤ b → b < hi → w'.heap[b]? = w.heap[b]?) : Own w' lo hi A n := by
  rcases h with h | ⟨g, o, hA, h1, h2, cur, h3, h4⟩
  · exact .inl h
  · exact .inr ⟨g, o, hA, h1, h2, cur, (hk g h1 h2).trans h3, h4⟩
theorem Own.below {w w' : World} {lo hi : Nat} {A : Option Addr} {n : Nat} (h : Own w lo hi A n) (hb : Below hi w w') : Own w' lo hi A n := h.keep fun b _ h2 => hb.block b h2
theorem gave_own {w w' : World} {l : List UInt8} {A : Option Addr} {n : Nat} (hm : Mine w' w.heap.size A l) (hr : Row w' w'.heap.size A (bvs l)) (hn : n = l.length) : Own w' w.heap.size w'.heap.size A n := by
  subst hn
  rcases hm with rfl | ⟨g, o, cur, rfl, h2, h3⟩
  · exact .inl rfl
  · refine .inr ⟨g, o, rfl, h2, (Array.getElem?_eq_some_iff.1 h3).1, cur, h3, fun j hj => ⟨l.getD j 0, ?_⟩⟩
    have h4 := hr.some j _ (bvs_at l j hj)
    rw [Addr.add_lit] at h4
    unfold World.cell? at h4
    rw [show w'.heap[(⟨g, o + j, none⟩ : Addr).block]? = _ from h3] at h4
    simpa using h4
set_option maxHeartbeats 1000000 in
theorem spoil_any (lo hi : Nat) (A : Option Addr) (n c : Nat) (w : World) (hl : n ≤ 140737488355328) (h : Own w lo hi A n) :
    Calls Try.prog 26 #[.slice A n c] w fun e w' => e = .returned (.tuple #[]) ∧ Below lo w w' ∧ ∀ b, hi ≤ b → w'.heap[b]? = w.heap[b]? := by
  by_cases h0 : n = 0
  · subst h0
    clear h
    go_enter Try.func26, Try.ntmps26
    go_wp2_with fail
    go_loop [2] (fun i => i = .int .i64 0) (fun _ => 0)
    case atStart => exact rfl
    case round =>
      obtain rfl := hrel
      go_wp2
      go_end0
      exact ⟨rfl, Below.refl _ _, fun _ _ => rfl⟩
  · obtain ⟨g, o, rfl, hg, hgh, hby⟩ : ∃ g o, A = some ⟨g, o, none⟩ ∧ lo ≤ g ∧ g < hi ∧ Bytes w g o n := by
      rcases h with h | h
      · exact absurd h h0
      · exact h
    clear h
    go_enter Try.func26, Try.ntmps26
    go_wp2_with fail
    go_loopw [2] (fun i wr => ∃ k : Nat, k ≤ n ∧ i = .int .i64 (k : Int) ∧ Bytes wr g o n ∧ Below lo w wr ∧ ∀ b, hi ≤ b → wr.heap[b]? = w.heap[b]?) (fun i _ => n - (intOf i).toNat)
    case atStart => exact ⟨0, Nat.zero_le _, rfl, hby, Below.refl _ _, fun _ _ => rfl⟩
    case round =>
      clear hby
      obtain ⟨k, hk, rfl, hby, hb, hq⟩ := hrel
      have HQ := Lib.hid hq
      clear hq
      by_cases hlt : k < n
      · obtain ⟨x, hc, hf⟩ := hby.at k hlt
        have hx : bits .xor .u8 (x.toNat : Int) 90 = ((x ^^^ 90).toNat : Int) := u8x x 90
        have HS := Lib.hid (hby.set k (x ^^^ 90))
        have HB : Hid (Below lo w (wr.setCell ⟨g, o + k, none⟩ (.int .u8 ((x ^^^ 90).toNat : Int)))) := hb.setCell hg _
        have HH : Hid (∀ b, hi ≤ b → (wr.setCell ⟨g, o + k, none⟩ (.int .u8 ((x ^^^ 90).toNat : Int))).heap[b]? = w.heap[b]?) := fun b hb => (heap_setCell_other wr ⟨g, o + k, none⟩ b _ (by show b ≠ g; omega)).trans (HQ.out b hb)
        generalize x ^^^ 90 = y at *
        have hu := u8_le x
        have hk0 : (k : Int) < (n : Int) := by omega
        rw [Addr.add_lit] at hc hf
        clear hby hb
        go_wp2
        go_roundw
        case rel => exact ⟨k + 1, by omega, by go_num, HS.out, HB.out, HH.out⟩
        case measure => simp [intOf]; omega
      · have ek : k = n := by omega
        subst ek
        go_wp2
        go_end0
        exact ⟨rfl, hb, HQ.out⟩
theorem first_common (p l m : List UInt8) : first (p ++ l) (p ++ m) = first l m := by
  induction p with
  | nil => rfl
  | cons a p ih => rw [List.cons_append, List.cons_append, first_cons, if_pos rfl, ih]
theorem first_take (l m : List UInt8) (k : Nat) (h : l.take k = m.take k) : first l m = first (l.drop k) (m.drop k) := by
  have e := first_common (l.take k) (l.drop k) (m.drop k)
  rw [List.take_append_drop, h, List.take_append_drop] at e
  exact e
theorem first_at (l m : List UInt8) (k : Nat) (h : l.take k = m.take k) (hl : k < l.length) (hm : k < m.length) (hne : l.getD k 0 ≠ m.getD k 0) : first l m = decide ((l.getD k 0).toNat < (m.getD k 0).toNat) := by
  rw [first_take l m k h, List.drop_eq_getElem_cons hl, List.drop_eq_getElem_cons hm, first_cons]
  have e1 : l.getD k 0 = l[k] := by simp [List.getD, hl]
  have e2 : m.getD k 0 = m[k] := by simp [List.getD, hm]
  rw [← e1, ← e2, if_neg hne]
theorem first_end (l m : List UInt8) (k : Nat) (h : l.take k = m.take k) (hk : k = l.length ∨ k = m.length) (hl : k ≤ l.length) (hm : k ≤ m.length) : first l m = decide (l.length < m.length) := by
  rw [first_take l m k h]
  rcases hk with rfl | rfl
  · rw [List.drop_length]
    by_cases h2 : l.length < m.length
    · rw [List.drop_eq_getElem_cons h2, decide_eq_true h2]; rfl
    · have e : m.length = l.length := by omega
      rw [← e, List.drop_length, decide_eq_false (by omega)]; rfl
  · rw [List.drop_length]
    rw [decide_eq_false (by omega)]
    by_cases h2 : m.length < l.length
    · rw [List.drop_eq_getElem_cons h2]; rfl
    · have e : l.length = m.length := by omega
      rw [← e, List.drop_length]; rfl
set_option maxHeartbeats 1000000 in
theorem first_any (B B' : Nat) (A A' : Option Addr) (n n' c c' : Nat) (l m : List UInt8) (w : World) (hn : n = l.length) (hn' : n' = m.length) (hl : n ≤ 140737488355328) (_ : n' ≤ 140737488355328) (h : Row w B A (bvs l)) (h' : Row w B' A' (bvs m)) :
    Calls Try.prog 28 #[.slice A n c, .slice A' n' c'] w fun e w' => e = .returned (.bool (first l m)) ∧ ∃ k, w' = w.drewN k := by
  have HN := Lib.hid hn
  have HN' := Lib.hid hn'
  clear hn hn'
  go_enter Try.func28, Try.ntmps28
  go_wp2_with fail
  go_loopw [5] (fun i wr => (∃ k : Nat, k ≤ n ∧ k ≤ n' ∧ i = .int .i64 k ∧ l.take k = m.take k) ∧ ∃ q, wr = w.drewN q) (fun i _ => n - (intOf i).toNat)
  case atStart => exact ⟨⟨0, Nat.zero_le _, Nat.zero_le _, rfl, rfl⟩, 0, rfl⟩
  case round =>
    obtain ⟨⟨k, hk, hk', rfl, ht⟩, q, hw⟩ := hrel
    rename_i wr _
    have HT := Lib.hid ht
    clear ht
    have h1 : Row wr B A (bvs l) := by rw [hw]; exact h.below (drawn_below _ _ _)
    have h2 : Row wr B' A' (bvs m) := by rw [hw]; exact h'.below (drawn_below _ _ _)
    have HW := Lib.hid hw
    clear hw h h'
    by_cases hlt : k < n
    · have hd1 : decide ((k : Int) < (n : Int)) = true := by simp; omega
      have hd1' : decide (k < n) = true := by simp; omega
      by_cases hlt' : k < n'
      · have hd2 : decide ((k : Int) < (n' : Int)) = true := by simp; omega
        have hd2' : decide (k < n') = true := by simp; omega
        have kl : k < l.length := by have := HN.out; omega
        have km : k < m.length := by have := HN'.out; omega
        obtain ⟨ad, rfl, hb, hc⟩ := h1.byte kl
        obtain ⟨ad', rfl, hb', hc'⟩ := h2.byte km
        have hu := u8_le (l.getD k 0)
        have hu' := u8_le (m.getD k 0)
        have hi1 : (k : Int) < (n : Int) := by omega
        have hi2 : (k : Int) < (n' : Int) := by omega
        clear h1 h2 hb hb'
        by_cases hx : l.getD k 0 = m.getD k 0
        · have hne2 : ((((l.getD k 0).toNat : Nat) : Int) != ((m.getD k 0).toNat : Int)) = false := by rw [hx]; simp
          have HX := Lib.hid (take_ext l m k kl km HT.out hx)
          clear hx
          generalize l.getD k 0 = u at *
          generalize m.getD k 0 = u' at *
          go_wp2_with fail
          go_quiet (fail)
          go_wp2
          go_roundw
          case rel => exact ⟨⟨k + 1, by omega, by omega, by go_num, HX.out⟩, by rw [HW.out]; exact ⟨q + _, by rw [World.drewN_drewN]⟩⟩
          case measure => simp [intOf]; omega
        · have hne2 : ((((l.getD k 0).toNat : Nat) : Int) != ((m.getD k 0).toNat : Int)) = true := by
            rw [bne_iff_ne]; intro hc; apply hx; apply UInt8.toNat_inj.1; omega
          have HX := Lib.hid (first_at l m k HT.out kl km hx)
          clear hx
          generalize l.getD k 0 = u at *
          generalize m.getD k 0 = u' at *
          go_wp2_with fail
          go_quiet (fail)
          go_wp2_with fail
          go_quiet (fail)
          go_wp2_with fail
          go_ret
          exact ⟨by rw [HX.out]; rfl, by rw [HW.out, World.drewN_drewN, World.drewN_drewN]; exact ⟨_, rfl⟩⟩
      · have ek : k = n' := by omega
        have HF := Lib.hid (first_end l m k HT.out (.inr (by have := HN'.out; omega)) (by have := HN.out; omega) (by have := HN'.out; omega))
        have hd2 : decide ((k : Int) < (n' : Int)) = false := by simp; omega
        have hd2' : decide (k < n') = false := by simp; omega
        rw [← HN.out, ← HN'.out] at HF
        clear h1 h2 ek
        go_wp2_with fail
        go_ret
        exact ⟨by rw [HF.out]; rfl, ⟨q, HW.out⟩⟩
    · have ek : k = n := by omega
      have HF := Lib.hid (first_end l m k HT.out (.inl (by have := HN.out; omega)) (by have := HN.out; omega) (by have := HN'.out; omega))
      have hd2 : decide ((k : Int) < (n : Int)) = false := by simp; omega
      have hd2' : decide (k < n) = false := by simp; omega
      rw [← HN.out, ← HN'.out] at HF
      clear h1 h2 ek
      go_wp2_with fail
      go_ret
      exact ⟨by rw [HF.out]; rfl, ⟨q, HW.out⟩⟩
/-! the chapter's examples -/
theorem TakeNum_fresh (w : World) (C : Array Value) (l : List UInt8) (hC : C = (bvs l).toArray) (n c : Nat) (hn : n = l.length) (hl : n ≤ 140737488355328) (hc : n ≤ c) :
    Calls Try.prog 20 #[.slice (some ⟨w.heap.size, 0, none⟩) n c] (w.alloc (.cells C 5)) fun e w' => ∃ r, e = .returned (.tuple #[.int .i64 (tkNum l).1, r, .int .i64 (tkNum l).2.2]) ∧ Gave w w' (tkNum l).2.1 r :=
  (TakeNum_any _ _ n c l _ hn hl hc (row_fresh w C 5 (0, 0) l hC)).mono fun _ _ ⟨r, h1, h2⟩ => ⟨r, h1, gave_drew h2 (alloc_below w _)⟩
theorem eq_fresh (B : Nat) (A : Option Addr) (n c : Nat) (l : List UInt8) (w : World) (C : Array Value) (hC : C = (bvs l).toArray) (n' c' : Nat) (hn : n = l.length) (hn' : n' = l.length) (hl : n ≤ 140737488355328) (h : Row w B A (bvs l)) :
    Calls Try.prog 13 #[.slice A n c, .slice (some ⟨w.heap.size, 0, none⟩) n' c'] (w.alloc (.cells C 5)) fun e w' => e = .returned (.bool true) ∧ Below w.heap.size w w' :=
  (eqBytes_same _ _ A _ n n' c c' l _ hn hn' hl (h.tight.below (alloc_below w _)) (row_fresh w C 5 (0, 0) l hC)).mono fun _ _ ⟨h1, h2⟩ => ⟨h1, bthen (alloc_below w _) h2⟩
theorem Made.lit {w w' : World} {l : List UInt8} {r : Value} (h : Made w w' l r) (n : Nat) (hn : l.length = n) : ∃ A c, r = .slice A n c ∧ Row w' w'.heap.size A (bvs l) ∧ Below w.heap.size w w' := by
  obtain ⟨A, c, rfl, hown, hb⟩ := h
  exact ⟨A, c, by rw [hn], Row.own hown, hb⟩
theorem num_lit (x : Int) (hx : -9223372036854775808 ≤ x ∧ x ≤ 9223372036854775807) (l : List UInt8) (err : Int) (n : Nat) (hE : numE x = err) (hB : numB x = l) (hn : l.length = n) (w : World) :
    Calls Try.prog 11 #[.int .i64 x] w fun e w' => ∃ A c, e = .returned (.tuple #[.slice A n c, .int .i64 err]) ∧ Row w' w'.heap.size A (bvs l) ∧ Below w.heap.size w w' :=
  (num_any x hx w).mono fun e w' ⟨r, h1, h2⟩ => by
    rw [hB] at h2
    obtain ⟨A, c, rfl, h3, h4⟩ := Made.lit h2 n hn
    exact ⟨A, c, by rw [h1, hE], h3, h4⟩
theorem int_lit (x : Int) (hx : -9223372036854775808 ≤ x ∧ x ≤ 9223372036854775807) (l : List UInt8) (n : Nat) (hB : enc (zz x) = l) (hn : l.length = n) (w : World) :
    Calls Try.prog 14 #[.int .i64 x] w fun e w' => ∃ A c, e = .returned (.slice A n c) ∧ Row w' w'.heap.size A (bvs l) ∧ Below w.heap.size w w' :=
  (int_any x hx w).mono fun e w' ⟨r, h1, h2⟩ => by
    rw [hB] at h2
    obtain ⟨A, c, rfl, h3, h4⟩ := Made.lit h2 n hn
    exact ⟨A, c, h1, h3, h4⟩
theorem text_lit (s : ByteArray) (hs : s.size ≤ 140737488351232) (most : Int) (l : List UInt8) (err : Int) (n : Nat) (hE : textE s.data.toList most = err) (hB : textB s.data.toList most = l) (hn : l.length = n) (w : World) :
    Calls Try.prog 17 #[.string s, .int .i64 most] w fun e w' => ∃ A c, e = .returned (.tuple #[.slice A n c, .int .i64 err]) ∧ Row w' w'.heap.size A (bvs l) ∧ Below w.heap.size w w' :=
  (text_any s hs most w).mono fun e w' ⟨r, h1, h2⟩ => by
    rw [hB] at h2
    obtain ⟨A, c, rfl, h3, h4⟩ := Made.lit h2 n hn
    exact ⟨A, c, by rw [h1, hE], h3, h4⟩
theorem takeNum_lit (w : World) (C : Array Value) (l : List UInt8) (hC : C = (bvs l).toArray) (n c : Nat) (hn : n = l.length) (hl : n ≤ 140737488355328) (hc : n ≤ c) (v : Int) (t : List UInt8) (err : Int) (hT : tkNum l = (v, t, err)) :
    Calls Try.prog 20 #[.slice (some ⟨w.heap.size, 0, none⟩) n c] (w.alloc (.cells C 5)) fun e w' => ∃ r, e = .returned (.tuple #[.int .i64 v, r, .int .i64 err]) ∧ Below w.heap.size w w' :=
  (TakeNum_fresh w C l hC n c hn hl hc).mono fun _ _ ⟨r, h1, h2⟩ => ⟨r, by rw [h1, hT], by obtain ⟨_, _, _, _, _, _, hb⟩ := h2; exact hb⟩
set_option maxHeartbeats 4000000 in
theorem works_any (w : World) :
    Calls Try.prog 16 #[] w fun e w' => e = .returned (.bool true) ∧ Below w.heap.size w w' := by
  go_enter Try.func16, Try.ntmps16
  go_wp2_with fail
  refine (num_lit 127 (by decide) [127] 0 1 (by decide +kernel) (by decide +kernel) rfl _).mono ?_; rintro e w1 ⟨A1, c1, rfl, r1, b1⟩
  go_wp2_with fail
  refine (num_lit 128 (by decide) [128, 128] 0 2 (by decide +kernel) (by decide +kernel) rfl _).mono ?_; rintro e w2 ⟨A2, c2, rfl, r2, b2⟩
  have r1 := r1.below b2
  go_wp2_with fail
  refine (num_lit 16384 (by decide) [192, 64, 0] 0 3 (by decide +kernel) (by decide +kernel) rfl _).mono ?_; rintro e w3 ⟨A3, c3, rfl, r3, b3⟩
  have r1 := r1.tight.below b3
  have r2 := r2.below b3
  go_wp2_with fail
  refine (text_lit _ (by decide +kernel) 2 [2, 97, 98] 0 3 (by decide +kernel) (by decide +kernel) rfl _).mono ?_; rintro e w4 ⟨A4, c4, rfl, r4, b4⟩
  have r1 := r1.tight.below b4
  have r2 := r2.tight.below b4
  have r3 := r3.below b4
  go_wp2_with fail
  refine (text_lit _ (by decide +kernel) 1 [] 5 0 (by decide +kernel) (by decide +kernel) rfl _).mono ?_; rintro e w5 ⟨A5, c5, rfl, _, b5⟩
  have r1 := r1.tight.below b5
  have r2 := r2.tight.below b5
  have r3 := r3.tight.below b5
  have r4 := r4.below b5
  go_wp2_with fail
  refine (takeNum_lit _ _ [128, 127] rfl _ _ rfl (by decide) (by decide) 0 [] 4 (by decide +kernel)).mono ?_; rintro e w6 ⟨r, rfl, b6⟩
  have r1 := r1.tight.below b6
  have r2 := r2.tight.below b6
  have r3 := r3.tight.below b6
  have r4 := r4.tight.below b6
  go_wp2_with fail
  refine (takeNum_lit _ _ [128] rfl _ _ rfl (by decide) (by decide) 0 [] 3 (by decide +kernel)).mono ?_; rintro e w7 ⟨r', rfl, b7⟩
  have r1 := r1.tight.below b7
  have r2 := r2.tight.below b7
  have r3 := r3.tight.below b7
  have r4 := r4.tight.below b7
  go_wp2_with fail
  refine (eq_fresh _ A1 1 c1 [127] w7 _ rfl _ _ rfl rfl (by decide) r1).mono ?_; rintro e w8 ⟨rfl, b8⟩
  have r2 := r2.tight.below b8
  have r3 := r3.tight.below b8
  have r4 := r4.tight.below b8
  go_wp2_with fail
  refine (eq_fresh _ A2 2 c2 [128, 128] w8 _ rfl _ _ rfl rfl (by decide) r2).mono ?_; rintro e w9 ⟨rfl, b9⟩
  have r3 := r3.tight.below b9
  have r4 := r4.tight.below b9
  go_wp2_with fail
  refine (eq_fresh _ A3 3 c3 [192, 64, 0] w9 _ rfl _ _ rfl rfl (by decide) r3).mono ?_; rintro e w10 ⟨rfl, b10⟩
  have r4 := r4.tight.below b10
  go_wp2_with fail
  refine (eq_fresh _ A4 3 c4 [2, 97, 98] w10 _ rfl _ _ rfl rfl (by decide) r4).mono ?_; rintro e w11 ⟨rfl, b11⟩
  go_wp2_with fail
  refine (int_lit (-1) (by decide) [1] 1 (by decide +kernel) rfl _).mono ?_; rintro e w12 ⟨A12, c12, rfl, r12, b12⟩
  go_wp2_with fail
  refine (eq_fresh _ A12 1 c12 [1] w12 _ rfl _ _ rfl rfl (by decide) r12).mono ?_; rintro e w13 ⟨rfl, b13⟩
  go_wp2_with fail
  go_ret
  exact ⟨rfl, bthen b1 (bthen b2 (bthen b3 (bthen b4 (bthen b5 (bthen b6 (bthen b7 (bthen b8 (bthen b9 (bthen b10 (bthen b11 (bthen b12 b13)))))))))))⟩
end BinL
end Go.Proofs.Ytopnogjbpapmfaa
