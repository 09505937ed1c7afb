/- Words for rows of bytes in memory of the call's own, and slices of such; what may be written over. -/
import Derived.Test.YthjmefjadibjjaaMade
import Derived.Test.YthjmefjadibjjaaCut
import Derived.Test.YthjmefjadibjjaaBuild
import Derived.Test.YthjmefjadibjjaaGuarded
import Derived.WalkSpells
namespace Go.Proofs.Ythjmefjadibjjaa.Wd
open Go.RowKit
theorem Row.tight {w : World} {B : Nat} {A : Option Addr} {xs : List Value} (h : Row w B A xs) : Row w w.heap.size A xs := fun k u hu => by
  obtain ⟨ad, e, _, hc⟩ := h k u hu
  have := World.block_lt_of_cell? w _ hc
  rw [add_block] at this
  exact ⟨ad, e, this, hc⟩
set_option maxHeartbeats 1000000 in
theorem clone_any (B : Nat) (A : Option Addr) (n c : Nat) (l : List UInt8) (w : World) (hn : n = l.length) (hl : n ≤ 140737488355328) (h : Row w B A (bvs l)) :
    Calls Try.prog 36 #[.slice A n c] w fun e w' => ∃ r, e = .returned r ∧ Made w w' l r := by
  obtain ⟨i0, hi, hz0, hz1, hz2⟩ := info_parts infoU8
  have hnil := fun (w : World) (a : Option Addr) (n c : Nat) => Lib.run_eql_slice_nil (P := Try.prog) w 24 5 a n c 0 0 Try.underlying24
  cases A with
  | none =>
    have hl0 : l = [] := by have := h.none; simpa [bvs] using this
    subst hl0
    subst hn
    clear h
    go_enter Try.func36, Try.ntmps36
    go_wp2
    go_ret
    exact ⟨_, rfl, made_nil w⟩
  | some ad =>
    have HN := Lib.hid hn
    clear hn
    have HL : Hid ((bvs l).length = n) := by unfold Hid; rw [bvs_length]; exact HN.out.symm
    have HO := Lib.hid (bvs_one l)
    have hr := h.tight.below (alloc_below w (.cells #[] 5))
    have hown : (w.alloc (.cells #[] 5)).ownsRow w.heap.size 5 1 (.slice (some ⟨w.heap.size, 0, none⟩) 0 0) 0 [] := World.ownsRow_made w #[] 0 (Nat.le_refl _) (by unfold maxLen; omega) (by simp)
    have hb := alloc_below w (.cells #[] 5)
    have HLT := Lib.hid hown.lt
    clear h
    go_enter Try.func36, Try.ntmps36
    go_wp2_with (at_builtin; refine wpList_append_row rfl _ _ 24 rfl w.heap.size 5 i0 (.int .u8 0) 1 Try.underlying24 hi hz0 hz1 hz2 rfl _ 0 [] rfl hown w.heap.size (some ad) n c (bvs l) rfl HL.out hr HO.out (by unfold maxLen; omega) (by omega) (by simp) ?_; intro v' w1 hown1 hgrow1)
    have hg : (w.alloc (.cells #[] 5)).grownBy w1 (Value.slice (some ⟨w.heap.size, 0, none⟩) 0 0).ownBlock := hgrow1
    have hb1 : Below w.heap.size w w1 := hb.grown hg (by simp) (fun k hk => (HLT.out k hk).1)
    simp only [Nat.zero_add, List.nil_append] at hown1
    obtain ⟨A', c', rfl⟩ := own_slice hown1
    clear hgrow1 hg
    go_ret
    rw [HN.out] at hown1
    exact ⟨.slice A' n c', rfl, A', c', by rw [HN.out], by rw [HN.out]; exact hown1, hb1⟩
theorem owns_kept {w w' : World} {base e size n : Nat} {v : Value} {xs : List Value} (h : w.ownsRow base e size v n xs) (hb : Below w.heap.size w w') : w'.ownsRow base e size v n xs := by
  refine ⟨h.1, ?_⟩
  rcases h.2 with h2 | ⟨g, cap, cur, hv, hg, hh, r⟩
  · exact .inl h2
  · exact .inr ⟨g, cap, cur, hv, hg, (hb.block g (Array.getElem?_eq_some_iff.1 hh).1).trans hh, r⟩
theorem owns_base_le {w : World} {base base' e size n : Nat} {v : Value} {xs : List Value} (h : w.ownsRow base e size v n xs) (hb : base' ≤ base) : w.ownsRow base' e size v n xs := by
  refine ⟨h.1, ?_⟩
  rcases h.2 with h2 | ⟨g, cap, cur, hv, hg, r⟩
  · exact .inl h2
  · exact .inr ⟨g, cap, cur, hv, Nat.le_trans hb hg, r⟩
theorem sizeU8i : (Try.prog.info? 5).map (·.size) = some 1 := by kernel_rfl
theorem zeroU8 : (Try.prog.info? 5).map (·.zero) = some (some (.int .u8 0)) := by kernel_rfl
theorem infoSl : (Try.prog.info? 24).map (·.size) = some 1 := by kernel_rfl
/-- Bytes in memory of the call's own. -/
def Fresh (w : World) (base : Nat) (l : List UInt8) (v : Value) : Prop := ∃ A c, v = .slice A l.length c ∧ w.ownsRow base 5 1 v l.length (bvs l)
section
variable {w w' : World} {base base' : Nat} {l : List UInt8} {v : Value}
theorem Fresh.kept (h : Fresh w base l v) (hb : Below w.heap.size w w') : Fresh w' base l v := by
  obtain ⟨A, c, rfl, h⟩ := h; exact ⟨A, c, rfl, owns_kept h hb⟩
theorem Fresh.le (h : Fresh w base l v) (hb : base' ≤ base) : Fresh w base' l v := by
  obtain ⟨A, c, rfl, h⟩ := h; exact ⟨A, c, rfl, owns_base_le h hb⟩
theorem Made.fresh (h : Made w w' l v) : Fresh w' w.heap.size l v := by obtain ⟨A, c, rfl, h, _⟩ := h; exact ⟨A, c, rfl, h⟩
theorem Made.below (h : Made w w' l v) : Below w.heap.size w w' := by obtain ⟨_, _, _, _, h⟩ := h; exact h
theorem fresh_nil (w : World) (base : Nat) : Fresh w base [] (.slice none 0 0) := ⟨none, 0, rfl, World.ownsRow_nil _ _ _ _⟩
end
theorem owns_apart {w : World} {b1 b2 e1 e2 s1 s2 n1 n2 : Nat} {v1 v2 : Value} {xs1 xs2 : List Value} (h1 : w.ownsRow b1 e1 s1 v1 n1 xs1) (h2 : w.ownsRow b2 e2 s2 v2 n2 xs2) (hne : e1 ≠ e2) : v1.ownBlock = none ∨ v1.ownBlock ≠ v2.ownBlock := by
  rcases h1.2 with ⟨rfl, _⟩ | ⟨g, cap, cur, rfl, _, hh, _⟩
  · exact .inl rfl
  rcases h2.2 with ⟨rfl, _⟩ | ⟨g', cap', cur', rfl, _, hh', _⟩
  · exact .inr (by simp [Value.ownBlock])
  · refine .inr fun h => ?_
    have : g = g' := by simpa [Value.ownBlock] using h
    subst this
    rw [hh] at hh'
    injection hh' with hh'
    injection hh' with _ ht
    exact hne ht
theorem Fresh.grown {w w' : World} {base b2 n : Nat} {l : List UInt8} {u v : Value} {xs : List Value} (h : Fresh w base l u) (hv : w.ownsRow b2 24 1 v n xs) (hg : w.grownBy w' v.ownBlock) : Fresh w' base l u := by
  obtain ⟨A, c, rfl, h⟩ := h
  exact ⟨A, c, rfl, h.kept hg (owns_apart h hv (by decide))⟩
/-- Rows of bytes, all of the call's own, in a slice of its own. -/
def FreshAll (w : World) (base : Nat) (ps : List (List UInt8)) (v : Value) : Prop :=
  ∃ cells, w.ownsRow base 24 1 v ps.length cells ∧ ∀ (i : Nat) (p : List UInt8), ps[i]? = some p → ∃ u : Value, cells[i]? = some u ∧ Fresh w base p u
theorem freshAll_nil (w : World) (base : Nat) : FreshAll w base [] (.slice none 0 0) := ⟨[], World.ownsRow_nil _ _ _ _, fun _ _ h => by simp at h⟩
theorem FreshAll.kept {w w' : World} {base : Nat} {ps : List (List UInt8)} {v : Value} (h : FreshAll w base ps v) (hb : Below w.heap.size w w') : FreshAll w' base ps v := by
  obtain ⟨cells, h1, h2⟩ := h
  exact ⟨cells, owns_kept h1 hb, fun i p hp => by obtain ⟨u, hu, hf⟩ := h2 i p hp; exact ⟨u, hu, hf.kept hb⟩⟩
theorem FreshAll.push {w w' : World} {base n : Nat} {ps : List (List UInt8)} {p : List UInt8} {v v' u : Value} {cells : List Value} (h1 : w.ownsRow base 24 1 v n cells) (hn : n = ps.length) (h2 : ∀ (i : Nat) (p : List UInt8), ps[i]? = some p → ∃ u : Value, cells[i]? = some u ∧ Fresh w base p u) (hu : Fresh w base p u)
    (h' : w'.ownsRow base 24 1 v' (n + 1) (cells ++ [u])) (hg : w.grownBy w' v.ownBlock) : FreshAll w' base (ps ++ [p]) v' := by
  subst hn
  refine ⟨cells ++ [u], by rw [List.length_append]; exact h', fun i q hq => ?_⟩
  have hcl : cells.length = ps.length := by have := h1.1; rwa [Nat.mul_one] at this
  by_cases hi : i < ps.length
  · rw [List.getElem?_append_left hi] at hq
    obtain ⟨x, hx, hf⟩ := h2 i q hq
    exact ⟨x, by rw [List.getElem?_append_left (by omega)]; exact hx, hf.grown h1 hg⟩
  · rw [List.getElem?_append_right (by omega)] at hq
    have h0 : i - ps.length = 0 := by
      have := (List.getElem?_eq_some_iff.1 hq).1
      simp at this; omega
    rw [h0] at hq
    simp at hq
    subst hq
    exact ⟨u, by rw [List.getElem?_append_right (by omega), hcl, h0]; rfl, hu.grown h1 hg⟩
theorem owns_block_ne {w : World} {base e size n g e' : Nat} {v : Value} {xs ys : List Value} (h : w.ownsRow base e size v n xs) (k : Block w g e' ys) (hne : e ≠ e') : v.ownBlock ≠ some g := by
  intro he
  rcases h.2 with ⟨rfl, _⟩ | ⟨g', cap, cur, rfl, _, hh, _⟩
  · simp [Value.ownBlock] at he
  · have : g' = g := by simpa [Value.ownBlock] using he
    subst this
    unfold Block at k
    rw [k] at hh
    injection hh with hh
    injection hh with _ ht
    exact hne ht.symm
theorem zeroBs : (Try.prog.info? 24).map (·.zero) = some (some (.slice none 0 0)) := by kernel_rfl
theorem infoBs : (Try.prog.info? 24).map (fun i => (i.zero, i.size, i.bytes)) = some (some (.slice none 0 0), 1, 24) := by kernel_rfl
theorem fresh_cap {w : World} {base e n c : Nat} {A : Option Addr} {xs : List Value} (h : w.ownsRow base e 1 (.slice A n c) n xs) : n ≤ c := by
  rcases h.2 with ⟨hv, h0⟩ | ⟨g, cap, cur, hv, _, _, hnc, _⟩
  · rw [h0]; exact Nat.zero_le _
  · injection hv with _ _ h3; rw [h3]; exact hnc
section
variable {P : Program} {ops : Array Oper} {rest : List Oper} {o : Oper} {a : Act} {w : World} {Q : Exit → Act → World → Prop}
theorem wpList_buildN_on (hgd : Region.wanted o (yielded ops a.tmps) = true) (t e : TypeId) (n : Nat) (parts : List (Nat × Operand)) (ho : o.op = .buildSlice t n parts.toArray) (ht : P.underlying t = some (.slice e)) (C : Nat) (hs : (P.info? e).map (·.size) = some C) (hC : 0 < C) (z : Value) (hz : (P.info? e).map (·.zero) = some (some z))
    (vs : List Value) (hx : (parts.map fun (i, x) => (i, a.eval x)) = (vs.zipIdx).map fun p => (p.2, p.1)) (xs : List Value) (hxs : (vs.flatMap fun v => v.cells.toList) = xs) (hv : ∀ v ∈ vs, v.cells.size = C) (hpos : 0 < vs.length) (hsm : vs.length * C ≤ 16777216) (hn : n = vs.length)
    (h : ∀ g w', Block w' g e xs → Only (fun _ => False) w w' → w.heap.size ≤ g → wpList P ops Q rest (a.put o.dst (.slice (some ⟨g, 0, none⟩) n n)) w') : wpList P ops Q (o :: rest) a w :=
  wpList_on hgd fun _ hK => wp_buildN_blk t e n parts ho ht C hs hC z hz vs hx xs hxs hv hpos hsm hn fun g w' h1 h2 h3 => hK _ _ (h g w' h1 h2 h3)
end
theorem Fresh.at {w : World} {base : Nat} {l : List UInt8} {v : Value} (h : Fresh w base l v) : ∃ A c, v = .slice A l.length c ∧ l.length ≤ c ∧ w.ownsRow base 5 1 (.slice A l.length c) l.length (bvs l) ∧ Row w w.heap.size A (bvs l) := by
  obtain ⟨A, c, rfl, h⟩ := h
  exact ⟨A, c, rfl, fresh_cap h, h, Row.own h⟩
theorem u8s (l : List UInt8) : ((bvs l).flatMap fun v => v.cells.toList) = bvs l := by
  induction l with
  | nil => rfl
  | cons x r ih =>
    have e : bvs (x :: r) = bv x :: bvs r := rfl
    rw [e, List.flatMap_cons, ih]; rfl
theorem u8cells (l : List UInt8) : ∀ v ∈ bvs l, v.cells.size = 1 := fun v hv => by
  obtain ⟨c, _, rfl⟩ := List.mem_map.1 hv; rfl
/-- b cut to so many bytes at most. -/
theorem cut_most (A : Option Addr) (c : Nat) (l : List UInt8) (N : Nat) (hc : l.length ≤ c) (w : World) : (Instr.slice 24 (.slice A l.length c) none (some (.int .i64 ((min l.length N : Nat) : Int))) none).run Try.prog w = .ok (.slice A (min l.length N) c) w := by
  rw [slice_h A l.length c .i64 _ (by omega) (by omega) w, cutAt_zero, Int.toNat_natCast]
theorem row_most {w : World} {B : Nat} {A : Option Addr} {l : List UInt8} (h : Row w B A (bvs l)) (N : Nat) : Row w B A (bvs (l.take N)) := by have := h.take N; rwa [bvs_take] at this
theorem soft_of {w : World} {base n c : Nat} {A : Option Addr} {l : List UInt8} (h : w.ownsRow base 5 1 (.slice A n c) n (bvs l)) : 0 < n → ∃ g ys, A = some ⟨g, 0, none⟩ ∧ base ≤ g ∧ Block w g 5 ys ∧ n ≤ ys.length ∧ ys.take n = bvs l := fun hp => by
  rcases h.2 with ⟨hv, h0⟩ | ⟨g, cap, cur, hv, hb, hh, hnc, _, hsz, hx⟩
  · omega
  · injection hv with hA _ _
    refine ⟨g, cur.toList, hA, hb, by unfold Block; simpa using hh, by simp only [Array.length_toList]; omega, by rw [Nat.mul_one] at hx; exact hx⟩
theorem owns_only {F : Nat → Prop} {w w' : World} {base e size n : Nat} {v : Value} {xs : List Value} (h : w.ownsRow base e size v n xs) (k : Only F w w') (hn : ∀ g, v.ownBlock = some g → ¬ F g) : w'.ownsRow base e size v n xs := by
  obtain ⟨h1, h2⟩ := h
  refine ⟨h1, ?_⟩
  rcases h2 with h2 | ⟨g, cap, cur, hv, hb, hh, r⟩
  · exact .inl h2
  · exact .inr ⟨g, cap, cur, hv, hb, by rw [k.block g (Array.getElem?_eq_some_iff.1 hh).1 (hn g (by rw [hv]; rfl))]; exact hh, r⟩
/-- Bytes of the call's own that may be written, whatever they are. -/
def SoftAt (w : World) (base : Nat) (A : Option Addr) (n : Nat) : Prop := n = 0 ∨ ∃ g ys, A = some ⟨g, 0, none⟩ ∧ base ≤ g ∧ Block w g 5 ys ∧ ∀ j, j < n → ∃ x : UInt8, ys[j]? = some (.int .u8 (x.toNat : Int))
theorem soft_owns {w : World} {base n c : Nat} {A : Option Addr} {l : List UInt8} (h : w.ownsRow base 5 1 (.slice A n c) n (bvs l)) : SoftAt w base A n := by
  rcases h.2 with ⟨_, h0⟩ | ⟨g, cap, cur, hv, hb, hh, hnc, _, hsz, hx⟩
  · exact .inl h0
  · injection hv with hA _ _
    have hl := h.1
    rw [Nat.mul_one] at hl hx
    rw [bvs_length] at hl
    refine .inr ⟨g, cur.toList, hA, hb, by unfold Block; simpa using hh, fun j hj => ⟨l.getD j 0, ?_⟩⟩
    have := bvs_at l j (by omega)
    rw [← hx, List.getElem?_take_of_lt hj] at this
    exact this
theorem SoftAt.le {w : World} {base base' n : Nat} {A : Option Addr} (h : SoftAt w base A n) (hb : base' ≤ base) : SoftAt w base' A n := by
  rcases h with h | ⟨g, ys, h1, h2, r⟩
  · exact .inl h
  · exact .inr ⟨g, ys, h1, by omega, r⟩
theorem SoftAt.kept {w w' : World} {base n : Nat} {A : Option Addr} (h : SoftAt w base A n) (hb : Below w.heap.size w w') : SoftAt w' base A n := by
  rcases h with h | ⟨g, ys, h1, h2, h3, r⟩
  · exact .inl h
  · exact .inr ⟨g, ys, h1, h2, h3.kept hb, r⟩
theorem SoftAt.grown {w w' : World} {base b2 n m : Nat} {A : Option Addr} {v : Value} {xs : List Value} (h : SoftAt w base A n) (hv : w.ownsRow b2 24 1 v m xs) (hg : w.grownBy w' v.ownBlock) : SoftAt w' base A n := by
  rcases h with h | ⟨g, ys, h1, h2, h3, r⟩
  · exact .inl h
  · exact .inr ⟨g, ys, h1, h2, h3.only (Only.grownBy hg) (fun e => owns_block_ne hv h3 (by decide) e), r⟩
theorem lay_set (xs : List Value) (o : Nat) (v : Value) (h : o < xs.length) : lay xs o [v] = xs.set o v := by
  unfold lay; rw [List.set_eq_take_append_cons_drop, if_pos h]; simp
/-- A byte is written into such memory: all of it stays such. -/
theorem SoftAt.store {w w' : World} {base n g k : Nat} {A : Option Addr} {ys : List Value} {x : UInt8} (h : SoftAt w base A n) (hB : Block w g 5 ys) (hk : k < ys.length) (hB' : Block w' g 5 (lay ys k [.int .u8 (x.toNat : Int)])) (hO : Only (fun i => i = g) w w') : SoftAt w' base A n := by
  rcases h with h | ⟨g', ys', h1, h2, h3, r⟩
  · exact .inl h
  · by_cases e : g' = g
    · subst e
      have hy : ys' = ys := by
        unfold Block at h3 hB
        rw [h3] at hB
        injection hB with hB
        injection hB with hB
        simpa using hB
      subst hy
      refine .inr ⟨g', _, h1, h2, hB', fun j hj => ?_⟩
      rw [lay_set _ _ _ hk]
      by_cases ej : k = j
      · subst ej; exact ⟨x, by rw [List.getElem?_set_self hk]⟩
      · rw [List.getElem?_set_ne ej]; exact r j hj
    · exact .inr ⟨g', ys', h1, h2, h3.only hO e, r⟩
def AllSoft (w : World) (base : Nat) (cells : List Value) : Prop := ∀ (i : Nat) (u : Value), cells[i]? = some u → ∃ A n c, u = .slice A n c ∧ n ≤ 1000000 ∧ SoftAt w base A n
theorem allSoft_of {w : World} {base : Nat} {ps : List (List UInt8)} {cells : List Value} (hl : cells.length = ps.length) (hps : ∀ p ∈ ps, p.length ≤ 1000000) (h : ∀ (i : Nat) (p : List UInt8), ps[i]? = some p → ∃ u : Value, cells[i]? = some u ∧ Fresh w base p u) : AllSoft w base cells := fun i u hu => by
  have hi : i < ps.length := by have := (List.getElem?_eq_some_iff.1 hu).1; omega
  obtain ⟨u', hu', A, c, rfl, ho⟩ := h i ps[i] (List.getElem?_eq_getElem hi)
  rw [hu] at hu'
  injection hu' with e
  exact ⟨A, _, c, e, hps _ (List.getElem_mem hi), soft_owns ho⟩
end Go.Proofs.Ythjmefjadibjjaa.Wd
