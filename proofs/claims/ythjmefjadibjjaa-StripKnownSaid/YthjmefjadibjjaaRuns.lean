/- Slices of slices of bytes that are read (Reads); runs, the last one of which may grow (RunsAt). -/
import Derived.Test.YthjmefjadibjjaaFresh
import Derived.Test.YthjmefjadibjjaaNested
namespace Go.Proofs.Ythjmefjadibjjaa.Wd
open Go.RowKit
/-- What a slice of slices of bytes reads as. -/
def Reads (w : World) (A : Option Addr) (ps : List (List UInt8)) : Prop :=
  ∀ i p, ps[i]? = some p → ∃ ad B d, A = some ad ∧ ad.block < w.heap.size ∧ w.cell? (ad.add i) = some (.slice B p.length d) ∧ p.length ≤ d ∧ Row w w.heap.size B (bvs p)
theorem Reads.below {w w' : World} {A : Option Addr} {ps : List (List UInt8)} (h : Reads w A ps) (hb : Below w.heap.size w w') : Reads w' A ps := fun i p hp => by
  obtain ⟨ad, B, d, h1, h2, h3, h4, h5⟩ := h i p hp
  exact ⟨ad, B, d, h1, Nat.lt_of_lt_of_le h2 hb.size, (hb.cell (by rw [add_block]; exact h2)).trans h3, h4, (h5.below hb).tight⟩
theorem Reads.take {w : World} {A : Option Addr} {ps : List (List UInt8)} (h : Reads w A ps) (n : Nat) : Reads w A (ps.take n) := fun i p hp => by
  by_cases hi : i < n
  · rw [List.getElem?_take_of_lt hi] at hp; exact h i p hp
  · rw [List.getElem?_eq_none (by rw [List.length_take]; omega)] at hp; cases hp
theorem reads_of {w : World} {A : Option Addr} {D : List BX} (hD : ∀ x ∈ D, BX.Fit w x) (h : Row w w.heap.size A (flat BX.vs D)) : Reads w A (D.map (·.l)) := fun i p hp => by
  rw [List.getElem?_map] at hp
  cases hx : D[i]? with
  | none => rw [hx] at hp; cases hp
  | some x =>
    rw [hx] at hp
    injection hp with hp
    subst hp
    have hf := hD x (List.mem_of_getElem? hx)
    have hc := flat_at BX.vs 1 D i 0 x hx (by decide) (fun _ _ => rfl)
    rw [Nat.mul_one, Nat.add_zero] at hc
    obtain ⟨ad, h1, h2, h3⟩ := h i _ hc
    refine ⟨ad, x.A, x.c, h1, h2, ?_, by rw [← hf.n]; exact hf.cap, hf.row⟩
    rw [h3]
    show some (Value.slice x.A x.n x.c) = _
    rw [hf.n]
theorem FreshAll.reads {w : World} {base n c : Nat} {A : Option Addr} {ps : List (List UInt8)} (h : FreshAll w base ps (.slice A n c)) : n = ps.length ∧ Reads w A ps := by
  obtain ⟨cells, ho, hc⟩ := h
  obtain ⟨A', c', hv⟩ := own_slice ho
  injection hv with e1 e2 e3
  subst e1 e2 e3
  refine ⟨rfl, fun i p hp => ?_⟩
  obtain ⟨u, hu, B, d, rfl, hf⟩ := hc i p hp
  obtain ⟨ad, h1, h2, h3⟩ := Row.own ho i _ hu
  exact ⟨ad, B, d, h1, h2, h3, fresh_cap hf, Row.own hf⟩
theorem FreshAll.slice {w : World} {base : Nat} {ps : List (List UInt8)} {v : Value} (h : FreshAll w base ps v) : ∃ A c, v = .slice A ps.length c ∧ ps.length ≤ c := by
  obtain ⟨cells, ho, _⟩ := h
  obtain ⟨A, c, rfl⟩ := own_slice ho
  exact ⟨A, c, rfl, fresh_cap ho⟩
theorem FreshAll.le {w : World} {base base' : Nat} {ps : List (List UInt8)} {v : Value} (h : FreshAll w base ps v) (hb : base' ≤ base) : FreshAll w base' ps v := by
  obtain ⟨cells, ho, hc⟩ := h
  exact ⟨cells, owns_base_le ho hb, fun i p hp => by obtain ⟨u, hu, hf⟩ := hc i p hp; exact ⟨u, hu, hf.le hb⟩⟩
/-! an own row as a block -/
theorem owns_block {w : World} {base e n : Nat} {v : Value} {xs : List Value} (h : w.ownsRow base e 1 v n xs) (hp : 0 < n) :
    ∃ g cap cur, v = .slice (some ⟨g, 0, none⟩) n cap ∧ base ≤ g ∧ Block w g e cur ∧ n ≤ cap ∧ cap ≤ maxLen ∧ cur.length = cap ∧ cur.take n = xs := by
  rcases h.2 with ⟨_, h0⟩ | ⟨g, cap, cur, hv, hb, hh, hnc, hm, hs, ht⟩
  · omega
  · exact ⟨g, cap, cur.toList, hv, hb, by unfold Block; simpa using hh, hnc, hm, by simpa using hs, by rw [Nat.mul_one] at ht; exact ht⟩
theorem owns_of_block {w : World} {base e n g cap : Nat} {cur : List Value} (hb : base ≤ g) (h : Block w g e cur) (hnc : n ≤ cap) (hm : cap ≤ maxLen) (hs : cur.length = cap) : w.ownsRow base e 1 (.slice (some ⟨g, 0, none⟩) n cap) n (cur.take n) :=
  ⟨by rw [List.length_take, Nat.mul_one]; omega, .inr ⟨g, cap, cur.toArray, rfl, hb, h, hnc, hm, by simpa using hs, by simp⟩⟩
/-! runs -/
/-- Runs of the call's own: those ahead of the last one lie below a mark, the last one above it, so that it may grow. -/
def RunsAt (w : World) (base : Nat) (rs : List (List UInt8)) (v : Value) : Prop :=
  ∃ cells mark, w.ownsRow base 24 1 v rs.length cells ∧ base ≤ mark ∧ mark ≤ w.heap.size ∧
    ∀ (i : Nat) (p : List UInt8), rs[i]? = some p → ∃ u : Value, cells[i]? = some u ∧ ((i + 1 = rs.length ∧ Fresh w mark p u) ∨ (i + 1 ≠ rs.length ∧ Fresh w base p u ∧ ∀ g, u.ownBlock = some g → g < mark))
theorem RunsAt.fresh {w : World} {base : Nat} {rs : List (List UInt8)} {v : Value} (h : RunsAt w base rs v) : FreshAll w base rs v := by
  obtain ⟨cells, mark, h1, h2, _, h4⟩ := h
  refine ⟨cells, h1, fun i p hp => ?_⟩
  obtain ⟨u, hu, h | h⟩ := h4 i p hp
  · exact ⟨u, hu, h.2.le h2⟩
  · exact ⟨u, hu, h.2.1⟩
theorem runsAt_nil (w : World) (base : Nat) (hb : base ≤ w.heap.size) : RunsAt w base [] (.slice none 0 0) := ⟨[], base, World.ownsRow_nil _ _ _ _, Nat.le_refl _, hb, fun _ _ h => by simp at h⟩
theorem RunsAt.kept {w w' : World} {base : Nat} {rs : List (List UInt8)} {v : Value} (h : RunsAt w base rs v) (hb : Below w.heap.size w w') : RunsAt w' base rs v := by
  obtain ⟨cells, mark, h1, h2, h3, h4⟩ := h
  refine ⟨cells, mark, owns_kept h1 hb, h2, Nat.le_trans h3 hb.size, fun i p hp => ?_⟩
  obtain ⟨u, hu, h | h⟩ := h4 i p hp
  · exact ⟨u, hu, .inl ⟨h.1, h.2.kept hb⟩⟩
  · exact ⟨u, hu, .inr ⟨h.1, h.2.1.kept hb, h.2.2⟩⟩
/-- A block of another kind changes: the runs stay. -/
theorem RunsAt.only {w w' : World} {base x e : Nat} {rs : List (List UInt8)} {v : Value} {ys : List Value} (h : RunsAt w base rs v) (hx : Block w x e ys) (hO : Only (fun i => i = x) w w') (_ : w'.heap.size = w.heap.size) (h1 : 24 ≠ e := by decide) (h2 : 5 ≠ e := by decide) : RunsAt w' base rs v := by
  obtain ⟨cells, mark, o1, o2, o3, o4⟩ := h
  have hf : ∀ (b : Nat) (l : List UInt8) (u : Value), Fresh w b l u → Fresh w' b l u := fun b l u hu => by
    obtain ⟨A, c, rfl, ho⟩ := hu
    exact ⟨A, c, rfl, owns_only ho hO (fun g hg e => by subst e; exact owns_block_ne ho hx h2 hg)⟩
  refine ⟨cells, mark, owns_only o1 hO (fun g hg e => by subst e; exact owns_block_ne o1 hx h1 hg), o2, Nat.le_trans o3 hO.size, fun i p hp => ?_⟩
  obtain ⟨u, hu, h | h⟩ := o4 i p hp
  · exact ⟨u, hu, .inl ⟨h.1, hf _ _ _ h.2⟩⟩
  · exact ⟨u, hu, .inr ⟨h.1, hf _ _ _ h.2.1, h.2.2⟩⟩
/-- Fresh memory lies below the heap's end. -/
theorem Fresh.lt {w : World} {base : Nat} {l : List UInt8} {u : Value} (h : Fresh w base l u) : ∀ g, u.ownBlock = some g → base ≤ g ∧ g < w.heap.size := fun g hg => by
  obtain ⟨A, c, rfl, h⟩ := h
  exact h.lt g hg
/-- A new run, empty yet. -/
theorem RunsAt.push {w w' : World} {base n : Nat} {rs : List (List UInt8)} {v v' : Value} {cells : List Value} (h1 : w.ownsRow base 24 1 v n cells) (hn : n = rs.length) (h2 : ∀ (i : Nat) (p : List UInt8), rs[i]? = some p → ∃ u : Value, cells[i]? = some u ∧ Fresh w base p u)
    (h' : w'.ownsRow base 24 1 v' (n + 1) (cells ++ [.slice none 0 0])) (hg : w.grownBy w' v.ownBlock) (hb : base ≤ w'.heap.size) : RunsAt w' base (rs ++ [[]]) v' := by
  subst hn
  have hcl : cells.length = rs.length := by have := h1.1; rwa [Nat.mul_one] at this
  refine ⟨cells ++ [.slice none 0 0], w'.heap.size, by rw [List.length_append]; exact h', hb, Nat.le_refl _, fun i q hq => ?_⟩
  by_cases hi : i < rs.length
  · rw [List.getElem?_append_left hi] at hq
    obtain ⟨x, hx, hf⟩ := h2 i q hq
    have hf' := hf.grown h1 hg
    exact ⟨x, by rw [List.getElem?_append_left (by omega)]; exact hx, .inr ⟨by simp; omega, hf', fun g hg => (hf'.lt g hg).2⟩⟩
  · rw [List.getElem?_append_right (by omega)] at hq
    have h0 : i - rs.length = 0 := by have := (List.getElem?_eq_some_iff.1 hq).1; simp at this; omega
    rw [h0] at hq
    simp at hq
    subst hq
    exact ⟨.slice none 0 0, by rw [List.getElem?_append_right (by omega), hcl, h0]; rfl, .inl ⟨by simp; omega, fresh_nil _ _⟩⟩
/-- The last run, as what may grow. -/
theorem RunsAt.last {w : World} {base : Nat} {a : List (List UInt8)} {q : List UInt8} {v : Value} (h : RunsAt w base (a ++ [q]) v) :
    ∃ g cap cur mark Q c, v = .slice (some ⟨g, 0, none⟩) (a.length + 1) cap ∧ base ≤ g ∧ Block w g 24 cur ∧ cur[a.length]? = some (.slice Q q.length c) ∧ cur.length = cap ∧ a.length < cap ∧ base ≤ mark ∧ mark ≤ w.heap.size ∧ w.ownsRow mark 5 1 (.slice Q q.length c) q.length (bvs q) ∧
      ∀ (w1 w2 : World) (Q' : Option Addr) (q' : List UInt8) (c' : Nat), w.grownBy w1 (Value.slice Q q.length c).ownBlock → w1.ownsRow mark 5 1 (.slice Q' q'.length c') q'.length (bvs q') → Block w2 g 24 (lay cur a.length [.slice Q' q'.length c']) → Only (fun i => i = g) w1 w2 → RunsAt w2 base (a ++ [q']) v := by
  obtain ⟨cells, mark, h1, h2, h3, h4⟩ := h
  rw [List.length_append, List.length_singleton] at h1
  obtain ⟨g, cap, cur, hv, hg, hB, hnc, hm, hl, ht⟩ := owns_block h1 (by omega)
  subst hv
  obtain ⟨u, hu, h5⟩ := h4 a.length q (by rw [List.getElem?_append_right (Nat.le_refl _), Nat.sub_self]; rfl)
  have h6 : Fresh w mark q u := by
    rcases h5 with ⟨_, h⟩ | ⟨hne, _⟩
    · exact h
    · exact absurd (by simp) hne
  obtain ⟨Q, c, rfl, ho⟩ := h6
  have hcu : cur[a.length]? = some (.slice Q q.length c) := by rw [← ht, List.getElem?_take_of_lt (by omega)] at hu; exact hu
  refine ⟨g, cap, cur, mark, Q, c, rfl, hg, hB, hcu, hl, by omega, h2, h3, ho, fun w1 w2 Q' q' c' hgr ho' hB2 hO => ?_⟩
  have hlt : a.length < cur.length := (List.getElem?_eq_some_iff.1 hcu).1
  rw [lay_set _ _ _ hlt] at hB2
  have hset : (cur.set a.length (.slice Q' q'.length c')).take (a.length + 1) = (cells.set a.length (.slice Q' q'.length c')) := by rw [← ht, List.take_set]
  have ho2 := owns_of_block (base := base) (n := a.length + 1) (cap := cap) hg hB2 hnc hm (by rw [List.length_set]; exact hl)
  rw [hset] at ho2
  have hcl : cells.length = a.length + 1 := by rw [← ht, List.length_take]; omega
  have hgu : ∀ b, (Value.slice Q q.length c).ownBlock = some b → b ≠ g := fun b hb e => by
    subst e
    exact owns_block_ne ho hB (by decide) hb
  have hgu' : ∀ b, (Value.slice Q' q'.length c').ownBlock = some b → ¬ b = g := fun b hb e => by
    subst e
    have hB1 : Block w1 b 24 cur := hB.only (Only.grownBy hgr) (fun h => hgu _ h rfl)
    exact owns_block_ne ho' hB1 (by decide) hb
  refine ⟨_, mark, by rw [List.length_append, List.length_singleton]; exact ho2, h2, by have := hgr.size; have := hO.size; omega, fun i p hp => ?_⟩
  by_cases hi : i < a.length
  · rw [List.getElem?_append_left hi] at hp
    obtain ⟨x, hx, hx'⟩ := h4 i p (by rw [List.getElem?_append_left hi]; exact hp)
    rcases hx' with ⟨he, _⟩ | ⟨_, hf, hm⟩
    · simp at he; omega
    · refine ⟨x, by rw [List.getElem?_set_ne (by omega)]; exact hx, .inr ⟨by simp; omega, ?_, hm⟩⟩
      obtain ⟨X, cx, rfl, hox⟩ := hf
      have hne : (Value.slice X p.length cx).ownBlock = none ∨ (Value.slice X p.length cx).ownBlock ≠ (Value.slice Q q.length c).ownBlock := by
        cases hb : (Value.slice X p.length cx).ownBlock with
        | none => exact .inl rfl
        | some b =>
          refine .inr fun e => ?_
          have h1 := hm b hb
          have h2 := (ho.lt b e.symm).1
          omega
      have hox1 := hox.kept hgr hne
      refine ⟨X, cx, rfl, owns_only hox1 hO (fun b hb e => ?_)⟩
      subst e
      exact owns_block_ne hox hB (by decide) hb
  · rw [List.getElem?_append_right (by omega)] at hp
    have h0 : i = a.length := by have := (List.getElem?_eq_some_iff.1 hp).1; simp at this; omega
    subst h0
    rw [Nat.sub_self] at hp
    simp at hp
    subst hp
    exact ⟨_, List.getElem?_set_self (by omega), .inl ⟨by simp, Q', c', rfl, owns_only ho' hO hgu'⟩⟩
end Go.Proofs.Ythjmefjadibjjaa.Wd
