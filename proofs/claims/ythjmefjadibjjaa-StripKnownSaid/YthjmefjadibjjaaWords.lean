/- Words for memory that all walks of this seat share: a slice's row of cells (nil let in), what stays of it while blocks are added, an append whose source may be nil, bytes as cells. -/
import Derived.Test.YthjmefjadibjjaaRows
import Derived.WalkKit
import Derived.ProofKit
import Derived.OpenShut
import Derived.Maps.AppendAt
import Derived.Deep.AppendLies
import Derived.Lib.Hide
import Derived.Deep.QuietTactic
import Derived.BigQuiet
namespace Go.Proofs.Ythjmefjadibjjaa.Wd
open Go.RowKit

/-- Where a slice value reads cell k, it has an address below block B, and the cell holds this. -/
def Row (w : World) (B : Nat) (A : Option Addr) (xs : List Value) : Prop :=
  ∀ k u, xs[k]? = some u → ∃ ad, A = some ad ∧ ad.block < B ∧ w.cell? (ad.add k) = some u

theorem add_block (a : Addr) (n : Nat) : (a.add n).block = a.block := by unfold Addr.add; split <;> rfl
theorem Row.nil (w : World) (B : Nat) (A : Option Addr) : Row w B A [] := fun k u h => by simp at h
theorem Row.keep {w w' : World} {B : Nat} {A : Option Addr} {xs : List Value} (h : Row w B A xs) (hk : ∀ p : Addr, p.block < B → w'.cell? p = w.cell? p) : Row w' B A xs := fun k u hu => by
  obtain ⟨ad, e, hb, hc⟩ := h k u hu
  exact ⟨ad, e, hb, (hk _ (by rw [add_block]; exact hb)).trans hc⟩
theorem Row.below {w w' : World} {B : Nat} {A : Option Addr} {xs : List Value} (h : Row w B A xs) (hb : Below B w w') : Row w' B A xs := h.keep fun _ hp => hb.cell hp
theorem Row.more {w : World} {B B' : Nat} {A : Option Addr} {xs : List Value} (h : Row w B A xs) (hB : B ≤ B') : Row w B' A xs := fun k u hu => by
  obtain ⟨ad, e, hb, hc⟩ := h k u hu
  exact ⟨ad, e, by omega, hc⟩
theorem Row.some {w : World} {B : Nat} {ad : Addr} {xs : List Value} (h : Row w B (some ad) xs) (j : Nat) (u : Value) (hu : xs[j]? = some u) : w.cell? (ad.add j) = some u := by
  obtain ⟨ad', e, _, hc⟩ := h j u hu
  injection e with e; subst e; exact hc
theorem Row.none {w : World} {B : Nat} {xs : List Value} (h : Row w B none xs) : xs = [] := by
  cases xs with
  | nil => rfl
  | cons x l => obtain ⟨_, e, _⟩ := h 0 x rfl; cases e
theorem Row.take {w : World} {B : Nat} {A : Option Addr} {xs : List Value} (h : Row w B A xs) (n : Nat) : Row w B A (xs.take n) := fun k u hu => by
  by_cases hk : k < n
  · rw [List.getElem?_take_of_lt hk] at hu; exact h k u hu
  · rw [List.getElem?_eq_none (by simp; omega)] at hu; cases hu
/-- Of a row of the call's own. -/
theorem Row.own {w : World} {base e n c : Nat} {A : Option Addr} {xs : List Value} (h : w.ownsRow base e 1 (.slice A n c) n xs) : Row w w.heap.size A xs := fun k u hu => by
  have hl := h.1
  have hk : k < xs.length := (List.getElem?_eq_some_iff.1 hu).1
  obtain ⟨g, cap, hv, _, hlt⟩ := h.form (by omega)
  have hA : A = .some ⟨g, 0, .none⟩ := by injection hv
  subst hA
  exact ⟨_, rfl, hlt, h.cells (g := g) rfl k u hu⟩

/-- append of nothing. -/
theorem run_append_none {P : Program} (w : World) (base : Nat) (t ty e : TypeId) (i : TypeInfo) (size : Nat) (ht : P.underlying t = some (.slice e)) (hi : P.info? e = some i)
    (v : Value) (n : Nat) (xs : List Value) (hown : w.ownsRow base e size v n xs) (c : Nat) : (Builtin.append_ #[t, t] ty #[v, .slice .none 0 c]).run P w = .ok v w := by
  rcases hown.2 with ⟨rfl, rfl⟩ | ⟨g, cap, cur, rfl, _, _, hnc, _⟩
  · simp [Builtin.append_, run_underlying ht, sizeOf, typeInfo, hi, Builtin.lenOf, Builtin.firstCells]
  · simp [Builtin.append_, run_underlying ht, sizeOf, typeInfo, hi, Builtin.lenOf, Builtin.firstCells, hnc, storeCells]

/-- append onto a row of the call's own; the source a row, nil or not, of one cell an element. -/
theorem wpList_append_row {P : Program} {w : World} {ops : Array Oper} {rest : List Oper} {o : Oper} {a : Act} {Q : Exit → Act → World → Prop} (hgd : o.guard = .none) (s x : Operand) (t : TypeId)
    (ho : o.op = .call { callee := .builtin .append, args := #[s, x], argTypes := #[t, t] })
    (base : Nat) (e : TypeId) (i : TypeInfo) (z : Value) (bytes : Nat) (ht : P.underlying t = .some (.slice e)) (hi : P.info? e = .some i) (hz : i.zero = .some z)
    (hsize : i.size = 1) (hby : i.bytes = bytes) (hzs : z.cells.size = 1)
    (v : Value) (n : Nat) (xs : List Value) (hs : a.eval s = v) (hown : w.ownsRow base e 1 v n xs)
    (B : Nat) (A : Option Addr) (m c : Nat) (news : List Value) (hx : a.eval x = .slice A m c) (hl : news.length = m) (hr : Row w B A news) (h1 : ∀ u ∈ news, u.oneCell' = true)
    (h63 : n + m ≤ maxLen) (hbytes : (n + m) * bytes ≤ 140737488355328) (hbase : base ≤ w.heap.size)
    (h : ∀ v' w', w'.ownsRow base e 1 v' (n + m) (xs ++ news) → w.grownBy w' v.ownBlock → wpList P ops Q rest (a.put o.dst v') w') : wpList P ops Q (o :: rest) a w := by
  cases A with
  | none =>
    have hn := hr.none
    subst hn
    have hm : m = 0 := hl.symm
    subst hm
    refine wpList_plain hgd fun K hK => ?_
    have hrun := run_append_none (P := P) w base t o.type e i 1 ht hi v n xs hown c
    unfold Oper.wp
    simp [execOp, ho, resolve, invoke, builtin, hs, hx, hrun, Result.andThen]
    exact hK _ _ (h v w (by simpa using hown) ⟨rfl, rfl, rfl, Nat.le_refl _, fun _ _ _ => rfl⟩)
  | some ad =>
    exact wpList_append_own w hgd s x t ho base e i z 1 bytes ht hi hz hsize hby hzs (by decide) v n xs hs hown ad m c news hx (by omega) (fun j u hu => hr.some j u hu) h1 h63 hbytes hbase fun v' w' h2 h3 _ => h v' w' h2 h3

/-! A block of the call's own that is known whole. -/
def Block (w : World) (b e : Nat) (xs : List Value) : Prop := w.heap[b]? = Option.some (.cells xs.toArray e (0, 0))
section
variable {w w' : World} {b e : Nat} {xs : List Value}
theorem Block.lt (h : Block w b e xs) : b < w.heap.size := (Array.getElem?_eq_some_iff.1 h).1
theorem Block.cell (h : Block w b e xs) {k : Nat} {u : Value} (hu : xs[k]? = Option.some u) : w.cell? ⟨b, k, Option.none⟩ = Option.some u := by
  unfold World.cell?; rw [show w.heap[(⟨b, k, Option.none⟩ : Addr).block]? = _ from h]; simpa using hu
theorem Block.free (h : Block w b e xs) (k : Nat) : w.frozen? ⟨b, k, Option.none⟩ = false := by
  unfold World.frozen?; rw [show w.heap[(⟨b, k, Option.none⟩ : Addr).block]? = _ from h]; simp
theorem Block.set (h : Block w b e xs) (k : Nat) (v : Value) : Block (w.setCell ⟨b, k, Option.none⟩ v) b e (xs.set k v) := by
  unfold Block; rw [heap_setCell_same w b k _ e v h]; simp
theorem Block.other (h : Block w b e xs) (a : Addr) (v : Value) (hne : b ≠ a.block) : Block (w.setCell a v) b e xs := (heap_setCell_other w a b v hne).trans h
theorem Block.alloc (h : Block w b e xs) (o : Obj) : Block (w.alloc o) b e xs := (Below.heap_alloc w o b h.lt).trans h
theorem Block.drewN (h : Block w b e xs) (n : Nat) : Block (w.drewN n) b e xs := h
theorem Block.drew (h : Block w b e xs) : Block w.drew b e xs := h
theorem Block.below {B : Nat} (h : Block w b e xs) (hb : Below B w w') (hB : b < B) : Block w' b e xs := (hb.block b hB).trans h
theorem Block.kept (h : Block w b e xs) (hb : Below w.heap.size w w') : Block w' b e xs := h.below hb h.lt
theorem Block.new (w : World) (C : Array Value) (e : Nat) : Block (w.alloc (.cells C e)) w.heap.size e C.toList := by
  unfold Block; rw [heap_alloc_new w _]
theorem Block.row (h : Block w b e xs) : Row w w.heap.size (Option.some ⟨b, 0, Option.none⟩) xs := fun k u hu =>
  ⟨_, rfl, h.lt, by rw [Addr.add_lit, Nat.zero_add]; exact h.cell hu⟩
end

/-! bytes as cells -/
def bv (c : UInt8) : Value := .int .u8 (c.toNat : Int)
def bvs (l : List UInt8) : List Value := l.map bv
theorem bvs_length (l : List UInt8) : (bvs l).length = l.length := by simp [bvs]
theorem bvs_at (l : List UInt8) (k : Nat) (h : k < l.length) : (bvs l)[k]? = some (bv (l.getD k 0)) := by
  simp [bvs, List.getD, h]
theorem bvs_take (l : List UInt8) (n : Nat) : (bvs l).take n = bvs (l.take n) := by simp [bvs, List.map_take]
theorem bvs_one (l : List UInt8) : ∀ u ∈ bvs l, u.oneCell' = true := by
  intro u hu
  obtain ⟨c, _, rfl⟩ := List.mem_map.1 hu
  rfl
/-- Byte k of a row of bytes. -/
theorem Row.byte {w : World} {B : Nat} {A : Option Addr} {l : List UInt8} (h : Row w B A (bvs l)) {k : Nat} (hk : k < l.length) :
    ∃ ad, A = .some ad ∧ ad.block < B ∧ w.cell? (ad.add k) = .some (.int .u8 ((l.getD k 0).toNat : Int)) := h k _ (bvs_at l k hk)
theorem u8_le (c : UInt8) : (c.toNat : Int) ≤ 255 := by have := c.toNat_lt; omega
theorem take_getD (l : List UInt8) (k : Nat) (h : k < l.length) : l.take (k + 1) = l.take k ++ [l.getD k 0] := by
  rw [List.take_succ_eq_append_getElem h]; simp [List.getD, h]

/-- numbers that fit a byte, as bytes -/
def ofInts (zs : List Int) : List UInt8 := zs.map fun z => UInt8.ofNat z.toNat
theorem ofInts_length (zs : List Int) : (ofInts zs).length = zs.length := by simp [ofInts]
/-- A slice of bytes that came in, as a row. -/
theorem row_of_ints {w : World} {x : Addr} {zs : List Int} (hcell : ∀ i, i < zs.length → w.cell? (x.add i) = .some (.int .u8 (zs.getD i 0))) (hwz : ∀ n ∈ zs, (Lit.int .u8 n).wf = true)
    (hlt : ∀ i, i < zs.length → (x.add i).block < w.heap.size) (n : Nat) : Row w w.heap.size (.some x) (bvs (ofInts (zs.take n))) := fun k u hu => by
  have hk : k < (zs.take n).length := by
    have := (List.getElem?_eq_some_iff.1 hu).1; simpa [bvs, ofInts] using this
  have hk2 : k < zs.length := by simp at hk; omega
  have hb := hlt k hk2
  rw [add_block] at hb
  refine ⟨x, rfl, hb, ?_⟩
  rw [hcell k hk2]
  have hw := bounds_u8 (hwz zs[k] (List.getElem_mem hk2))
  have hu2 : u = bv (UInt8.ofNat (zs[k]).toNat) := by
    have hkn : k < n := by simp at hk; omega
    simp only [bvs, ofInts, List.getElem?_map, List.getElem?_take_of_lt hkn, List.getElem?_eq_getElem hk2, Option.map_some, Option.some.injEq] at hu
    exact hu.symm
  subst hu2
  unfold bv
  have hz : zs.getD k 0 = zs[k] := by simp [List.getD, hk2]
  rw [hz, UInt8.toNat_ofNat']
  congr 2
  omega
/-- One behind the other: nothing that was there changes. -/
theorem bthen {a b c : World} (h : Below a.heap.size a b) (k : Below b.heap.size b c) : Below a.heap.size a c := h.trans (k.mono h.size)
/-! draws -/
theorem drawn_below (B : Nat) (w : World) (n : Nat) : Below B w (w.drewN n) := ⟨rfl, rfl, rfl, Nat.le_refl _, fun _ _ => rfl⟩
theorem quiet_left {P : Program} {f : FuncId} {args : Array Value} {w : World} {n : Nat} {v : Value}
    (h : Calls P f args (w.drewN n) fun e w' => e = .returned v ∧ w.drewN n = w') : Calls P f args (w.drewN n) fun e w'' => e = .returned v ∧ ∃ m, w'' = w.drewN m :=
  h.mono fun _ _ ⟨he, hm⟩ => ⟨he, n, hm.symm⟩
end Go.Proofs.Ythjmefjadibjjaa.Wd
