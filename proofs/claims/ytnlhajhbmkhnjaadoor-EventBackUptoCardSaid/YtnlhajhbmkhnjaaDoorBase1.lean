/- Texts of the walk, merged: Words, Only, Nested, ValMath, CopyBytes, Made, Cut, Act, Build, Guarded, Fresh, ValAt, ValOwn, ValName, ValNames, ValSize, ValShape, ValSpend, Shelf, Plan. -/
import Derived.Test.YtnlhajhbmkhnjaaDoorRows
import Derived.WalkKit
import Derived.ProofKit
import Derived.OpenShut
import Derived.Maps.AppendAt
import Derived.Deep.AppendLies
import Derived.Lib.Hide
import Derived.Deep.QuietTactic
import Derived.BigQuiet
import Derived.Deep.MidRow
import Derived.Deep.Slices
import Derived.Deep.Fields
import Derived.ChangeSame
import Derived.SizedLaws
import Derived.Laws.CopyOwn
import Derived.Deep.RegionHeld3
import Derived.StillTailTactics
import Derived.Laws.MakeOwn
import Derived.WalkSpells
import Derived.OwnWalk
import Derived.Lib.MinMax
import Derived.Lib.Strings
import Derived.Shelf.Strings.Builder1
import Derived.Shelf.Strings.Builder2
import Derived.Shelf.Strings.OnBuilder
import Derived.Shelf.Small.Bits
import Derived.Shelf.Small.Wraps
import Derived.Shelf.Strings.BuilderF
import Derived.Shelf.Strings.BuilderK
import Derived.Shelf.Strings.Builder2Cap
import Derived.Shelf.Strconv.Itoa0
import Derived.Shelf.Strconv.Itoa1
import Derived.Shelf.LaysM
import Derived.Shelf.Strconv.Itoa2
import Derived.Shelf.Strconv.Itoa3
import Derived.Shelf.Strings.Search1
import Derived.Shelf.Strings.Search2
import Derived.Shelf.Strings.Cut
import Derived.Shelf.Strings.Shaped
import Derived.Shelf.Strings.Prefix
import Derived.Shelf.Strings.BuilderCap
import Derived.Shelf.Slices.Equal
import Derived.Ground.Names2Prog
import Derived.Shelf.Slices.SearchI
import Derived.Shelf.Slices.Empties2
import Derived.Ground.SlbCloneProg
import Derived.Shelf.Bytes.SlClone
import Derived.Ground.SlbNamesProg
import Derived.Shelf.Bytes.SlJoin
import Derived.Test.YtnlhajhbmkhnjaaDoorProg
import Derived.OrdersHeld
import Derived.RegionTactic
import Derived.KernelRfl
/- Words for memory that all walks of this seat share: a slice's row of cells (nil let in), what stays of it while blocks are added, an append whose source may be nil, bytes as cells. -/









namespace Go.Proofs.YtnlhajhbmkhnjaaDoor.Wd
open Go.RowKit

/-- Where a slice value reads cell k, it has an address below block B, and the cell holds this. -/
def Row (w : World) (B : Nat) (A : Option Addr) (xs : List Value) : Prop :=
  ∀ k u, xs[k]? = some u → ∃ ad, A = some ad ∧ ad.block < B ∧ w.cell? (ad.add k) = some u

theorem add_block (a : Addr) (n : Nat) : (a.add n).block = a.block := by unfold Addr.add; split <;> rfl
theorem Row.nil (w : World) (B : Nat) (A : Option Addr) : Row w B A [] := fun k u h => by simp at h
theorem Row.keep {w w' : World} {B : Nat} {A : Option Addr} {xs : List Value} (h : Row w B A xs) (hk : ∀ p : Addr, p.block < B → w'.cell? p = w.cell? p) : Row w' B A xs := fun k u hu => by
  obtain ⟨ad, e, hb, hc⟩ := h k u hu
  exact ⟨ad, e, hb, (hk _ (by rw [add_block]; exact hb)).trans hc⟩
theorem Row.below {w w' : World} {B : Nat} {A : Option Addr} {xs : List Value} (h : Row w B A xs) (hb : Below B w w') : Row w' B A xs := h.keep fun _ hp => hb.cell hp
theorem Row.more {w : World} {B B' : Nat} {A : Option Addr} {xs : List Value} (h : Row w B A xs) (hB : B ≤ B') : Row w B' A xs := fun k u hu => by
  obtain ⟨ad, e, hb, hc⟩ := h k u hu
  exact ⟨ad, e, by omega, hc⟩
theorem Row.some {w : World} {B : Nat} {ad : Addr} {xs : List Value} (h : Row w B (some ad) xs) (j : Nat) (u : Value) (hu : xs[j]? = some u) : w.cell? (ad.add j) = some u := by
  obtain ⟨ad', e, _, hc⟩ := h j u hu
  injection e with e; subst e; exact hc
theorem Row.none {w : World} {B : Nat} {xs : List Value} (h : Row w B none xs) : xs = [] := by
  cases xs with
  | nil => rfl
  | cons x l => obtain ⟨_, e, _⟩ := h 0 x rfl; cases e
theorem Row.take {w : World} {B : Nat} {A : Option Addr} {xs : List Value} (h : Row w B A xs) (n : Nat) : Row w B A (xs.take n) := fun k u hu => by
  by_cases hk : k < n
  · rw [List.getElem?_take_of_lt hk] at hu; exact h k u hu
  · rw [List.getElem?_eq_none (by simp; omega)] at hu; cases hu
/-- Of a row of the call's own. -/
theorem Row.own {w : World} {base e n c : Nat} {A : Option Addr} {xs : List Value} (h : w.ownsRow base e 1 (.slice A n c) n xs) : Row w w.heap.size A xs := fun k u hu => by
  have hl := h.1
  have hk : k < xs.length := (List.getElem?_eq_some_iff.1 hu).1
  obtain ⟨g, cap, hv, _, hlt⟩ := h.form (by omega)
  have hA : A = .some ⟨g, 0, .none⟩ := by injection hv
  subst hA
  exact ⟨_, rfl, hlt, h.cells (g := g) rfl k u hu⟩

/-- append of nothing. -/
theorem run_append_none {P : Program} (w : World) (base : Nat) (t ty e : TypeId) (i : TypeInfo) (size : Nat) (ht : P.underlying t = some (.slice e)) (hi : P.info? e = some i)
    (v : Value) (n : Nat) (xs : List Value) (hown : w.ownsRow base e size v n xs) (c : Nat) : (Builtin.append_ #[t, t] ty #[v, .slice .none 0 c]).run P w = .ok v w := by
  rcases hown.2 with ⟨rfl, rfl⟩ | ⟨g, cap, cur, rfl, _, _, hnc, _⟩
  · simp [Builtin.append_, run_underlying ht, sizeOf, typeInfo, hi, Builtin.lenOf, Builtin.firstCells]
  · simp [Builtin.append_, run_underlying ht, sizeOf, typeInfo, hi, Builtin.lenOf, Builtin.firstCells, hnc, storeCells]

/-- append onto a row of the call's own; the source a row, nil or not, of one cell an element. -/
theorem wpList_append_row {P : Program} {w : World} {ops : Array Oper} {rest : List Oper} {o : Oper} {a : Act} {Q : Exit → Act → World → Prop} (hgd : o.guard = .none) (s x : Operand) (t : TypeId)
    (ho : o.op = .call { callee := .builtin .append, args := #[s, x], argTypes := #[t, t] })
    (base : Nat) (e : TypeId) (i : TypeInfo) (z : Value) (bytes : Nat) (ht : P.underlying t = .some (.slice e)) (hi : P.info? e = .some i) (hz : i.zero = .some z)
    (hsize : i.size = 1) (hby : i.bytes = bytes) (hzs : z.cells.size = 1)
    (v : Value) (n : Nat) (xs : List Value) (hs : a.eval s = v) (hown : w.ownsRow base e 1 v n xs)
    (B : Nat) (A : Option Addr) (m c : Nat) (news : List Value) (hx : a.eval x = .slice A m c) (hl : news.length = m) (hr : Row w B A news) (h1 : ∀ u ∈ news, u.oneCell' = true)
    (h63 : n + m ≤ maxLen) (hbytes : (n + m) * bytes ≤ 140737488355328) (hbase : base ≤ w.heap.size)
    (h : ∀ v' w', w'.ownsRow base e 1 v' (n + m) (xs ++ news) → w.grownBy w' v.ownBlock → wpList P ops Q rest (a.put o.dst v') w') : wpList P ops Q (o :: rest) a w := by
  cases A with
  | none =>
    have hn := hr.none
    subst hn
    have hm : m = 0 := hl.symm
    subst hm
    refine wpList_plain hgd fun K hK => ?_
    have hrun := run_append_none (P := P) w base t o.type e i 1 ht hi v n xs hown c
    unfold Oper.wp
    simp [execOp, ho, resolve, invoke, builtin, hs, hx, hrun, Result.andThen]
    exact hK _ _ (h v w (by simpa using hown) ⟨rfl, rfl, rfl, Nat.le_refl _, fun _ _ _ => rfl⟩)
  | some ad =>
    exact wpList_append_own w hgd s x t ho base e i z 1 bytes ht hi hz hsize hby hzs (by decide) v n xs hs hown ad m c news hx (by omega) (fun j u hu => hr.some j u hu) h1 h63 hbytes hbase fun v' w' h2 h3 _ => h v' w' h2 h3

/-! A block of the call's own that is known whole. -/
def Block (w : World) (b e : Nat) (xs : List Value) : Prop := w.heap[b]? = Option.some (.cells xs.toArray e (0, 0))
section
variable {w w' : World} {b e : Nat} {xs : List Value}
theorem Block.lt (h : Block w b e xs) : b < w.heap.size := (Array.getElem?_eq_some_iff.1 h).1
theorem Block.cell (h : Block w b e xs) {k : Nat} {u : Value} (hu : xs[k]? = Option.some u) : w.cell? ⟨b, k, Option.none⟩ = Option.some u := by
  unfold World.cell?; rw [show w.heap[(⟨b, k, Option.none⟩ : Addr).block]? = _ from h]; simpa using hu
theorem Block.free (h : Block w b e xs) (k : Nat) : w.frozen? ⟨b, k, Option.none⟩ = false := by
  unfold World.frozen?; rw [show w.heap[(⟨b, k, Option.none⟩ : Addr).block]? = _ from h]; simp
theorem Block.set (h : Block w b e xs) (k : Nat) (v : Value) : Block (w.setCell ⟨b, k, Option.none⟩ v) b e (xs.set k v) := by
  unfold Block; rw [heap_setCell_same w b k _ e v h]; simp
theorem Block.other (h : Block w b e xs) (a : Addr) (v : Value) (hne : b ≠ a.block) : Block (w.setCell a v) b e xs := (heap_setCell_other w a b v hne).trans h
theorem Block.alloc (h : Block w b e xs) (o : Obj) : Block (w.alloc o) b e xs := (Below.heap_alloc w o b h.lt).trans h
theorem Block.drewN (h : Block w b e xs) (n : Nat) : Block (w.drewN n) b e xs := h
theorem Block.drew (h : Block w b e xs) : Block w.drew b e xs := h
theorem Block.below {B : Nat} (h : Block w b e xs) (hb : Below B w w') (hB : b < B) : Block w' b e xs := (hb.block b hB).trans h
theorem Block.kept (h : Block w b e xs) (hb : Below w.heap.size w w') : Block w' b e xs := h.below hb h.lt
theorem Block.new (w : World) (C : Array Value) (e : Nat) : Block (w.alloc (.cells C e)) w.heap.size e C.toList := by
  unfold Block; rw [heap_alloc_new w _]
theorem Block.row (h : Block w b e xs) : Row w w.heap.size (Option.some ⟨b, 0, Option.none⟩) xs := fun k u hu =>
  ⟨_, rfl, h.lt, by rw [Addr.add_lit, Nat.zero_add]; exact h.cell hu⟩
end

/-! bytes as cells -/
def bv (c : UInt8) : Value := .int .u8 (c.toNat : Int)
def bvs (l : List UInt8) : List Value := l.map bv
theorem bvs_length (l : List UInt8) : (bvs l).length = l.length := by simp [bvs]
theorem bvs_at (l : List UInt8) (k : Nat) (h : k < l.length) : (bvs l)[k]? = some (bv (l.getD k 0)) := by
  simp [bvs, List.getD, h]
theorem bvs_take (l : List UInt8) (n : Nat) : (bvs l).take n = bvs (l.take n) := by simp [bvs, List.map_take]
theorem bvs_one (l : List UInt8) : ∀ u ∈ bvs l, u.oneCell' = true := by
  intro u hu
  obtain ⟨c, _, rfl⟩ := List.mem_map.1 hu
  rfl
/-- Byte k of a row of bytes. -/
theorem Row.byte {w : World} {B : Nat} {A : Option Addr} {l : List UInt8} (h : Row w B A (bvs l)) {k : Nat} (hk : k < l.length) :
    ∃ ad, A = .some ad ∧ ad.block < B ∧ w.cell? (ad.add k) = .some (.int .u8 ((l.getD k 0).toNat : Int)) := h k _ (bvs_at l k hk)
theorem u8_le (c : UInt8) : (c.toNat : Int) ≤ 255 := by have := c.toNat_lt; omega
theorem take_getD (l : List UInt8) (k : Nat) (h : k < l.length) : l.take (k + 1) = l.take k ++ [l.getD k 0] := by
  rw [List.take_succ_eq_append_getElem h]; simp [List.getD, h]

/-- numbers that fit a byte, as bytes -/
def ofInts (zs : List Int) : List UInt8 := zs.map fun z => UInt8.ofNat z.toNat
theorem ofInts_length (zs : List Int) : (ofInts zs).length = zs.length := by simp [ofInts]
/-- A slice of bytes that came in, as a row. -/
theorem row_of_ints {w : World} {x : Addr} {zs : List Int} (hcell : ∀ i, i < zs.length → w.cell? (x.add i) = .some (.int .u8 (zs.getD i 0))) (hwz : ∀ n ∈ zs, (Lit.int .u8 n).wf = true)
    (hlt : ∀ i, i < zs.length → (x.add i).block < w.heap.size) (n : Nat) : Row w w.heap.size (.some x) (bvs (ofInts (zs.take n))) := fun k u hu => by
  have hk : k < (zs.take n).length := by
    have := (List.getElem?_eq_some_iff.1 hu).1; simpa [bvs, ofInts] using this
  have hk2 : k < zs.length := by simp at hk; omega
  have hb := hlt k hk2
  rw [add_block] at hb
  refine ⟨x, rfl, hb, ?_⟩
  rw [hcell k hk2]
  have hw := bounds_u8 (hwz zs[k] (List.getElem_mem hk2))
  have hu2 : u = bv (UInt8.ofNat (zs[k]).toNat) := by
    have hkn : k < n := by simp at hk; omega
    simp only [bvs, ofInts, List.getElem?_map, List.getElem?_take_of_lt hkn, List.getElem?_eq_getElem hk2, Option.map_some, Option.some.injEq] at hu
    exact hu.symm
  subst hu2
  unfold bv
  have hz : zs.getD k 0 = zs[k] := by simp [List.getD, hk2]
  rw [hz, UInt8.toNat_ofNat']
  congr 2
  omega
/-- One behind the other: nothing that was there changes. -/
theorem bthen {a b c : World} (h : Below a.heap.size a b) (k : Below b.heap.size b c) : Below a.heap.size a c := h.trans (k.mono h.size)
/-! draws -/
theorem drawn_below (B : Nat) (w : World) (n : Nat) : Below B w (w.drewN n) := ⟨rfl, rfl, rfl, Nat.le_refl _, fun _ _ => rfl⟩
theorem quiet_left {P : Program} {f : FuncId} {args : Array Value} {w : World} {n : Nat} {v : Value}
    (h : Calls P f args (w.drewN n) fun e w' => e = .returned v ∧ w.drewN n = w') : Calls P f args (w.drewN n) fun e w'' => e = .returned v ∧ ∃ m, w'' = w.drewN m :=
  h.mono fun _ _ ⟨he, hm⟩ => ⟨he, n, hm.symm⟩
end Go.Proofs.YtnlhajhbmkhnjaaDoor.Wd

/- Words for what a call may change: the blocks of a footprint, and new ones; fixed-width rows; stores into the midst of a block. -/


namespace Go.Proofs.YtnlhajhbmkhnjaaDoor.Wd
open Go.RowKit
/-- From w to w' nothing but the blocks that F names, and new ones, has turned. -/
structure Only (F : Nat → Prop) (w w' : World) : Prop where
  os : w'.os = w.os
  tape : w'.tape = w.tape
  output : w'.output = w.output
  size : w.heap.size ≤ w'.heap.size
  block : ∀ i, i < w.heap.size → ¬ F i → w'.heap[i]? = w.heap[i]?
/-- The footprint, and what is new. -/
def Grow (F : Nat → Prop) (w w' : World) (i : Nat) : Prop := F i ∨ (w.heap.size ≤ i ∧ i < w'.heap.size)
section
variable {F G : Nat → Prop} {a b c w w' : World}
theorem Only.refl (F : Nat → Prop) (w : World) : Only F w w := ⟨rfl, rfl, rfl, Nat.le_refl _, fun _ _ _ => rfl⟩
theorem Only.trans (h : Only F a b) (k : Only G b c) (hG : ∀ i, G i → F i ∨ a.heap.size ≤ i) : Only F a c :=
  ⟨k.os.trans h.os, k.tape.trans h.tape, k.output.trans h.output, Nat.le_trans h.size k.size, fun i hi hn =>
    (k.block i (Nat.lt_of_lt_of_le hi h.size) (fun g => by
      rcases hG i g with g | g
      · exact hn g
      · omega)).trans (h.block i hi hn)⟩
theorem Only.mono (h : Only F a b) (hG : ∀ i, F i → G i) : Only G a b := ⟨h.os, h.tape, h.output, h.size, fun i hi hn => h.block i hi (fun f => hn (hG i f))⟩
theorem Only.new (h : Below w.heap.size w w') : Only F w w' := ⟨h.os, h.tape, h.output, h.size, fun i hi _ => h.block i hi⟩
theorem Only.below {B : Nat} (h : Only F w w') (hF : ∀ i, F i → B ≤ i) (hB : B ≤ w.heap.size) : Below B w w' :=
  ⟨h.os, h.tape, h.output, h.size, fun k hk => h.block k (by omega) (fun f => by have := hF k f; omega)⟩
theorem Only.drew (h : Only F a w) : Only F a w.drew := ⟨h.os, h.tape, h.output, h.size, h.block⟩
theorem Only.drewN (h : Only F a w) (n : Nat) : Only F a (w.drewN n) := ⟨h.os, h.tape, h.output, h.size, h.block⟩
theorem Only.then_ (h : Only F a b) (k : Below b.heap.size b c) : Only F a c := h.trans (Only.new (F := fun _ => False) k) (fun _ f => f.elim)
theorem Only.alloc (h : Only F a w) (o : Obj) : Only F a (w.alloc o) := h.then_ ((Below.refl _ _).alloc (Nat.le_refl _) _)
theorem Only.set_ (w : World) (p : Addr) (u : Value) : Only (fun i => i = p.block) w (w.setCell p u) :=
  ⟨rfl, rfl, rfl, by simp [World.setCell], fun i _ hn => Below.heap_setCell w p u i hn⟩
theorem Only.setCell (h : Only F a w) {p : Addr} (hp : F p.block ∨ a.heap.size ≤ p.block) (u : Value) : Only F a (w.setCell p u) :=
  h.trans (Only.set_ w p u) (fun i e => by subst e; exact hp)
theorem Only.grownBy {row : Option Nat} (h : w.grownBy w' row) : Only (fun i => row = some i) w w' :=
  ⟨h.os, h.tape, h.output, h.size, fun i hi hn => h.block i hi (fun e => hn e.symm)⟩
theorem Only.cell (h : Only F w w') {p : Addr} (hl : p.block < w.heap.size) (hn : ¬ F p.block) : w'.cell? p = w.cell? p := World.cell?_of_block (h.block _ hl hn)
theorem Block.only {e g : Nat} {xs : List Value} (k : Block w g e xs) (h : Only F w w') (hn : ¬ F g) : Block w' g e xs := (h.block g k.lt hn).trans k
theorem Row.only {B : Nat} {A : Option Addr} {xs : List Value} (k : Row w B A xs) (h : Only F w w') (hB : B ≤ w.heap.size) (hn : ∀ i, i < B → ¬ F i) : Row w' B A xs :=
  k.keep fun p hp => h.cell (by omega) (hn _ hp)
theorem Row.apart {B : Nat} {A : Option Addr} {xs : List Value} (k : Row w B A xs) (h : Only F w w') (hB : B ≤ w.heap.size) (hn : ∀ ad, A = Option.some ad → ¬ F ad.block) : Row w' B A xs := fun j u hu => by
  obtain ⟨ad, e, hb, hc⟩ := k j u hu
  exact ⟨ad, e, hb, (h.cell (by rw [add_block]; omega) (by rw [add_block]; exact hn ad e)).trans hc⟩
theorem Row.apart_if {B : Nat} {A : Option Addr} {xs : List Value} (k : Row w B A xs) (h : Only F w w') (hB : B ≤ w.heap.size) (hn : ∀ ad, A = Option.some ad → 0 < xs.length → ¬ F ad.block) : Row w' B A xs := fun j u hu => by
  obtain ⟨ad, e, hb, hc⟩ := k j u hu
  exact ⟨ad, e, hb, (h.cell (by rw [add_block]; omega) (by rw [add_block]; exact hn ad e (by have := (List.getElem?_eq_some_iff.1 hu).1; omega))).trans hc⟩
theorem Only.of_drew (h : Only F w.drew w') : Only F w w' := ⟨h.os, h.tape, h.output, h.size, h.block⟩
theorem Only.of_drewN {n : Nat} (h : Only F (w.drewN n) w') : Only F w w' := ⟨h.os, h.tape, h.output, h.size, h.block⟩
theorem below_only (h : Below a.heap.size a b) (k : Only G b c) (hG : ∀ i, G i → a.heap.size ≤ i) : Below a.heap.size a c :=
  h.trans (k.below hG h.size)
theorem Only.size' (h : Only F w w') : w.heap.size ≤ w'.heap.size := h.size
theorem Grow.self {i : Nat} (h : F i) : Grow F w w' i := .inl h
theorem Grow.lt (hF : ∀ i, F i → i < w.heap.size) (hs : w.heap.size ≤ w'.heap.size) {i : Nat} (h : Grow F w w' i) : i < w'.heap.size := by
  rcases h with h | h
  · have := hF i h; omega
  · exact h.2
/-- Blocks of different element types differ. -/
theorem Block.ne {g g' e e' : Nat} {xs xs' : List Value} (h : Block w g e xs) (h' : Block w g' e' xs') (hne : e ≠ e') : g ≠ g' := by
  rintro rfl
  unfold Block at h h'
  rw [h] at h'
  injection h' with h'
  injection h' with _ ht
  exact hne ht
end
/-! rows of a fixed width -/
section
variable {α : Type} (f : α → List Value) (K : Nat)
def flat (l : List α) : List Value := l.flatMap f
@[simp] theorem flat_nil : flat f [] = [] := rfl
theorem flat_cons (x : α) (l : List α) : flat f (x :: l) = f x ++ flat f l := by simp [flat]
theorem flat_append (l m : List α) : flat f (l ++ m) = flat f l ++ flat f m := by simp [flat]
theorem flat_one (x : α) : flat f [x] = f x := by simp [flat]
theorem flat_length : ∀ l : List α, (∀ x ∈ l, (f x).length = K) → (flat f l).length = l.length * K
  | [], _ => by simp
  | x :: l, h => by
    rw [flat_cons, List.length_append, h x (by simp), flat_length l (fun y hy => h y (by simp [hy])), List.length_cons, Nat.succ_mul]; omega
theorem flat_drop : ∀ (l : List α) (i : Nat), (∀ x ∈ l, (f x).length = K) → (flat f l).drop (i * K) = flat f (l.drop i)
  | l, 0, _ => by simp
  | [], i + 1, _ => by simp
  | x :: l, i + 1, h => by
    have hx := h x (by simp)
    rw [flat_cons, List.drop_succ_cons, ← flat_drop l i (fun y hy => h y (by simp [hy])), Nat.succ_mul, Nat.add_comm, ← List.drop_drop, List.drop_left' hx]
theorem flat_take : ∀ (l : List α) (i : Nat), (∀ x ∈ l, (f x).length = K) → (flat f l).take (i * K) = flat f (l.take i)
  | l, 0, _ => by simp
  | [], i + 1, _ => by simp
  | x :: l, i + 1, h => by
    have hx := h x (by simp)
    rw [flat_cons, List.take_succ_cons, flat_cons, ← flat_take l i (fun y hy => h y (by simp [hy])), Nat.succ_mul, Nat.add_comm, List.take_append, hx, List.take_of_length_le (by omega), Nat.add_sub_cancel_left]
theorem flat_seg (l : List α) (i : Nat) (x : α) (hi : l[i]? = some x) (h : ∀ x ∈ l, (f x).length = K) : ((flat f l).drop (i * K)).take K = f x := by
  rw [flat_drop f K l i h]
  obtain ⟨hlt, rfl⟩ := List.getElem?_eq_some_iff.1 hi
  rw [List.drop_eq_getElem_cons hlt, flat_cons, List.take_left' (h _ (List.getElem_mem hlt))]
theorem flat_at (l : List α) (i j : Nat) (x : α) (hi : l[i]? = some x) (hj : j < K) (h : ∀ x ∈ l, (f x).length = K) : (flat f l)[i * K + j]? = (f x)[j]? := by
  rw [← flat_seg f K l i x hi h, List.getElem?_take_of_lt hj, List.getElem?_drop]
theorem flat_set (l : List α) (i : Nat) (x : α) (hi : i < l.length) (h : ∀ x ∈ l, (f x).length = K) : flat f (l.set i x) = (flat f l).take (i * K) ++ f x ++ (flat f l).drop (i * K + K) := by
  rw [flat_take f K l i h, ← Nat.succ_mul, flat_drop f K l (i + 1) h, List.set_eq_take_append_cons_drop, if_pos hi, flat_append, flat_cons, List.append_assoc]
theorem flat_mem {l : List α} {u : Value} (h : u ∈ flat f l) : ∃ x ∈ l, u ∈ f x := by simpa [flat] using h
end
/-! a store of many cells into a block that is known whole -/
theorem setCells_block (b e : Nat) : ∀ (vs : List Value) (o : Nat) (w : World) (xs : List Value), Block w b e xs → o + vs.length ≤ xs.length → Block (w.setCells b o vs) b e (xs.take o ++ vs ++ xs.drop (o + vs.length))
  | [], o, w, xs, h, _ => by simpa [World.setCells] using h
  | v :: r, o, w, xs, h, hl => by
    rw [World.setCells]
    have h1 := setCells_block b e r (o + 1) _ _ (h.set o v) (by rw [List.length_set]; simp only [List.length_cons] at hl; omega)
    have hlt : o < xs.length := by simp only [List.length_cons] at hl; omega
    have e1 : (xs.set o v).take (o + 1) = xs.take o ++ [v] := by
      rw [List.take_succ_eq_append_getElem (by simpa using hlt), List.take_set_of_le (by omega)]; simp
    have e2 : (xs.set o v).drop (o + 1 + r.length) = xs.drop (o + (v :: r).length) := by
      rw [List.drop_set_of_lt (by omega)]; congr 1; simp only [List.length_cons]; omega
    rw [e1, e2] at h1
    simpa using h1
theorem Only.setCells (b : Nat) : ∀ (vs : List Value) (o : Nat) (w : World), Only (fun i => i = b) w (w.setCells b o vs)
  | [], _, w => Only.refl _ w
  | v :: r, o, w => by
    rw [World.setCells]
    exact (Only.set_ w ⟨b, o, none⟩ v).trans (Only.setCells b r (o + 1) _) (fun i h => .inl h)
theorem Block.there {w : World} {b e : Nat} {xs : List Value} (h : Block w b e xs) (o n : Nat) (hl : o + n ≤ xs.length) : w.there b o n := fun j hj =>
  ⟨by rw [h.cell (List.getElem?_eq_getElem (by omega))]; rfl, h.free _⟩
theorem Block.cells {w : World} {b e : Nat} {xs : List Value} (h : Block w b e xs) (k : Nat) : w.cell? ⟨b, k, none⟩ = xs[k]? := by
  unfold World.cell?; rw [show w.heap[(⟨b, k, none⟩ : Addr).block]? = _ from h]; simp
theorem Block.range {w : World} {b e : Nat} {xs : List Value} (h : Block w b e xs) (o : Nat) (cs : List Value) (hc : (xs.drop o).take cs.length = cs) : w.rangeAt b o cs := fun j v hv => by
  have hj : j < cs.length := (List.getElem?_eq_some_iff.1 hv).1
  rw [← hc, List.getElem?_take_of_lt hj, List.getElem?_drop] at hv
  exact h.cell hv
end Go.Proofs.YtnlhajhbmkhnjaaDoor.Wd

/- Words for arguments whose cells lead on to bytes: slices of slices of bytes, slices of structs that hold such; each is read as a list, and lies as a row. -/





namespace Go.Proofs.YtnlhajhbmkhnjaaDoor.Wd
open Go.RowKit Go.ChangeShapes Go.WideShapes Go.Deep
/-- A slice of bytes: its parts, and the bytes that it reads as. -/
structure BX where
  A : Option Addr
  n : Nat
  c : Nat
  l : List UInt8
def BX.v (x : BX) : Value := .slice x.A x.n x.c
def BX.vs (x : BX) : List Value := [x.v]
structure BX.Fit (w : World) (x : BX) : Prop where
  n : x.n = x.l.length
  few : x.n ≤ 140737488351232
  cap : x.n ≤ x.c
  row : Row w w.heap.size x.A (bvs x.l)
section
variable {H : Type} {enc : TypeId × Value → H} {P : Program} {w : World} {base : Nat}
theorem bytes_of_trod {t e : TypeId} (ht : P.underlying t = some (.slice e)) (he : P.underlying e = some (.int .u8)) (hC : P.cellsOf e = 1) (hb : P.bytesOf e = 1) {n : Nat} {v : Value} {y : DataW H × List MemPlace}
    (h : DataW.trod enc P w base (fun _ => true) true n t [v] = some y) (hsz : ∀ k ∈ y.1.weights P t, k ≤ reachBytes) : ∃ x : BX, v = x.v ∧ x.Fit w := by
  rcases open_ints ht he hC h with ⟨hcs, _⟩ | ⟨a, len, cap, zs, hcs, _, hl, hm, hz, hx, hcell, hwz⟩
  · injection hcs with hcs
    exact ⟨⟨none, 0, 0, []⟩, hcs, rfl, Nat.zero_le _, Nat.le_refl _, Row.nil _ _ _⟩
  · injection hcs with hcs
    have hz : zs.length = cap := by simpa using hz
    have hs := hsz ((zs.take len).length * 1 + (zs.drop len).length * 1) (by
      subst hx
      simp only [DataW.weights, ht, hb, lits, List.length_map]
      rw [Nat.mul_one, Nat.mul_one, Nat.mul_one]
      exact List.mem_cons_self)
    simp only [List.length_take, List.length_drop, reachBytes] at hs
    refine ⟨⟨some a, len, cap, ofInts (zs.take len)⟩, hcs, by simp [ofInts]; omega, by show len ≤ _; omega, hl, row_of_ints (fun j hj => hcell j hj) hwz (fun j hj => World.block_lt_of_cell? w _ (hcell j hj)) len⟩
/-- Each of so many has its cells: all of them lie as one row. -/
theorem rows_of {α : Type} (f : α → List Value) (K : Nat) (ok : α → Prop) (dflt : α) (hK : ∀ x, (f x).length = K) (hpos : 0 < K) (a : Addr) (m : Nat)
    (h : ∀ i, i < m → ∃ x, ok x ∧ ∀ j v, (f x)[j]? = some v → w.cell? ((a.add (i * K)).add j) = some v) :
    ∃ D : List α, D.length = m ∧ (∀ x ∈ D, ok x) ∧ Row w w.heap.size (some a) (flat f D) := by
  have h' : ∀ i, ∃ x, i < m → ok x ∧ ∀ j v, (f x)[j]? = some v → w.cell? ((a.add (i * K)).add j) = some v := fun i => by
    by_cases hi : i < m
    · obtain ⟨x, hx⟩ := h i hi; exact ⟨x, fun _ => hx⟩
    · exact ⟨dflt, fun h => absurd h hi⟩
  obtain ⟨g, hg⟩ := Classical.skolem.1 h'
  refine ⟨(List.range m).map g, by simp, fun x hx => ?_, fun k u hu => ?_⟩
  · obtain ⟨i, hi, rfl⟩ := List.mem_map.1 hx
    exact (hg i (List.mem_range.1 hi)).1
  · have hlen := flat_length f K ((List.range m).map g) (fun x _ => hK x)
    have hk : k < m * K := by have := (List.getElem?_eq_some_iff.1 hu).1; rw [hlen] at this; simpa using this
    have hi : k / K < m := Nat.div_lt_of_lt_mul (by rw [Nat.mul_comm]; exact hk)
    have hj : k % K < K := Nat.mod_lt _ hpos
    have e : k / K * K + k % K = k := Nat.div_add_mod' k K
    have hgi : ((List.range m).map g)[k / K]? = some (g (k / K)) := by
      rw [List.getElem?_map, List.getElem?_range hi]; rfl
    have hat := flat_at f K ((List.range m).map g) (k / K) (k % K) _ hgi hj (fun x _ => hK x)
    rw [e, hu] at hat
    have hc := (hg _ hi).2 (k % K) u hat.symm
    rw [Addr.add_add, e] at hc
    have hb := World.block_lt_of_cell? w _ hc
    exact ⟨a, rfl, by rwa [add_block] at hb, hc⟩
theorem weights_elem {t e : TypeId} (ht : P.underlying t = some (.slice e)) {elems spare : List (DataW H)} {d : DataW H} (hd : d ∈ elems) (k : Nat) (hk : k ∈ d.weights P e) : k ∈ (DataW.slice elems spare).weights P t := by
  have key : ∀ l : List (DataW H), d ∈ l → k ∈ DataW.weightsAll P e l := fun l => by
    induction l with
    | nil => intro h; cases h
    | cons x r ih =>
      intro h
      unfold DataW.weightsAll
      rcases List.mem_cons.1 h with rfl | h
      · exact List.mem_append.2 (.inl hk)
      · exact List.mem_append.2 (.inr (ih h))
  simp only [DataW.weights, ht]
  exact List.mem_cons_of_mem _ (List.mem_append.2 (.inl (key _ hd)))
theorem weights_field {t : TypeId} {fs : Array Field} (ht : P.underlying t = some (.struct fs)) {parts : List (DataW H)} {j : Nat} {f : Field} {d : DataW H} (hf : fs[j]? = some f) (hd : parts[j]? = some d) (k : Nat) (hk : k ∈ d.weights P f.type) : k ∈ (DataW.agg parts).weights P t := by
  simp only [DataW.weights, ht]
  exact DataW.weights_mem_each (j := j) (by simp [hf]) hd k hk
theorem slice_len {t e : TypeId} (ht : P.underlying t = some (.slice e)) {elems spare : List (DataW H)} (hsz : ∀ k ∈ (DataW.slice elems spare).weights P t, k ≤ reachBytes) : (elems.length + spare.length) * P.bytesOf e ≤ reachBytes :=
  hsz _ (by simp [DataW.weights, ht])
theorem cap_of_trod {t e : TypeId} (ht : P.underlying t = some (.slice e)) {n : Nat} {A : Option Addr} {m c : Nat} {y : DataW H × List MemPlace}
    (h : DataW.trod enc P w base (fun _ => true) true n t [.slice A m c] = some y) : m ≤ c := by
  rcases open_slice ht h with ⟨hcs, _⟩ | ⟨a, len, cap, m', k, D, Pl, hcs, hb', hl, _⟩
  · injection hcs with hcs
    injection hcs with _ h1 h2
    rw [h1, h2]; exact Nat.le_refl _
  · injection hcs with hcs
    injection hcs with _ h1 h2
    rw [h1, h2]; exact hl
/-- A slice of slices of bytes. -/
theorem bytes_rows_of_trod {t s e : TypeId} (ht : P.underlying t = some (.slice s)) (hs : P.underlying s = some (.slice e)) (he : P.underlying e = some (.int .u8)) (hCs : P.cellsOf s = 1) (hC : P.cellsOf e = 1) (hb : P.bytesOf e = 1) (hbs : P.bytesOf s = 24) {n : Nat} {v : Value} {y : DataW H × List MemPlace}
    (h : DataW.trod enc P w base (fun _ => true) true n t [v] = some y) (hsz : ∀ k ∈ y.1.weights P t, k ≤ reachBytes) : ∃ A m c D, v = .slice A m c ∧ m = D.length ∧ m ≤ 140737488351232 ∧ (∀ x ∈ D, BX.Fit w x) ∧ Row w w.heap.size A (flat BX.vs D) := by
  rcases open_slice ht h with ⟨hcs, _⟩ | ⟨a, len, cap, m, k, D, Pl, hcs, hb', hl, hm, hmm, hx, hi⟩
  · injection hcs with hcs
    exact ⟨none, 0, 0, [], hcs, rfl, Nat.zero_le _, fun _ h => by simp at h, Row.nil _ _ _⟩
  · injection hcs with hcs
    subst hx
    have hm : m = cap := by simpa using hmm
    have hsm := slice_len ht hsz
    rw [hbs] at hsm
    simp only [List.length_map, List.length_range, reachBytes] at hsm
    obtain ⟨E, hE, hok, hrow⟩ := rows_of (w := w) BX.vs 1 (BX.Fit w) ⟨none, 0, 0, []⟩ (fun _ => rfl) (by decide) a len (fun i hil => by
      obtain ⟨cs', hc, ht'⟩ := hi i (by omega)
      rw [hCs] at hc
      obtain ⟨_, hlen, hcell⟩ := World.cells?_some hc
      obtain ⟨u, rfl⟩ : ∃ u, cs' = [u] := List.length_eq_one_iff.1 hlen
      obtain ⟨x, rfl, hx⟩ := bytes_of_trod hs he hC hb ht' (fun k hk => hsz k (weights_elem ht (List.mem_map.2 ⟨i, List.mem_range.2 hil, rfl⟩) k hk))
      refine ⟨x, hx, fun j v hv => ?_⟩
      cases j with
      | zero => rw [hcell 0 (by decide)]; exact hv
      | succ j => simp [BX.vs] at hv)
    exact ⟨some a, len, cap, E, hcs, hE.symm, by omega, hok, hrow⟩
end
end Go.Proofs.YtnlhajhbmkhnjaaDoor.Wd

/- The values of flows as they read: sizes, depths, order, which are valid, bytes, reading: plain functions, and what holds of them. -/

namespace Go.Proofs.YtnlhajhbmkhnjaaDoor.ValM
open Go.RowKit
/-- A value as it reads. -/
inductive Vl where
  | mk (k n : Int) (s : List UInt8) (L : List Vl) (N : List (List UInt8))
def Vl.k : Vl → Int | .mk k _ _ _ _ => k
def Vl.n : Vl → Int | .mk _ n _ _ _ => n
def Vl.s : Vl → List UInt8 | .mk _ _ s _ _ => s
def Vl.L : Vl → List Vl | .mk _ _ _ L _ => L
def Vl.N : Vl → List (List UInt8) | .mk _ _ _ _ N => N
/-- Sizes, true ones. -/
def lens (N : List (List UInt8)) : Nat := (N.map List.length).sum
mutual
def szV : Vl → Nat
  | .mk _ _ s L N => 1 + s.length + lens N + szL L
def szL : List Vl → Nat
  | [] => 0
  | x :: r => szV x + szL r
end
mutual
def dpV : Vl → Int
  | .mk _ _ _ L _ => wrap64 (1 + dpL 0 L)
def dpL (m : Int) : List Vl → Int
  | [] => m
  | x :: r => dpL (max m (dpV x)) r
end
def bless : List UInt8 → List UInt8 → Bool
  | _, [] => false
  | [], _ :: _ => true
  | a :: x, b :: y => a < b || (a == b && bless x y)
def cmpI (a b : Int) : Int := if a < b then -1 else if b < a then 1 else 0
def cmpS (a b : List UInt8) : Int := if bless a b then -1 else if bless b a then 1 else 0
def cmpN : List (List UInt8) → List (List UInt8) → Int
  | [], [] => 0
  | [], _ :: _ => -1
  | _ :: _, [] => 1
  | a :: x, b :: y => if cmpS a b = 0 then cmpN x y else cmpS a b
def orI (a b : Int) : Int := if a = 0 then b else a
mutual
def cmpV : Vl → Vl → Int
  | .mk k n s L N, .mk k' n' s' L' N' => orI (orI (cmpI k k') (orI (cmpI n n') (orI (cmpS s s') (cmpN N N')))) (cmpL L L')
def cmpL : List Vl → List Vl → Int
  | [], [] => 0
  | [], _ :: _ => -1
  | _ :: _, [] => 1
  | x :: r, y :: r' => orI (cmpV x y) (cmpL r r')
end
def isLet (c : UInt8) : Bool := 97 ≤ c && c ≤ 122
def isDig (c : UInt8) : Bool := 48 ≤ c && c ≤ 57
def nameB (s : List UInt8) : Bool := match s with
  | [] => false
  | c :: _ => decide (s.length ≤ 16) && isLet c && s.all (fun d => isLet d || isDig d || d == 95)
def risB : List (List UInt8) → Bool
  | a :: b :: r => bless a b && risB (b :: r)
  | _ => true
def namesB (N : List (List UInt8)) : Bool := N.all nameB && risB N
def shaped : Vl → Bool
  | .mk k n s L N =>
    let list := decide (N.length = 0)
    let single := list && decide (L.length = 0)
    if k = 0 then decide (n = 0) && decide (s = []) && single
    else if k = 1 then decide (s = []) && single
    else if k = 2 then (decide (n = 0) || decide (n = 1)) && decide (s = []) && single
    else if k = 3 then decide (n = 0) && decide (s.length ≤ 64) && single
    else if k = 4 then decide (n = 0) && decide (s = []) && decide (L.length ≤ 32) && list
    else if k = 5 then decide (n = 0) && decide (s = []) && decide (L.length = N.length) && decide (N.length ≤ 8) && namesB N
    else if k = 6 then decide (1 ≤ n) && decide (n ≤ 64) && decide (s = []) && single
    else false
def own : Vl → Nat | .mk _ _ s _ N => 1 + s.length + lens N
def goL (f : Vl → Int → Int × Bool) : List Vl → Int → Int × Bool
  | [], left => (left, decide (0 ≤ left))
  | x :: r, left => if (f x left).2 then goL f r (f x left).1 else (0, false)
def spendV : Nat → Vl → Int → Int × Bool
  | 0, _, _ => (0, false)
  | lv + 1, x, size => if shaped x then goL (spendV lv) x.L (size - own x) else (0, false)
def okV (x : Vl) : Bool := (spendV 8 x 256).2
def chkV (x : Vl) : Int := if okV x then 0 else 2
/-- Bytes. -/
def byteI (n : Int) : UInt8 := UInt8.ofNat (n % 256).toNat
def word (n : Int) : List UInt8 := [byteI (n / 72057594037927936), byteI (n / 281474976710656), byteI (n / 1099511627776), byteI (n / 4294967296), byteI (n / 16777216), byteI (n / 65536), byteI (n / 256), byteI n]
def counted (s : List UInt8) : List UInt8 := byteI s.length :: s
mutual
def encV : Vl → List UInt8
  | .mk k n s L N => byteI k :: (if k = 1 then word n else if k = 2 ∨ k = 6 then [byteI n] else if k = 3 then counted s else if k = 4 then byteI L.length :: encL L else if k = 5 then byteI L.length :: encR N L else [])
def encL : List Vl → List UInt8
  | [] => []
  | x :: r => encV x ++ encL r
def encR : List (List UInt8) → List Vl → List UInt8
  | [], _ => []
  | _ :: _, [] => []
  | a :: N, x :: r => counted a ++ (encV x ++ encR N r)
end
section
variable {α : Type}
def Ord3 (c : α → α → Int) (a : α) : Prop :=
  (∀ b, c b a = -c a b) ∧ (∀ b, c a b = 0 ↔ a = b) ∧ ∀ b d, c a b ≤ 0 → c b d ≤ 0 → c a d ≤ 0 ∧ (c a b < 0 → c a d < 0)
theorem orI_zero (a b : Int) : orI a b = 0 ↔ a = 0 ∧ b = 0 := by unfold orI; split <;> simp_all
theorem orI_neg (a b : Int) : orI (-a) (-b) = -orI a b := by unfold orI; split <;> split <;> omega
theorem orI_lt (a b : Int) : orI a b < 0 ↔ a < 0 ∨ (a = 0 ∧ b < 0) := by unfold orI; split <;> omega
theorem orI_le (a b : Int) : orI a b ≤ 0 ↔ a < 0 ∨ (a = 0 ∧ b ≤ 0) := by unfold orI; split <;> omega
theorem orI_zero_left (b : Int) : orI 0 b = b := rfl
def lex (c : α → α → Int) : List α → List α → Int
  | [], [] => 0
  | [], _ :: _ => -1
  | _ :: _, [] => 1
  | a :: x, b :: y => orI (c a b) (lex c x y)
/-- The first of both tells, else the second. -/
theorem ord_or {β : Type} {c : α → α → Int} {d : β → β → Int} {a : α} {x : β} (h1 : Ord3 c a) (h2 : Ord3 d x) :
    (∀ b y, orI (c b a) (d y x) = -orI (c a b) (d x y)) ∧ (∀ b y, orI (c a b) (d x y) = 0 ↔ a = b ∧ x = y) ∧
    ∀ b y b' y', orI (c a b) (d x y) ≤ 0 → orI (c b b') (d y y') ≤ 0 → orI (c a b') (d x y') ≤ 0 ∧ (orI (c a b) (d x y) < 0 → orI (c a b') (d x y') < 0) := by
  obtain ⟨n1, z1, t1⟩ := h1
  obtain ⟨n2, z2, t2⟩ := h2
  refine ⟨fun b y => by rw [n1 b, n2 y, orI_neg], fun b y => by rw [orI_zero, z1, z2], fun b y b' y' => ?_⟩
  rw [orI_le, orI_le, orI_le, orI_lt, orI_lt]
  intro h k
  rcases h with h | ⟨h, h'⟩
  · have := t1 b b' (by omega) (by omega)
    have := this.2 h
    exact ⟨.inl this, fun _ => .inl this⟩
  · have e := (z1 b).1 h
    subst e
    rcases k with k | ⟨k, k'⟩
    · exact ⟨.inl k, fun _ => .inl k⟩
    · have := t2 y y' h' k'
      exact ⟨.inr ⟨k, this.1⟩, fun g => by
        rcases g with g | ⟨_, g⟩
        · omega
        · exact .inr ⟨k, this.2 g⟩⟩
theorem ord_lex {c : α → α → Int} : ∀ l : List α, (∀ x ∈ l, Ord3 c x) → Ord3 (lex c) l
  | [], _ => by
    refine ⟨fun b => by cases b <;> simp [lex], fun b => by cases b <;> simp [lex], fun b d => ?_⟩
    cases b <;> cases d <;> simp [lex]
  | a :: x, h => by
    have h1 := h a (by simp)
    have h2 := ord_lex x (fun y hy => h y (by simp [hy]))
    obtain ⟨n, z, t⟩ := ord_or h1 h2
    refine ⟨fun b => ?_, fun b => ?_, fun b d => ?_⟩
    · cases b with
      | nil => rfl
      | cons b y => exact n b y
    · cases b with
      | nil => simp [lex]
      | cons b y => show orI _ _ = 0 ↔ _; rw [z]; simp
    · cases b with
      | nil => simp [lex]
      | cons b y =>
        cases d with
        | nil => simp [lex]
        | cons b' y' => exact t b y b' y'
end
def cmpU (a b : UInt8) : Int := if a < b then -1 else if b < a then 1 else 0
theorem ord_U (a : UInt8) : Ord3 cmpU a := by
  unfold Ord3 cmpU
  simp only [UInt8.lt_iff_toNat_lt, ← UInt8.toNat_inj]
  refine ⟨fun b => ?_, fun b => ?_, fun b d => ?_⟩ <;> (repeat' split) <;> omega
theorem ord_I (a : Int) : Ord3 cmpI a := by
  unfold Ord3 cmpI
  refine ⟨fun b => ?_, fun b => ?_, fun b d => ?_⟩ <;> (repeat' split) <;> omega
theorem bless_cons (a b : UInt8) (x y : List UInt8) : bless (a :: x) (b :: y) = (decide (a < b) || (a == b && bless x y)) := rfl
theorem cmpS_cons (a b : UInt8) (x y : List UInt8) : cmpS (a :: x) (b :: y) = orI (cmpU a b) (cmpS x y) := by
  unfold cmpS cmpU orI
  rw [bless_cons, bless_cons]
  generalize bless x y = p
  generalize bless y x = q
  simp only [UInt8.lt_iff_toNat_lt, Bool.or_eq_true, Bool.and_eq_true, decide_eq_true_eq, beq_iff_eq, ← UInt8.toNat_inj]
  rcases Nat.lt_trichotomy a.toNat b.toNat with h | h | h
  · have h2 : ¬ b.toNat < a.toNat := by omega
    simp [h]
  · simp [h]
  · have h2 : ¬ a.toNat < b.toNat := by omega
    have h3 : ¬ a.toNat = b.toNat := by omega
    simp [h, h2, h3]
theorem cmpS_lex : ∀ x y : List UInt8, cmpS x y = lex cmpU x y
  | [], [] => rfl
  | [], _ :: _ => rfl
  | _ :: _, [] => rfl
  | a :: x, b :: y => by rw [cmpS_cons, cmpS_lex x y]; rfl
theorem ord_S (s : List UInt8) : Ord3 cmpS s := by
  have : cmpS = lex cmpU := by funext x y; exact cmpS_lex x y
  rw [this]; exact ord_lex s (fun x _ => ord_U x)
theorem cmpN_lex : ∀ x y, cmpN x y = lex cmpS x y
  | [], [] => rfl
  | [], _ :: _ => rfl
  | _ :: _, [] => rfl
  | a :: x, b :: y => by unfold cmpN lex orI; rw [cmpN_lex x y]
theorem ord_N (s : List (List UInt8)) : Ord3 cmpN s := by
  have : cmpN = lex cmpS := by funext x y; exact cmpN_lex x y
  rw [this]; exact ord_lex s (fun x _ => ord_S x)
theorem cmpL_lex : ∀ x y, cmpL x y = lex cmpV x y
  | [], [] => rfl
  | [], _ :: _ => rfl
  | _ :: _, [] => rfl
  | a :: x, b :: y => by unfold cmpL lex; rw [cmpL_lex x y]
theorem Vl.ind {P : Vl → Prop} (h : ∀ k n s L N, (∀ x ∈ L, P x) → P (.mk k n s L N)) (v : Vl) : P v :=
  Vl.rec (motive_1 := P) (motive_2 := fun L => ∀ x ∈ L, P x) (fun k n s L N ih => h k n s L N ih) (fun _ h => by cases h) (fun x r h1 h2 y hy => by
    rcases List.mem_cons.1 hy with rfl | hy
    · exact h1
    · exact h2 y hy) v
theorem ord_V (v : Vl) : Ord3 cmpV v := by
  induction v using Vl.ind with
  | h k n s L N ih =>
    have hL : Ord3 cmpL L := by
      have : cmpL = lex cmpV := by funext x y; exact cmpL_lex x y
      rw [this]; exact ord_lex L ih
    have hA : Ord3 (fun (p q : List UInt8 × List (List UInt8)) => orI (cmpS p.1 q.1) (cmpN p.2 q.2)) (s, N) := by
      obtain ⟨n1, z1, t1⟩ := ord_or (ord_S s) (ord_N N)
      exact ⟨fun b => n1 b.1 b.2, fun b => by rw [z1]; simp [Prod.ext_iff], fun b d => t1 b.1 b.2 d.1 d.2⟩
    have hB : Ord3 (fun (p q : Int × (List UInt8 × List (List UInt8))) => orI (cmpI p.1 q.1) (orI (cmpS p.2.1 q.2.1) (cmpN p.2.2 q.2.2))) (n, (s, N)) := by
      obtain ⟨n1, z1, t1⟩ := ord_or (ord_I n) hA
      exact ⟨fun b => n1 b.1 b.2, fun b => by rw [z1 b.1 b.2]; simp [Prod.ext_iff], fun b d => t1 b.1 b.2 d.1 d.2⟩
    have hC : Ord3 (fun (p q : Int × (Int × (List UInt8 × List (List UInt8)))) => orI (cmpI p.1 q.1) (orI (cmpI p.2.1 q.2.1) (orI (cmpS p.2.2.1 q.2.2.1) (cmpN p.2.2.2 q.2.2.2)))) (k, (n, (s, N))) := by
      obtain ⟨n1, z1, t1⟩ := ord_or (ord_I k) hB
      exact ⟨fun b => n1 b.1 b.2, fun b => by rw [z1 b.1 b.2]; simp [Prod.ext_iff], fun b d => t1 b.1 b.2 d.1 d.2⟩
    obtain ⟨n1, z1, t1⟩ := ord_or hC hL
    refine ⟨fun b => ?_, fun b => ?_, fun b d => ?_⟩
    · obtain ⟨k', n', s', L', N'⟩ := b
      exact n1 (k', n', s', N') L'
    · obtain ⟨k', n', s', L', N'⟩ := b
      refine (z1 (k', n', s', N') L').trans ?_
      simp [Prod.ext_iff]
      constructor
      · rintro ⟨⟨rfl, rfl, rfl, rfl⟩, rfl⟩; simp
      · rintro ⟨rfl, rfl, rfl, rfl, rfl⟩; simp
    · obtain ⟨k', n', s', L', N'⟩ := b
      obtain ⟨k2, n2, s2, L2, N2⟩ := d
      exact t1 (k', n', s', N') L' (k2, n2, s2, N2) L2
/-! reading -/
abbrev St := List UInt8 × Int
def failS (e : Int) (st : St) : St := if st.2 = 0 then (st.1, e) else st
def shortS (n : Nat) (st : St) : St := if st.1.length < n then failS 3 st else st
def takeS (n : Nat) (st : St) : List UInt8 × St :=
  if (shortS n st).2 = 0 then ((shortS n st).1.take n, ((shortS n st).1.drop n, 0)) else ([], shortS n st)
def beN (a : Nat) : List UInt8 → Nat
  | [] => a
  | c :: r => beN ((a * 256 + c.toNat) % 18446744073709551616) r
def numS (k : Nat) (st : St) : Int × St := (wrap64 (beN 0 (takeS k st).1), (takeS k st).2)
def countS (most : Int) (st : St) : Int × St := if most < (numS 1 st).1 then (0, failS 5 (numS 1 st).2) else numS 1 st
def textS (most : Int) (st : St) : List UInt8 × St := takeS (countS most st).1.toNat (countS most st).2
def rdL (f : St → Vl × St) : Nat → St → List Vl × St
  | 0, st => ([], st)
  | n + 1, st => ((f st).1 :: (rdL f n (f st).2).1, (rdL f n (f st).2).2)
def rdR (f : St → Vl × St) : Nat → St → (List (List UInt8) × List Vl) × St
  | 0, st => (([], []), st)
  | n + 1, st => (((textS 16 st).1 :: (rdR f n (f (textS 16 st).2).2).1.1, (f (textS 16 st).2).1 :: (rdR f n (f (textS 16 st).2).2).1.2), (rdR f n (f (textS 16 st).2).2).2)
def bodyV (f : St → Vl × St) (st : St) : Vl × St :=
  let k := (numS 1 st).1
  let q := (numS 1 st).2
  if k = 0 then (.mk 0 0 [] [] [], q)
  else if k = 1 then (.mk 1 (numS 8 q).1 [] [] [], (numS 8 q).2)
  else if k = 2 then (.mk 2 (numS 1 q).1 [] [] [], if 1 < (numS 1 q).1 then failS 4 (numS 1 q).2 else (numS 1 q).2)
  else if k = 3 then (.mk 3 0 (textS 64 q).1 [] [], (textS 64 q).2)
  else if k = 4 then (.mk 4 0 [] (rdL f (countS 32 q).1.toNat (countS 32 q).2).1 [], (rdL f (countS 32 q).1.toNat (countS 32 q).2).2)
  else if k = 5 then (.mk 5 0 [] (rdR f (countS 8 q).1.toNat (countS 8 q).2).1.2 (rdR f (countS 8 q).1.toNat (countS 8 q).2).1.1, (rdR f (countS 8 q).1.toNat (countS 8 q).2).2)
  else if k = 6 then (.mk 6 (numS 1 q).1 [] [] [], (numS 1 q).2)
  else (.mk k 0 [] [] [], failS 4 q)
def rdV : Nat → St → Vl × St
  | 0, st => (.mk 0 0 [] [] [], (numS 1 (if 0 < st.1.length then failS 5 st else st)).2)
  | fuel + 1, st => bodyV (rdV fuel) st
def zeroV : Vl := .mk 0 0 [] [] []
def tkE (l : List UInt8) : Int := if (rdV 8 (l, 0)).2.2 = 0 then chkV (rdV 8 (l, 0)).1 else (rdV 8 (l, 0)).2.2
def tkV (l : List UInt8) : Vl := if tkE l = 0 then (rdV 8 (l, 0)).1 else zeroV
def tkR (l : List UInt8) : List UInt8 := if tkE l = 0 then (rdV 8 (l, 0)).2.1 else []
/-! there and back -/
theorem byteI_nat (n : Nat) (h : n < 256) : (byteI n).toNat = n := by
  unfold byteI
  rw [UInt8.toNat_ofNat']; omega
theorem byteI_toNat (n : Int) : ((byteI n).toNat : Int) = n % 256 := by
  unfold byteI
  rw [UInt8.toNat_ofNat']; omega
theorem byteI_of (c : UInt8) : byteI (c.toNat : Int) = c := by
  have h := c.toNat_lt
  unfold byteI
  rw [← UInt8.toNat_inj, UInt8.toNat_ofNat']; omega
theorem takeS_app (l r : List UInt8) (n : Nat) (h : l.length = n) : takeS n (l ++ r, 0) = (l, (r, 0)) := by
  have hs : shortS n (l ++ r, 0) = (l ++ r, 0) := by unfold shortS; rw [if_neg (by rw [List.length_append]; omega)]
  unfold takeS
  rw [hs, if_pos rfl, List.take_left' h, List.drop_left' h]
theorem wrap_small (n : Int) (h0 : -9223372036854775808 ≤ n) (h1 : n ≤ 9223372036854775807) : wrap64 n = n := by unfold wrap64; omega
theorem numS_one (c : UInt8) (r : List UInt8) : numS 1 (c :: r, 0) = ((c.toNat : Int), (r, 0)) := by
  have h := takeS_app [c] r 1 rfl
  have hc := c.toNat_lt
  unfold numS
  rw [show (c :: r : List UInt8) = [c] ++ r from rfl, h]
  simp only [beN]
  rw [Nat.mod_eq_of_lt (by omega), wrap_small _ (by omega) (by omega)]
  simp
theorem beN_word (n : Int) : beN 0 (word n) = (n % 18446744073709551616).toNat := by
  obtain ⟨m, hm⟩ : ∃ m : Nat, (n % 18446744073709551616) = (m : Int) := ⟨(n % 18446744073709551616).toNat, by omega⟩
  have hlt : m < 18446744073709551616 := by omega
  have key : ∀ (d : Int) (k : Nat), (n / d) % 256 = (k % 256 : Nat) → (byteI (n / d)).toNat = k % 256 := fun d k h => by
    have := byteI_toNat (n / d); omega
  have key0 : (byteI n).toNat = m % 256 := by have := byteI_toNat n; omega
  have k1 := key 256 (m / 256) (by omega)
  have k2 := key 65536 (m / 65536) (by omega)
  have k3 := key 16777216 (m / 16777216) (by omega)
  have k4 := key 4294967296 (m / 4294967296) (by omega)
  have k5 := key 1099511627776 (m / 1099511627776) (by omega)
  have k6 := key 281474976710656 (m / 281474976710656) (by omega)
  have k7 := key 72057594037927936 (m / 72057594037927936) (by omega)
  unfold word
  simp only [beN, key0, k1, k2, k3, k4, k5, k6, k7]
  rw [hm, Int.toNat_natCast]
  have st : ∀ a b c : Nat, b < 18446744073709551616 → a = b / 256 → c = b % 256 → (a * 256 + c) % 18446744073709551616 = b := fun a b c h h1 h2 => by omega
  rw [st 0 (m / 72057594037927936) _ (by omega) (by omega) rfl, st _ (m / 281474976710656) _ (by omega) (by omega) rfl, st _ (m / 1099511627776) _ (by omega) (by omega) rfl, st _ (m / 4294967296) _ (by omega) (by omega) rfl,
    st _ (m / 16777216) _ (by omega) (by omega) rfl, st _ (m / 65536) _ (by omega) (by omega) rfl, st _ (m / 256) _ (by omega) (by omega) rfl, st _ m _ hlt rfl rfl]
theorem numS_word (n : Int) (h0 : -9223372036854775808 ≤ n) (h1 : n ≤ 9223372036854775807) (r : List UInt8) : numS 8 (word n ++ r, 0) = (n, (r, 0)) := by
  unfold numS
  rw [takeS_app _ r 8 rfl, beN_word]
  have : wrap64 (((n % 18446744073709551616).toNat : Nat) : Int) = n := by unfold wrap64; omega
  rw [this]
theorem countS_one (n most : Nat) (h : n ≤ most) (hm : most < 256) (r : List UInt8) : countS (most : Int) (byteI n :: r, 0) = ((n : Int), (r, 0)) := by
  unfold countS
  rw [numS_one, byteI_nat n (by omega), if_neg (by simp; omega)]
theorem textS_app (s : List UInt8) (most : Nat) (h : s.length ≤ most) (hm : most < 256) (r : List UInt8) : textS (most : Int) (counted s ++ r, 0) = (s, (r, 0)) := by
  unfold textS counted
  rw [List.cons_append, countS_one _ _ h hm]
  exact takeS_app s r _ (by simp)
section
variable {f : St → Vl × St}
theorem rdL_app : ∀ (L : List Vl) (r : List UInt8), (∀ y ∈ L, ∀ r, f (encV y ++ r, 0) = (y, (r, 0))) → rdL f L.length (encL L ++ r, 0) = (L, (r, 0))
  | [], r, _ => rfl
  | x :: L, r, h => by
    have h1 := h x (by simp)
    have h2 := rdL_app L r (fun y hy => h y (by simp [hy]))
    rw [List.length_cons, rdL, encL, List.append_assoc, h1, h2]
theorem rdR_app : ∀ (N : List (List UInt8)) (L : List Vl) (r : List UInt8), N.length = L.length → (∀ s ∈ N, s.length ≤ 16) → (∀ y ∈ L, ∀ r, f (encV y ++ r, 0) = (y, (r, 0))) → rdR f L.length (encR N L ++ r, 0) = ((N, L), (r, 0))
  | [], [], r, _, _, _ => rfl
  | [], _ :: _, _, h, _, _ => by simp at h
  | _ :: _, [], _, h, _, _ => by simp at h
  | s :: N, x :: L, r, hl, hN, h => by
    have h1 := h x (by simp)
    have h2 := rdR_app N L r (by simpa using hl) (fun y hy => hN y (by simp [hy])) (fun y hy => h y (by simp [hy]))
    have h3 := textS_app s 16 (hN s (by simp)) (by decide)
    rw [List.length_cons, rdR, encR, List.append_assoc, List.append_assoc]
    have h4 := h3 (encV x ++ (encR N L ++ r))
    rw [show (((16 : Nat) : Int)) = 16 from rfl] at h4
    rw [h4, h1, h2]
end
theorem goL_mem {f : Vl → Int → Int × Bool} : ∀ (L : List Vl) (left : Int), (goL f L left).2 = true → ∀ y ∈ L, ∃ s, (f y s).2 = true
  | [], _, _, _, hy => by cases hy
  | x :: L, left, h, y, hy => by
    unfold goL at h
    split at h
    · rename_i hx
      rcases List.mem_cons.1 hy with rfl | hy
      · exact ⟨left, hx⟩
      · exact goL_mem L _ h y hy
    · cases h
theorem goL_le {f : Vl → Int → Int × Bool} : ∀ (L : List Vl) (left : Int), (goL f L left).2 = true → 0 ≤ (goL f L left).1
  | [], left, h => by simpa [goL] using h
  | x :: L, left, h => by
    unfold goL at h ⊢
    split at h
    · rename_i hx
      rw [if_pos hx]; exact goL_le L _ h
    · cases h
/-- All that a value that may be is made of. -/
def wide (n : Int) : Prop := -9223372036854775808 ≤ n ∧ n ≤ 9223372036854775807
inductive Wide : Vl → Prop
  | mk (k n : Int) (s : List UInt8) (L : List Vl) (N : List (List UInt8)) (hk : wide k) (hn : wide n) (hx : ∀ x ∈ L, Wide x) : Wide (.mk k n s L N)
theorem names_short {N : List (List UInt8)} (h : namesB N = true) : ∀ s ∈ N, 1 ≤ s.length ∧ s.length ≤ 16 := fun s hs => by
  unfold namesB at h
  rw [Bool.and_eq_true, List.all_eq_true] at h
  have := h.1 s hs
  unfold nameB at this
  split at this
  · cases this
  · simp only [Bool.and_eq_true, decide_eq_true_eq] at this
    exact ⟨by simp, this.1.1⟩
theorem spend_shaped {lv : Nat} {x : Vl} {z : Int} (h : (spendV (lv + 1) x z).2 = true) : shaped x = true ∧ (goL (spendV lv) x.L (z - own x)).2 = true := by
  unfold spendV at h
  split at h
  · rename_i hs; exact ⟨hs, h⟩
  · cases h
theorem rd_enc : ∀ (lv : Nat) (x : Vl) (z : Int), Wide x → (spendV lv x z).2 = true → ∀ r, rdV lv (encV x ++ r, 0) = (x, (r, 0))
  | 0, _, _, _, h => by cases h
  | lv + 1, .mk k n s L N, z, hw, h => fun r => by
    obtain ⟨hs, hg⟩ := spend_shaped h
    cases hw with
    | mk _ _ _ _ _ hk hn hx =>
    have ih : ∀ y ∈ L, ∀ r, rdV lv (encV y ++ r, 0) = (y, (r, 0)) := fun y hy => by
      obtain ⟨s, hs⟩ := goL_mem L _ hg y hy
      exact rd_enc lv y s (hx y hy) hs
    show bodyV (rdV lv) _ = _
    unfold encV bodyV
    rw [List.cons_append, numS_one]
    unfold shaped at hs
    by_cases h0 : k = 0
    · subst h0
      simp only [if_pos, Bool.and_eq_true, decide_eq_true_eq] at hs
      obtain ⟨⟨rfl, rfl⟩, hN, hL⟩ := hs
      obtain rfl : N = [] := List.length_eq_zero_iff.1 hN
      obtain rfl : L = [] := List.length_eq_zero_iff.1 hL
      simp [byteI]
    by_cases h1 : k = 1
    · subst h1
      simp only [if_neg h0, if_pos, Bool.and_eq_true, decide_eq_true_eq] at hs
      obtain ⟨rfl, hN, hL⟩ := hs
      obtain rfl : N = [] := List.length_eq_zero_iff.1 hN
      obtain rfl : L = [] := List.length_eq_zero_iff.1 hL
      have := numS_word n hn.1 hn.2 r
      simp [byteI, this]
    by_cases h2 : k = 2
    · subst h2
      simp only [if_neg h0, if_neg h1, if_pos, Bool.and_eq_true, decide_eq_true_eq, Bool.or_eq_true] at hs
      obtain ⟨⟨hnn, rfl⟩, hN, hL⟩ := hs
      obtain rfl : N = [] := List.length_eq_zero_iff.1 hN
      obtain rfl : L = [] := List.length_eq_zero_iff.1 hL
      have := numS_one (byteI n) r
      have hb := byteI_toNat n
      rw [hb] at this
      rcases hnn with rfl | rfl <;> simp [byteI] at this ⊢ <;> simp [this]
    by_cases h3 : k = 3
    · subst h3
      simp only [if_neg h0, if_neg h1, if_neg h2, if_pos, Bool.and_eq_true, decide_eq_true_eq] at hs
      obtain ⟨⟨rfl, hl⟩, hN, hL⟩ := hs
      obtain rfl : N = [] := List.length_eq_zero_iff.1 hN
      obtain rfl : L = [] := List.length_eq_zero_iff.1 hL
      have := textS_app s 64 hl (by decide) r
      rw [show (((64 : Nat) : Int)) = 64 from rfl] at this
      simp [byteI, this]
    by_cases h4 : k = 4
    · subst h4
      simp only [if_neg h0, if_neg h1, if_neg h2, if_neg h3, if_pos, Bool.and_eq_true, decide_eq_true_eq] at hs
      obtain ⟨⟨⟨rfl, rfl⟩, hl⟩, hN⟩ := hs
      obtain rfl : N = [] := List.length_eq_zero_iff.1 hN
      have := countS_one L.length 32 hl (by decide) (encL L ++ r)
      have h5 := rdL_app L r ih
      rw [show (((32 : Nat) : Int)) = 32 from rfl] at this
      have h6 : (byteI 4).toNat = 4 := rfl
      simp [h6, this, h5]
    by_cases h5 : k = 5
    · subst h5
      simp only [if_neg h0, if_neg h1, if_neg h2, if_neg h3, if_neg h4, if_pos, Bool.and_eq_true, decide_eq_true_eq] at hs
      obtain ⟨⟨⟨⟨rfl, rfl⟩, hl⟩, hl8⟩, hN⟩ := hs
      have := countS_one L.length 8 (by omega) (by decide) (encR N L ++ r)
      have h7 := rdR_app N L r hl.symm (fun s hs => (names_short hN s hs).2) ih
      rw [show (((8 : Nat) : Int)) = 8 from rfl] at this
      have h6 : (byteI 5).toNat = 5 := rfl
      simp [h6, this, h7]
    by_cases h6 : k = 6
    · subst h6
      simp only [if_neg h0, if_neg h1, if_neg h2, if_neg h3, if_neg h4, if_neg h5, if_pos, Bool.and_eq_true, decide_eq_true_eq] at hs
      obtain ⟨⟨⟨h8, h9⟩, rfl⟩, hN, hL⟩ := hs
      obtain rfl : N = [] := List.length_eq_zero_iff.1 hN
      obtain rfl : L = [] := List.length_eq_zero_iff.1 hL
      have := numS_one (byteI n) r
      have hb := byteI_toNat n
      rw [hb] at this
      have h10 : (byteI 6).toNat = 6 := rfl
      have h11 : n % 256 = n := by omega
      rw [h11] at this
      simp [h10, this]
    · simp [h0, h1, h2, h3, h4, h5, h6] at hs
theorem tk_enc (x : Vl) (hw : Wide x) (h : okV x = true) (r : List UInt8) : tkE (encV x ++ r) = 0 ∧ tkV (encV x ++ r) = x ∧ tkR (encV x ++ r) = r := by
  have hr := rd_enc 8 x 256 hw h r
  have hE : tkE (encV x ++ r) = 0 := by
    unfold tkE; rw [hr, if_pos rfl]; unfold chkV; rw [if_pos h]
  refine ⟨hE, ?_, ?_⟩
  · unfold tkV; rw [if_pos hE, hr]
  · unfold tkR; rw [if_pos hE, hr]
end Go.Proofs.YtnlhajhbmkhnjaaDoor.ValM

/- The statements' helper that copies bytes: what it hands back is a row of the call's own with the same bytes; nothing that was there changes. -/

namespace Go.Proofs.YtnlhajhbmkhnjaaDoor.Wd
open Go.RowKit
theorem infoU8 : (Tryd.prog.info? 5).map (fun i => (i.zero, i.size, i.bytes)) = some (some (.int .u8 0), 1, 1) := by kernel_rfl
end Go.Proofs.YtnlhajhbmkhnjaaDoor.Wd

/- Words for rows of bytes that a call has made: a fresh block, what a callee hands back as new memory. -/


namespace Go.Proofs.YtnlhajhbmkhnjaaDoor.Wd
open Go.RowKit
/-- Cells that a text lays as constants read as those bytes. -/
theorem row_fresh (w : World) (C : Array Value) (e : TypeId) (fz : Nat × Nat) (l : List UInt8) (hC : C = (bvs l).toArray) :
    Row (w.alloc (.cells C e fz)) (w.heap.size + 1) (some ⟨w.heap.size, 0, none⟩) (bvs l) := fun k u hu => by
  subst hC
  refine ⟨_, rfl, Nat.lt_succ_self _, ?_⟩
  rw [Addr.add_lit]
  have hh : (w.alloc (.cells (bvs l).toArray e fz)).heap[w.heap.size]? = some (.cells (bvs l).toArray e fz) := by
    show (w.heap.push _)[w.heap.size]? = _
    simp
  unfold World.cell?
  rw [hh]
  simpa using hu
theorem row_one (w : World) (e : TypeId) (c : UInt8) : Row (w.alloc (.cells #[.int .u8 (c.toNat : Int)] e)) (w.heap.size + 1) (some ⟨w.heap.size, 0, none⟩) (bvs [c]) := row_fresh w _ e (0, 0) [c] rfl
theorem alloc_below (w : World) (o : Obj) : Below w.heap.size w (w.alloc o) := (Below.refl _ _).alloc (Nat.le_refl _) _
/-- A row that a call has made: new memory, its bytes. -/
def Made (w w' : World) (l : List UInt8) (r : Value) : Prop :=
  ∃ A c, r = .slice A l.length c ∧ w'.ownsRow w.heap.size 5 1 r l.length (bvs l) ∧ Below w.heap.size w w'
theorem Made.row {w w' : World} {l : List UInt8} {A : Option Addr} {n c : Nat} (h : Made w w' l (.slice A n c)) : n = l.length ∧ Row w' w'.heap.size A (bvs l) := by
  obtain ⟨A', c', hr, hown, _⟩ := h
  injection hr with h1 h2 h3
  subst h1 h2 h3
  exact ⟨rfl, Row.own hown⟩
theorem made_nil (w : World) : Made w w [] (.slice none 0 0) := ⟨none, 0, rfl, World.ownsRow_nil _ _ _ _, Below.refl _ _⟩
theorem own_slice {w : World} {base n : Nat} {e : TypeId} {v : Value} {xs : List Value} (h : w.ownsRow base e 1 v n xs) : ∃ A c, v = .slice A n c := by
  rcases h.2 with ⟨hv, h0⟩ | ⟨g, cap, cur, hv, _⟩
  · exact ⟨none, 0, by rw [hv, h0]⟩
  · exact ⟨_, cap, hv⟩
end Go.Proofs.YtnlhajhbmkhnjaaDoor.Wd

/- Words for slices of slices of bytes: where the piece lies, what its cells hold. -/

namespace Go.Proofs.YtnlhajhbmkhnjaaDoor.Wd
open Go.RowKit
/-- Where x[l:] lies, x of this address and capacity. -/
def cutAt (A : Option Addr) (c l : Nat) : Option Addr := if c = l then A else A.map (·.add l)
theorem sizeU8 (w : World) : (sizeOf (Tryd.prog.elem 29)).run Tryd.prog w = .ok 1 w := by kernel_rfl
theorem elemU8 : Tryd.prog.underlying 29 = some (.slice (Tryd.prog.elem 29)) := by kernel_rfl
theorem slice_lh (A : Option Addr) (n c : Nat) (kl kh : IntKind) (l h : Int) (h0 : 0 ≤ l) (h1 : l ≤ h) (h2 : h ≤ c) (w : World) :
    (Instr.slice 29 (.slice A n c) (some (.int kl l)) (some (.int kh h)) none).run Tryd.prog w = .ok (.slice (cutAt A c l.toNat) (h.toNat - l.toNat) (c - l.toNat)) w := by
  rw [run_slice_lh w _ A n c elemU8 kl kh l h h0 h1 h2, sizeU8]
  simp only [Result.andThen, sliced, cutAt, Nat.mul_one]
theorem slice_l (A : Option Addr) (n c : Nat) (kl : IntKind) (l : Int) (h0 : 0 ≤ l) (h1 : l ≤ n) (w : World) :
    (Instr.slice 29 (.slice A n c) (some (.int kl l)) none none).run Tryd.prog w = .ok (.slice (cutAt A c l.toNat) (n - l.toNat) (c - l.toNat)) w := by
  rw [run_slice_l w _ A n c elemU8 kl l h0 h1, sizeU8]
  simp only [Result.andThen, sliced, cutAt, Nat.mul_one]
theorem slice_h (A : Option Addr) (n c : Nat) (kh : IntKind) (h : Int) (h0 : 0 ≤ h) (h2 : h ≤ c) (w : World) :
    (Instr.slice 29 (.slice A n c) none (some (.int kh h)) none).run Tryd.prog w = .ok (.slice (cutAt A c 0) h.toNat c) w := by
  rw [run_slice_h w _ A n c elemU8 kh h h0 h2, sizeU8]
  simp only [Result.andThen, sliced, cutAt, Nat.mul_one, Nat.sub_zero]
theorem slice_hm (A : Option Addr) (n c : Nat) (kh km : IntKind) (h m : Int) (h0 : 0 ≤ h) (h2 : h ≤ m) (h3 : m ≤ c) (w : World) :
    (Instr.slice 29 (.slice A n c) none (some (.int kh h)) (some (.int km m))).run Tryd.prog w = .ok (.slice (cutAt A m.toNat 0) h.toNat m.toNat) w := by
  rw [run_slice_hm w _ A n c elemU8 kh km h m h0 h2 h3, sizeU8]
  simp only [Result.andThen, sliced, cutAt, Nat.mul_one, Nat.sub_zero]
theorem cutAt_zero (A : Option Addr) (c : Nat) : cutAt A c 0 = A := by
  unfold cutAt
  split
  · rfl
  · cases A with
    | none => rfl
    | some a => exact congrArg some (Addr.add_zero' a)
theorem Row.cut {w : World} {B : Nat} {A : Option Addr} {xs : List Value} (h : Row w B A xs) (c l : Nat) (hl : xs.length ≤ c) : Row w B (cutAt A c l) (xs.drop l) := fun k u hu => by
  have hk : k < (xs.drop l).length := (List.getElem?_eq_some_iff.1 hu).1
  rw [List.length_drop] at hk
  rw [List.getElem?_drop] at hu
  obtain ⟨ad, rfl, hb, hc⟩ := h (l + k) u hu
  have hne : ¬ c = l := by omega
  refine ⟨ad.add l, by unfold cutAt; rw [if_neg hne]; rfl, by rw [add_block]; exact hb, by rw [Addr.add_add]; exact hc⟩
theorem bvs_drop (l : List UInt8) (n : Nat) : (bvs l).drop n = bvs (l.drop n) := by simp [bvs, List.map_drop]
end Go.Proofs.YtnlhajhbmkhnjaaDoor.Wd

/- Operations on blocks that are known whole: loads and stores of many cells, copy; each leaves a letter for the world, the block's new cells, and that nothing else has turned. -/





namespace Go.Proofs.YtnlhajhbmkhnjaaDoor.Wd
open Go.RowKit
variable {P : Program}
theorem run_zeroValue {e : TypeId} {z : Value} (hz : (P.info? e).map (·.zero) = some (some z)) (w : World) : (zeroValue e).run P w = .ok z w := by
  cases hi : P.info? e with
  | none => simp [hi] at hz
  | some i =>
    have : i.zero = some z := by simpa [hi] using hz
    simp [zeroValue, typeInfo, hi, this]
theorem run_sizeOf {e : TypeId} {n : Nat} (hi : (P.info? e).map (·.size) = some n) (w : World) : (sizeOf e).run P w = .ok n w := by
  cases hq : P.info? e with
  | none => simp [hq] at hi
  | some i =>
    have : i.size = n := by simpa [hq] using hi
    simp [sizeOf, typeInfo, hq, this]
/-- A region that draws its order: what only reads, in the order of the text; then the rest, which has no other order. -/
theorem region_tail {id : Nat} {Q : Exit → Act → World → Prop} {a : Act} {w : World} {l : List Oper} (n : Nat) (hm : P.follows .mixedOrders = true) (hB : Region.lexTailB .any l.toArray n = true)
    (h : ∀ wd, wd = w.drew → wpStill P l.toArray wd (fun a' => wpList P l.toArray Q (l.drop n) a' wd) (l.take n) a) : (Code.region id l.toArray true).wp P Q a w :=
  wp_region_still_tail n hm hB (h _ rfl)
theorem same_left {f : FuncId} {args : Array Value} {w : World} {v : Value} (h : Calls P f args w fun e w' => e = .returned v ∧ w = w') : Calls P f args w fun e w'' => e = .returned v ∧ w'' = w :=
  h.mono fun _ _ ⟨he, hw⟩ => ⟨he, hw.symm⟩
theorem wp_named {c : Code} {Q : Exit → Act → World → Prop} {a : Act} {w : World} (h : ∀ w1, w1 = w → c.wp P Q a w1) : c.wp P Q a w := h w rfl
theorem list_named {ops : Array Oper} {l : List Oper} {Q : Exit → Act → World → Prop} {a : Act} {w : World} (h : ∀ w1, w1 = w → wpList P ops Q l a w1) : wpList P ops Q l a w := h w rfl
/-- vs laid over xs from o on. -/
def lay (xs : List Value) (o : Nat) (vs : List Value) : List Value := xs.take o ++ vs ++ xs.drop (o + vs.length)
theorem lay_length (xs : List Value) (o : Nat) (vs : List Value) (h : o + vs.length ≤ xs.length) : (lay xs o vs).length = xs.length := by simp [lay]; omega
theorem lay_all (xs vs : List Value) (h : vs.length = xs.length) : lay xs 0 vs = vs := by simp [lay, h]
theorem setCells_lay {w : World} {b e : Nat} {xs : List Value} (h : Block w b e xs) (o : Nat) (vs : List Value) (hl : o + vs.length ≤ xs.length) : Block (w.setCells b o vs) b e (lay xs o vs) := setCells_block b e vs o w xs h hl
section
variable {ops : Array Oper} {rest : List Oper} {o : Oper} {a : Act} {w : World} {K : Act → World → Prop} {Q : Exit → Act → World → Prop} {E : Prop}
theorem step_on (hgd : o.guard = none) (h : o.wp P a w K Q) : if Region.wanted o (yielded ops a.tmps) = true then Oper.wp P o a w K Q else E := by
  have hw : Region.wanted o (yielded ops a.tmps) = true := by simp [Region.wanted, hgd]
  rw [if_pos hw]; exact h
/-- store of a value, of one cell or many -/
theorem run_store_any {ty : TypeId} {v : Value} (vs : List Value) (hv : v.cells = vs.toArray) (b off : Nat) (e : TypeId) (xs : List Value) (hb : Block w b e xs) (hl : off + vs.length ≤ xs.length) (hi : (P.info? ty).map (·.size) = some vs.length) (h1 : ∀ v ∈ vs, v.oneCell' = true) :
    (Instr.storeAt ty (.pointer (some ⟨b, off, none⟩)) v).run P w = .ok () (w.setCells b off vs) := by
  have hth := hb.there off _ hl
  have := run_storeCells_cells (P := P) b off vs 0 w (fun j hj => by simpa using (hth j hj).1) (fun j hj => by simpa using (hth j hj).2) h1
  simp only [Nat.add_zero] at this
  have hsz := run_sizeOf (P := P) hi w
  simp only [Instr.storeAt, Instr.sureAddr, storeVar, hv, Sem.run_bind, Sem.run_pure, Result.andThen_ok, hsz]
  simp [this]
theorem size_setCells (b : Nat) : ∀ (vs : List Value) (off : Nat) (w : World), (w.setCells b off vs).heap.size = w.heap.size
  | [], _, _ => rfl
  | v :: r, off, w => by rw [World.setCells, size_setCells b r]; simp [World.setCell]
theorem wp_store_blk (ty : TypeId) (x y : Operand) (ho : o.op = .store ty x y) (b off : Nat) (hx : a.eval x = .pointer (some ⟨b, off, none⟩)) (vs : List Value) (v : Value) (hy : a.eval y = v) (hv : v.cells = vs.toArray)
    (e : TypeId) (xs : List Value) (hb : Block w b e xs) (hl : off + vs.length ≤ xs.length) (hi : (P.info? ty).map (·.size) = some vs.length) (h1 : ∀ v ∈ vs, v.oneCell' = true)
    (h : ∀ w', Block w' b e (lay xs off vs) → Only (fun i => i = b) w w' → w'.heap.size = w.heap.size → K (a.put o.dst undef) w') : o.wp P a w K Q := by
  have hr := run_store_any (P := P) (ty := ty) vs hv b off e xs hb hl hi h1
  unfold Oper.wp execOp
  simp only [ho, hx, hy, Sem.run_bind, hr, Result.andThen_ok, Sem.run_pure]
  exact h _ (setCells_lay hb off vs hl) (Only.setCells b vs off w) (size_setCells b vs off w)
theorem wpList_store_blk (hgd : o.guard = none) (ty : TypeId) (x y : Operand) (ho : o.op = .store ty x y) (b off : Nat) (hx : a.eval x = .pointer (some ⟨b, off, none⟩)) (vs : List Value) (v : Value) (hy : a.eval y = v) (hv : v.cells = vs.toArray)
    (e : TypeId) (xs : List Value) (hb : Block w b e xs) (hl : off + vs.length ≤ xs.length) (hi : (P.info? ty).map (·.size) = some vs.length) (h1 : ∀ v ∈ vs, v.oneCell' = true)
    (h : ∀ w', Block w' b e (lay xs off vs) → Only (fun i => i = b) w w' → w'.heap.size = w.heap.size → wpList P ops Q rest (a.put o.dst undef) w') : wpList P ops Q (o :: rest) a w :=
  wpList_plain hgd fun _ hK => wp_store_blk ty x y ho b off hx vs v hy hv e xs hb hl hi h1 fun w' h2 h3 h4 => hK _ _ (h w' h2 h3 h4)
theorem step_store_blk (hgd : o.guard = none) (ty : TypeId) (x y : Operand) (ho : o.op = .store ty x y) (b off : Nat) (hx : a.eval x = .pointer (some ⟨b, off, none⟩)) (vs : List Value) (v : Value) (hy : a.eval y = v) (hv : v.cells = vs.toArray)
    (e : TypeId) (xs : List Value) (hb : Block w b e xs) (hl : off + vs.length ≤ xs.length) (hi : (P.info? ty).map (·.size) = some vs.length) (h1 : ∀ v ∈ vs, v.oneCell' = true)
    (h : ∀ w', Block w' b e (lay xs off vs) → Only (fun i => i = b) w w' → w'.heap.size = w.heap.size → K (a.put o.dst undef) w') : if Region.wanted o (yielded ops a.tmps) = true then Oper.wp P o a w K Q else E :=
  step_on hgd (wp_store_blk ty x y ho b off hx vs v hy hv e xs hb hl hi h1 h)
/-- load of many cells -/
theorem run_load_blk (w : World) (ty : TypeId) (b off : Nat) (e : TypeId) (xs : List Value) (hb : Block w b e xs)
    (cs : List Value) (hc : (xs.drop off).take cs.length = cs) (d : TypeDesc) (hu : P.underlying ty = some d) (hd : d.isRow = true) (hi : (P.info? ty).map (·.size) = some cs.length) :
    (Instr.loadAt ty (.pointer (some ⟨b, off, none⟩))).run P w = .ok (.agg cs.toArray) w := run_loadAt_mid w b off ty cs d (hb.range off cs hc) hu hd hi
theorem wpList_load_blk (hgd : o.guard = none) (ty : TypeId) (x : Operand) (ho : o.op = .load ty x) (b off : Nat) (hx : a.eval x = .pointer (some ⟨b, off, none⟩)) (e : TypeId) (xs : List Value) (hb : Block w b e xs)
    (cs : List Value) (hc : (xs.drop off).take cs.length = cs) (d : TypeDesc) (hu : P.underlying ty = some d) (hd : d.isRow = true) (hi : (P.info? ty).map (·.size) = some cs.length)
    (h : wpList P ops Q rest (a.put o.dst (.agg cs.toArray)) w) : wpList P ops Q (o :: rest) a w :=
  wpList_load_mid hgd ty x ho b off hx cs d (hb.range off cs hc) hu hd hi h
/-- .. where nothing is written. -/
theorem still_load {L : Act → Prop} (hgd : o.guard = none) (ty : TypeId) (x : Operand) (ho : o.op = .load ty x) (p v : Value) (hx : a.eval x = p) (hr : (Instr.loadAt ty p).run P w = .ok v w) (h : wpStill P ops w L rest (a.put o.dst v)) : wpStill P ops w L (o :: rest) a := by
  refine wpStill_step fun K' hK => ?_
  have hw : Region.wanted o (yielded ops a.tmps) = true := by simp [Region.wanted, hgd]
  rw [if_pos hw]
  unfold Oper.still execOp
  simp only [ho, hx, Sem.run_bind, hr, Result.andThen_ok, Sem.run_pure, Oper.stillUpon]
  exact ⟨trivial, hK _ h⟩
/-- copy -/
theorem wp_copy_blk (d s : Operand) (dT sT : TypeId)
    (ho : o.op = .call { callee := .builtin .copy, args := #[d, s], argTypes := #[dT, sT] }) (elem : TypeId) (hu : P.underlying dT = some (.slice elem)) (hsz : (P.info? elem).map (·.size) = some 1)
    (dp : Option Addr) (dLen dCap : Nat) (sp : Option Addr) (sLen sCap : Nat) (hd : a.eval d = .slice dp dLen dCap) (hs : a.eval s = .slice sp sLen sCap)
    (g off : Nat) (e : TypeId) (xs : List Value) (hg : Block w g e xs) (cs : List Value) (hn : cs.length = Nat.min sLen dLen) (hdp : 0 < cs.length → dp = some ⟨g, off, none⟩)
    (B : Nat) (hsrc : Row w B sp cs) (hfit : off + cs.length ≤ xs.length) (h1 : ∀ v ∈ cs, v.oneCell' = true)
    (h : ∀ w', Block w' g e (lay xs off cs) → Only (fun i => i = g) w w' → w'.heap.size = w.heap.size → K (a.put o.dst (goInt cs.length)) w') : o.wp P a w K Q := by
  by_cases h0 : cs.length = 0
  · obtain rfl : cs = [] := List.eq_nil_of_length_eq_zero h0
    have hrun := run_copy_none (P := P) w dT sT o.type elem dp sp dLen dCap sLen sCap hu hsz (by simpa using hn.symm)
    unfold Oper.wp
    simp [execOp, ho, resolve, invoke, builtin, hd, hs, hrun, Result.andThen]
    exact h w (by simpa [lay] using hg) (Only.refl _ _) rfl
  · have hdp := hdp (by omega)
    subst hdp
    obtain ⟨ad, rfl, _⟩ := hsrc 0 _ (List.getElem?_eq_getElem (by omega))
    have hrun := run_copy_row (P := P) w dT sT o.type elem g off dLen dCap ad sLen sCap xs.toArray e cs hu hsz hg hn (fun j v hv => hsrc.some j v hv) (by simpa using hfit) h1
    unfold Oper.wp
    simp [execOp, ho, resolve, invoke, builtin, hd, hs, hrun, Result.andThen]
    refine h _ (show _ = _ by simpa [lay] using setRow_heap w g _ _ e _ hg) ⟨rfl, rfl, rfl, by simp, fun i _ hi => setRow_other w g i _ hi⟩ (by simp)
theorem wpList_copy_blk (hgd : o.guard = none) (d s : Operand) (dT sT : TypeId)
    (ho : o.op = .call { callee := .builtin .copy, args := #[d, s], argTypes := #[dT, sT] }) (elem : TypeId) (hu : P.underlying dT = some (.slice elem)) (hsz : (P.info? elem).map (·.size) = some 1)
    (dp : Option Addr) (dLen dCap : Nat) (sp : Option Addr) (sLen sCap : Nat) (hd : a.eval d = .slice dp dLen dCap) (hs : a.eval s = .slice sp sLen sCap)
    (g off : Nat) (e : TypeId) (xs : List Value) (hg : Block w g e xs) (cs : List Value) (hn : cs.length = Nat.min sLen dLen) (hdp : 0 < cs.length → dp = some ⟨g, off, none⟩)
    (B : Nat) (hsrc : Row w B sp cs) (hfit : off + cs.length ≤ xs.length) (h1 : ∀ v ∈ cs, v.oneCell' = true)
    (h : ∀ w', Block w' g e (lay xs off cs) → Only (fun i => i = g) w w' → w'.heap.size = w.heap.size → wpList P ops Q rest (a.put o.dst (goInt cs.length)) w') : wpList P ops Q (o :: rest) a w :=
  wpList_plain hgd fun _ hK => wp_copy_blk d s dT sT ho elem hu hsz dp dLen dCap sp sLen sCap hd hs g off e xs hg cs hn hdp B hsrc hfit h1 fun w' h2 h3 h4 => hK _ _ (h w' h2 h3 h4)
theorem step_copy_blk (hgd : o.guard = none) (d s : Operand) (dT sT : TypeId)
    (ho : o.op = .call { callee := .builtin .copy, args := #[d, s], argTypes := #[dT, sT] }) (elem : TypeId) (hu : P.underlying dT = some (.slice elem)) (hsz : (P.info? elem).map (·.size) = some 1)
    (dp : Option Addr) (dLen dCap : Nat) (sp : Option Addr) (sLen sCap : Nat) (hd : a.eval d = .slice dp dLen dCap) (hs : a.eval s = .slice sp sLen sCap)
    (g off : Nat) (e : TypeId) (xs : List Value) (hg : Block w g e xs) (cs : List Value) (hn : cs.length = Nat.min sLen dLen) (hdp : 0 < cs.length → dp = some ⟨g, off, none⟩)
    (B : Nat) (hsrc : Row w B sp cs) (hfit : off + cs.length ≤ xs.length) (h1 : ∀ v ∈ cs, v.oneCell' = true)
    (h : ∀ w', Block w' g e (lay xs off cs) → Only (fun i => i = g) w w' → w'.heap.size = w.heap.size → K (a.put o.dst (goInt cs.length)) w') : if Region.wanted o (yielded ops a.tmps) = true then Oper.wp P o a w K Q else E :=
  step_on hgd (wp_copy_blk d s dT sT ho elem hu hsz dp dLen dCap sp sLen sCap hd hs g off e xs hg cs hn hdp B hsrc hfit h1 h)
end
/-! what makes a block -/
theorem new_block (w : World) (e : TypeId) (vs : List Value) : Block (w.alloc (.cells vs.toArray e)) w.heap.size e vs := by have := Block.new w vs.toArray e; simpa using this
theorem new_only (w : World) (o : Obj) : Only (fun _ => False) w (w.alloc o) := Only.new ((Below.refl _ _).alloc (Nat.le_refl _) _)
theorem run_newVar (w : World) (e : TypeId) (v : Value) : (newVar e v).run P w = .ok ⟨w.heap.size, 0, none⟩ (w.alloc (.cells v.cells e)) := rfl
/-- Parts laid into cells. -/
theorem fold_lay : ∀ (vs xs : List Value) (off : Nat), off + vs.length ≤ xs.length → vs.toArray.zipIdx.foldl (fun cs x => cs.setIfInBounds (off + x.2) x.1) xs.toArray = (lay xs off vs).toArray := by
  intro vs xs off h
  have key : ∀ (vs xs : List Value) (off j : Nat), off + j + vs.length ≤ xs.length → (vs.zipIdx j).foldl (fun cs x => cs.setIfInBounds (off + x.2) x.1) xs.toArray = (lay xs (off + j) vs).toArray := by
    intro vs
    induction vs with
    | nil => intro xs off j _; simp [lay]
    | cons v r ih =>
      intro xs off j hl
      simp only [List.zipIdx_cons, List.foldl_cons, List.setIfInBounds_toArray]
      rw [ih (xs.set (off + j) v) off (j + 1) (by simp only [List.length_set, List.length_cons] at hl ⊢; omega)]
      have hlt : off + j < xs.length := by simp only [List.length_cons] at hl; omega
      have e1 : (xs.set (off + j) v).take (off + (j + 1)) = xs.take (off + j) ++ [v] := by
        rw [← Nat.add_assoc, List.take_succ_eq_append_getElem (by simpa using hlt), List.take_set_of_le (by omega)]; simp
      have e2 : (xs.set (off + j) v).drop (off + (j + 1) + r.length) = xs.drop (off + j + (v :: r).length) := by
        rw [List.drop_set_of_lt (by omega)]; congr 1; simp only [List.length_cons]; omega
      simp only [lay, e1, e2]; simp
  have := key vs xs off 0 (by omega)
  simpa [← Array.foldl_toList] using this
theorem fill_cons (place : Nat → Option (Nat × Nat)) (xs : List Value) (i off : Nat) (vs : List Value) (v : Value) (rest : List (Nat × Value)) (hp : place i = some (off, vs.length)) (hv : v.cells = vs.toArray) (h : off + vs.length ≤ xs.length) :
    Instr.fill place xs.toArray ((i, v) :: rest) = Instr.fill place (lay xs off vs).toArray rest := by
  rw [Instr.fill]
  simp only [hp, hv]
  rw [if_neg (by simpa using h)]
  congr 1
  exact fold_lay vs xs off h
/-- Where a struct's fields lie, and how many cells each has. -/
def placesOf (P : Program) (t : TypeId) : Option (List (Nat × Nat)) := match P.underlying t with
  | some (.struct fs) => fs.toList.mapM (fun f => (P.info? f.type).map fun i => (f.offset, i.size))
  | _ => none
theorem run_build_parts {t : TypeId} {places : List (Nat × Nat)} (hp : placesOf P t = some places) {z : Value} (hz : (P.info? t).map (·.zero) = some (some z)) (parts : Array (Nat × Value)) (cells : Array Value) (h : Instr.fill (places.toArray[·]?) z.cells parts.toList = some cells) (w : World) :
    (Instr.build t parts).run P w = .ok (.agg cells) w := by
  refine run_build w t parts cells ?_
  unfold placesOf at hp
  cases hu : P.underlying t with
  | none => simp [hu] at hp
  | some d =>
    rw [hu] at hp
    cases hi : P.info? t with
    | none => simp [hi] at hz
    | some i =>
      have hz' : i.zero = some z := by simpa [hi] using hz
      cases d <;> simp at hp
      rename_i fs
      unfold Program.built
      simp only [hi, hu, hz', hp]
      exact h
theorem fill_nil (place : Nat → Option (Nat × Nat)) (cells : Array Value) : Instr.fill place cells [] = some cells := rfl
theorem run_build1 {t e : TypeId} (ht : P.underlying t = some (.slice e)) (vs : List Value) (hs : (P.info? e).map (·.size) = some vs.length) (hpos : 0 < vs.length) (hsm : vs.length ≤ 16777216) (z : Value) (hz : (P.info? e).map (·.zero) = some (some z)) (v : Value) (hv : v.cells = vs.toArray) (w : World) :
    (Instr.buildSlice t 1 #[(0, v)]).run P w = .ok (.slice (some ⟨w.heap.size, 0, none⟩) 1 1) (w.alloc (.cells vs.toArray e)) := by
  unfold Instr.buildSlice
  have hne : ¬ (1 * vs.length > 2 ^ 24) := by omega
  have hne2 : ¬ (1 * vs.length = 0) := by omega
  obtain ⟨xs, hxs, hlx⟩ : ∃ xs : List Value, (Array.range (1 * vs.length)).map (z.cells[· % z.cells.size]!) = xs.toArray ∧ xs.length = vs.length := by
    exact ⟨((Array.range (1 * vs.length)).map (z.cells[· % z.cells.size]!)).toList, Array.toArray_toList.symm, by simp⟩
  have hf : Instr.fill (fun i => some (i * vs.length, vs.length)) xs.toArray [(0, v)] = some vs.toArray := by
    rw [fill_cons (off := 0) (vs := vs) (hp := by simp) (hv := hv) (h := by omega), lay_all _ _ (by omega)]; rfl
  simp only [Sem.run_bind, run_underlying ht w, Result.andThen, run_sizeOf hs, if_neg hne, if_neg hne2, run_zeroValue hz, Sem.run_pure, hxs, hf]
  rfl
section
variable {ops : Array Oper} {rest : List Oper} {o : Oper} {a : Act} {w : World} {K : Act → World → Prop} {Q : Exit → Act → World → Prop} {E : Prop}
theorem wp_box_blk (e : TypeId) (x : Operand) (ho : o.op = .box e x) (vs : List Value) (v : Value) (hx : a.eval x = v) (hv : v.cells = vs.toArray)
    (h : ∀ g w', Block w' g e vs → Only (fun _ => False) w w' → w.heap.size ≤ g → K (a.put o.dst (.pointer (some ⟨g, 0, none⟩))) w') : o.wp P a w K Q := by
  unfold Oper.wp execOp
  simp only [ho, hx, Instr.box, Sem.run_bind, run_newVar, Result.andThen_ok, Sem.run_pure, hv]
  exact h _ _ (new_block w e vs) (new_only w _) (Nat.le_refl _)
theorem wp_alloc_blk (e : TypeId) (ho : o.op = .alloc e) (zs : List Value) (z : Value) (hz : (P.info? e).map (·.zero) = some (some z)) (hv : z.cells = zs.toArray)
    (h : ∀ g w', Block w' g e zs → Only (fun _ => False) w w' → w.heap.size ≤ g → K (a.put o.dst (.pointer (some ⟨g, 0, none⟩))) w') : o.wp P a w K Q := by
  unfold Oper.wp execOp
  simp only [ho, Instr.alloc, Sem.run_bind, run_zeroValue hz, run_newVar, Result.andThen_ok, Sem.run_pure, hv]
  exact h _ _ (new_block w e zs) (new_only w _) (Nat.le_refl _)
theorem wp_build1_blk (t e : TypeId) (x : Operand) (ho : o.op = .buildSlice t 1 #[(0, x)]) (ht : P.underlying t = some (.slice e)) (vs : List Value) (hs : (P.info? e).map (·.size) = some vs.length) (hpos : 0 < vs.length) (hsm : vs.length ≤ 16777216) (z : Value) (hz : (P.info? e).map (·.zero) = some (some z))
    (v : Value) (hx : a.eval x = v) (hv : v.cells = vs.toArray)
    (h : ∀ g w', Block w' g e vs → Only (fun _ => False) w w' → w.heap.size ≤ g → K (a.put o.dst (.slice (some ⟨g, 0, none⟩) 1 1)) w') : o.wp P a w K Q := by
  have hr := run_build1 (P := P) ht vs hs hpos hsm z hz v hv w
  unfold Oper.wp execOp
  simp only [ho, List.map_toArray, List.map_cons, List.map_nil, hx, hr, Sem.run_bind, Result.andThen_ok, Sem.run_pure]
  exact h _ _ (new_block w e vs) (new_only w _) (Nat.le_refl _)
theorem wpList_box_blk (hgd : o.guard = none) (e : TypeId) (x : Operand) (ho : o.op = .box e x) (vs : List Value) (v : Value) (hx : a.eval x = v) (hv : v.cells = vs.toArray)
    (h : ∀ g w', Block w' g e vs → Only (fun _ => False) w w' → w.heap.size ≤ g → wpList P ops Q rest (a.put o.dst (.pointer (some ⟨g, 0, none⟩))) w') : wpList P ops Q (o :: rest) a w :=
  wpList_plain hgd fun _ hK => wp_box_blk e x ho vs v hx hv fun g w' h1 h2 h3 => hK _ _ (h g w' h1 h2 h3)
theorem wpList_alloc_blk (hgd : o.guard = none) (e : TypeId) (ho : o.op = .alloc e) (zs : List Value) (z : Value) (hz : (P.info? e).map (·.zero) = some (some z)) (hv : z.cells = zs.toArray)
    (h : ∀ g w', Block w' g e zs → Only (fun _ => False) w w' → w.heap.size ≤ g → wpList P ops Q rest (a.put o.dst (.pointer (some ⟨g, 0, none⟩))) w') : wpList P ops Q (o :: rest) a w :=
  wpList_plain hgd fun _ hK => wp_alloc_blk e ho zs z hz hv fun g w' h1 h2 h3 => hK _ _ (h g w' h1 h2 h3)
theorem wpList_build1_blk (hgd : o.guard = none) (t e : TypeId) (x : Operand) (ho : o.op = .buildSlice t 1 #[(0, x)]) (ht : P.underlying t = some (.slice e)) (vs : List Value) (hs : (P.info? e).map (·.size) = some vs.length) (hpos : 0 < vs.length) (hsm : vs.length ≤ 16777216) (z : Value) (hz : (P.info? e).map (·.zero) = some (some z))
    (v : Value) (hx : a.eval x = v) (hv : v.cells = vs.toArray)
    (h : ∀ g w', Block w' g e vs → Only (fun _ => False) w w' → w.heap.size ≤ g → wpList P ops Q rest (a.put o.dst (.slice (some ⟨g, 0, none⟩) 1 1)) w') : wpList P ops Q (o :: rest) a w :=
  wpList_plain hgd fun _ hK => wp_build1_blk t e x ho ht vs hs hpos hsm z hz v hx hv fun g w' h1 h2 h3 => hK _ _ (h g w' h1 h2 h3)
theorem step_build1_blk (hgd : o.guard = none) (t e : TypeId) (x : Operand) (ho : o.op = .buildSlice t 1 #[(0, x)]) (ht : P.underlying t = some (.slice e)) (vs : List Value) (hs : (P.info? e).map (·.size) = some vs.length) (hpos : 0 < vs.length) (hsm : vs.length ≤ 16777216) (z : Value) (hz : (P.info? e).map (·.zero) = some (some z))
    (v : Value) (hx : a.eval x = v) (hv : v.cells = vs.toArray)
    (h : ∀ g w', Block w' g e vs → Only (fun _ => False) w w' → w.heap.size ≤ g → K (a.put o.dst (.slice (some ⟨g, 0, none⟩) 1 1)) w') : if Region.wanted o (yielded ops a.tmps) = true then Oper.wp P o a w K Q else E :=
  step_on hgd (wp_build1_blk t e x ho ht vs hs hpos hsm z hz v hx hv h)
end
/-! make -/
theorem made_flat (zs : List Value) (hz : 0 < zs.length) : ∀ n, (madeCells zs.toArray (n * zs.length)).toList = (List.replicate n zs).flatten
  | 0 => by simp [madeCells]
  | n + 1 => by
    have ih := made_flat zs hz n
    simp only [madeCells, Array.toList_map, Array.toList_range, List.size_toArray] at ih ⊢
    rw [Nat.succ_mul, List.range_add, List.map_append, ih, List.replicate_succ', List.flatten_append]
    congr 1
    rw [List.map_map]
    have : ∀ j ∈ List.range zs.length, ((fun x => zs.toArray[x % zs.length]!) ∘ fun x => n * zs.length + x) j = zs[j]! := by
      intro j hj
      have hj := List.mem_range.1 hj
      simp only [Function.comp]
      rw [Nat.mul_comm, Nat.mul_add_mod, Nat.mod_eq_of_lt hj]; simp
    rw [List.map_congr_left this]
    simp only [List.flatten_cons, List.flatten_nil, List.append_nil]
    refine List.ext_getElem (by simp) fun j h1 h2 => ?_
    simp [h2]
section
variable {ops : Array Oper} {rest : List Oper} {o : Oper} {a : Act} {w : World} {K : Act → World → Prop} {Q : Exit → Act → World → Prop} {E : Prop}
theorem wp_make_blk (t e : TypeId) (x y : Operand) (ho : o.op = .makeSlice t x y) (ht : P.underlying t = some (.slice e)) (zs : List Value) (hpos : 0 < zs.length) (i : TypeInfo) (hi : P.info? e = some i) (z : Value) (hz : i.zero = some z) (hzc : z.cells = zs.toArray) (hsz : i.size = zs.length)
    (k k' : IntKind) (n : Nat) (hx : a.eval x = .int k (n : Int)) (hy : a.eval y = .int k' (n : Int)) (hb : i.bytes * n ≤ 140737488355328) (hm : n ≤ 9223372036854775807)
    (h : ∀ g w', Block w' g e (List.replicate n zs).flatten → Only (fun _ => False) w w' → w.heap.size ≤ g → K (a.put o.dst (.slice (some ⟨g, 0, none⟩) n n)) w') : o.wp P a w K Q := by
  have hb' : (i.bytes : Int) * (n : Int) ≤ 281474976710656 := by
    have h : ((i.bytes * n : Nat) : Int) ≤ 281474976710656 := by omega
    rwa [Int.natCast_mul] at h
  have hr := run_make (P := P) w t e i z ht hi hz k k' n n (by omega) (by omega) hb' (by omega)
  simp only [Int.toNat_natCast] at hr
  have e1 : madeCells z.cells (n * i.size) = ((List.replicate n zs).flatten).toArray := by
    rw [hzc, hsz, ← made_flat zs hpos n]
  rw [e1] at hr
  unfold Oper.wp execOp
  simp only [ho, hx, hy, hr, Sem.run_bind, Result.andThen_ok, Sem.run_pure]
  exact h _ _ (new_block w e _) (new_only w _) (Nat.le_refl _)
theorem wpList_make_blk (hgd : o.guard = none) (t e : TypeId) (x y : Operand) (ho : o.op = .makeSlice t x y) (ht : P.underlying t = some (.slice e)) (zs : List Value) (hpos : 0 < zs.length) (i : TypeInfo) (hi : P.info? e = some i) (z : Value) (hz : i.zero = some z) (hzc : z.cells = zs.toArray) (hsz : i.size = zs.length)
    (k k' : IntKind) (n : Nat) (hx : a.eval x = .int k (n : Int)) (hy : a.eval y = .int k' (n : Int)) (hb : i.bytes * n ≤ 140737488355328) (hm : n ≤ 9223372036854775807)
    (h : ∀ g w', Block w' g e (List.replicate n zs).flatten → Only (fun _ => False) w w' → w.heap.size ≤ g → wpList P ops Q rest (a.put o.dst (.slice (some ⟨g, 0, none⟩) n n)) w') : wpList P ops Q (o :: rest) a w :=
  wpList_plain hgd fun _ hK => wp_make_blk t e x y ho ht zs hpos i hi z hz hzc hsz k k' n hx hy hb hm fun g w' h1 h2 h3 => hK _ _ (h g w' h1 h2 h3)
end
end Go.Proofs.YtnlhajhbmkhnjaaDoor.Wd

/- A slice's literal whose places are all given, of any width: one new block; append of such rows, of any width. -/


namespace Go.Proofs.YtnlhajhbmkhnjaaDoor.Wd
open Go.RowKit
variable {P : Program}
theorem fill_row (K : Nat) : ∀ (vs : List Value) (i0 : Nat) (xs : List Value), (∀ v ∈ vs, v.cells.size = K) → (i0 + vs.length) * K ≤ xs.length →
    Instr.fill (fun i => some (i * K, K)) xs.toArray ((vs.zipIdx i0).map fun p => (p.2, p.1)) = some (lay xs (i0 * K) (vs.flatMap fun v => v.cells.toList)).toArray
  | [], i0, xs, _, _ => by simp [Instr.fill, lay]
  | v :: r, i0, xs, hv, hl => by
    have h0 := hv v (by simp)
    have hlc : v.cells.toList.length = K := by simpa using h0
    simp only [List.length_cons] at hl
    have hsum : (i0 + 1 + r.length) * K = i0 * K + K + r.length * K := by rw [Nat.add_mul, Nat.add_mul, Nat.one_mul]
    have hl' : (i0 + 1 + r.length) * K ≤ xs.length := by rw [show i0 + 1 + r.length = i0 + (r.length + 1) by omega]; exact hl
    have hoff : i0 * K + v.cells.toList.length ≤ xs.length := by rw [hlc]; omega
    simp only [List.zipIdx_cons, List.map_cons]
    rw [fill_cons (off := i0 * K) (vs := v.cells.toList) (hp := by rw [hlc]) (hv := by simp) (h := hoff)]
    have hln := lay_length xs (i0 * K) v.cells.toList hoff
    rw [fill_row K r (i0 + 1) _ (fun u hu => hv u (by simp [hu])) (by rw [hln]; exact hl')]
    congr 2
    rw [List.flatMap_cons]
    have hK1 : (i0 + 1) * K = i0 * K + K := by rw [Nat.add_mul, Nat.one_mul]
    have t1 : (lay xs (i0 * K) v.cells.toList).take (i0 * K + K) = xs.take (i0 * K) ++ v.cells.toList := by
      unfold lay
      rw [List.take_left' (by simp [hlc]; omega)]
    have d1 : ∀ m, (lay xs (i0 * K) v.cells.toList).drop (i0 * K + K + m) = xs.drop (i0 * K + K + m) := fun m => by
      unfold lay
      rw [List.drop_append, List.drop_eq_nil_of_le (by simp [hlc]; omega), List.nil_append, List.drop_drop]
      congr 1
      simp [hlc]; omega
    generalize lay xs (i0 * K) v.cells.toList = ys at *
    unfold lay
    rw [hK1, t1, d1, List.length_append, hlc, Nat.add_assoc]
    simp only [List.append_assoc]
/-- As the walk meets it. -/
theorem run_buildN {t e : TypeId} (ht : P.underlying t = some (.slice e)) (K : Nat) (hs : (P.info? e).map (·.size) = some K) (hK : 0 < K) (z : Value) (hz : (P.info? e).map (·.zero) = some (some z)) (vs : List Value) (hv : ∀ v ∈ vs, v.cells.size = K) (hpos : 0 < vs.length) (hsm : vs.length * K ≤ 16777216) (n : Nat) (hn : n = vs.length) (parts : List (Nat × Value)) (hp : parts = (vs.zipIdx).map fun p => (p.2, p.1)) (w : World) :
    (Instr.buildSlice t n parts.toArray).run P w = .ok (.slice (some ⟨w.heap.size, 0, none⟩) n n) (w.alloc (.cells (vs.flatMap fun v => v.cells.toList).toArray e)) := by
  subst hp hn
  unfold Instr.buildSlice
  have hne : ¬ (vs.length * K > 2 ^ 24) := by omega
  have hpos' : 0 < vs.length * K := Nat.mul_pos hpos hK
  have hne2 : ¬ (vs.length * K = 0) := by omega
  obtain ⟨xs, hxs, hlx⟩ : ∃ xs : List Value, (Array.range (vs.length * K)).map (z.cells[· % z.cells.size]!) = xs.toArray ∧ xs.length = vs.length * K :=
    ⟨((Array.range (vs.length * K)).map (z.cells[· % z.cells.size]!)).toList, Array.toArray_toList.symm, by simp⟩
  have hfl : (vs.flatMap fun v => v.cells.toList).length = vs.length * K := by
    clear hpos hsm hne hne2 hpos' hxs hlx
    induction vs with
    | nil => simp
    | cons v r ih =>
      have h0 := hv v (by simp)
      rw [List.flatMap_cons, List.length_append, ih (fun u hu => hv u (by simp [hu])), List.length_cons, Nat.add_mul, Nat.one_mul]
      simp [h0]; omega
  have hf : Instr.fill (fun i => some (i * K, K)) xs.toArray ((vs.zipIdx).map fun p => (p.2, p.1)) = some (vs.flatMap fun v => v.cells.toList).toArray := by
    rw [fill_row K vs 0 xs hv (by rw [Nat.zero_add]; omega), Nat.zero_mul, lay_all _ _ (by rw [hfl, hlx])]
  simp only [Sem.run_bind, run_underlying ht w, Result.andThen, run_sizeOf hs, if_neg hne, if_neg hne2, run_zeroValue hz, Sem.run_pure, hxs, hf]
  rfl
section
variable {ops : Array Oper} {rest : List Oper} {o : Oper} {a : Act} {w : World} {K : Act → World → Prop} {Q : Exit → Act → World → Prop} {E : Prop}
theorem wp_buildN_blk (t e : TypeId) (n : Nat) (parts : List (Nat × Operand)) (ho : o.op = .buildSlice t n parts.toArray) (ht : P.underlying t = some (.slice e)) (C : Nat) (hs : (P.info? e).map (·.size) = some C) (hC : 0 < C) (z : Value) (hz : (P.info? e).map (·.zero) = some (some z))
    (vs : List Value) (hx : (parts.map fun (i, x) => (i, a.eval x)) = (vs.zipIdx).map fun p => (p.2, p.1)) (xs : List Value) (hxs : (vs.flatMap fun v => v.cells.toList) = xs) (hv : ∀ v ∈ vs, v.cells.size = C) (hpos : 0 < vs.length) (hsm : vs.length * C ≤ 16777216) (hn : n = vs.length)
    (h : ∀ g w', Block w' g e xs → Only (fun _ => False) w w' → w.heap.size ≤ g → K (a.put o.dst (.slice (some ⟨g, 0, none⟩) n n)) w') : o.wp P a w K Q := by
  have hr := run_buildN (P := P) ht C hs hC z hz vs hv hpos hsm n hn _ hx w
  subst hxs
  unfold Oper.wp execOp
  simp only [ho, List.map_toArray, hr, Sem.run_bind, Result.andThen_ok, Sem.run_pure]
  exact h _ _ (new_block w e _) (new_only w _) (Nat.le_refl _)
theorem wpList_buildN_blk (hgd : o.guard = none) (t e : TypeId) (n : Nat) (parts : List (Nat × Operand)) (ho : o.op = .buildSlice t n parts.toArray) (ht : P.underlying t = some (.slice e)) (C : Nat) (hs : (P.info? e).map (·.size) = some C) (hC : 0 < C) (z : Value) (hz : (P.info? e).map (·.zero) = some (some z))
    (vs : List Value) (hx : (parts.map fun (i, x) => (i, a.eval x)) = (vs.zipIdx).map fun p => (p.2, p.1)) (xs : List Value) (hxs : (vs.flatMap fun v => v.cells.toList) = xs) (hv : ∀ v ∈ vs, v.cells.size = C) (hpos : 0 < vs.length) (hsm : vs.length * C ≤ 16777216) (hn : n = vs.length)
    (h : ∀ g w', Block w' g e xs → Only (fun _ => False) w w' → w.heap.size ≤ g → wpList P ops Q rest (a.put o.dst (.slice (some ⟨g, 0, none⟩) n n)) w') : wpList P ops Q (o :: rest) a w :=
  wpList_plain hgd fun _ hK => wp_buildN_blk t e n parts ho ht C hs hC z hz vs hx xs hxs hv hpos hsm hn fun g w' h1 h2 h3 => hK _ _ (h g w' h1 h2 h3)
end
end Go.Proofs.YtnlhajhbmkhnjaaDoor.Wd

/- An append that stands behind a guard ('&&', '||'): the same law as for one without. -/

namespace Go.Proofs.YtnlhajhbmkhnjaaDoor.Wd
open Go.RowKit
theorem wpList_on {P : Program} {w : World} {ops : Array Oper} {rest : List Oper} {o : Oper} {a : Act} {Q : Exit → Act → World → Prop} (hw : Region.wanted o (yielded ops a.tmps) = true)
    (h : ∀ K : Act → World → Prop, (∀ a w, wpList P ops Q rest a w → K a w) → o.wp P a w K Q) : wpList P ops Q (o :: rest) a w :=
  wpList_step fun K hK => by rw [if_pos hw]; exact h K hK
theorem wpList_append_row_on {P : Program} {w : World} {ops : Array Oper} {rest : List Oper} {o : Oper} {a : Act} {Q : Exit → Act → World → Prop} (hgd : Region.wanted o (yielded ops a.tmps) = true) (s x : Operand) (t : TypeId)
    (ho : o.op = .call { callee := .builtin .append, args := #[s, x], argTypes := #[t, t] })
    (base : Nat) (e : TypeId) (i : TypeInfo) (z : Value) (bytes : Nat) (ht : P.underlying t = .some (.slice e)) (hi : P.info? e = some i) (hz : i.zero = .some z)
    (hsize : i.size = 1) (hby : i.bytes = bytes) (hzs : z.cells.size = 1)
    (v : Value) (n : Nat) (xs : List Value) (hs : a.eval s = v) (hown : w.ownsRow base e 1 v n xs)
    (B : Nat) (A : Option Addr) (m c : Nat) (news : List Value) (hx : a.eval x = .slice A m c) (hl : news.length = m) (hr : Row w B A news) (h1 : ∀ u ∈ news, u.oneCell' = true)
    (h63 : n + m ≤ maxLen) (hbytes : (n + m) * bytes ≤ 140737488355328) (hbase : base ≤ w.heap.size)
    (h : ∀ v' w', w'.ownsRow base e 1 v' (n + m) (xs ++ news) → w.grownBy w' v.ownBlock → wpList P ops Q rest (a.put o.dst v') w') : wpList P ops Q (o :: rest) a w := by
  cases A with
  | none =>
    have hn := hr.none
    subst hn
    have hm : m = 0 := hl.symm
    subst hm
    refine wpList_on hgd fun K hK => ?_
    have hrun := run_append_none (P := P) w base t o.type e i 1 ht hi v n xs hown c
    unfold Oper.wp
    simp [execOp, ho, resolve, invoke, builtin, hs, hx, hrun, Result.andThen]
    exact hK _ _ (h v w (by simpa using hown) ⟨rfl, rfl, rfl, Nat.le_refl _, fun _ _ _ => rfl⟩)
  | some ad =>
    exact wpList_on hgd fun K hK => wp_append_own w s x t ho base e i z 1 bytes ht hi hz hsize hby hzs (by decide) v n xs hs hown ad m c news hx (by omega) (fun j u hu => hr.some j u hu) h1 h63 hbytes hbase fun v' w' h2 h3 _ => hK _ _ (h v' w' h2 h3)
end Go.Proofs.YtnlhajhbmkhnjaaDoor.Wd

/- Words for rows of bytes in memory of the call's own, and slices of such; what may be written over. -/





namespace Go.Proofs.YtnlhajhbmkhnjaaDoor.Wd
open Go.RowKit
theorem Row.tight {w : World} {B : Nat} {A : Option Addr} {xs : List Value} (h : Row w B A xs) : Row w w.heap.size A xs := fun k u hu => by
  obtain ⟨ad, e, _, hc⟩ := h k u hu
  have := World.block_lt_of_cell? w _ hc
  rw [add_block] at this
  exact ⟨ad, e, this, hc⟩
set_option maxRecDepth 20000 in
set_option maxHeartbeats 1000000 in
theorem clone_any (B : Nat) (A : Option Addr) (n c : Nat) (l : List UInt8) (w : World) (hn : n = l.length) (hl : n ≤ 140737488355328) (h : Row w B A (bvs l)) :
    Calls Tryd.prog 36 #[.slice A n c] w fun e w' => ∃ r, e = .returned r ∧ Made w w' l r := by
  obtain ⟨i0, hi, hz0, hz1, hz2⟩ := info_parts infoU8
  have hnil := fun (w : World) (a : Option Addr) (n c : Nat) => Lib.run_eql_slice_nil (P := Tryd.prog) w 29 5 a n c 0 0 Tryd.underlying29
  cases A with
  | none =>
    have hl0 : l = [] := by have := h.none; simpa [bvs] using this
    subst hl0
    subst hn
    clear h
    go_enter Tryd.func36, Tryd.ntmps36
    go_wp2
    go_ret
    exact ⟨_, rfl, made_nil w⟩
  | some ad =>
    have HN := Lib.hid hn
    clear hn
    have HL : Hid ((bvs l).length = n) := by unfold Hid; rw [bvs_length]; exact HN.out.symm
    have HO := Lib.hid (bvs_one l)
    have hr := h.tight.below (alloc_below w (.cells #[] 5))
    have hown : (w.alloc (.cells #[] 5)).ownsRow w.heap.size 5 1 (.slice (some ⟨w.heap.size, 0, none⟩) 0 0) 0 [] := World.ownsRow_made w #[] 0 (Nat.le_refl _) (by unfold maxLen; omega) (by simp)
    have hb := alloc_below w (.cells #[] 5)
    have HLT := Lib.hid hown.lt
    clear h
    go_enter Tryd.func36, Tryd.ntmps36
    go_wp2_with (at_builtin; refine wpList_append_row rfl _ _ 29 rfl w.heap.size 5 i0 (.int .u8 0) 1 Tryd.underlying29 hi hz0 hz1 hz2 rfl _ 0 [] rfl hown w.heap.size (some ad) n c (bvs l) rfl HL.out hr HO.out (by unfold maxLen; omega) (by omega) (by simp) ?_; intro v' w1 hown1 hgrow1)
    have hg : (w.alloc (.cells #[] 5)).grownBy w1 (Value.slice (some ⟨w.heap.size, 0, none⟩) 0 0).ownBlock := hgrow1
    have hb1 : Below w.heap.size w w1 := hb.grown hg (by simp) (fun k hk => (HLT.out k hk).1)
    simp only [Nat.zero_add, List.nil_append] at hown1
    obtain ⟨A', c', rfl⟩ := own_slice hown1
    clear hgrow1 hg
    go_ret
    rw [HN.out] at hown1
    exact ⟨.slice A' n c', rfl, A', c', by rw [HN.out], by rw [HN.out]; exact hown1, hb1⟩
theorem owns_kept {w w' : World} {base e size n : Nat} {v : Value} {xs : List Value} (h : w.ownsRow base e size v n xs) (hb : Below w.heap.size w w') : w'.ownsRow base e size v n xs := by
  refine ⟨h.1, ?_⟩
  rcases h.2 with h2 | ⟨g, cap, cur, hv, hg, hh, r⟩
  · exact .inl h2
  · exact .inr ⟨g, cap, cur, hv, hg, (hb.block g (Array.getElem?_eq_some_iff.1 hh).1).trans hh, r⟩
theorem owns_base_le {w : World} {base base' e size n : Nat} {v : Value} {xs : List Value} (h : w.ownsRow base e size v n xs) (hb : base' ≤ base) : w.ownsRow base' e size v n xs := by
  refine ⟨h.1, ?_⟩
  rcases h.2 with h2 | ⟨g, cap, cur, hv, hg, r⟩
  · exact .inl h2
  · exact .inr ⟨g, cap, cur, hv, Nat.le_trans hb hg, r⟩
theorem sizeU8i : (Tryd.prog.info? 5).map (·.size) = some 1 := by kernel_rfl
theorem zeroU8 : (Tryd.prog.info? 5).map (·.zero) = some (some (.int .u8 0)) := by kernel_rfl
theorem infoSl : (Tryd.prog.info? 29).map (·.size) = some 1 := by kernel_rfl
/-- Bytes in memory of the call's own. -/
def Fresh (w : World) (base : Nat) (l : List UInt8) (v : Value) : Prop := ∃ A c, v = .slice A l.length c ∧ w.ownsRow base 5 1 v l.length (bvs l)
section
variable {w w' : World} {base base' : Nat} {l : List UInt8} {v : Value}
theorem Fresh.kept (h : Fresh w base l v) (hb : Below w.heap.size w w') : Fresh w' base l v := by
  obtain ⟨A, c, rfl, h⟩ := h; exact ⟨A, c, rfl, owns_kept h hb⟩
theorem Fresh.le (h : Fresh w base l v) (hb : base' ≤ base) : Fresh w base' l v := by
  obtain ⟨A, c, rfl, h⟩ := h; exact ⟨A, c, rfl, owns_base_le h hb⟩
theorem Made.fresh (h : Made w w' l v) : Fresh w' w.heap.size l v := by obtain ⟨A, c, rfl, h, _⟩ := h; exact ⟨A, c, rfl, h⟩
theorem Made.below (h : Made w w' l v) : Below w.heap.size w w' := by obtain ⟨_, _, _, _, h⟩ := h; exact h
theorem fresh_nil (w : World) (base : Nat) : Fresh w base [] (.slice none 0 0) := ⟨none, 0, rfl, World.ownsRow_nil _ _ _ _⟩
end
theorem owns_apart {w : World} {b1 b2 e1 e2 s1 s2 n1 n2 : Nat} {v1 v2 : Value} {xs1 xs2 : List Value} (h1 : w.ownsRow b1 e1 s1 v1 n1 xs1) (h2 : w.ownsRow b2 e2 s2 v2 n2 xs2) (hne : e1 ≠ e2) : v1.ownBlock = none ∨ v1.ownBlock ≠ v2.ownBlock := by
  rcases h1.2 with ⟨rfl, _⟩ | ⟨g, cap, cur, rfl, _, hh, _⟩
  · exact .inl rfl
  rcases h2.2 with ⟨rfl, _⟩ | ⟨g', cap', cur', rfl, _, hh', _⟩
  · exact .inr (by simp [Value.ownBlock])
  · refine .inr fun h => ?_
    have : g = g' := by simpa [Value.ownBlock] using h
    subst this
    rw [hh] at hh'
    injection hh' with hh'
    injection hh' with _ ht
    exact hne ht
theorem Fresh.grown {w w' : World} {base b2 n : Nat} {l : List UInt8} {u v : Value} {xs : List Value} (h : Fresh w base l u) (hv : w.ownsRow b2 29 1 v n xs) (hg : w.grownBy w' v.ownBlock) : Fresh w' base l u := by
  obtain ⟨A, c, rfl, h⟩ := h
  exact ⟨A, c, rfl, h.kept hg (owns_apart h hv (by decide))⟩
/-- Rows of bytes, all of the call's own, in a slice of its own. -/
def FreshAll (w : World) (base : Nat) (ps : List (List UInt8)) (v : Value) : Prop :=
  ∃ cells, w.ownsRow base 29 1 v ps.length cells ∧ ∀ (i : Nat) (p : List UInt8), ps[i]? = some p → ∃ u : Value, cells[i]? = some u ∧ Fresh w base p u
theorem freshAll_nil (w : World) (base : Nat) : FreshAll w base [] (.slice none 0 0) := ⟨[], World.ownsRow_nil _ _ _ _, fun _ _ h => by simp at h⟩
theorem FreshAll.kept {w w' : World} {base : Nat} {ps : List (List UInt8)} {v : Value} (h : FreshAll w base ps v) (hb : Below w.heap.size w w') : FreshAll w' base ps v := by
  obtain ⟨cells, h1, h2⟩ := h
  exact ⟨cells, owns_kept h1 hb, fun i p hp => by obtain ⟨u, hu, hf⟩ := h2 i p hp; exact ⟨u, hu, hf.kept hb⟩⟩
theorem FreshAll.push {w w' : World} {base n : Nat} {ps : List (List UInt8)} {p : List UInt8} {v v' u : Value} {cells : List Value} (h1 : w.ownsRow base 29 1 v n cells) (hn : n = ps.length) (h2 : ∀ (i : Nat) (p : List UInt8), ps[i]? = some p → ∃ u : Value, cells[i]? = some u ∧ Fresh w base p u) (hu : Fresh w base p u)
    (h' : w'.ownsRow base 29 1 v' (n + 1) (cells ++ [u])) (hg : w.grownBy w' v.ownBlock) : FreshAll w' base (ps ++ [p]) v' := by
  subst hn
  refine ⟨cells ++ [u], by rw [List.length_append]; exact h', fun i q hq => ?_⟩
  have hcl : cells.length = ps.length := by have := h1.1; rwa [Nat.mul_one] at this
  by_cases hi : i < ps.length
  · rw [List.getElem?_append_left hi] at hq
    obtain ⟨x, hx, hf⟩ := h2 i q hq
    exact ⟨x, by rw [List.getElem?_append_left (by omega)]; exact hx, hf.grown h1 hg⟩
  · rw [List.getElem?_append_right (by omega)] at hq
    have h0 : i - ps.length = 0 := by
      have := (List.getElem?_eq_some_iff.1 hq).1
      simp at this; omega
    rw [h0] at hq
    simp at hq
    subst hq
    exact ⟨u, by rw [List.getElem?_append_right (by omega), hcl, h0]; rfl, hu.grown h1 hg⟩
theorem owns_block_ne {w : World} {base e size n g e' : Nat} {v : Value} {xs ys : List Value} (h : w.ownsRow base e size v n xs) (k : Block w g e' ys) (hne : e ≠ e') : v.ownBlock ≠ some g := by
  intro he
  rcases h.2 with ⟨rfl, _⟩ | ⟨g', cap, cur, rfl, _, hh, _⟩
  · simp [Value.ownBlock] at he
  · have : g' = g := by simpa [Value.ownBlock] using he
    subst this
    unfold Block at k
    rw [k] at hh
    injection hh with hh
    injection hh with _ ht
    exact hne ht.symm
theorem zeroBs : (Tryd.prog.info? 29).map (·.zero) = some (some (.slice none 0 0)) := by kernel_rfl
theorem infoBs : (Tryd.prog.info? 29).map (fun i => (i.zero, i.size, i.bytes)) = some (some (.slice none 0 0), 1, 24) := by kernel_rfl
theorem fresh_cap {w : World} {base e n c : Nat} {A : Option Addr} {xs : List Value} (h : w.ownsRow base e 1 (.slice A n c) n xs) : n ≤ c := by
  rcases h.2 with ⟨hv, h0⟩ | ⟨g, cap, cur, hv, _, _, hnc, _⟩
  · rw [h0]; exact Nat.zero_le _
  · injection hv with _ _ h3; rw [h3]; exact hnc
section
variable {P : Program} {ops : Array Oper} {rest : List Oper} {o : Oper} {a : Act} {w : World} {Q : Exit → Act → World → Prop}
theorem wpList_buildN_on (hgd : Region.wanted o (yielded ops a.tmps) = true) (t e : TypeId) (n : Nat) (parts : List (Nat × Operand)) (ho : o.op = .buildSlice t n parts.toArray) (ht : P.underlying t = some (.slice e)) (C : Nat) (hs : (P.info? e).map (·.size) = some C) (hC : 0 < C) (z : Value) (hz : (P.info? e).map (·.zero) = some (some z))
    (vs : List Value) (hx : (parts.map fun (i, x) => (i, a.eval x)) = (vs.zipIdx).map fun p => (p.2, p.1)) (xs : List Value) (hxs : (vs.flatMap fun v => v.cells.toList) = xs) (hv : ∀ v ∈ vs, v.cells.size = C) (hpos : 0 < vs.length) (hsm : vs.length * C ≤ 16777216) (hn : n = vs.length)
    (h : ∀ g w', Block w' g e xs → Only (fun _ => False) w w' → w.heap.size ≤ g → wpList P ops Q rest (a.put o.dst (.slice (some ⟨g, 0, none⟩) n n)) w') : wpList P ops Q (o :: rest) a w :=
  wpList_on hgd fun _ hK => wp_buildN_blk t e n parts ho ht C hs hC z hz vs hx xs hxs hv hpos hsm hn fun g w' h1 h2 h3 => hK _ _ (h g w' h1 h2 h3)
end
theorem Fresh.at {w : World} {base : Nat} {l : List UInt8} {v : Value} (h : Fresh w base l v) : ∃ A c, v = .slice A l.length c ∧ l.length ≤ c ∧ w.ownsRow base 5 1 (.slice A l.length c) l.length (bvs l) ∧ Row w w.heap.size A (bvs l) := by
  obtain ⟨A, c, rfl, h⟩ := h
  exact ⟨A, c, rfl, fresh_cap h, h, Row.own h⟩
theorem u8s (l : List UInt8) : ((bvs l).flatMap fun v => v.cells.toList) = bvs l := by
  induction l with
  | nil => rfl
  | cons x r ih =>
    have e : bvs (x :: r) = bv x :: bvs r := rfl
    rw [e, List.flatMap_cons, ih]; rfl
theorem u8cells (l : List UInt8) : ∀ v ∈ bvs l, v.cells.size = 1 := fun v hv => by
  obtain ⟨c, _, rfl⟩ := List.mem_map.1 hv; rfl
/-- b cut to so many bytes at most. -/
theorem cut_most (A : Option Addr) (c : Nat) (l : List UInt8) (N : Nat) (hc : l.length ≤ c) (w : World) : (Instr.slice 29 (.slice A l.length c) none (some (.int .i64 ((min l.length N : Nat) : Int))) none).run Tryd.prog w = .ok (.slice A (min l.length N) c) w := by
  rw [slice_h A l.length c .i64 _ (by omega) (by omega) w, cutAt_zero, Int.toNat_natCast]
theorem row_most {w : World} {B : Nat} {A : Option Addr} {l : List UInt8} (h : Row w B A (bvs l)) (N : Nat) : Row w B A (bvs (l.take N)) := by have := h.take N; rwa [bvs_take] at this
theorem soft_of {w : World} {base n c : Nat} {A : Option Addr} {l : List UInt8} (h : w.ownsRow base 5 1 (.slice A n c) n (bvs l)) : 0 < n → ∃ g ys, A = some ⟨g, 0, none⟩ ∧ base ≤ g ∧ Block w g 5 ys ∧ n ≤ ys.length ∧ ys.take n = bvs l := fun hp => by
  rcases h.2 with ⟨hv, h0⟩ | ⟨g, cap, cur, hv, hb, hh, hnc, _, hsz, hx⟩
  · omega
  · injection hv with hA _ _
    refine ⟨g, cur.toList, hA, hb, by unfold Block; simpa using hh, by simp only [Array.length_toList]; omega, by rw [Nat.mul_one] at hx; exact hx⟩
theorem owns_only {F : Nat → Prop} {w w' : World} {base e size n : Nat} {v : Value} {xs : List Value} (h : w.ownsRow base e size v n xs) (k : Only F w w') (hn : ∀ g, v.ownBlock = some g → ¬ F g) : w'.ownsRow base e size v n xs := by
  obtain ⟨h1, h2⟩ := h
  refine ⟨h1, ?_⟩
  rcases h2 with h2 | ⟨g, cap, cur, hv, hb, hh, r⟩
  · exact .inl h2
  · exact .inr ⟨g, cap, cur, hv, hb, by rw [k.block g (Array.getElem?_eq_some_iff.1 hh).1 (hn g (by rw [hv]; rfl))]; exact hh, r⟩
/-- Bytes of the call's own that may be written, whatever they are. -/
def SoftAt (w : World) (base : Nat) (A : Option Addr) (n : Nat) : Prop := n = 0 ∨ ∃ g ys, A = some ⟨g, 0, none⟩ ∧ base ≤ g ∧ Block w g 5 ys ∧ ∀ j, j < n → ∃ x : UInt8, ys[j]? = some (.int .u8 (x.toNat : Int))
theorem soft_owns {w : World} {base n c : Nat} {A : Option Addr} {l : List UInt8} (h : w.ownsRow base 5 1 (.slice A n c) n (bvs l)) : SoftAt w base A n := by
  rcases h.2 with ⟨_, h0⟩ | ⟨g, cap, cur, hv, hb, hh, hnc, _, hsz, hx⟩
  · exact .inl h0
  · injection hv with hA _ _
    have hl := h.1
    rw [Nat.mul_one] at hl hx
    rw [bvs_length] at hl
    refine .inr ⟨g, cur.toList, hA, hb, by unfold Block; simpa using hh, fun j hj => ⟨l.getD j 0, ?_⟩⟩
    have := bvs_at l j (by omega)
    rw [← hx, List.getElem?_take_of_lt hj] at this
    exact this
theorem SoftAt.le {w : World} {base base' n : Nat} {A : Option Addr} (h : SoftAt w base A n) (hb : base' ≤ base) : SoftAt w base' A n := by
  rcases h with h | ⟨g, ys, h1, h2, r⟩
  · exact .inl h
  · exact .inr ⟨g, ys, h1, by omega, r⟩
theorem SoftAt.kept {w w' : World} {base n : Nat} {A : Option Addr} (h : SoftAt w base A n) (hb : Below w.heap.size w w') : SoftAt w' base A n := by
  rcases h with h | ⟨g, ys, h1, h2, h3, r⟩
  · exact .inl h
  · exact .inr ⟨g, ys, h1, h2, h3.kept hb, r⟩
theorem SoftAt.grown {w w' : World} {base b2 n m : Nat} {A : Option Addr} {v : Value} {xs : List Value} (h : SoftAt w base A n) (hv : w.ownsRow b2 29 1 v m xs) (hg : w.grownBy w' v.ownBlock) : SoftAt w' base A n := by
  rcases h with h | ⟨g, ys, h1, h2, h3, r⟩
  · exact .inl h
  · exact .inr ⟨g, ys, h1, h2, h3.only (Only.grownBy hg) (fun e => owns_block_ne hv h3 (by decide) e), r⟩
theorem lay_set (xs : List Value) (o : Nat) (v : Value) (h : o < xs.length) : lay xs o [v] = xs.set o v := by
  unfold lay; rw [List.set_eq_take_append_cons_drop, if_pos h]; simp
/-- A byte is written into such memory: all of it stays such. -/
theorem SoftAt.store {w w' : World} {base n g k : Nat} {A : Option Addr} {ys : List Value} {x : UInt8} (h : SoftAt w base A n) (hB : Block w g 5 ys) (hk : k < ys.length) (hB' : Block w' g 5 (lay ys k [.int .u8 (x.toNat : Int)])) (hO : Only (fun i => i = g) w w') : SoftAt w' base A n := by
  rcases h with h | ⟨g', ys', h1, h2, h3, r⟩
  · exact .inl h
  · by_cases e : g' = g
    · subst e
      have hy : ys' = ys := by
        unfold Block at h3 hB
        rw [h3] at hB
        injection hB with hB
        injection hB with hB
        simpa using hB
      subst hy
      refine .inr ⟨g', _, h1, h2, hB', fun j hj => ?_⟩
      rw [lay_set _ _ _ hk]
      by_cases ej : k = j
      · subst ej; exact ⟨x, by rw [List.getElem?_set_self hk]⟩
      · rw [List.getElem?_set_ne ej]; exact r j hj
    · exact .inr ⟨g', ys', h1, h2, h3.only hO e, r⟩
def AllSoft (w : World) (base : Nat) (cells : List Value) : Prop := ∀ (i : Nat) (u : Value), cells[i]? = some u → ∃ A n c, u = .slice A n c ∧ n ≤ 1000000 ∧ SoftAt w base A n
theorem allSoft_of {w : World} {base : Nat} {ps : List (List UInt8)} {cells : List Value} (hl : cells.length = ps.length) (hps : ∀ p ∈ ps, p.length ≤ 1000000) (h : ∀ (i : Nat) (p : List UInt8), ps[i]? = some p → ∃ u : Value, cells[i]? = some u ∧ Fresh w base p u) : AllSoft w base cells := fun i u hu => by
  have hi : i < ps.length := by have := (List.getElem?_eq_some_iff.1 hu).1; omega
  obtain ⟨u', hu', A, c, rfl, ho⟩ := h i ps[i] (List.getElem?_eq_getElem hi)
  rw [hu] at hu'
  injection hu' with e
  exact ⟨A, _, c, e, hps _ (List.getElem_mem hi), soft_owns ho⟩
end Go.Proofs.YtnlhajhbmkhnjaaDoor.Wd

/- Values of flows where they lie in memory. -/


namespace Go.Proofs.YtnlhajhbmkhnjaaDoor.ValW
open Go.RowKit Wd ValM
/-- A value, and where its parts lie. -/
inductive VA where
  | mk (k n : Int) (s : ByteArray) (A : Option Addr) (c : Nat) (L : List VA) (NA : Option Addr) (nc : Nat) (N : List ByteArray)
theorem VA.ind {P : VA → Prop} (h : ∀ k n s A c L NA nc N, (∀ x ∈ L, P x) → P (.mk k n s A c L NA nc N)) (v : VA) : P v :=
  VA.rec (motive_1 := P) (motive_2 := fun L => ∀ x ∈ L, P x) (fun k n s A c L NA nc N ih => h k n s A c L NA nc N ih) (fun _ h => by cases h) (fun x r h1 h2 y hy => by
    rcases List.mem_cons.1 hy with rfl | hy
    · exact h1
    · exact h2 y hy) v
def VA.cells : VA → List Value
  | .mk k n s A c L NA nc N => [.int .i64 k, .int .i64 n, .string s, .slice A L.length c, .slice NA N.length nc]
def VA.arg (x : VA) : Value := .agg x.cells.toArray
theorem cells_len (x : VA) : x.cells.length = 5 := by cases x; rfl
def bytesOf (s : ByteArray) : List UInt8 := s.data.toList
mutual
def VA.val : VA → Vl
  | .mk k n s _ _ L _ _ N => .mk k n (bytesOf s) (valL L) (N.map bytesOf)
def valL : List VA → List Vl
  | [] => []
  | x :: r => x.val :: valL r
end
theorem valL_map : ∀ L : List VA, valL L = L.map VA.val
  | [] => rfl
  | x :: r => by rw [valL, valL_map r]; rfl
theorem valL_length (L : List VA) : (valL L).length = L.length := by rw [valL_map, List.length_map]
def strs (N : List ByteArray) : List Value := N.map .string
theorem strs_length (N : List ByteArray) : (strs N).length = N.length := by simp [strs]
/-- It lies there. -/
inductive VIn (w : World) : VA → Prop
  | mk (k n : Int) (s : ByteArray) (A : Option Addr) (c : Nat) (L : List VA) (NA : Option Addr) (nc : Nat) (N : List ByteArray)
      (hk : -9223372036854775808 ≤ k ∧ k ≤ 9223372036854775807) (hn : -9223372036854775808 ≤ n ∧ n ≤ 9223372036854775807) (hs : s.size ≤ 140737488355328)
      (hL : L.length ≤ 140737488355328) (hc : L.length ≤ c) (hrow : Row w w.heap.size A (flat VA.cells L)) (hx : ∀ x ∈ L, VIn w x)
      (hN : N.length ≤ 140737488355328) (hnc : N.length ≤ nc) (hNr : Row w w.heap.size NA (strs N)) (hNs : ∀ t ∈ N, t.size ≤ 140737488355328) : VIn w (.mk k n s A c L NA nc N)
theorem row_kept {w w' : World} {A : Option Addr} {xs : List Value} (h : Row w w.heap.size A xs) (hb : Below w.heap.size w w') : Row w' w'.heap.size A xs := (h.below hb).tight
theorem VIn.kept {w w' : World} {x : VA} (h : VIn w x) (hb : Below w.heap.size w w') : VIn w' x := by
  induction h with
  | mk k n s A c L NA nc N hk hn hs hL hc hrow hx hN hnc hNr hNs ih => exact .mk k n s A c L NA nc N hk hn hs hL hc (row_kept hrow hb) ih hN hnc (row_kept hNr hb) hNs
theorem VIn.drewN {w : World} {x : VA} (h : VIn w x) (n : Nat) : VIn (w.drewN n) x := h.kept (drawn_below _ w n)
/-- The cells of element i. -/
theorem elem_cells {w : World} {B : Nat} {A : Option Addr} {L : List VA} (h : Row w B A (flat VA.cells L)) {i : Nat} (hi : i < L.length) : ∃ ad, A = some ad ∧ ad.block < B ∧ ∀ j u, (L[i]).cells[j]? = some u → w.cell? ((ad.add (i * 5)).add j) = some u := by
  have hat := fun j hj => flat_at VA.cells 5 L i j _ (List.getElem?_eq_getElem hi) hj (fun x _ => cells_len x)
  obtain ⟨ad, rfl, hb, _⟩ := h (i * 5 + 0) _ ((hat 0 (by decide)).trans (List.getElem?_eq_getElem (by rw [cells_len]; decide)))
  refine ⟨ad, rfl, hb, fun j u hu => ?_⟩
  have hj : j < 5 := by have := (List.getElem?_eq_some_iff.1 hu).1; rwa [cells_len] at this
  rw [Addr.add_add]
  exact h.some _ _ ((hat j hj).trans hu)
theorem name_cell {w : World} {B : Nat} {A : Option Addr} {N : List ByteArray} (h : Row w B A (strs N)) {i : Nat} (hi : i < N.length) : ∃ ad, A = some ad ∧ ad.block < B ∧ w.cell? (ad.add i) = some (.string N[i]) :=
  h i _ (by simp [strs, hi])
end Go.Proofs.YtnlhajhbmkhnjaaDoor.ValW

/- Sizes and depths of values: the program's functions. -/




namespace Go.Proofs.YtnlhajhbmkhnjaaDoor.ValW
open Go.RowKit Wd ValM
theorem valStruct : (Tryd.prog.info? 25).map (·.size) = some 5 := by kernel_rfl
/-- The five cells of a value in a block. -/
theorem five {w : World} {g e : Nat} {k n : Int} {s : ByteArray} {A : Option Addr} {c : Nat} {L : List VA} {NA : Option Addr} {nc : Nat} {N : List ByteArray} (h : Block w g e (VA.cells (.mk k n s A c L NA nc N))) :
    w.cell? ⟨g, 0, none⟩ = some (.int .i64 k) ∧ w.cell? ⟨g, 1, none⟩ = some (.int .i64 n) ∧ w.cell? ⟨g, 2, none⟩ = some (.string s) ∧ w.cell? ⟨g, 3, none⟩ = some (.slice A L.length c) ∧ w.cell? ⟨g, 4, none⟩ = some (.slice NA N.length nc) :=
  ⟨h.cell rfl, h.cell rfl, h.cell rfl, h.cell rfl, h.cell rfl⟩
theorem run_load_row {P : Program} (w : World) (ty : TypeId) (a : Addr) (cs : List Value) (d : TypeDesc) (hc : ∀ j v, cs[j]? = some v → w.cell? (a.add j) = some v)
    (hu : P.underlying ty = some d) (hd : d.isRow = true) (hi : (P.info? ty).map (·.size) = some cs.length) :
    (Instr.loadAt ty (.pointer (some a))).run P w = .ok (.agg cs.toArray) w := by
  have hl : (loadCells a cs.length).run P w = .ok cs.toArray w := run_loadCells_list (P := P) w a cs hc
  have hv : (loadVar ty a).run P w = .ok (.agg cs.toArray) w := by
    cases hq : P.info? ty with
    | none => simp [hq] at hi
    | some i =>
      have hs : i.size = cs.length := by simpa [hq] using hi
      have hagg : (isAgg ty).run P w = .ok true w := by
        unfold isAgg
        rw [Sem.run_bind, run_underlying hu w]
        cases d <;> simp_all
      simp [loadVar, Sem.run_bind, hagg, sizeOf, typeInfo, hq, hs, hl]
  simp only [Instr.loadAt, Instr.sureAddr, Sem.run_bind, Sem.run_pure, Result.andThen_ok, hv]
/-- The whole of it, out of its block; an element, where it lies. -/
theorem load_whole {w : World} {g : Nat} (x : VA) (h : Block w g 25 x.cells) : (Instr.loadAt 25 (.pointer (some ⟨g, 0, none⟩))).run Tryd.prog w = .ok x.arg w :=
  run_load_blk w 25 g 0 _ _ h x.cells (by rw [List.drop_zero, cells_len]; exact List.take_of_length_le (by rw [cells_len]; decide)) _ Tryd.underlying25 rfl (by rw [cells_len]; exact valStruct)
theorem load_elem {w : World} {ad : Addr} (x : VA) (h : ∀ j u, x.cells[j]? = some u → w.cell? (ad.add j) = some u) : (Instr.loadAt 25 (.pointer (some ad))).run Tryd.prog w = .ok x.arg w :=
  run_load_row w 25 ad x.cells _ h Tryd.underlying25 rfl (by rw [cells_len]; exact valStruct)
section
variable {P : Program} {ops : Array Oper} {rest : List Oper} {o : Oper} {a : Act} {w : World} {K : Act → World → Prop} {Q : Exit → Act → World → Prop}
theorem wp_load_run (ty : TypeId) (x : Operand) (ho : o.op = .load ty x) (p v : Value) (hx : a.eval x = p) (hr : (Instr.loadAt ty p).run P w = .ok v w) (h : K (a.put o.dst v) w) : o.wp P a w K Q := by
  unfold Oper.wp execOp
  simp only [ho, hx, Sem.run_bind, hr, Result.andThen_ok, Sem.run_pure]
  exact h
theorem wpList_load_run (hgd : o.guard = none) (ty : TypeId) (x : Operand) (ho : o.op = .load ty x) (p v : Value) (hx : a.eval x = p) (hr : (Instr.loadAt ty p).run P w = .ok v w) (h : wpList P ops Q rest (a.put o.dst v) w) : wpList P ops Q (o :: rest) a w :=
  wpList_plain hgd fun _ hK => wp_load_run ty x ho p v hx hr (hK _ _ h)
end
theorem wrap_add (a b : Int) : wrap64 (wrap64 a + b) = wrap64 (a + b) := by unfold wrap64; omega
theorem wrap_wrap (a : Int) : wrap64 (wrap64 a) = wrap64 a := by unfold wrap64; omega
def lensB (N : List ByteArray) : Nat := (N.map ByteArray.size).sum
theorem lensB_take (N : List ByteArray) (i : Nat) (h : i < N.length) : lensB (N.take (i + 1)) = lensB (N.take i) + (N[i]).size := by
  unfold lensB; rw [List.take_succ_eq_append_getElem h, List.map_append, List.sum_append]; simp
theorem size_bytes (s : ByteArray) : (bytesOf s).length = s.size := by unfold bytesOf; rw [Array.length_toList]; rfl
theorem lens_val (N : List ByteArray) : lens (N.map bytesOf) = lensB N := by
  unfold lens lensB; rw [List.map_map]; exact congrArg List.sum (List.map_congr_left fun x _ => size_bytes x)
theorem own_val (k n s A c L NA nc N) : own (VA.val (.mk k n s A c L NA nc N)) = 1 + s.size + lensB N := by
  simp [VA.val, own, lens_val, size_bytes]
set_option maxRecDepth 20000 in
set_option maxHeartbeats 2000000 in
theorem ownSize_any (x : VA) (w : World) (h : VIn w x) :
    Calls Tryd.prog 41 #[x.arg] w fun e w' => e = .returned (.int .i64 (wrap64 (own x.val))) ∧ Below w.heap.size w w' := by
  cases h with
  | mk k n s A c L NA nc N hk hn hs hL hc hrow hx hN hnc hNr hNs =>
  have HR := Lib.hid hNr
  have HS := Lib.hid hNs
  have HO := Lib.hid (own_val k n s A c L NA nc N)
  have HNL := Lib.hid hN
  clear hx hrow hNr hNs hL hN hc
  go_enter Tryd.func41, Tryd.ntmps41
  go_wp2_with (refine wpList_box_blk rfl 25 (.tmp 0) rfl (VA.cells (.mk k n s A c L NA nc N)) _ rfl rfl ?_; intro g w1 B1 O1 hg; obtain ⟨q0, q1, q2, q3, q4⟩ := five B1)
  have hb1 : Below w.heap.size w w1 := O1.below (fun _ h => h.elim) (Nat.le_refl _)
  have R1 := Lib.hid (row_kept HR.out hb1)
  have hs1 : wrap64 (1 + (s.size : Int)) = 1 + (s.size : Int) := by unfold wrap64; omega
  have H0 := Lib.hid hs1
  clear hs1
  go_loopw [3, 12] (fun u v wr => ∃ (i : Nat) (z : Int), u = .int .i64 z ∧ z = wrap64 (1 + s.size + lensB (N.take i)) ∧ v = .int .i64 (i : Int) ∧ i ≤ N.length ∧ wr = w1) (fun _ v _ => N.length - (intOf v).toNat)
  case atStart =>
    exact ⟨0, _, rfl, by simp [lensB, H0.out], rfl, Nat.zero_le _, rfl⟩
  case round =>
    obtain ⟨i, z, rfl, hz, rfl, hi, rfl⟩ := hrel
    have HZ := Lib.hid hz
    clear hz
    by_cases hlt : i < N.length
    · obtain ⟨ad, rfl, hb, hc⟩ := name_cell R1.out hlt
      have hi0 : (0 : Int) ≤ (i : Int) := by omega
      have hi1 : (i : Int) < (N.length : Int) := by omega
      have ht := HS.out _ (List.getElem_mem hlt)
      have HN := Lib.hid (lensB_take N i hlt)
      generalize N[i] = t at hc ht HN
      have hi3 : (i : Int) ≤ 140737488355328 := by have := HNL.out; omega
      go_wp2_with fail
      go_roundw
      case rel => exact ⟨i + 1, _, rfl, by rw [HN.out, HZ.out, wrap_add]; congr 1; omega, by simp, hlt, trivial⟩
      case measure => simp [intOf]; omega
    · have hie : i = N.length := by omega
      have hi2 : ¬ (i : Int) < (N.length : Int) := by omega
      have HE := Lib.hid hie
      clear hie
      go_wp2_with fail
      go_ret
      refine ⟨?_, hb1⟩
      rw [HO.out, HZ.out, HE.out, List.take_length]
      rfl
end Go.Proofs.YtnlhajhbmkhnjaaDoor.ValW

/- Names, and which values have the shape of their kind: the program's functions. -/


namespace Go.Proofs.YtnlhajhbmkhnjaaDoor.ValW
open Go.RowKit Wd ValM
theorem isLet_int (c : UInt8) : isLet c = (decide ((97 : Int) ≤ (c.toNat : Int)) && decide ((c.toNat : Int) ≤ 122)) := by
  unfold isLet
  simp only [UInt8.le_iff_toNat_le]
  congr 1 <;> (apply decide_eq_decide.2; constructor <;> intro h <;> (first | exact_mod_cast h | (simp at h ⊢; omega)))
theorem isDig_int (c : UInt8) : isDig c = (decide ((48 : Int) ≤ (c.toNat : Int)) && decide ((c.toNat : Int) ≤ 57)) := by
  unfold isDig
  simp only [UInt8.le_iff_toNat_le]
  congr 1 <;> (apply decide_eq_decide.2; constructor <;> intro h <;> (first | exact_mod_cast h | (simp at h ⊢; omega)))
set_option maxHeartbeats 1000000 in
theorem isLetter_any (c : UInt8) (w : World) : Calls Tryd.prog 152 #[.int .u8 (c.toNat : Int)] w fun e w' => e = .returned (.bool (isLet c)) ∧ w = w' := by
  have h0 := c.toNat_lt
  have HL := Lib.hid (isLet_int c)
  generalize hx : c.toNat = x at *
  have hx0 : (0 : Int) ≤ (x : Int) := by omega
  clear hx
  by_cases h1 : (97 : Int) ≤ (x : Int)
  · by_cases h2 : (x : Int) ≤ 122
    · go_enter Tryd.func152, Tryd.ntmps152
      go_wp2_with fail
      go_ret
      refine ⟨?_, rfl⟩
      rw [HL.out]
      simp <;> omega
    · go_enter Tryd.func152, Tryd.ntmps152
      go_wp2_with fail
      go_ret
      refine ⟨?_, rfl⟩
      rw [HL.out]
      simp <;> omega
  · go_enter Tryd.func152, Tryd.ntmps152
    go_wp2_with fail
    go_ret
    refine ⟨?_, rfl⟩
    rw [HL.out]
    simp <;> omega
set_option maxHeartbeats 1000000 in
theorem isDigit_any (c : UInt8) (w : World) : Calls Tryd.prog 153 #[.int .u8 (c.toNat : Int)] w fun e w' => e = .returned (.bool (isDig c)) ∧ w = w' := by
  have h0 := c.toNat_lt
  have HL := Lib.hid (isDig_int c)
  generalize hx : c.toNat = x at *
  have hx0 : (0 : Int) ≤ (x : Int) := by omega
  clear hx
  by_cases h1 : (48 : Int) ≤ (x : Int)
  · by_cases h2 : (x : Int) ≤ 57
    · go_enter Tryd.func153, Tryd.ntmps153
      go_wp2_with fail
      go_ret
      refine ⟨?_, rfl⟩
      rw [HL.out]
      simp <;> omega
    · go_enter Tryd.func153, Tryd.ntmps153
      go_wp2_with fail
      go_ret
      refine ⟨?_, rfl⟩
      rw [HL.out]
      simp <;> omega
  · go_enter Tryd.func153, Tryd.ntmps153
    go_wp2_with fail
    go_ret
    refine ⟨?_, rfl⟩
    rw [HL.out]
    simp <;> omega
def nameC (d : UInt8) : Bool := isLet d || isDig d || d == 95
theorem nameB_eq (l : List UInt8) : nameB l = (decide (0 < l.length) && decide (l.length ≤ 16) && isLet (l.getD 0 0) && l.all nameC) := by
  cases l with
  | nil => rfl
  | cons c r => simp [nameB, nameC]; rfl
theorem byte_at (s : ByteArray) (i : Nat) (h : i < s.size) : (bytesOf s).getD i 0 = s[i] := by
  unfold bytesOf
  rw [List.getD_eq_getElem?_getD, List.getElem?_eq_getElem (by rw [Array.length_toList]; exact h)]
  rfl
theorem take_all (l : List UInt8) (f : UInt8 → Bool) (i : Nat) (h : i < l.length) : (l.take (i + 1)).all f = ((l.take i).all f && f (l.getD i 0)) := by
  rw [List.take_succ_eq_append_getElem h, List.all_append]
  simp [List.getD, h]
theorem all_not (l : List UInt8) (f : UInt8 → Bool) (i : Nat) (h : i < l.length) (hf : f (l.getD i 0) = false) : l.all f = false := by
  rw [List.all_eq_false]
  refine ⟨l[i], List.getElem_mem h, ?_⟩
  rw [List.getD_eq_getElem?_getD, List.getElem?_eq_getElem h] at hf
  simpa using hf
set_option maxRecDepth 20000 in
set_option maxHeartbeats 2000000 in
theorem isName_any (s : ByteArray) (w : World) (hs : s.size ≤ 140737488355328) : Calls Tryd.prog 138 #[.string s] w fun e w' => e = .returned (.bool (nameB (bytesOf s))) ∧ w = w' := by
  have HB := Lib.hid (nameB_eq (bytesOf s))
  have HSZ := Lib.hid (size_bytes s)
  by_cases h0 : s.size = 0
  · have he : s.toList.isEmpty = true := by rw [Lib.toList_data, show s.data.toList = [] from List.eq_nil_of_length_eq_zero (by rw [Array.length_toList]; exact h0)]; rfl
    have HE : Hid (nameB (bytesOf s) = false) := by unfold Hid; rw [HB.out, HSZ.out]; simp [h0]
    clear h0
    go_enter Tryd.func138, Tryd.ntmps138
    go_wp2_with fail
    go_ret
    exact ⟨by rw [HE.out] <;> rfl, rfl⟩
  have he : s.toList.isEmpty = false := by
    rw [Lib.toList_data]
    cases e : s.data.toList with
    | nil => exact absurd (by have := congrArg List.length e; simpa using this) h0
    | cons a r => rfl
  have hp : (0 : Int) < (s.size : Int) := by omega
  by_cases h16 : (16 : Int) < (s.size : Int)
  · have HE : Hid (nameB (bytesOf s) = false) := by unfold Hid; rw [HB.out, HSZ.out, decide_eq_false (p := s.size ≤ 16) (by omega)]; simp
    clear h0
    go_enter Tryd.func138, Tryd.ntmps138
    go_wp2_with fail
    go_ret
    exact ⟨by rw [HE.out] <;> rfl, rfl⟩
  have hp0 : 0 < s.size := by omega
  have H0 := Lib.hid (byte_at s 0 hp0)
  have H16 : Hid (s.size ≤ 16) := by unfold Hid; omega
  clear h0
  by_cases hl : isLet s[0] = true
  · go_enter Tryd.func138, Tryd.ntmps138
    go_wp2_with (refine (isLetter_any _ _).mono ?_; rintro _ _ ⟨rfl, rfl⟩)
    go_loopw [19] (fun u wr => ∃ i : Nat, u = .int .i64 (i : Int) ∧ i ≤ s.size ∧ ((bytesOf s).take i).all nameC = true ∧ wr = w) (fun u _ => s.size - (intOf u).toNat)
    case atStart => exact ⟨0, rfl, Nat.zero_le _, rfl, rfl⟩
    case round =>
      obtain ⟨i, rfl, hi, hall, rfl⟩ := hrel
      have HA := Lib.hid hall
      clear hall
      by_cases hlt : i < s.size
      · have hi0 : (0 : Int) ≤ (i : Int) := by omega
        have hi1 : (i : Int) < (s.size : Int) := by omega
        have hi3 : (i : Int) ≤ 16 := by have := H16.out; omega
        have HI := Lib.hid (byte_at s i hlt)
        have HT := Lib.hid (take_all (bytesOf s) nameC i (by rw [HSZ.out]; exact hlt))
        have HF := Lib.hid (all_not (bytesOf s) nameC i (by rw [HSZ.out]; exact hlt))
        by_cases g1 : isLet s[i] = true
        · have g2 : Hid (nameC s[i] = true) := by unfold Hid nameC; rw [g1]; rfl
          go_wp2_with (refine (isLetter_any s[i] _).mono ?_; rintro _ _ ⟨rfl, rfl⟩)
          go_roundw
          case rel => exact ⟨i + 1, by simp, hlt, by rw [HT.out, HA.out, HI.out, g2.out]; rfl, trivial⟩
          case measure => simp [intOf]; omega
        have g1 : isLet s[i] = false := by simpa using g1
        by_cases g3 : isDig s[i] = true
        · have g2 : Hid (nameC s[i] = true) := by unfold Hid nameC; rw [g3]; simp
          go_wp2_with (first | (refine (isLetter_any s[i] _).mono ?_; rintro _ _ ⟨rfl, rfl⟩) | (refine (isDigit_any s[i] _).mono ?_; rintro _ _ ⟨rfl, rfl⟩))
          go_roundw
          case rel => exact ⟨i + 1, by simp, hlt, by rw [HT.out, HA.out, HI.out, g2.out]; rfl, trivial⟩
          case measure => simp [intOf]; omega
        have g3 : isDig s[i] = false := by simpa using g3
        by_cases g4 : s[i].toNat = 95
        · have g2 : Hid (nameC s[i] = true) := by unfold Hid nameC; rw [show s[i] = 95 from UInt8.toNat_inj.1 g4]; rfl
          have g5 : ((s[i].toNat : Int) != 95) = false := by simp; omega
          clear g4
          go_wp2_with (first | (refine (isLetter_any s[i] _).mono ?_; rintro _ _ ⟨rfl, rfl⟩) | (refine (isDigit_any s[i] _).mono ?_; rintro _ _ ⟨rfl, rfl⟩))
          go_roundw
          case rel => exact ⟨i + 1, by simp, hlt, by rw [HT.out, HA.out, HI.out, g2.out]; rfl, trivial⟩
          case measure => simp [intOf]; omega
        · have g2 : Hid (nameC s[i] = false) := by
            unfold Hid nameC; rw [g1, g3]
            simp only [Bool.false_or, beq_eq_false_iff_ne]
            intro e; rw [e] at g4; exact g4 rfl
          have g5 : ((s[i].toNat : Int) != 95) = true := by rw [bne_iff_ne]; omega
          clear g4
          have HE : Hid (nameB (bytesOf s) = false) := by unfold Hid; rw [HB.out, HF.out (by rw [HI.out]; exact g2.out)]; simp
          go_wp2_with (first | (refine (isLetter_any s[i] _).mono ?_; rintro _ _ ⟨rfl, rfl⟩) | (refine (isDigit_any s[i] _).mono ?_; rintro _ _ ⟨rfl, rfl⟩))
          go_ret
          exact ⟨by rw [HE.out] <;> rfl, rfl⟩
      · have hie : i = s.size := by omega
        have hi2 : ¬ (i : Int) < (s.size : Int) := by omega
        have HE : Hid (nameB (bytesOf s) = true) := by
          have ha := HA.out
          rw [hie, ← HSZ.out, List.take_length] at ha
          unfold Hid; rw [HB.out, HSZ.out, H0.out, hl, ha, decide_eq_true hp0, decide_eq_true H16.out]; rfl
        clear hie
        go_wp2_with fail
        go_ret
        exact ⟨by rw [HE.out] <;> rfl, rfl⟩
  · have hl : isLet s[0] = false := by simpa using hl
    have HE : Hid (nameB (bytesOf s) = false) := by unfold Hid; rw [HB.out, H0.out, hl]; simp
    go_enter Tryd.func138, Tryd.ntmps138
    go_wp2_with (refine (isLetter_any _ _).mono ?_; rintro _ _ ⟨rfl, rfl⟩)
    go_ret
    exact ⟨by rw [HE.out] <;> rfl, rfl⟩
end Go.Proofs.YtnlhajhbmkhnjaaDoor.ValW

/- Names that rise: the program's function. -/


namespace Go.Proofs.YtnlhajhbmkhnjaaDoor.ValW
open Go.RowKit Wd ValM
theorem bless_op : ∀ x y : List UInt8, Go.Op.bytesLess x y = bless x y
  | _, [] => by cases ‹List UInt8› <;> rfl
  | [], _ :: _ => rfl
  | a :: x, b :: y => by unfold Go.Op.bytesLess bless; rw [bless_op x y]
theorem leq_not (x y : List UInt8) : (bless x y || x == y) = !bless y x := by
  have h := ord_S x
  have h1 := h.1 y
  have h2 := h.2.1 y
  unfold cmpS at h1 h2
  by_cases a : bless x y = true
  · have e : bless y x = false := by
      by_cases b : bless y x = true
      · simp [a, b] at h1
      · simpa using b
    rw [a, e]; rfl
  · have a : bless x y = false := by simpa using a
    by_cases b : bless y x = true
    · simp [a, b] at h2
      have : (x == y) = false := by simpa using h2
      rw [a, b, this]; rfl
    · have b : bless y x = false := by simpa using b
      simp [a, b] at h2
      rw [a, b, h2]; simp
theorem run_leq_str (w : World) (s t : ByteArray) : (binOp .leq 9 (.string s) (.string t)).run Tryd.prog w = .ok (.bool (!bless (bytesOf t) (bytesOf s))) w := by
  rw [← leq_not]
  simp only [binOp]
  simp [Go.Op.stringOp, bless_op, Lib.toList_data, bytesOf]
theorem run_lss_str (w : World) (s t : ByteArray) : (binOp .lss 9 (.string s) (.string t)).run Tryd.prog w = .ok (.bool (bless (bytesOf s) (bytesOf t))) w := by
  simp only [binOp]
  simp [Go.Op.stringOp, bless_op, Lib.toList_data, bytesOf]
/-- Names up to one of them. -/
theorem ris_snoc : ∀ (l : List (List UInt8)) (x : List UInt8), risB (l ++ [x]) = (risB l && (match l.getLast? with | some y => bless y x | none => true))
  | [], x => rfl
  | [y], x => by simp [risB, Bool.and_comm]
  | y :: z :: r, x => by
    have := ris_snoc (z :: r) x
    simp only [List.cons_append, risB] at this ⊢
    rw [this, Bool.and_assoc]
    simp
theorem names_take (N : List (List UInt8)) (i : Nat) (h : i < N.length) : namesB (N.take (i + 1)) = (namesB (N.take i) && (nameB (N.getD i []) && (decide (i = 0) || bless (N.getD (i - 1) []) (N.getD i [])))) := by
  unfold namesB
  rw [List.take_succ_eq_append_getElem h, ris_snoc, List.all_append]
  have e : N.getD i [] = N[i] := by simp [List.getD, h]
  rw [e]
  cases i with
  | zero => simp [risB]
  | succ j =>
    have hj : j < N.length := by omega
    have e2 : (N.take (j + 1)).getLast? = some N[j] := by rw [List.take_succ_eq_append_getElem hj, List.getLast?_append]; rfl
    have e3 : N.getD (j + 1 - 1) [] = N[j] := by simp [List.getD, hj]
    rw [e2, e3]
    simp only [List.all_cons, List.all_nil, Bool.and_true, Nat.add_eq_zero_iff, Nat.one_ne_zero, and_false, decide_false, Bool.false_or]
    generalize (N.take (j + 1)).all nameB = p
    generalize risB (N.take (j + 1)) = q
    cases p <;> cases q <;> simp
theorem names_cut (N : List (List UInt8)) (i : Nat) (h : namesB (N.take i) = false) : namesB N = false := by
  have key : ∀ (k : Nat), i ≤ k → k ≤ N.length → namesB (N.take k) = false := fun k => by
    induction k with
    | zero => intro h1 _; rw [show i = 0 by omega] at h; exact h
    | succ k ih =>
      intro h1 h2
      by_cases e : i = k + 1
      · rw [← e]; exact h
      · rw [names_take N k (by omega), ih (by omega) (by omega)]; rfl
  by_cases hi : i ≤ N.length
  · have := key N.length hi (Nat.le_refl _)
    rwa [List.take_length] at this
  · rw [List.take_of_length_le (by omega)] at h; exact h
set_option maxRecDepth 20000 in
set_option maxHeartbeats 2000000 in
theorem fieldNames_any (B : Nat) (A : Option Addr) (c : Nat) (N : List ByteArray) (w : World) (hl : N.length ≤ 140737488355328) (h : Row w B A (strs N)) (hs : ∀ t ∈ N, t.size ≤ 140737488355328) :
    Calls Tryd.prog 121 #[.slice A N.length c] w fun e w' => e = .returned (.bool (namesB (N.map bytesOf))) ∧ ∃ m, w' = w.drewN m := by
  have HL := Lib.hid hl
  have HR := Lib.hid h
  have HS := Lib.hid hs
  clear hl h hs
  go_enter Tryd.func121, Tryd.ntmps121
  go_wp2_with fail
  go_loopw [6] (fun u wr => ∃ i : Nat, u = .int .i64 (i : Int) ∧ i ≤ N.length ∧ namesB ((N.map bytesOf).take i) = true ∧ ∃ q, wr = w.drewN q) (fun u _ => N.length - (intOf u).toNat)
  case atStart => exact ⟨0, rfl, Nat.zero_le _, rfl, 0, rfl⟩
  case round =>
    obtain ⟨i, rfl, hi, hall, q, hw⟩ := hrel
    rename_i wr _
    have HRR : Hid (Row wr B A (strs N)) := by unfold Hid; rw [hw]; exact HR.out.below (drawn_below _ _ _)
    have HW := Lib.hid hw
    have HA := Lib.hid hall
    clear hall hw
    by_cases hlt : i < N.length
    · obtain ⟨ad, rfl, hb, hc⟩ := name_cell HRR.out hlt
      have hi0 : (0 : Int) ≤ (i : Int) := by omega
      have hi1 : (i : Int) < (N.length : Int) := by omega
      have hi3 : (i : Int) ≤ 140737488355328 := by have := HL.out; omega
      have HT := Lib.hid (names_take (N.map bytesOf) i (by simpa using hlt))
      have HC := Lib.hid (names_cut (N.map bytesOf) (i + 1))
      have ht := HS.out _ (List.getElem_mem hlt)
      have HG : Hid ((N.map bytesOf).getD i [] = bytesOf N[i]) := by unfold Hid; simp [List.getD, hlt]
      generalize hti : N[i] = t at hc ht HG
      clear hti
      by_cases g1 : nameB (bytesOf t) = true
      · have G1 := Lib.hid g1
        by_cases h0 : i = 0
        · have hz : decide (0 < i) = false := decide_eq_false (by omega)
          have HI0 := Lib.hid h0
          clear h0
          go_wp2_with fail
          go_quiet ((exact quiet_left (isName_any t _ ht)))
          go_wp2_with fail
          go_roundw
          case rel => exact ⟨i + 1, by simp, hlt, by rw [HT.out, HA.out, HG.out, G1.out, HI0.out]; simp, by rw [HW.out]; exact ⟨q + _, by rw [World.drewN_drewN]⟩⟩
          case measure => simp [intOf]; omega
        · obtain ⟨j, hj⟩ : ∃ j, i - 1 = j := ⟨_, rfl⟩
          have hlp : j < N.length := by omega
          obtain ⟨_, e, _, hc'⟩ := name_cell HRR.out hlp
          injection e with e
          subst e
          have HG' : Hid ((N.map bytesOf).getD (i - 1) [] = bytesOf N[j]) := by unfold Hid; rw [hj]; simp [List.getD, hlp]
          generalize hti : N[j] = t' at hc' HG'
          clear hti
          have hj0 : (0 : Int) ≤ (j : Int) := by omega
          have hj1 : (j : Int) < (N.length : Int) := by omega
          have HI0 : Hid (decide (i = 0) = false) := decide_eq_false h0
          have hjw : IntKind.i64.wrap ((i : Int) - 1) = (j : Int) := by rw [IntWalk.i64_in _ (by omega)]; omega
          clear hj
          have hp : (0 : Int) < (i : Int) := by omega
          have HQ := run_leq_str (s := t) (t := t')
          generalize hbl : bless (bytesOf t') (bytesOf t) = bl at HQ
          have HBL := Lib.hid hbl
          clear hbl
          have hz : decide (0 < i) = true := decide_eq_true (by omega)
          go_wp2_with fail
          go_quiet ((exact quiet_left (isName_any t _ ht)))
          cases bl with
          | true =>
            go_wp2_with fail
            go_roundw
            case rel => exact ⟨i + 1, by simp, hlt, by rw [HT.out, HA.out, HG.out, HG'.out, G1.out, HBL.out]; simp, by rw [HW.out]; exact ⟨q + _, by rw [World.drewN_drewN]⟩⟩
            case measure => simp [intOf]; omega
          | false =>
            have HE : Hid (namesB (N.map bytesOf) = false) := by unfold Hid; exact HC.out (by rw [HT.out, HG.out, HG'.out, HBL.out]; simp [HI0.out])
            go_wp2_with fail
            go_ret
            exact ⟨by rw [HE.out]; rfl, by rw [HW.out]; exact ⟨q + _, by rw [World.drewN_drewN]⟩⟩
      · have g1 : nameB (bytesOf t) = false := by simpa using g1
        have HE : Hid (namesB (N.map bytesOf) = false) := by unfold Hid; exact HC.out (by rw [HT.out, HG.out, g1]; simp)
        go_wp2_with fail
        go_quiet ((exact quiet_left (isName_any t _ ht)))
        go_wp2_with fail
        go_ret
        exact ⟨by rw [HE.out]; rfl, by rw [HW.out]; exact ⟨q + _, by rw [World.drewN_drewN]⟩⟩
    · have hie : i = N.length := by omega
      have hi2 : ¬ (i : Int) < (N.length : Int) := by omega
      have HE : Hid (namesB (N.map bytesOf) = true) := by
        have ha := HA.out
        rw [hie, show N.length = (N.map bytesOf).length by simp, List.take_length] at ha
        exact ha
      clear hie
      go_wp2_with fail
      go_ret
      exact ⟨by rw [HE.out] <;> rfl, by rw [HW.out]; exact ⟨q, rfl⟩⟩
end Go.Proofs.YtnlhajhbmkhnjaaDoor.ValW

/- Sizes and depths of values: the program's functions. -/

namespace Go.Proofs.YtnlhajhbmkhnjaaDoor.ValW
open Go.RowKit Wd ValM
theorem valL_take (L : List VA) (i : Nat) (h : i < L.length) : szL (valL (L.take (i + 1))) = szL (valL (L.take i)) + szV (L[i]).val := by
  have key : ∀ l m : List Vl, szL (l ++ m) = szL l + szL m := fun l m => by
    induction l with
    | nil => simp [szL]
    | cons x r ih => rw [List.cons_append, szL, szL, ih]; omega
  rw [List.take_succ_eq_append_getElem h, valL_map, valL_map, List.map_append, key]
  simp [szL]
theorem size_val (k n s A c L NA nc N) : szV (VA.val (.mk k n s A c L NA nc N)) = own (VA.val (.mk k n s A c L NA nc N)) + szL (valL L) := by
  simp [VA.val, own, szV]
set_option maxRecDepth 20000 in
set_option maxHeartbeats 2000000 in
theorem size_any (x : VA) : ∀ w, VIn w x →
    Calls Tryd.prog 19 #[x.arg] w fun e w' => e = .returned (.int .i64 (wrap64 (szV x.val))) ∧ Below w.heap.size w w' := by
  induction x using VA.ind with
  | h k n s A c L NA nc N ih =>
  intro w h
  have HV := Lib.hid h
  have HI := Lib.hid ih
  have HO := Lib.hid (size_val k n s A c L NA nc N)
  clear ih
  cases h with
  | mk _ _ _ _ _ _ _ _ _ hk hn hs hL hc hrow hx hN hnc hNr hNs =>
  have HX := Lib.hid hx
  have HR := Lib.hid hrow
  have HNL := Lib.hid hL
  clear hx hrow hNr hNs hL hN hc
  go_enter Tryd.func19, Tryd.ntmps19
  go_wp2_with (first
    | (have _ := B1; refine (ownSize_any _ _ (HV.out.kept hb1)).mono ?_; rintro _ w2 ⟨rfl, hb2⟩; have B2 := B1.kept hb2; obtain ⟨q0, q1, q2, q3, q4⟩ := five B2)
    | (have _ := q9; refine wpList_load_run rfl 25 (.tmp 1) rfl _ _ rfl q9 ?_)
    | (refine wpList_box_blk rfl 25 (.tmp 0) rfl (VA.cells (.mk k n s A c L NA nc N)) _ rfl rfl ?_; intro g w1 B1 O1 hg; have q9 := load_whole _ B1; have hb1 : Below w.heap.size w w1 := O1.below (fun _ h => h.elim) (Nat.le_refl _)))
  have hb12 : Below w.heap.size w w2 := bthen hb1 hb2
  clear hb1 hb2 O1 q0 q1 q2 q3 q4 B1 q9
  go_loopw [3, 10] (fun u v wr => ∃ (i : Nat) (z : Int), u = .int .i64 z ∧ z = wrap64 (own (VA.val (.mk k n s A c L NA nc N)) + szL (valL (L.take i))) ∧ v = .int .i64 (i : Int) ∧ i ≤ L.length ∧ Block wr g 25 (VA.cells (.mk k n s A c L NA nc N)) ∧ Below w.heap.size w wr) (fun _ v _ => L.length - (intOf v).toNat)
  case atStart => exact ⟨0, _, rfl, by simp [valL, szL], rfl, Nat.zero_le _, B2, hb12⟩
  case round =>
    clear hb12 B2
    obtain ⟨i, z, rfl, hz, rfl, hi, BR, hbr⟩ := hrel
    rename_i wr _
    have HZ := Lib.hid hz
    clear hz
    obtain ⟨q0, q1, q2, q3, q4⟩ := five BR
    by_cases hlt : i < L.length
    · obtain ⟨ad, rfl, hb, hcl⟩ := elem_cells (row_kept HR.out hbr) hlt
      have hi0 : (0 : Int) ≤ (i : Int) := by omega
      have hi1 : (i : Int) < (L.length : Int) := by omega
      have hi3 : (i : Int) ≤ 140737488355328 := by have := HNL.out; omega
      have hmem : L[i] ∈ L := List.getElem_mem hlt
      have HY := Lib.hid ((HX.out _ hmem).kept hbr)
      have HIY := Lib.hid (HI.out _ hmem)
      have HN := Lib.hid (valL_take L i hlt)
      have q9 := load_elem _ hcl
      clear hcl hmem
      generalize L[i] = y at q9 HY HIY HN
      go_wp2_with (first
        | (have _ := q9; refine wpList_load_run rfl 25 (.tmp 17) rfl _ _ rfl q9 ?_)
        | (refine (HIY.out _ HY.out).mono ?_; rintro _ w3 ⟨rfl, hb3⟩))
      have B3 := BR.kept hb3
      go_roundw
      case rel => exact ⟨i + 1, _, rfl, by rw [HN.out, HZ.out, wrap_add, Int.add_comm, wrap_add]; congr 1; omega, by simp, hlt, B3, bthen hbr hb3⟩
      case measure => simp [intOf]; omega
    · have hie : i = L.length := by omega
      have hi2 : ¬ (i : Int) < (L.length : Int) := by omega
      have HE := Lib.hid hie
      clear hie
      go_wp2_with fail
      go_ret
      refine ⟨?_, hbr⟩
      rw [HO.out, HZ.out, HE.out, List.take_length]
      rfl
theorem dpL_take (L : List VA) (i : Nat) (h : i < L.length) : dpL 0 (valL (L.take (i + 1))) = max (dpL 0 (valL (L.take i))) (dpV (L[i]).val) := by
  have key : ∀ (l : List Vl) (m : Int) (x : Vl), dpL m (l ++ [x]) = max (dpL m l) (dpV x) := fun l => by
    induction l with
    | nil => intro m x; simp [dpL]
    | cons y r ih => intro m x; rw [List.cons_append, dpL, dpL, ih]
  rw [List.take_succ_eq_append_getElem h, valL_map, valL_map, List.map_append]
  exact key _ _ _
theorem depth_val (k n s A c L NA nc N) : dpV (VA.val (.mk k n s A c L NA nc N)) = wrap64 (1 + dpL 0 (valL L)) := by
  simp [VA.val, dpV]
set_option maxRecDepth 20000 in
set_option maxHeartbeats 2000000 in
theorem depth_any (x : VA) : ∀ w, VIn w x →
    Calls Tryd.prog 18 #[x.arg] w fun e w' => e = .returned (.int .i64 (dpV x.val)) ∧ Below w.heap.size w w' := by
  induction x using VA.ind with
  | h k n s A c L NA nc N ih =>
  intro w h
  have HV := Lib.hid h
  have HI := Lib.hid ih
  have HO := Lib.hid (depth_val k n s A c L NA nc N)
  clear ih
  cases h with
  | mk _ _ _ _ _ _ _ _ _ hk hn hs hL hc hrow hx hN hnc hNr hNs =>
  have HX := Lib.hid hx
  have HR := Lib.hid hrow
  have HNL := Lib.hid hL
  clear hx hrow hNr hNs hL hN hc
  go_enter Tryd.func18, Tryd.ntmps18
  go_wp2_with (first
    | (refine wpList_box_blk rfl 25 (.tmp 0) rfl (VA.cells (.mk k n s A c L NA nc N)) _ rfl rfl ?_; intro g w1 B1 O1 hg; obtain ⟨q0, q1, q2, q3, q4⟩ := five B1; have hb1 : Below w.heap.size w w1 := O1.below (fun _ h => h.elim) (Nat.le_refl _)))
  clear O1 q0 q1 q2 q3 q4
  go_loopw [3, 8] (fun u v wr => ∃ (i : Nat) (z : Int), u = .int .i64 z ∧ z = dpL 0 (valL (L.take i)) ∧ v = .int .i64 (i : Int) ∧ i ≤ L.length ∧ Block wr g 25 (VA.cells (.mk k n s A c L NA nc N)) ∧ Below w.heap.size w wr) (fun _ v _ => L.length - (intOf v).toNat)
  case atStart => exact ⟨0, _, rfl, by simp [valL, dpL], rfl, Nat.zero_le _, B1, hb1⟩
  case round =>
    clear hb1 B1
    obtain ⟨i, z, rfl, hz, rfl, hi, BR, hbr⟩ := hrel
    rename_i wr _
    have HZ := Lib.hid hz
    clear hz
    obtain ⟨q0, q1, q2, q3, q4⟩ := five BR
    by_cases hlt : i < L.length
    · obtain ⟨ad, rfl, hb, hcl⟩ := elem_cells (row_kept HR.out hbr) hlt
      have hi0 : (0 : Int) ≤ (i : Int) := by omega
      have hi1 : (i : Int) < (L.length : Int) := by omega
      have hi3 : (i : Int) ≤ 140737488355328 := by have := HNL.out; omega
      have hmem : L[i] ∈ L := List.getElem_mem hlt
      have HY := Lib.hid ((HX.out _ hmem).kept hbr)
      have HIY := Lib.hid (HI.out _ hmem)
      have HN := Lib.hid (dpL_take L i hlt)
      have q9 := load_elem _ hcl
      clear hcl hmem
      generalize L[i] = y at q9 HY HIY HN
      go_wp2_with (first
        | (have _ := q9; refine wpList_load_run rfl 25 (.tmp 15) rfl _ _ rfl q9 ?_)
        | (refine (HIY.out _ HY.out).mono ?_; rintro _ w3 ⟨rfl, hb3⟩))
      have B3 := BR.kept hb3
      go_roundw
      case rel => exact ⟨i + 1, _, rfl, by rw [HN.out, HZ.out], by simp, hlt, B3, bthen hbr hb3⟩
      case measure => simp [intOf]; omega
    · have hie : i = L.length := by omega
      have hi2 : ¬ (i : Int) < (L.length : Int) := by omega
      have HE := Lib.hid hie
      clear hie
      go_wp2_with fail
      go_ret
      refine ⟨?_, hbr⟩
      rw [HO.out, HZ.out, HE.out, List.take_length]
      rfl
end Go.Proofs.YtnlhajhbmkhnjaaDoor.ValW

/- Which values have the shape of their kind: the program's function. -/


namespace Go.Proofs.YtnlhajhbmkhnjaaDoor.ValW
open Go.RowKit Wd ValM
def shapeK (k n : Int) (s : Nat) (l m : Nat) (nm : Bool) : Bool :=
  if k = 0 then decide (n = 0) && decide (s = 0) && (decide (m = 0) && decide (l = 0))
  else if k = 1 then decide (s = 0) && (decide (m = 0) && decide (l = 0))
  else if k = 2 then (decide (n = 0) || decide (n = 1)) && decide (s = 0) && (decide (m = 0) && decide (l = 0))
  else if k = 3 then decide (n = 0) && decide (s ≤ 64) && (decide (m = 0) && decide (l = 0))
  else if k = 4 then decide (n = 0) && decide (s = 0) && decide (l ≤ 32) && decide (m = 0)
  else if k = 5 then decide (n = 0) && decide (s = 0) && decide (l = m) && decide (m ≤ 8) && nm
  else if k = 6 then decide (1 ≤ n) && decide (n ≤ 64) && decide (s = 0) && (decide (m = 0) && decide (l = 0))
  else false
theorem bytes_nil (s : ByteArray) : (bytesOf s = []) ↔ s.size = 0 := by rw [← List.length_eq_zero_iff, size_bytes]
theorem shaped_val (k n s A c L NA nc N) : shaped (VA.val (.mk k n s A c L NA nc N)) = shapeK k n s.size L.length N.length (namesB (N.map bytesOf)) := by
  unfold VA.val shaped shapeK
  simp only [bytes_nil, size_bytes, List.length_map, valL_length]
theorem isEmpty_size (s : ByteArray) : s.toList.isEmpty = decide (s.size = 0) := by
  rw [Lib.toList_data, Bool.eq_iff_iff, List.isEmpty_iff, decide_eq_true_eq]
  exact bytes_nil s
theorem beq_int (a b : Int) : (a == b) = decide (a = b) := by rw [Bool.eq_iff_iff]; simp
theorem beq_len (a b : Nat) : ((a : Int) == (b : Int)) = decide (a = b) := by rw [Bool.eq_iff_iff, beq_iff_eq, decide_eq_true_eq]; omega
theorem le_len (a b : Nat) : decide ((a : Int) ≤ (b : Int)) = decide (a ≤ b) := by rw [Bool.eq_iff_iff]; simp
set_option maxRecDepth 20000 in
set_option maxHeartbeats 4000000 in
theorem shaped_any (x : VA) (w : World) (h : VIn w x) :
    Calls Tryd.prog 85 #[x.arg] w fun e w' => e = .returned (.bool (shaped x.val)) ∧ Below w.heap.size w w' := by
  cases h with
  | mk k n s A c L NA nc N hk hn hs hL hc hrow hx hN hnc hNr hNs =>
  have HR := Lib.hid hNr
  have HS := Lib.hid hNs
  have HNL := Lib.hid hN
  clear hx hrow hNr hNs hL hN hc
  have HFN : Hid (∀ w', Row w' w.heap.size NA (strs N) → Calls Tryd.prog 121 #[.slice NA N.length nc] w' fun e w'' => e = .returned (.bool (namesB (N.map bytesOf))) ∧ ∃ m, w'' = w'.drewN m) := fun w' hr => fieldNames_any _ _ _ _ _ HNL.out hr HS.out
  have e1 := beq_int n 0
  have e2 := beq_int n 1
  have e3 := isEmpty_size s
  have e4 := beq_len L.length 0
  have e5 := beq_len N.length 0
  have e6 := beq_len L.length N.length
  have e7 := le_len s.size 64
  have e8 := le_len L.length 32
  have e9 := le_len N.length 8
  rw [show ((0 : Nat) : Int) = 0 from rfl] at e4 e5
  rw [show ((64 : Nat) : Int) = 64 from rfl] at e7
  rw [show ((32 : Nat) : Int) = 32 from rfl] at e8
  rw [show ((8 : Nat) : Int) = 8 from rfl] at e9
  have HSH := Lib.hid (shaped_val k n s A c L NA nc N)
  unfold shapeK at HSH
  generalize hlx : L.length = l at e4 e6 e8 HSH
  generalize hmx : N.length = m at e5 e6 e9 HSH HFN
  have HL := Lib.hid hlx
  have HM := Lib.hid hmx
  clear hlx hmx
  generalize decide (n = 0) = b1 at e1 HSH
  generalize decide (n = 1) = b2 at e2 HSH
  generalize decide (s.size = 0) = b3 at e3 HSH
  generalize decide (l = 0) = b4 at e4 HSH
  generalize decide (m = 0) = b5 at e5 HSH
  generalize decide (l = m) = b6 at e6 HSH
  generalize decide (s.size ≤ 64) = b7 at e7 HSH
  generalize decide (l ≤ 32) = b8 at e8 HSH
  generalize decide (m ≤ 8) = b9 at e9 HSH
  generalize e10 : decide (1 ≤ n) = b10 at HSH
  generalize e11 : decide (n ≤ 64) = b11 at HSH
  by_cases k0 : k = 0
  · subst k0
    simp only [↓reduceIte] at HSH
    clear e2 e6 e7 e8 e9 e10 e11
    go_enter Tryd.func85, Tryd.ntmps85
    go_wp2_with (have _ := HM; refine wpList_box_blk rfl 25 (.tmp 0) rfl (VA.cells (.mk 0 n s A c L NA nc N)) _ rfl rfl ?_; intro g w1 B1 O1 hg; obtain ⟨q0, q1, q2, q3, q4⟩ := five B1; rw [HL.out] at q3; rw [HM.out] at q4; clear B1 HM; have hb1 : Below w.heap.size w w1 := O1.below (fun _ h => h.elim) (Nat.le_refl _))
    all_goals (go_ret; refine ⟨?_, hb1⟩; rw [HSH.out]; clear HSH; cases b1 <;> cases b3 <;> cases b4 <;> cases b5 <;> (first | rfl | contradiction))
  by_cases k1 : k = 1
  · subst k1
    simp only [↓reduceIte, Int.reduceEq] at HSH
    clear e1 e2 e6 e7 e8 e9 e10 e11
    go_enter Tryd.func85, Tryd.ntmps85
    go_wp2_with (have _ := HM; refine wpList_box_blk rfl 25 (.tmp 0) rfl (VA.cells (.mk 1 n s A c L NA nc N)) _ rfl rfl ?_; intro g w1 B1 O1 hg; obtain ⟨q0, q1, q2, q3, q4⟩ := five B1; rw [HL.out] at q3; rw [HM.out] at q4; clear B1 HM; have hb1 : Below w.heap.size w w1 := O1.below (fun _ h => h.elim) (Nat.le_refl _))
    all_goals (go_ret; refine ⟨?_, hb1⟩; rw [HSH.out]; clear HSH; cases b3 <;> cases b4 <;> cases b5 <;> (first | rfl | contradiction))
  by_cases k2 : k = 2
  · subst k2
    simp only [↓reduceIte, Int.reduceEq] at HSH
    clear e6 e7 e8 e9 e10 e11
    go_enter Tryd.func85, Tryd.ntmps85
    go_wp2_with (have _ := HM; refine wpList_box_blk rfl 25 (.tmp 0) rfl (VA.cells (.mk 2 n s A c L NA nc N)) _ rfl rfl ?_; intro g w1 B1 O1 hg; obtain ⟨q0, q1, q2, q3, q4⟩ := five B1; rw [HL.out] at q3; rw [HM.out] at q4; clear B1 HM; have hb1 : Below w.heap.size w w1 := O1.below (fun _ h => h.elim) (Nat.le_refl _))
    all_goals (go_ret; refine ⟨?_, hb1⟩; rw [HSH.out]; clear HSH; cases b1 <;> cases b2 <;> cases b3 <;> cases b4 <;> cases b5 <;> (first | rfl | contradiction))
  by_cases k3 : k = 3
  · subst k3
    simp only [↓reduceIte, Int.reduceEq] at HSH
    clear e2 e3 e6 e8 e9 e10 e11
    go_enter Tryd.func85, Tryd.ntmps85
    go_wp2_with (have _ := HM; refine wpList_box_blk rfl 25 (.tmp 0) rfl (VA.cells (.mk 3 n s A c L NA nc N)) _ rfl rfl ?_; intro g w1 B1 O1 hg; obtain ⟨q0, q1, q2, q3, q4⟩ := five B1; rw [HL.out] at q3; rw [HM.out] at q4; clear B1 HM; have hb1 : Below w.heap.size w w1 := O1.below (fun _ h => h.elim) (Nat.le_refl _))
    all_goals (go_ret; refine ⟨?_, hb1⟩; rw [HSH.out]; clear HSH; cases b1 <;> cases b4 <;> cases b5 <;> cases b7 <;> (first | rfl | contradiction))
  by_cases k4 : k = 4
  · subst k4
    simp only [↓reduceIte, Int.reduceEq] at HSH
    clear e2 e6 e7 e9 e10 e11
    go_enter Tryd.func85, Tryd.ntmps85
    go_wp2_with (have _ := HM; refine wpList_box_blk rfl 25 (.tmp 0) rfl (VA.cells (.mk 4 n s A c L NA nc N)) _ rfl rfl ?_; intro g w1 B1 O1 hg; obtain ⟨q0, q1, q2, q3, q4⟩ := five B1; rw [HL.out] at q3; rw [HM.out] at q4; clear B1 HM; have hb1 : Below w.heap.size w w1 := O1.below (fun _ h => h.elim) (Nat.le_refl _))
    all_goals (go_ret; refine ⟨?_, hb1⟩; rw [HSH.out]; clear HSH; cases b1 <;> cases b3 <;> cases b5 <;> cases b8 <;> (first | rfl | contradiction))
  by_cases k5 : k = 5
  · subst k5
    simp only [↓reduceIte, Int.reduceEq] at HSH
    clear e2 e7 e8 e10 e11
    by_cases h6 : l = m
    · subst h6
      obtain rfl : b4 = b5 := by rw [← e4, ← e5]
      clear e4
      have hb6 : b6 = true := by rw [← e6]; simp
      subst hb6
      clear e6
      go_enter Tryd.func85, Tryd.ntmps85
      go_wp2_with (first
        | (go_at_call 121; refine (HFN.out _ (HR.out.below hb1)).mono ?_; rintro _ _ ⟨rfl, m, rfl⟩)
        | (have _ := HM; refine wpList_box_blk rfl 25 (.tmp 0) rfl (VA.cells (.mk 5 n s A c L NA nc N)) _ rfl rfl ?_; intro g w1 B1 O1 hg; obtain ⟨q0, q1, q2, q3, q4⟩ := five B1; rw [HL.out] at q3; rw [HM.out] at q4; clear B1 HM; have hb1 : Below w.heap.size w w1 := O1.below (fun _ h => h.elim) (Nat.le_refl _)))
      all_goals (go_ret; refine ⟨?_, (by first | exact hb1 | exact hb1.trans ((drawn_below _ _ _).mono hb1.size))⟩; rw [HSH.out]; clear HSH; cases b1 <;> cases b3 <;> cases b9 <;> (first | rfl | contradiction))
    · have hb6 : b6 = false := by
        rw [← e6]; simp; omega
      subst hb6
      clear h6
      have HF : Hid (shaped (VA.val (.mk 5 n s A c L NA nc N)) = false) := by unfold Hid; rw [HSH.out]; simp
      clear HSH
      go_enter Tryd.func85, Tryd.ntmps85
      go_wp2_with (have _ := HM; refine wpList_box_blk rfl 25 (.tmp 0) rfl (VA.cells (.mk 5 n s A c L NA nc N)) _ rfl rfl ?_; intro g w1 B1 O1 hg; obtain ⟨q0, q1, q2, q3, q4⟩ := five B1; rw [HL.out] at q3; rw [HM.out] at q4; clear B1 HM; have hb1 : Below w.heap.size w w1 := O1.below (fun _ h => h.elim) (Nat.le_refl _))
      all_goals (go_ret; refine ⟨?_, hb1⟩; rw [HF.out]; try rfl)
  by_cases k6 : k = 6
  · subst k6
    simp only [↓reduceIte, Int.reduceEq] at HSH
    clear e1 e2 e6 e7 e8 e9
    go_enter Tryd.func85, Tryd.ntmps85
    go_wp2_with (have _ := HM; refine wpList_box_blk rfl 25 (.tmp 0) rfl (VA.cells (.mk 6 n s A c L NA nc N)) _ rfl rfl ?_; intro g w1 B1 O1 hg; obtain ⟨q0, q1, q2, q3, q4⟩ := five B1; rw [HL.out] at q3; rw [HM.out] at q4; clear B1 HM; have hb1 : Below w.heap.size w w1 := O1.below (fun _ h => h.elim) (Nat.le_refl _))
    all_goals (go_ret; refine ⟨?_, hb1⟩; rw [HSH.out]; clear HSH; cases b3 <;> cases b4 <;> cases b5 <;> cases b10 <;> cases b11 <;> (first | rfl | contradiction))
  have f0 : (k == 0) = false := by simpa using k0
  have f1 : (k == 1) = false := by simpa using k1
  have f2 : (k == 2) = false := by simpa using k2
  have f3 : (k == 3) = false := by simpa using k3
  have f4 : (k == 4) = false := by simpa using k4
  have f5 : (k == 5) = false := by simpa using k5
  have f6 : (k == 6) = false := by simpa using k6
  have HF : Hid (shaped (VA.val (.mk k n s A c L NA nc N)) = false) := by unfold Hid; rw [HSH.out]; simp [k0, k1, k2, k3, k4, k5, k6]
  clear k0 k1 k2 k3 k4 k5 k6 HSH e1 e2 e3 e6 e7 e8 e9 e10 e11
  go_enter Tryd.func85, Tryd.ntmps85
  go_wp2_with (have _ := HM; refine wpList_box_blk rfl 25 (.tmp 0) rfl (VA.cells (.mk k n s A c L NA nc N)) _ rfl rfl ?_; intro g w1 B1 O1 hg; obtain ⟨q0, q1, q2, q3, q4⟩ := five B1; rw [HL.out] at q3; rw [HM.out] at q4; clear B1 HM; have hb1 : Below w.heap.size w w1 := O1.below (fun _ h => h.elim) (Nat.le_refl _))
  all_goals (go_ret; refine ⟨?_, hb1⟩; rw [HF.out]; rfl)
end Go.Proofs.YtnlhajhbmkhnjaaDoor.ValW

/- Whether a value may be: the program's functions. -/

namespace Go.Proofs.YtnlhajhbmkhnjaaDoor.ValW
open Go.RowKit Wd ValM
theorem wpList_load_on {P : Program} {ops : Array Oper} {rest : List Oper} {o : Oper} {a : Act} {w : World} {Q : Exit → Act → World → Prop} (hgd : Region.wanted o (yielded ops a.tmps) = true) (ty : TypeId) (x : Operand) (ho : o.op = .load ty x) (p v : Value) (hx : a.eval x = p) (hr : (Instr.loadAt ty p).run P w = .ok v w) (h : wpList P ops Q rest (a.put o.dst v) w) : wpList P ops Q (o :: rest) a w :=
  wpList_on hgd fun _ hK => wp_load_run ty x ho p v hx hr (hK _ _ h)
theorem names_lens (N : List (List UInt8)) (h : namesB N = true) (h8 : N.length ≤ 8) : lens N ≤ 128 := by
  have hs := names_short h
  have key : ∀ l : List (List UInt8), (∀ s ∈ l, s.length ≤ 16) → lens l ≤ l.length * 16 := fun l => by
    induction l with
    | nil => intro _; simp [lens]
    | cons x r ih =>
      intro hx
      have h1 := hx x (by simp)
      have h2 := ih (fun s hs => hx s (by simp [hs]))
      unfold lens at h2 ⊢
      simp only [List.map_cons, List.sum_cons, List.length_cons]
      omega
  have := key N (fun s hs' => (hs s hs').2)
  omega
theorem own_le (x : Vl) (h : shaped x = true) : own x ≤ 200 := by
  obtain ⟨k, n, s, L, N⟩ := x
  unfold shaped at h
  unfold own
  by_cases k5 : k = 5
  · subst k5
    simp only [Int.reduceEq, ↓reduceIte, Bool.and_eq_true, decide_eq_true_eq] at h
    have := names_lens N h.2 h.1.2
    rw [h.1.1.1.2]
    simp; omega
  · have hN : N = [] := by
      simp only [if_neg k5] at h
      repeat' split at h
      all_goals first | (simp at h; simp [h]; done) | (simp at h; done)
    have hs : s.length ≤ 64 := by
      simp only [if_neg k5] at h
      repeat' split at h
      all_goals first | (simp at h; simp [h]; done) | (simp at h; omega) | (simp at h; done)
    subst hN
    simp [lens]; omega
theorem spend_le : ∀ (lv : Nat) (x : Vl) (z : Int), (spendV lv x z).2 = true → 0 ≤ (spendV lv x z).1 ∧ (spendV lv x z).1 ≤ z
  | 0, _, _, h => by cases h
  | lv + 1, x, z, h => by
    obtain ⟨hs, hg⟩ := spend_shaped h
    have e : spendV (lv + 1) x z = goL (spendV lv) x.L (z - own x) := by rw [spendV, if_pos hs]
    rw [e]
    refine ⟨goL_le _ _ hg, ?_⟩
    have key : ∀ (l : List Vl) (y : Int), (goL (spendV lv) l y).2 = true → (goL (spendV lv) l y).1 ≤ y := fun l => by
      induction l with
      | nil => intro y _; simp [goL]
      | cons a r ih =>
        intro y hy
        unfold goL at hy ⊢
        split at hy
        · rename_i ha
          rw [if_pos ha]
          have h1 := (spend_le lv a y ha).2
          have h2 := ih _ hy
          omega
        · cases hy
    have := key _ _ hg
    omega
theorem spend_none (x : Vl) (lv : Nat) (z : Int) (h : shaped x = false) : spendV lv x z = (0, false) := by
  cases lv with
  | zero => rfl
  | succ lv => unfold spendV; rw [h]; rfl
set_option maxRecDepth 20000 in
set_option maxHeartbeats 2000000 in
theorem spend_any (x : VA) : ∀ (lv : Nat) (z : Int) (w : World), VIn w x → lv ≤ 8 → 200 * (lv : Int) - 2000 ≤ z → z ≤ 256 →
    Calls Tryd.prog 40 #[x.arg, .int .i64 z, .int .i64 (lv : Int)] w fun e w' => e = .returned (.tuple #[.int .i64 (spendV lv x.val z).1, .bool (spendV lv x.val z).2]) ∧ Below w.heap.size w w' := by
  induction x using VA.ind with
  | h k n s A c L NA nc N ih =>
  intro lv z w h hlv hz0 hz1
  have HV := Lib.hid h
  have HI := Lib.hid ih
  clear ih
  cases h with
  | mk _ _ _ _ _ _ _ _ _ hk hn hs hL hc hrow hx hN hnc hNr hNs =>
  have HX := Lib.hid hx
  have HR := Lib.hid hrow
  have HNL := Lib.hid hL
  clear hx hrow hNr hNs hL hN hc hk hn hs hnc
  have HT : Hid True := trivial
  cases lv with
  | zero =>
    clear HV HI HX HR HNL hlv hz0
    go_enter Tryd.func40, Tryd.ntmps40
    go_wp2_with (have _ := HT; refine wpList_box_blk rfl 25 (.tmp 0) rfl (VA.cells (.mk k n s A c L NA nc N)) _ rfl rfl ?_; intro g w1 B1 O1 hg; have hb1 : Below w.heap.size w w1 := O1.below (fun _ h => h.elim) (Nat.le_refl _); clear HT)
    go_ret2
    exact ⟨rfl, hb1⟩
  | succ lv =>
    generalize hsh : shaped (VA.val (.mk k n s A c L NA nc N)) = b
    have HSH := Lib.hid hsh
    have hlw : (((lv + 1 : Nat) : Int) == 0) = false := by simp; omega
    have hlx : ((lv + 1 : Nat) : Int) - 1 = (lv : Int) := by omega
    generalize hlw2 : ((lv + 1 : Nat) : Int) = lw at hlw hlx
    have HW := Lib.hid hlw2
    clear hlw2 hsh
    cases b with
    | false =>
      have HE : Hid (spendV (lv + 1) (VA.val (.mk k n s A c L NA nc N)) z = (0, false)) := spend_none _ _ _ HSH.out
      go_enter Tryd.func40, Tryd.ntmps40
      go_wp2_with (first
        | (go_at_call 85; refine (shaped_any _ _ (HV.out.kept hb1)).mono ?_; rintro _ w2 ⟨rfl, hb2⟩; rw [HSH.out])
        | (have _ := q8; refine wpList_load_on rfl 25 (.tmp 3) rfl _ _ rfl q8 ?_; clear q8)
        | (have _ := HT; refine wpList_box_blk rfl 25 (.tmp 0) rfl (VA.cells (.mk k n s A c L NA nc N)) _ rfl rfl ?_; intro g w1 B1 O1 hg; have q8 := load_whole _ B1; have hb1 : Below w.heap.size w w1 := O1.below (fun _ h => h.elim) (Nat.le_refl _); clear HT))
      go_ret2
      exact ⟨by rw [HE.out] <;> rfl, bthen hb1 hb2⟩
    | true =>
      have HOW := Lib.hid (own_le _ HSH.out)
      have HVL : Hid ((VA.val (.mk k n s A c L NA nc N)).L = valL L) := rfl
      have HE : Hid (spendV (lv + 1) (VA.val (.mk k n s A c L NA nc N)) z = goL (spendV lv) (valL L) (z - own (VA.val (.mk k n s A c L NA nc N)))) := by unfold Hid; rw [spendV, if_pos HSH.out]; rfl
      generalize spendV (lv + 1) (VA.val (.mk k n s A c L NA nc N)) z = R at HE
      have hwo : wrap64 ((own (VA.val (.mk k n s A c L NA nc N)) : Nat) : Int) = ((own (VA.val (.mk k n s A c L NA nc N)) : Nat) : Int) := by have := HOW.out; unfold wrap64; omega
      generalize how : own (VA.val (.mk k n s A c L NA nc N)) = ow at HOW HE hwo
      have HO := Lib.hid how
      have HWO := Lib.hid hwo
      clear how hwo
      have hz2 : -2000 ≤ z := by omega
      have ho1 : (ow : Int) ≤ 200 := by have := HOW.out; omega
      have HZ0 := Lib.hid hz0
      clear hz0
      go_enter Tryd.func40, Tryd.ntmps40
      go_wp2_with (first
        | (go_at_call 85; refine (shaped_any _ _ (HV.out.kept hb1)).mono ?_; rintro _ w2 ⟨rfl, hb2⟩; rw [HSH.out]; have q9 := load_whole _ (B1.kept hb2))
        | (go_at_call 41; refine (ownSize_any _ _ (HV.out.kept (bthen hb1 hb2))).mono ?_; rintro _ w3 ⟨rfl, hb3⟩; rw [HO.out, HWO.out]; have B3 := (B1.kept hb2).kept hb3; obtain ⟨q0, q1, q2, q3, q4⟩ := five B3)
        | (have _ := q8; refine wpList_load_on rfl 25 (.tmp 3) rfl _ _ rfl q8 ?_; clear q8)
        | (have _ := q9; refine wpList_load_run rfl 25 (.tmp 3) rfl _ _ rfl q9 ?_; clear q9)
        | (have _ := HT; refine wpList_box_blk rfl 25 (.tmp 0) rfl (VA.cells (.mk k n s A c L NA nc N)) _ rfl rfl ?_; intro g w1 B1 O1 hg; have q8 := load_whole _ B1; have hb1 : Below w.heap.size w w1 := O1.below (fun _ h => h.elim) (Nat.le_refl _); clear HT))
      have hb13 := bthen (bthen hb1 hb2) hb3
      clear hb1 hb2 hb3 B1 O1 q0 q1 q2 q3 q4
      have HLV : Hid (lv ≤ 8 ∧ (200 * (lv : Int) - 2000 ≤ z - ow)) := ⟨by omega, by have := HZ0.out; have := HW.out; omega⟩
      go_loopw [6, 23] (fun u v wr => ∃ (i : Nat) (y : Int), u = .int .i64 y ∧ goL (spendV lv) ((valL L).drop i) y = R ∧ (200 * (lv : Int) - 2000 ≤ y) ∧ y ≤ 256 ∧ v = .int .i64 (i : Int) ∧ i ≤ L.length ∧ Block wr g 25 (VA.cells (.mk k n s A c L NA nc N)) ∧ Below w.heap.size w wr) (fun _ v _ => L.length - (intOf v).toNat)
      case atStart => exact ⟨0, _, rfl, by rw [List.drop_zero]; exact HE.out.symm, HLV.out.2, by omega, rfl, Nat.zero_le _, B3, hb13⟩
      case round =>
        clear hb13 B3
        obtain ⟨i, y, rfl, hR, hy0, hy1, rfl, hi, BR, hbr⟩ := hrel
        rename_i wr _
        have HRR := Lib.hid hR
        have HY0 := Lib.hid hy0
        clear hR
        have hy2 : -2000 ≤ y := by omega
        clear hy0
        obtain ⟨q0, q1, q2, q3, q4⟩ := five BR
        by_cases hlt : i < L.length
        · obtain ⟨ad, rfl, hb, hcl⟩ := elem_cells (row_kept HR.out hbr) hlt
          have hi0 : (0 : Int) ≤ (i : Int) := by omega
          have hi1 : (i : Int) < (L.length : Int) := by omega
          have hi3 : (i : Int) ≤ 140737488355328 := by have := HNL.out; omega
          have hmem : L[i] ∈ L := List.getElem_mem hlt
          have HY := Lib.hid ((HX.out _ hmem).kept hbr)
          have HIY := Lib.hid (HI.out _ hmem)
          have HD : Hid ((valL L).drop i = (L[i]).val :: (valL L).drop (i + 1)) := by
            unfold Hid
            rw [List.drop_eq_getElem_cons (by rw [valL_length]; exact hlt)]
            congr 1
            simp [valL_map]
          have q9 := load_elem _ hcl
          clear hcl hmem
          generalize L[i] = x at q9 HY HIY HD
          have HGO : Hid ((if (spendV lv x.val y).2 then goL (spendV lv) ((valL L).drop (i + 1)) (spendV lv x.val y).1 else (0, false)) = R) := by
            have := HRR.out
            rw [HD.out] at this
            unfold goL at this
            exact this
          have HLE := Lib.hid (spend_le lv x.val y)
          have HC := Lib.hid (HIY.out lv y wr HY.out HLV.out.1 HY0.out hy1)
          have hneg : 200 * (lv : Int) - 2000 ≤ 0 := by have := HLV.out.1; omega
          rcases hsp : spendV lv x.val y with ⟨y', b⟩
          rw [hsp] at HGO HLE HC
          clear hsp HIY HD
          have HN0 := Lib.hid hneg
          clear hneg
          cases b with
          | true =>
            have hgo := HGO.out
            simp only [if_true] at hgo
            have hle := HLE.out rfl
            have HG2 := Lib.hid hgo
            have HL2 := Lib.hid hle
            clear hgo hle HGO HLE
            go_wp2_with (first
              | (go_at_call 40; refine HC.out.mono ?_; rintro _ w5 ⟨rfl, hb5⟩)
              | (have _ := q9; refine wpList_load_run rfl 25 (.tmp 30) rfl _ _ rfl q9 ?_; clear q9))
            have B5 := BR.kept hb5
            go_roundw
            case rel => exact ⟨i + 1, _, rfl, HG2.out, by have := HL2.out; have := HN0.out; omega, by have := HL2.out; omega, by simp, hlt, B5, bthen hbr hb5⟩
            case measure => simp [intOf]; omega
          | false =>
            have hgo := HGO.out
            simp only [Bool.false_eq_true, if_false] at hgo
            have HG2 := Lib.hid hgo
            clear hgo HGO HLE
            go_wp2_with (first
              | (go_at_call 40; refine HC.out.mono ?_; rintro _ w5 ⟨rfl, hb5⟩)
              | (have _ := q9; refine wpList_load_run rfl 25 (.tmp 30) rfl _ _ rfl q9 ?_; clear q9))
            go_ret2
            exact ⟨by rw [← HG2.out] <;> rfl, bthen hbr hb5⟩
        · have hie : i = L.length := by omega
          have hi2 : ¬ (i : Int) < (L.length : Int) := by omega
          have HF : Hid ((y, decide (0 ≤ y)) = R) := by
            have := HRR.out
            rw [List.drop_eq_nil_of_le (by rw [valL_length]; omega)] at this
            exact this
          clear hie
          go_wp2_with fail
          go_ret2
          exact ⟨by rw [← HF.out] <;> rfl, hbr⟩
set_option maxRecDepth 20000 in
set_option maxHeartbeats 2000000 in
theorem check_any (x : VA) (w : World) (h : VIn w x) :
    Calls Tryd.prog 17 #[x.arg] w fun e w' => e = .returned (.int .i64 (chkV x.val)) ∧ Below w.heap.size w w' := by
  have HV := Lib.hid h
  have HC : Hid (∀ w, VIn w x → Calls Tryd.prog 40 #[x.arg, .int .i64 256, .int .i64 8] w fun e w' => e = .returned (.tuple #[.int .i64 (spendV 8 x.val 256).1, .bool (spendV 8 x.val 256).2]) ∧ Below w.heap.size w w') := fun w hw => spend_any x 8 256 w hw (by decide) (by decide) (by decide)
  have HK : Hid (chkV x.val = if (spendV 8 x.val 256).2 then 0 else 2) := rfl
  clear h
  rcases hsp : spendV 8 x.val 256 with ⟨y, b⟩
  rw [hsp] at HC HK
  clear hsp
  have HT : Hid True := trivial
  cases b with
  | true =>
    go_enter Tryd.func17, Tryd.ntmps17
    go_wp2_with (first
      | (go_at_call 40; refine (HC.out _ (HV.out.kept hb1)).mono ?_; rintro _ w5 ⟨rfl, hb5⟩)
      | (have _ := q9; refine wpList_load_run rfl 25 (.tmp 1) rfl _ _ rfl q9 ?_; clear q9)
      | (have _ := HT; refine wpList_box_blk rfl 25 (.tmp 0) rfl x.cells x.arg rfl rfl ?_; intro g w1 B1 O1 hg; have q9 := load_whole _ B1; have hb1 : Below w.heap.size w w1 := O1.below (fun _ h => h.elim) (Nat.le_refl _); clear HT))
    go_ret
    exact ⟨by rw [HK.out] <;> rfl, bthen hb1 hb5⟩
  | false =>
    go_enter Tryd.func17, Tryd.ntmps17
    go_wp2_with (first
      | (go_at_call 40; refine (HC.out _ (HV.out.kept hb1)).mono ?_; rintro _ w5 ⟨rfl, hb5⟩)
      | (have _ := q9; refine wpList_load_run rfl 25 (.tmp 1) rfl _ _ rfl q9 ?_; clear q9)
      | (have _ := HT; refine wpList_box_blk rfl 25 (.tmp 0) rfl x.cells x.arg rfl rfl ?_; intro g w1 B1 O1 hg; have q9 := load_whole _ B1; have hb1 : Below w.heap.size w w1 := O1.below (fun _ h => h.elim) (Nat.le_refl _); clear HT))
    go_ret
    exact ⟨by rw [HK.out] <;> rfl, bthen hb1 hb5⟩
end Go.Proofs.YtnlhajhbmkhnjaaDoor.ValW

/-
  DERIVED: THE SHELF's CONTRACTS AT THIS DUMP, IN PLAIN WORDS (tools/lay-plain.mjs out of 'TrydShelf.lean', which tools/lay-shelf.mjs wrote): THE SAME DECLARATIONS UNDER THE SAME NAMES: 'import', 'namespace', 'open', 'def', 'theorem' AND NOTHING ELSE: no command of the shelf's: FOR A HAND-IN. Each laying: the table of numbers ('.._ren') and one theorem, a field a fact of the dump's own or the kernel's comparison; each contract: ONE APPLICATION.
-/




























namespace Go.Proofs
open Go.Shelf
def Tryd.lays169_ren : Go.Shelf.Ren := ⟨fun | 169 => 118 | n => n, fun | 70 => 109 | 9 => 9 | 0 => 0 | 72 => 111 | 37 => 29 | 127 => 132 | 3 => 3 | 5 => 5 | n => n, fun | n => n⟩
theorem Tryd.lays169 : Go.Proofs.Lays.n169 Tryd.prog Tryd.lays169_ren := {
  mixed := by kernel_rfl
  f169 := Tryd.func118.trans (congrArg some (by kernel_rfl))
  t0 := Tryd.underlying0
  a0 := Tryd.isAgg0
  z0 := Tryd.sizeOf0
  v0 := Tryd.zeroValue0
  t3 := Tryd.underlying3
  a3 := Tryd.isAgg3
  z3 := Tryd.sizeOf3
  v3 := Tryd.zeroValue3
  t9 := Tryd.underlying9
  a9 := Tryd.isAgg9
  z9 := Tryd.sizeOf9
  v9 := Tryd.zeroValue9
  t37 := Tryd.underlying29
  a37 := Tryd.isAgg29
  z37 := Tryd.sizeOf29
  v37 := Tryd.zeroValue29
  t70 := Tryd.underlying109
  a70 := Tryd.isAgg109
  z70 := Tryd.sizeOf109
  v70 := Tryd.zeroValue109
  t72 := Tryd.underlying111
  a72 := Tryd.isAgg111
  z72 := Tryd.sizeOf111
  v72 := Tryd.zeroValue111
  t127 := Tryd.underlying132
  a127 := Tryd.isAgg132
  z127 := Tryd.sizeOf132
  v127 := Tryd.zeroValue132 }
theorem Tryd.Builder_Extra_169 : Builder.Extra Tryd.prog Tryd.lays169_ren := {
  sizeBuilder := by kernel_rfl
  liesBuilder := by kernel_rfl
  t5 := Tryd.underlying5
  a5 := Tryd.isAgg5
  z5 := Tryd.sizeOf5
  v5 := Tryd.zeroValue5
  infoByte := by kernel_rfl
  cellsByte := by kernel_rfl
  sizeByte := by kernel_rfl
  neB5 := by decide }
open Go.RowKit in
/-- (*strings.Builder).String: "String returns the accumulated string.": OF A BUILDER THAT HOLDS AT LEAST ONE BYTE. ✋ THE MODEL FREEZES THOSE BYTES IN THE BUFFER (unsafe.String): a later write INTO them ends the model's run without an answer; a later append BEHIND them goes on. The statement's order of evaluation is drawn: one draw. (LAID: no walk: one application.) -/
theorem Tryd.Builder_String (B b : Nat) (l : List UInt8) (w : World) (h : Lib.IsBuilder 111 5 B b (Lib.byteCells l) w) (h0 : l ≠ []) :
    Calls Tryd.prog 118 #[.pointer (some ⟨b, 0, none⟩)] w fun e w' => e = .returned (.string ⟨l.toArray⟩) ∧ Below B w w' := Any.Builder_String Tryd.lays169 Tryd.Builder_Extra_169 B b l w h h0
open Go.RowKit in
/-- (*strings.Builder).String OF A BUILDER THAT HOLDS NO BYTE: the empty string. (Its buffer is nil, or a row of which it has taken nothing yet; where that row has NO capacity the model lays one new block for unsafe.SliceData's 'some address'.) One draw. (LAID: no walk: one application.) -/
theorem Tryd.Builder_String_empty (B b : Nat) (w : World) (h : Lib.IsBuilder 111 5 B b [] w) (hBw : B ≤ w.heap.size) :
    Calls Tryd.prog 118 #[.pointer (some ⟨b, 0, none⟩)] w fun e w' => e = .returned (.string ⟨#[]⟩) ∧ Below B w w' := Any.Builder_String_empty Tryd.lays169 Tryd.Builder_Extra_169 B b w h hBw
open Go.RowKit in
/-- (*strings.Builder).String: "String returns the accumulated string.": WHATEVER THE BUILDER HOLDS. (LAID: no walk: one application.) -/
theorem Tryd.Builder_String_any (B b : Nat) (l : List UInt8) (w : World) (h : Lib.IsBuilder 111 5 B b (Lib.byteCells l) w) (hBw : B ≤ w.heap.size) :
    Calls Tryd.prog 118 #[.pointer (some ⟨b, 0, none⟩)] w fun e w' => e = .returned (.string ⟨l.toArray⟩) ∧ Below B w w' := Any.Builder_String_any Tryd.lays169 Tryd.Builder_Extra_169 B b l w h hBw
def Tryd.lays241_ren : Go.Shelf.Ren := ⟨fun | 241 => 137 | 277 => 144 | n => n, fun | 70 => 109 | 3 => 3 | 0 => 0 | 72 => 111 | 37 => 29 | 5 => 5 | n => n, fun | n => n⟩
theorem Tryd.lays241 : Go.Proofs.Lays.n241 Tryd.prog Tryd.lays241_ren := {
  mixed := by kernel_rfl
  f241 := Tryd.func137.trans (congrArg some (by kernel_rfl))
  f277 := Tryd.func144.trans (congrArg some (by kernel_rfl))
  t0 := Tryd.underlying0
  a0 := Tryd.isAgg0
  z0 := Tryd.sizeOf0
  v0 := Tryd.zeroValue0
  t3 := Tryd.underlying3
  a3 := Tryd.isAgg3
  z3 := Tryd.sizeOf3
  v3 := Tryd.zeroValue3
  t37 := Tryd.underlying29
  a37 := Tryd.isAgg29
  z37 := Tryd.sizeOf29
  v37 := Tryd.zeroValue29
  t70 := Tryd.underlying109
  a70 := Tryd.isAgg109
  z70 := Tryd.sizeOf109
  v70 := Tryd.zeroValue109
  t72 := Tryd.underlying111
  a72 := Tryd.isAgg111
  z72 := Tryd.sizeOf111
  v72 := Tryd.zeroValue111 }
theorem Tryd.Builder_Extra_241 : Builder.Extra Tryd.prog Tryd.lays241_ren := {
  sizeBuilder := by kernel_rfl
  liesBuilder := by kernel_rfl
  t5 := Tryd.underlying5
  a5 := Tryd.isAgg5
  z5 := Tryd.sizeOf5
  v5 := Tryd.zeroValue5
  infoByte := by kernel_rfl
  cellsByte := by kernel_rfl
  sizeByte := by kernel_rfl
  neB5 := by decide }
open Go.RowKit in
/-- (*strings.Builder).grow (no doc but "grow copies the buffer to a new, larger buffer so that there are at least n bytes of capacity beyond len(b.buf)."): AT A BUILDER WITHOUT A BUFFER: a new row of whatever bytes for its buffer, none of them its own yet. Three draws. (LAID: no walk: one application.) -/
theorem Tryd.Builder_grow_fresh (B b n : Nat) (w : World) (hB : B ≤ b) (hbk : w.heap[b]? = some (.cells #[.pointer (some ⟨b, 0, none⟩), .slice none 0 0] 111 (0, 0))) (hBw : B ≤ w.heap.size) (hn : n ≤ 281474976710656) :
    Calls Tryd.prog 137 #[.pointer (some ⟨b, 0, none⟩), .int .i64 n] w fun e w' => e = .returned (.tuple #[]) ∧ (Lib.BuilderAt 111 5 B b (.pointer (some ⟨b, 0, none⟩)) [] w' ∧ Below B w w') := Any.Builder_grow_fresh Tryd.lays241 Tryd.Builder_Extra_241 B b n w hB hbk hBw hn
def Tryd.lays165_ren : Go.Shelf.Ren := ⟨fun | 165 => 119 | 240 => 136 | 241 => 137 | 276 => 151 | 277 => 144 | n => n, fun | 70 => 109 | 3 => 3 | 0 => 0 | 4 => 4 | 9 => 9 | 20 => 20 | 72 => 111 | 37 => 29 | 164 => 142 | 5 => 5 | n => n, fun | n => n⟩
theorem Tryd.lays165 : Go.Proofs.Lays.n165 Tryd.prog Tryd.lays165_ren := {
  mixed := by kernel_rfl
  f165 := Tryd.func119.trans (congrArg some (by kernel_rfl))
  f240 := Tryd.func136.trans (congrArg some (by kernel_rfl))
  f241 := Tryd.func137.trans (congrArg some (by kernel_rfl))
  f276 := Tryd.func151.trans (congrArg some (by kernel_rfl))
  f277 := Tryd.func144.trans (congrArg some (by kernel_rfl))
  t0 := Tryd.underlying0
  a0 := Tryd.isAgg0
  z0 := Tryd.sizeOf0
  v0 := Tryd.zeroValue0
  t3 := Tryd.underlying3
  a3 := Tryd.isAgg3
  z3 := Tryd.sizeOf3
  v3 := Tryd.zeroValue3
  t4 := Tryd.underlying4
  a4 := Tryd.isAgg4
  z4 := Tryd.sizeOf4
  v4 := Tryd.zeroValue4
  t9 := Tryd.underlying9
  a9 := Tryd.isAgg9
  z9 := Tryd.sizeOf9
  v9 := Tryd.zeroValue9
  t20 := Tryd.underlying20
  a20 := Tryd.isAgg20
  z20 := Tryd.sizeOf20
  v20 := Tryd.zeroValue20
  t37 := Tryd.underlying29
  a37 := Tryd.isAgg29
  z37 := Tryd.sizeOf29
  v37 := Tryd.zeroValue29
  t70 := Tryd.underlying109
  a70 := Tryd.isAgg109
  z70 := Tryd.sizeOf109
  v70 := Tryd.zeroValue109
  t72 := Tryd.underlying111
  a72 := Tryd.isAgg111
  z72 := Tryd.sizeOf111
  v72 := Tryd.zeroValue111
  t164 := Tryd.underlying142
  a164 := Tryd.isAgg142
  z164 := Tryd.sizeOf142
  v164 := Tryd.zeroValue142 }
theorem Tryd.Builder_Extra_165 : Builder.Extra Tryd.prog Tryd.lays165_ren := {
  sizeBuilder := by kernel_rfl
  liesBuilder := by kernel_rfl
  t5 := Tryd.underlying5
  a5 := Tryd.isAgg5
  z5 := Tryd.sizeOf5
  v5 := Tryd.zeroValue5
  infoByte := by kernel_rfl
  cellsByte := by kernel_rfl
  sizeByte := by kernel_rfl
  neB5 := by decide }
open Go.RowKit in
/-- (*strings.Builder).Grow AT A BUILDER THAT HAS NOT BEEN WRITTEN ('var b strings.Builder; b.Grow(n)'): "Grow grows b's capacity, if necessary, to guarantee space for another n bytes.": it holds no byte behind it as before it. (LAID: no walk: one application.) -/
theorem Tryd.Builder_Grow_fresh (B b n : Nat) (w : World) (hB : B ≤ b) (hbk : w.heap[b]? = some (.cells #[.pointer none, .slice none 0 0] 111 (0, 0))) (hBw : B ≤ w.heap.size) (hn : n ≤ 281474976710656) :
    Calls Tryd.prog 119 #[.pointer (some ⟨b, 0, none⟩), .int .i64 n] w fun e w' => e = .returned (.tuple #[]) ∧ (Lib.BuilderAt 111 5 B b (.pointer (some ⟨b, 0, none⟩)) [] w' ∧ Below B w w') := Any.Builder_Grow_fresh Tryd.lays165 Tryd.Builder_Extra_165 B b n w hB hbk hBw hn
def Tryd.lays156_ren : Go.Shelf.Ren := ⟨fun | 156 => 83 | 165 => 119 | 166 => 120 | 169 => 118 | 240 => 136 | 241 => 137 | 276 => 151 | 277 => 144 | n => n, fun | 31 => 23 | 9 => 9 | 3 => 3 | 4 => 4 | 0 => 0 | 20 => 20 | 72 => 111 | 76 => 118 | 70 => 109 | 37 => 29 | 75 => 113 | 127 => 132 | 164 => 142 | 5 => 5 | 80 => 116 | n => n, fun | n => n⟩
theorem Tryd.lays156 : Go.Proofs.Lays.n156 Tryd.prog Tryd.lays156_ren := {
  mixed := by kernel_rfl
  f156 := Tryd.func83.trans (congrArg some (by kernel_rfl))
  f165 := Tryd.func119.trans (congrArg some (by kernel_rfl))
  f166 := Tryd.func120.trans (congrArg some (by kernel_rfl))
  f169 := Tryd.func118.trans (congrArg some (by kernel_rfl))
  f240 := Tryd.func136.trans (congrArg some (by kernel_rfl))
  f241 := Tryd.func137.trans (congrArg some (by kernel_rfl))
  f276 := Tryd.func151.trans (congrArg some (by kernel_rfl))
  f277 := Tryd.func144.trans (congrArg some (by kernel_rfl))
  t0 := Tryd.underlying0
  a0 := Tryd.isAgg0
  z0 := Tryd.sizeOf0
  v0 := Tryd.zeroValue0
  t3 := Tryd.underlying3
  a3 := Tryd.isAgg3
  z3 := Tryd.sizeOf3
  v3 := Tryd.zeroValue3
  t4 := Tryd.underlying4
  a4 := Tryd.isAgg4
  z4 := Tryd.sizeOf4
  v4 := Tryd.zeroValue4
  t9 := Tryd.underlying9
  a9 := Tryd.isAgg9
  z9 := Tryd.sizeOf9
  v9 := Tryd.zeroValue9
  t20 := Tryd.underlying20
  a20 := Tryd.isAgg20
  z20 := Tryd.sizeOf20
  v20 := Tryd.zeroValue20
  t31 := Tryd.underlying23
  a31 := Tryd.isAgg23
  z31 := Tryd.sizeOf23
  v31 := Tryd.zeroValue23
  t37 := Tryd.underlying29
  a37 := Tryd.isAgg29
  z37 := Tryd.sizeOf29
  v37 := Tryd.zeroValue29
  t70 := Tryd.underlying109
  a70 := Tryd.isAgg109
  z70 := Tryd.sizeOf109
  v70 := Tryd.zeroValue109
  t72 := Tryd.underlying111
  a72 := Tryd.isAgg111
  z72 := Tryd.sizeOf111
  v72 := Tryd.zeroValue111
  t75 := Tryd.underlying113
  a75 := Tryd.isAgg113
  z75 := Tryd.sizeOf113
  v75 := Tryd.zeroValue113
  t76 := Tryd.underlying118
  a76 := Tryd.isAgg118
  z76 := Tryd.sizeOf118
  v76 := Tryd.zeroValue118
  t127 := Tryd.underlying132
  a127 := Tryd.isAgg132
  z127 := Tryd.sizeOf132
  v127 := Tryd.zeroValue132
  t164 := Tryd.underlying142
  a164 := Tryd.isAgg142
  z164 := Tryd.sizeOf142
  v164 := Tryd.zeroValue142 }
theorem Tryd.Builder_Extra_156 : Builder.Extra Tryd.prog Tryd.lays156_ren := {
  sizeBuilder := by kernel_rfl
  liesBuilder := by kernel_rfl
  t5 := Tryd.underlying5
  a5 := Tryd.isAgg5
  z5 := Tryd.sizeOf5
  v5 := Tryd.zeroValue5
  infoByte := by kernel_rfl
  cellsByte := by kernel_rfl
  sizeByte := by kernel_rfl
  neB5 := by decide }
open Go.RowKit in
/-- No element: the empty string; the world is as it was. (Whatever the slice's address and capacity: a nil slice too.) (LAID: no walk: one application.) -/
theorem Tryd.strings_Join_none (a : Option Addr) (c : Nat) (sep : ByteArray) (w : World) :
    Calls Tryd.prog 83 #[.slice a 0 c, .string sep] w fun e w' => e = .returned (.string ⟨#[]⟩) ∧ w' = w := Any.strings_Join_none Tryd.lays156 Tryd.Builder_Extra_156 a c sep w
open Go.RowKit in
/-- strings.Join: "Join concatenates the elements of its first argument to create a single string. The separator string sep is placed between elements in the resulting string.": HOWEVER MANY ELEMENTS. Below the heap's end the world is as it was. (LAID: no walk: one application.) -/
theorem Tryd.strings_Join (bk o c : Nat) (xs : List ByteArray) (sep : ByteArray) (w : World) (hcells : ∀ (j : Nat) x, xs[j]? = some x → w.cell? ⟨bk, o + j, none⟩ = some (.string x)) (hbk : bk < w.heap.size) (hN : xs.length ≤ 140737488355328) (hcap : xs.length ≤ c) (hlen : (Lib.join (xs.map (·.data.toList)) sep.data.toList).length ≤ 140737488355328) :
    Calls Tryd.prog 83 #[.slice (some ⟨bk, o, none⟩) xs.length c, .string sep] w fun e w' => e = .returned (.string ⟨(Lib.join (xs.map (·.data.toList)) sep.data.toList).toArray⟩) ∧ Below w.heap.size w w' := Any.strings_Join Tryd.lays156 Tryd.Builder_Extra_156 bk o c xs sep w hcells hbk hN hcap hlen
def Tryd.lays126_ren : Go.Shelf.Ren := ⟨fun | 126 => 169 | n => n, fun | 5 => 5 | 3 => 3 | 9 => 9 | n => n, fun | n => n⟩
theorem Tryd.lays126 : Go.Proofs.Lays.n126 Tryd.prog Tryd.lays126_ren := {
  mixed := by kernel_rfl
  f126 := Tryd.func169.trans (congrArg some (by kernel_rfl))
  t3 := Tryd.underlying3
  a3 := Tryd.isAgg3
  z3 := Tryd.sizeOf3
  v3 := Tryd.zeroValue3
  t5 := Tryd.underlying5
  a5 := Tryd.isAgg5
  z5 := Tryd.sizeOf5
  v5 := Tryd.zeroValue5
  t9 := Tryd.underlying9
  a9 := Tryd.isAgg9
  z9 := Tryd.sizeOf9
  v9 := Tryd.zeroValue9 }
/-- bits.Len8: "Len8 returns the minimum number of bits required to represent x; the result is 0 for x == 0.": IT RETURNS 'Lib.bitLen x'; the world is as it was. ('h0', 'h1': x is a uint8.) (LAID: no walk: one application.) -/
theorem Tryd.bits_Len8 (x : Int) (w : World) (h0 : 0 ≤ x) (h1 : x ≤ 255) :
    Calls Tryd.prog 169 #[.int .u8 x] w fun e w' => e = .returned (.int .i64 (Lib.bitLen x.toNat)) ∧ w' = w := Any.bits_Len8 Tryd.lays126 x w h0 h1
def Tryd.lays131_ren : Go.Shelf.Ren := ⟨fun | 131 => 162 | 126 => 169 | n => n, fun | 5 => 5 | 3 => 3 | 9 => 9 | n => n, fun | n => n⟩
theorem Tryd.lays131 : Go.Proofs.Lays.n131 Tryd.prog Tryd.lays131_ren := {
  mixed := by kernel_rfl
  f126 := Tryd.func169.trans (congrArg some (by kernel_rfl))
  f131 := Tryd.func162.trans (congrArg some (by kernel_rfl))
  t3 := Tryd.underlying3
  a3 := Tryd.isAgg3
  z3 := Tryd.sizeOf3
  v3 := Tryd.zeroValue3
  t5 := Tryd.underlying5
  a5 := Tryd.isAgg5
  z5 := Tryd.sizeOf5
  v5 := Tryd.zeroValue5
  t9 := Tryd.underlying9
  a9 := Tryd.isAgg9
  z9 := Tryd.sizeOf9
  v9 := Tryd.zeroValue9 }
/-- bits.LeadingZeros8: "LeadingZeros8 returns the number of leading zero bits in x; the result is 8 for x == 0.": IT RETURNS '8 - Lib.bitLen x'; the world is as it was. ITS CALLEE bits.Len8 IS MET BY ITS OWN CONTRACT OFF THE SHELF (lay that first): ENTERED IN PLACE it sends the kernel out of memory. (LAID: no walk: one application.) -/
theorem Tryd.bits_LeadingZeros8 (x : Int) (w : World) (h0 : 0 ≤ x) (h1 : x ≤ 255) :
    Calls Tryd.prog 162 #[.int .u8 x] w fun e w' => e = .returned (.int .i64 (8 - (Lib.bitLen x.toNat : Int))) ∧ w' = w := Any.bits_LeadingZeros8 Tryd.lays131 x w h0 h1
def Tryd.lays210_ren : Go.Shelf.Ren := ⟨fun | 210 => 133 | 206 => 145 | n => n, fun | 9 => 9 | 4 => 4 | 3 => 3 | n => n, fun | n => n⟩
theorem Tryd.lays210 : Go.Proofs.Lays.n210 Tryd.prog Tryd.lays210_ren := {
  mixed := by kernel_rfl
  f206 := Tryd.func145.trans (congrArg some (by kernel_rfl))
  f210 := Tryd.func133.trans (congrArg some (by kernel_rfl))
  t3 := Tryd.underlying3
  a3 := Tryd.isAgg3
  z3 := Tryd.sizeOf3
  v3 := Tryd.zeroValue3
  t4 := Tryd.underlying4
  a4 := Tryd.isAgg4
  z4 := Tryd.sizeOf4
  v4 := Tryd.zeroValue4
  t9 := Tryd.underlying9
  a9 := Tryd.isAgg9
  z9 := Tryd.sizeOf9
  v9 := Tryd.zeroValue9 }
open Go.RowKit in
/-- internal/stringslite.CutPrefix (what strings.CutPrefix calls). (LAID: no walk: one application.) -/
theorem Tryd.stringslite_CutPrefix (s p : ByteArray) (w : World) :
    Calls Tryd.prog 133 #[.string s, .string p] w fun e w' => e = .returned (.tuple #[.string ⟨(Lib.trimPrefix s.data.toList p.data.toList).toArray⟩, .bool (Lib.hasPrefix s.data.toList p.data.toList)]) ∧ w' = w := Any.stringslite_CutPrefix Tryd.lays210 s p w
def Tryd.lays103_ren : Go.Shelf.Ren := ⟨fun | 103 => 112 | 210 => 133 | 206 => 145 | n => n, fun | 9 => 9 | 4 => 4 | 24 => 106 | 3 => 3 | n => n, fun | n => n⟩
theorem Tryd.lays103 : Go.Proofs.Lays.n103 Tryd.prog Tryd.lays103_ren := {
  mixed := by kernel_rfl
  f103 := Tryd.func112.trans (congrArg some (by kernel_rfl))
  f206 := Tryd.func145.trans (congrArg some (by kernel_rfl))
  f210 := Tryd.func133.trans (congrArg some (by kernel_rfl))
  t3 := Tryd.underlying3
  a3 := Tryd.isAgg3
  z3 := Tryd.sizeOf3
  v3 := Tryd.zeroValue3
  t4 := Tryd.underlying4
  a4 := Tryd.isAgg4
  z4 := Tryd.sizeOf4
  v4 := Tryd.zeroValue4
  t9 := Tryd.underlying9
  a9 := Tryd.isAgg9
  z9 := Tryd.sizeOf9
  v9 := Tryd.zeroValue9
  t24 := Tryd.underlying106
  a24 := Tryd.isAgg106
  z24 := Tryd.sizeOf106
  v24 := Tryd.zeroValue106 }
open Go.RowKit in
/-- strings.CutPrefix: "CutPrefix returns s without the provided leading prefix string and reports whether it found the prefix. If s doesn't start with prefix, CutPrefix returns s, false. If prefix is the empty string, CutPrefix returns s, true.": IT RETURNS '(Lib.trimPrefix s p, Lib.hasPrefix s p)'; the world is as it was. (LAID: no walk: one application.) -/
theorem Tryd.strings_CutPrefix (s p : ByteArray) (w : World) :
    Calls Tryd.prog 112 #[.string s, .string p] w fun e w' => e = .returned (.tuple #[.string ⟨(Lib.trimPrefix s.data.toList p.data.toList).toArray⟩, .bool (Lib.hasPrefix s.data.toList p.data.toList)]) ∧ w' = w := Any.strings_CutPrefix Tryd.lays103 s p w
def Tryd.lays214_ren : Go.Shelf.Ren := ⟨fun | 214 => 116 | n => n, fun | 4 => 4 | 9 => 9 | n => n, fun | n => n⟩
theorem Tryd.lays214 : Go.Proofs.Lays.n214 Tryd.prog Tryd.lays214_ren := {
  mixed := by kernel_rfl
  f214 := Tryd.func116.trans (congrArg some (by kernel_rfl))
  t4 := Tryd.underlying4
  a4 := Tryd.isAgg4
  z4 := Tryd.sizeOf4
  v4 := Tryd.zeroValue4
  t9 := Tryd.underlying9
  a9 := Tryd.isAgg9
  z9 := Tryd.sizeOf9
  v9 := Tryd.zeroValue9 }
open Go.RowKit in
/-- internal/strconv.FormatBool (what strconv.FormatBool calls). (LAID: no walk: one application.) -/
theorem Tryd.internal_strconv_FormatBool (b : Bool) (w : World) :
    Calls Tryd.prog 116 #[.bool b] w fun e w' => e = .returned (.string ⟨(Lib.formatBool b).toArray⟩) ∧ w' = w := Any.internal_strconv_FormatBool Tryd.lays214 b w
def Tryd.lays121_ren : Go.Shelf.Ren := ⟨fun | 121 => 81 | 214 => 116 | n => n, fun | 4 => 4 | 9 => 9 | n => n, fun | n => n⟩
theorem Tryd.lays121 : Go.Proofs.Lays.n121 Tryd.prog Tryd.lays121_ren := {
  mixed := by kernel_rfl
  f121 := Tryd.func81.trans (congrArg some (by kernel_rfl))
  f214 := Tryd.func116.trans (congrArg some (by kernel_rfl))
  t4 := Tryd.underlying4
  a4 := Tryd.isAgg4
  z4 := Tryd.sizeOf4
  v4 := Tryd.zeroValue4
  t9 := Tryd.underlying9
  a9 := Tryd.isAgg9
  z9 := Tryd.sizeOf9
  v9 := Tryd.zeroValue9 }
open Go.RowKit in
/-- strconv.FormatBool: "FormatBool returns "true" or "false" according to the value of b.": IT RETURNS 'Lib.formatBool b'; the world is as it was. (LAID: no walk: one application.) -/
theorem Tryd.strconv_FormatBool (b : Bool) (w : World) :
    Calls Tryd.prog 81 #[.bool b] w fun e w' => e = .returned (.string ⟨(Lib.formatBool b).toArray⟩) ∧ w' = w := Any.strconv_FormatBool Tryd.lays121 b w
def Tryd.lays215_ren : Go.Shelf.Ren := ⟨fun | 215 => 86 | n => n, fun | 3 => 3 | 4 => 4 | n => n, fun | n => n⟩
theorem Tryd.lays215 : Go.Proofs.Lays.n215 Tryd.prog Tryd.lays215_ren := {
  mixed := by kernel_rfl
  f215 := Tryd.func86.trans (congrArg some (by kernel_rfl))
  t3 := Tryd.underlying3
  a3 := Tryd.isAgg3
  z3 := Tryd.sizeOf3
  v3 := Tryd.zeroValue3
  t4 := Tryd.underlying4
  a4 := Tryd.isAgg4
  z4 := Tryd.sizeOf4
  v4 := Tryd.zeroValue4 }
open Go.RowKit in
/-- cmp.isNaN at int: 'x != x': false. (LAID: no walk: one application.) -/
theorem Tryd.cmp_isNaN_int (x : Int) (w : World) :
    Calls Tryd.prog 86 #[.int .i64 x] w fun e w' => e = .returned (.bool false) ∧ w' = w := Any.cmp_isNaN_int Tryd.lays215 x w
def Tryd.lays122_ren : Go.Shelf.Ren := ⟨fun | 122 => 43 | 215 => 86 | n => n, fun | 3 => 3 | 4 => 4 | n => n, fun | n => n⟩
theorem Tryd.lays122 : Go.Proofs.Lays.n122 Tryd.prog Tryd.lays122_ren := {
  mixed := by kernel_rfl
  f122 := Tryd.func43.trans (congrArg some (by kernel_rfl))
  f215 := Tryd.func86.trans (congrArg some (by kernel_rfl))
  t3 := Tryd.underlying3
  a3 := Tryd.isAgg3
  z3 := Tryd.sizeOf3
  v3 := Tryd.zeroValue3
  t4 := Tryd.underlying4
  a4 := Tryd.isAgg4
  z4 := Tryd.sizeOf4
  v4 := Tryd.zeroValue4 }
open Go.RowKit in
/-- cmp.Compare at int: "Compare returns -1 if x is less than y, 0 if x equals y, +1 if x is greater than y.": IT RETURNS 'Lib.compareInt x y'; the world is as it was. (LAID: no walk: one application.) -/
theorem Tryd.cmp_Compare_int (x y : Int) (w : World) :
    Calls Tryd.prog 43 #[.int .i64 x, .int .i64 y] w fun e w' => e = .returned (.int .i64 (Lib.compareInt x y)) ∧ w' = w := Any.cmp_Compare_int Tryd.lays122 x y w
open Go.RowKit in
/-- (*strings.Builder).String: "String returns the accumulated string.": OF A BUILDER THAT HOLDS AT LEAST ONE BYTE. ✋ THE MODEL FREEZES THOSE BYTES IN THE BUFFER (unsafe.String): a later write INTO them ends the model's run without an answer; a later append BEHIND them goes on. The statement's order of evaluation is drawn: one draw. THE FORM '_f': IT SAYS BESIDES THAT THE BUILDER IS A BUILDER STILL ('Lib.IsBuilderF', the same bytes): SO IT CAN BE WRITTEN ON: 'b.WriteString(b.String()[:k])'. (LAID: no walk: one application.) -/
theorem Tryd.Builder_String_f (B b : Nat) (l : List UInt8) (w : World) (h : Lib.IsBuilderF 111 5 B b (Lib.byteCells l) w) (h0 : l ≠ []) :
    Calls Tryd.prog 118 #[.pointer (some ⟨b, 0, none⟩)] w fun e w' => e = .returned (.string ⟨l.toArray⟩) ∧ (Lib.IsBuilderF 111 5 B b (Lib.byteCells l) w' ∧ Below B w w') := Any.Builder_String_f Tryd.lays169 Tryd.Builder_Extra_169 B b l w h h0
open Go.RowKit in
/-- (*strings.Builder).String OF A BUILDER THAT HOLDS NO BYTE: the empty string; THE FORM '_f': a builder still. (LAID: no walk: one application.) -/
theorem Tryd.Builder_String_empty_f (B b : Nat) (w : World) (h : Lib.IsBuilderF 111 5 B b [] w) (hBw : B ≤ w.heap.size) :
    Calls Tryd.prog 118 #[.pointer (some ⟨b, 0, none⟩)] w fun e w' => e = .returned (.string ⟨#[]⟩) ∧ (Lib.IsBuilderF 111 5 B b [] w' ∧ Below B w w') := Any.Builder_String_empty_f Tryd.lays169 Tryd.Builder_Extra_169 B b w h hBw
open Go.RowKit in
/-- (*strings.Builder).String: "String returns the accumulated string.": WHATEVER THE BUILDER HOLDS; THE FORM '_f': OF A BUILDER THAT MAY HAVE BEEN READ BEFORE; AND IT IS A BUILDER STILL, holding the same bytes: it can be written on. (LAID: no walk: one application.) -/
theorem Tryd.Builder_String_any_f (B b : Nat) (l : List UInt8) (w : World) (h : Lib.IsBuilderF 111 5 B b (Lib.byteCells l) w) (hBw : B ≤ w.heap.size) :
    Calls Tryd.prog 118 #[.pointer (some ⟨b, 0, none⟩)] w fun e w' => e = .returned (.string ⟨l.toArray⟩) ∧ (Lib.IsBuilderF 111 5 B b (Lib.byteCells l) w' ∧ Below B w w') := Any.Builder_String_any_f Tryd.lays169 Tryd.Builder_Extra_169 B b l w h hBw
open Go.RowKit in
/-- (*strings.Builder).String: "String returns the accumulated string.": OF A BUILDER THAT HOLDS AT LEAST ONE BYTE. ✋ THE MODEL FREEZES THOSE BYTES IN THE BUFFER (unsafe.String): a later write INTO them ends the model's run without an answer; a later append BEHIND them goes on. The statement's order of evaluation is drawn: one draw. THE FORM '_k': OVER 'Lib.IsBuilderF' (a builder that 'String()' may have read), AND WITH THE FRAME THAT REACHES ABOVE THE BUILDER: 'Lib.OthersKept': every block that is not b and is no row of uint8's stands as it stood: the iterator of a range among them. (LAID: no walk: one application.) -/
theorem Tryd.Builder_String_k (B b : Nat) (l : List UInt8) (w : World) (h : Lib.IsBuilderF 111 5 B b (Lib.byteCells l) w) (h0 : l ≠ []) :
    Calls Tryd.prog 118 #[.pointer (some ⟨b, 0, none⟩)] w fun e w' => e = .returned (.string ⟨l.toArray⟩) ∧ (Lib.IsBuilderF 111 5 B b (Lib.byteCells l) w' ∧ Below B w w' ∧ Lib.OthersKept 5 (some b) w w') := Any.Builder_String_k Tryd.lays169 Tryd.Builder_Extra_169 B b l w h h0
open Go.RowKit in
/-- (*strings.Builder).String OF A BUILDER THAT HOLDS NO BYTE: the empty string; THE FORM '_k': OVER 'Lib.IsBuilderF' (a builder that 'String()' may have read), AND WITH THE FRAME THAT REACHES ABOVE THE BUILDER: 'Lib.OthersKept': every block that is not b and is no row of uint8's stands as it stood: the iterator of a range among them. (LAID: no walk: one application.) -/
theorem Tryd.Builder_String_empty_k (B b : Nat) (w : World) (h : Lib.IsBuilderF 111 5 B b [] w) (hBw : B ≤ w.heap.size) :
    Calls Tryd.prog 118 #[.pointer (some ⟨b, 0, none⟩)] w fun e w' => e = .returned (.string ⟨#[]⟩) ∧ (Lib.IsBuilderF 111 5 B b [] w' ∧ Below B w w' ∧ Lib.OthersKept 5 (some b) w w') := Any.Builder_String_empty_k Tryd.lays169 Tryd.Builder_Extra_169 B b w h hBw
open Go.RowKit in
/-- (*strings.Builder).String: "String returns the accumulated string.": WHATEVER THE BUILDER HOLDS; THE FORM '_k': OVER 'Lib.IsBuilderF' (a builder that 'String()' may have read), AND WITH THE FRAME THAT REACHES ABOVE THE BUILDER: 'Lib.OthersKept': every block that is not b and is no row of uint8's stands as it stood: the iterator of a range among them. (LAID: no walk: one application.) -/
theorem Tryd.Builder_String_any_k (B b : Nat) (l : List UInt8) (w : World) (h : Lib.IsBuilderF 111 5 B b (Lib.byteCells l) w) (hBw : B ≤ w.heap.size) :
    Calls Tryd.prog 118 #[.pointer (some ⟨b, 0, none⟩)] w fun e w' => e = .returned (.string ⟨l.toArray⟩) ∧ (Lib.IsBuilderF 111 5 B b (Lib.byteCells l) w' ∧ Below B w w' ∧ Lib.OthersKept 5 (some b) w w') := Any.Builder_String_any_k Tryd.lays169 Tryd.Builder_Extra_169 B b l w h hBw
open Go.RowKit in
/-- (*strings.Builder).grow (no doc but "grow copies the buffer to a new, larger buffer so that there are at least n bytes of capacity beyond len(b.buf)."): AT A BUILDER WITHOUT A BUFFER: a new row of whatever bytes for its buffer, none of them its own yet. Three draws. (LAID: no walk: one application.) -/
theorem Tryd.Builder_grow_fresh_cap (B b n : Nat) (w : World) (hB : B ≤ b) (hbk : w.heap[b]? = some (.cells #[.pointer (some ⟨b, 0, none⟩), .slice none 0 0] 111 (0, 0))) (hBw : B ≤ w.heap.size) (hn : n ≤ 281474976710656) :
    Calls Tryd.prog 137 #[.pointer (some ⟨b, 0, none⟩), .int .i64 n] w fun e w' => e = .returned (.tuple #[]) ∧ (Lib.BuilderAt 111 5 B b (.pointer (some ⟨b, 0, none⟩)) [] w' ∧ Below B w w') ∧ ∃ p cap, w'.cell? ⟨b, 1, none⟩ = some (.slice p 0 cap) ∧ n ≤ cap := Any.Builder_grow_fresh_cap Tryd.lays241 Tryd.Builder_Extra_241 B b n w hB hbk hBw hn
open Go.RowKit in
/-- (*strings.Builder).Grow AT A BUILDER THAT HAS NOT BEEN WRITTEN ('var b strings.Builder; b.Grow(n)'): "Grow grows b's capacity, if necessary, to guarantee space for another n bytes.": it holds no byte behind it as before it. (LAID: no walk: one application.) -/
theorem Tryd.Builder_Grow_fresh_cap (B b n : Nat) (w : World) (hB : B ≤ b) (hbk : w.heap[b]? = some (.cells #[.pointer none, .slice none 0 0] 111 (0, 0))) (hBw : B ≤ w.heap.size) (hn : n ≤ 281474976710656) :
    Calls Tryd.prog 119 #[.pointer (some ⟨b, 0, none⟩), .int .i64 n] w fun e w' => e = .returned (.tuple #[]) ∧ (Lib.BuilderAt 111 5 B b (.pointer (some ⟨b, 0, none⟩)) [] w' ∧ Below B w w') ∧ ∃ p cap, w'.cell? ⟨b, 1, none⟩ = some (.slice p 0 cap) ∧ n ≤ cap := Any.Builder_Grow_fresh_cap Tryd.lays165 Tryd.Builder_Extra_165 B b n w hB hbk hBw hn
def Tryd.lays129_ren : Go.Shelf.Ren := ⟨fun | 129 => 139 | n => n, fun | 53 => 100 | 3 => 3 | 4 => 4 | 46 => 115 | 5 => 5 | 9 => 9 | n => n, fun | n => n⟩
theorem Tryd.lays129 : Go.Proofs.Lays.n129 Tryd.prog Tryd.lays129_ren := {
  mixed := by kernel_rfl
  f129 := Tryd.func139.trans (congrArg some (by kernel_rfl))
  t3 := Tryd.underlying3
  a3 := Tryd.isAgg3
  z3 := Tryd.sizeOf3
  v3 := Tryd.zeroValue3
  t4 := Tryd.underlying4
  a4 := Tryd.isAgg4
  z4 := Tryd.sizeOf4
  v4 := Tryd.zeroValue4
  t5 := Tryd.underlying5
  a5 := Tryd.isAgg5
  z5 := Tryd.sizeOf5
  v5 := Tryd.zeroValue5
  t9 := Tryd.underlying9
  a9 := Tryd.isAgg9
  z9 := Tryd.sizeOf9
  v9 := Tryd.zeroValue9
  t46 := Tryd.underlying115
  a46 := Tryd.isAgg115
  z46 := Tryd.sizeOf115
  v46 := Tryd.zeroValue115
  t53 := Tryd.underlying100
  a53 := Tryd.isAgg100
  z53 := Tryd.sizeOf100
  v53 := Tryd.zeroValue100 }
/-- bits.Len64: "Len64 returns the minimum number of bits required to represent x; the result is 0 for x == 0.": IT RETURNS 'Lib.bitLen x'; the world is as it was. ('h0', 'h1': x is a uint64.) (LAID: no walk: one application.) -/
theorem Tryd.bits_Len64 (x : Int) (w : World) (h0 : 0 ≤ x) (h1 : x ≤ 18446744073709551615) :
    Calls Tryd.prog 139 #[.int .u64 x] w fun e w' => e = .returned (.int .i64 (Lib.bitLen x.toNat)) ∧ w' = w := Any.bits_Len64 Tryd.lays129 x w h0 h1
def Tryd.lays317_ren : Go.Shelf.Ren := ⟨fun | 317 => 157 | n => n, fun | 3 => 3 | 46 => 115 | n => n, fun | n => n⟩
theorem Tryd.lays317 : Go.Proofs.Lays.n317 Tryd.prog Tryd.lays317_ren := {
  mixed := by kernel_rfl
  f317 := Tryd.func157.trans (congrArg some (by kernel_rfl))
  t3 := Tryd.underlying3
  a3 := Tryd.isAgg3
  z3 := Tryd.sizeOf3
  v3 := Tryd.zeroValue3
  t46 := Tryd.underlying115
  a46 := Tryd.isAgg115
  z46 := Tryd.sizeOf115
  v46 := Tryd.zeroValue115 }
open Go.Lib in
/-- internal/strconv.log10Pow2: "log10Pow2(x) returns ⌊log₁₀ 2**x⌋ = ⌊x * log₁₀ 2⌋.": '(x * 78913) >> 18', at an x up to 64 (a length in bits). The world is as it was. (LAID: no walk: one application.) -/
theorem Tryd.internal_strconv_log10Pow2 (x : Nat) (h : x ≤ 64) (w : World) :
    Calls Tryd.prog 157 #[.int .i64 x] w fun e w' => e = .returned (.int .i64 (Lib.l10 x)) ∧ w' = w := Any.internal_strconv_log10Pow2 Tryd.lays317 x h w
def Tryd.lays318_ren : Go.Shelf.Ren := ⟨fun | 318 => 158 | n => n, fun | 3 => 3 | 4 => 4 | n => n, fun | n => n⟩
theorem Tryd.lays318 : Go.Proofs.Lays.n318 Tryd.prog Tryd.lays318_ren := {
  mixed := by kernel_rfl
  f318 := Tryd.func158.trans (congrArg some (by kernel_rfl))
  t3 := Tryd.underlying3
  a3 := Tryd.isAgg3
  z3 := Tryd.sizeOf3
  v3 := Tryd.zeroValue3
  t4 := Tryd.underlying4
  a4 := Tryd.isAgg4
  z4 := Tryd.sizeOf4
  v4 := Tryd.zeroValue4 }
open Go.Lib in
/-- internal/strconv.bool2: "bool2 converts b to an integer: 1 for true, 0 for false." The world is as it was. (LAID: no walk: one application.) -/
theorem Tryd.internal_strconv_bool2_int (b : Bool) (w : World) :
    Calls Tryd.prog 158 #[.bool b] w fun e w' => e = .returned (.int .i64 (if b then 1 else 0)) ∧ w' = w := Any.internal_strconv_bool2_int Tryd.lays318 b w
def Tryd.lays283_ren : Go.Shelf.Ren := ⟨fun | 283 => 147 | n => n, fun | 3 => 3 | 9 => 9 | 4 => 4 | n => n, fun | n => n⟩
theorem Tryd.lays283 : Go.Proofs.Lays.n283 Tryd.prog Tryd.lays283_ren := {
  mixed := by kernel_rfl
  f283 := Tryd.func147.trans (congrArg some (by kernel_rfl))
  t3 := Tryd.underlying3
  a3 := Tryd.isAgg3
  z3 := Tryd.sizeOf3
  v3 := Tryd.zeroValue3
  t4 := Tryd.underlying4
  a4 := Tryd.isAgg4
  z4 := Tryd.sizeOf4
  v4 := Tryd.zeroValue4
  t9 := Tryd.underlying9
  a9 := Tryd.isAgg9
  z9 := Tryd.sizeOf9
  v9 := Tryd.zeroValue9 }
open Go.Lib in
/-- internal/strconv.small: "small returns the string for an i with 0 <= i < nSmalls.": i's decimal numeral. The world is as it was. (LAID: no walk: one application.) -/
theorem Tryd.internal_strconv_small (i : Nat) (h : i < 100) (w : World) :
    Calls Tryd.prog 147 #[.int .i64 i] w fun e w' => e = .returned (.string ⟨(Lib.decDigits i).toArray⟩) ∧ w' = w := Any.internal_strconv_small Tryd.lays283 i h w
def Tryd.laysM284_ren : Go.Shelf.Ren := ⟨fun | 284 => 148 | 129 => 139 | 317 => 157 | 318 => 158 | n => n, fun | 53 => 100 | 3 => 3 | 212 => 150 | 0 => 0 | 4 => 4 | 46 => 115 | 5 => 5 | 9 => 9 | n => n, fun | 17 => 3 | n => n⟩
theorem Tryd.laysM284 : Go.Proofs.LaysM.n284 Tryd.prog Tryd.laysM284_ren := {
  mixed := by kernel_rfl
  f129 := Tryd.func139.trans (congrArg some (by kernel_rfl))
  f284 := Tryd.func148.trans (congrArg some (by kernel_rfl))
  f317 := Tryd.func157.trans (congrArg some (by kernel_rfl))
  f318 := Tryd.func158.trans (congrArg some (by kernel_rfl))
  t0 := Tryd.underlying0
  a0 := Tryd.isAgg0
  z0 := Tryd.sizeOf0
  v0 := Tryd.zeroValue0
  t3 := Tryd.underlying3
  a3 := Tryd.isAgg3
  z3 := Tryd.sizeOf3
  v3 := Tryd.zeroValue3
  t4 := Tryd.underlying4
  a4 := Tryd.isAgg4
  z4 := Tryd.sizeOf4
  v4 := Tryd.zeroValue4
  t5 := Tryd.underlying5
  a5 := Tryd.isAgg5
  z5 := Tryd.sizeOf5
  v5 := Tryd.zeroValue5
  t9 := Tryd.underlying9
  a9 := Tryd.isAgg9
  z9 := Tryd.sizeOf9
  v9 := Tryd.zeroValue9
  t46 := Tryd.underlying115
  a46 := Tryd.isAgg115
  z46 := Tryd.sizeOf115
  v46 := Tryd.zeroValue115
  t53 := Tryd.underlying100
  a53 := Tryd.isAgg100
  z53 := Tryd.sizeOf100
  v53 := Tryd.zeroValue100
  t212 := Tryd.underlying150
  a212 := Tryd.isAgg150
  z212 := Tryd.sizeOf150
  v212 := Tryd.zeroValue150
  g17 := by kernel_rfl
  i0 := by kernel_rfl
  i3 := by kernel_rfl
  i4 := by kernel_rfl
  i5 := by kernel_rfl
  i9 := by kernel_rfl
  i46 := by kernel_rfl
  i53 := by kernel_rfl
  i212 := by kernel_rfl
  m17 := by kernel_rfl }
open Go.Lib in
/-- internal/strconv.numDigits, at a d that is not 0: THE NUMBER OF d's DECIMAL DIGITS. The world is as it was. (LAID: no walk: one application.) -/
theorem Tryd.internal_strconv_numDigits (u : Nat) (h1 : 1 ≤ u) (h2 : u < 18446744073709551616) (w : World) (htab : Lib.TabIs Tryd.prog w "internal/strconv.uint64pow10" .u64 Lib.pow10Tab) :
    Calls Tryd.prog 148 #[.int .u64 u] w fun e w' => e = .returned (.int .i64 (Lib.nDigits u)) ∧ w' = w := Any.internal_strconv_numDigits Tryd.laysM284 u h1 h2 w htab
def Tryd.lays285_ren : Go.Shelf.Ren := ⟨fun | 285 => 149 | n => n, fun | 37 => 29 | 53 => 100 | 3 => 3 | 4 => 4 | 51 => 151 | 9 => 9 | 5 => 5 | 0 => 0 | n => n, fun | n => n⟩
theorem Tryd.lays285 : Go.Proofs.Lays.n285 Tryd.prog Tryd.lays285_ren := {
  mixed := by kernel_rfl
  f285 := Tryd.func149.trans (congrArg some (by kernel_rfl))
  t0 := Tryd.underlying0
  a0 := Tryd.isAgg0
  z0 := Tryd.sizeOf0
  v0 := Tryd.zeroValue0
  t3 := Tryd.underlying3
  a3 := Tryd.isAgg3
  z3 := Tryd.sizeOf3
  v3 := Tryd.zeroValue3
  t4 := Tryd.underlying4
  a4 := Tryd.isAgg4
  z4 := Tryd.sizeOf4
  v4 := Tryd.zeroValue4
  t5 := Tryd.underlying5
  a5 := Tryd.isAgg5
  z5 := Tryd.sizeOf5
  v5 := Tryd.zeroValue5
  t9 := Tryd.underlying9
  a9 := Tryd.isAgg9
  z9 := Tryd.sizeOf9
  v9 := Tryd.zeroValue9
  t37 := Tryd.underlying29
  a37 := Tryd.isAgg29
  z37 := Tryd.sizeOf29
  v37 := Tryd.zeroValue29
  t51 := Tryd.underlying151
  a51 := Tryd.isAgg151
  z51 := Tryd.sizeOf151
  v51 := Tryd.zeroValue151
  t53 := Tryd.underlying100
  a53 := Tryd.isAgg100
  z53 := Tryd.sizeOf100
  v53 := Tryd.zeroValue100 }
open Go.RowKit Go.Sort Go.Lib in
/-- internal/strconv.formatBase10: "formatBase10 formats the decimal representation of u into a. The caller is responsible for ensuring that a is big enough to hold u. If a is too big, leading zeros will be filled in as needed.": THE ROW HOLDS u's DIGITS ('FmtInv .. 0 ..': every place t holds 'dg u (len - 1 - t)'); all else is as it was but for the count of draws. (LAID: no walk: one application.) -/
theorem Tryd.internal_strconv_formatBase10 (blk off cap : Nat) (u : Nat) (d : Array UInt8) (w : World) (hH : Holds (fun (b : UInt8) => Value.int .u8 (b.toNat : Int)) w blk off d) (hu : u < 10 ^ d.size) (hu64 : u < 18446744073709551616) (hsz : d.size < 4611686018427387904) :
    Calls Tryd.prog 149 #[.slice (some ⟨blk, off, none⟩) d.size cap, .int .u64 u] w fun e w' =>
      e = .returned (.tuple #[]) ∧ ∃ (n v' : Nat) (dk : Array UInt8), w' = (putRow (fun (b : UInt8) => Value.int .u8 (b.toNat : Int)) w blk off dk).drewN n ∧ FmtInv d.size u 0 v' dk := Any.internal_strconv_formatBase10 Tryd.lays285 blk off cap u d w hH hu hu64 hsz
def Tryd.laysM246_ren : Go.Shelf.Ren := ⟨fun | 246 => 135 | 283 => 147 | 284 => 148 | 285 => 149 | 286 => 150 | 129 => 139 | 317 => 157 | 318 => 158 | 319 => 159 | 320 => 160 | 337 => 167 | 338 => 168 | n => n, fun | 2 => 2 | 3 => 3 | 9 => 9 | 4 => 4 | 171 => 138 | 0 => 0 | 53 => 100 | 37 => 29 | 5 => 5 | 173 => 140 | 212 => 150 | 51 => 151 | 20 => 20 | 213 => 152 | 46 => 115 | 232 => 159 | 233 => 160 | n => n, fun | 17 => 3 | 18 => 4 | 19 => 5 | n => n⟩
theorem Tryd.laysM246 : Go.Proofs.LaysM.n246 Tryd.prog Tryd.laysM246_ren := {
  mixed := by kernel_rfl
  f129 := Tryd.func139.trans (congrArg some (by kernel_rfl))
  f246 := Tryd.func135.trans (congrArg some (by kernel_rfl))
  f283 := Tryd.func147.trans (congrArg some (by kernel_rfl))
  f284 := Tryd.func148.trans (congrArg some (by kernel_rfl))
  f285 := Tryd.func149.trans (congrArg some (by kernel_rfl))
  f286 := Tryd.func150.trans (congrArg some (by kernel_rfl))
  f317 := Tryd.func157.trans (congrArg some (by kernel_rfl))
  f318 := Tryd.func158.trans (congrArg some (by kernel_rfl))
  f319 := Tryd.func159.trans (congrArg some (by kernel_rfl))
  f320 := Tryd.func160.trans (congrArg some (by kernel_rfl))
  f337 := Tryd.func167.trans (congrArg some (by kernel_rfl))
  f338 := Tryd.func168.trans (congrArg some (by kernel_rfl))
  t0 := Tryd.underlying0
  a0 := Tryd.isAgg0
  z0 := Tryd.sizeOf0
  v0 := Tryd.zeroValue0
  t2 := Tryd.underlying2
  a2 := Tryd.isAgg2
  z2 := Tryd.sizeOf2
  v2 := Tryd.zeroValue2
  t3 := Tryd.underlying3
  a3 := Tryd.isAgg3
  z3 := Tryd.sizeOf3
  v3 := Tryd.zeroValue3
  t4 := Tryd.underlying4
  a4 := Tryd.isAgg4
  z4 := Tryd.sizeOf4
  v4 := Tryd.zeroValue4
  t5 := Tryd.underlying5
  a5 := Tryd.isAgg5
  z5 := Tryd.sizeOf5
  v5 := Tryd.zeroValue5
  t9 := Tryd.underlying9
  a9 := Tryd.isAgg9
  z9 := Tryd.sizeOf9
  v9 := Tryd.zeroValue9
  t20 := Tryd.underlying20
  a20 := Tryd.isAgg20
  z20 := Tryd.sizeOf20
  v20 := Tryd.zeroValue20
  t37 := Tryd.underlying29
  a37 := Tryd.isAgg29
  z37 := Tryd.sizeOf29
  v37 := Tryd.zeroValue29
  t46 := Tryd.underlying115
  a46 := Tryd.isAgg115
  z46 := Tryd.sizeOf115
  v46 := Tryd.zeroValue115
  t51 := Tryd.underlying151
  a51 := Tryd.isAgg151
  z51 := Tryd.sizeOf151
  v51 := Tryd.zeroValue151
  t53 := Tryd.underlying100
  a53 := Tryd.isAgg100
  z53 := Tryd.sizeOf100
  v53 := Tryd.zeroValue100
  t171 := Tryd.underlying138
  a171 := Tryd.isAgg138
  z171 := Tryd.sizeOf138
  v171 := Tryd.zeroValue138
  t173 := Tryd.underlying140
  a173 := Tryd.isAgg140
  z173 := Tryd.sizeOf140
  v173 := Tryd.zeroValue140
  t212 := Tryd.underlying150
  a212 := Tryd.isAgg150
  z212 := Tryd.sizeOf150
  v212 := Tryd.zeroValue150
  t213 := Tryd.underlying152
  a213 := Tryd.isAgg152
  z213 := Tryd.sizeOf152
  t232 := Tryd.underlying159
  a232 := Tryd.isAgg159
  z232 := Tryd.sizeOf159
  v232 := Tryd.zeroValue159
  t233 := Tryd.underlying160
  a233 := Tryd.isAgg160
  z233 := Tryd.sizeOf160
  v233 := Tryd.zeroValue160
  g17 := by kernel_rfl
  g18 := by kernel_rfl
  g19 := by kernel_rfl
  i0 := by kernel_rfl
  i2 := by kernel_rfl
  i3 := by kernel_rfl
  i4 := by kernel_rfl
  i5 := by kernel_rfl
  i9 := by kernel_rfl
  i20 := by kernel_rfl
  i37 := by kernel_rfl
  i46 := by kernel_rfl
  i51 := by kernel_rfl
  i53 := by kernel_rfl
  i171 := by kernel_rfl
  i173 := by kernel_rfl
  i212 := by kernel_rfl
  i232 := by kernel_rfl
  i233 := by kernel_rfl
  m17 := by kernel_rfl
  m18 := by kernel_rfl
  m19 := by kernel_rfl }
open Go.RowKit Go.Sort Go.Lib in
/-- internal/strconv.FormatInt: "FormatInt returns the string representation of i in the given base": AT BASE 10: i's decimal numeral, for every int64. The world behind the call: the world before it, new blocks behind the heap, draws. (LAID: no walk: one application.) -/
theorem Tryd.internal_strconv_FormatInt_10 (n : Int) (h0 : -9223372036854775808 ≤ n) (h1 : n ≤ 9223372036854775807) (w : World) (htab : Lib.TabIs Tryd.prog w "internal/strconv.uint64pow10" .u64 Lib.pow10Tab) :
    Calls Tryd.prog 135 #[.int .i64 n, .int .i64 10] w fun e w' => e = .returned (.string ⟨(Lib.itoa n).toArray⟩) ∧ ∃ k os, w' = grow (w.drewN k) os := Any.internal_strconv_FormatInt_10 Tryd.laysM246 n h0 h1 w htab
def Tryd.lays246_ren : Go.Shelf.Ren := ⟨fun | 246 => 135 | 283 => 147 | 284 => 148 | 285 => 149 | 286 => 150 | 129 => 139 | 317 => 157 | 318 => 158 | 319 => 159 | 320 => 160 | 337 => 167 | 338 => 168 | n => n, fun | 2 => 2 | 3 => 3 | 9 => 9 | 4 => 4 | 171 => 138 | 0 => 0 | 53 => 100 | 37 => 29 | 5 => 5 | 173 => 140 | 212 => 150 | 51 => 151 | 20 => 20 | 213 => 152 | 46 => 115 | 232 => 159 | 233 => 160 | n => n, fun | 17 => 3 | 18 => 4 | 19 => 5 | n => n⟩
theorem Tryd.lays246 : Go.Proofs.Lays.n246 Tryd.prog Tryd.lays246_ren := {
  mixed := by kernel_rfl
  f129 := Tryd.func139.trans (congrArg some (by kernel_rfl))
  f246 := Tryd.func135.trans (congrArg some (by kernel_rfl))
  f283 := Tryd.func147.trans (congrArg some (by kernel_rfl))
  f284 := Tryd.func148.trans (congrArg some (by kernel_rfl))
  f285 := Tryd.func149.trans (congrArg some (by kernel_rfl))
  f286 := Tryd.func150.trans (congrArg some (by kernel_rfl))
  f317 := Tryd.func157.trans (congrArg some (by kernel_rfl))
  f318 := Tryd.func158.trans (congrArg some (by kernel_rfl))
  f319 := Tryd.func159.trans (congrArg some (by kernel_rfl))
  f320 := Tryd.func160.trans (congrArg some (by kernel_rfl))
  f337 := Tryd.func167.trans (congrArg some (by kernel_rfl))
  f338 := Tryd.func168.trans (congrArg some (by kernel_rfl))
  t0 := Tryd.underlying0
  a0 := Tryd.isAgg0
  z0 := Tryd.sizeOf0
  v0 := Tryd.zeroValue0
  t2 := Tryd.underlying2
  a2 := Tryd.isAgg2
  z2 := Tryd.sizeOf2
  v2 := Tryd.zeroValue2
  t3 := Tryd.underlying3
  a3 := Tryd.isAgg3
  z3 := Tryd.sizeOf3
  v3 := Tryd.zeroValue3
  t4 := Tryd.underlying4
  a4 := Tryd.isAgg4
  z4 := Tryd.sizeOf4
  v4 := Tryd.zeroValue4
  t5 := Tryd.underlying5
  a5 := Tryd.isAgg5
  z5 := Tryd.sizeOf5
  v5 := Tryd.zeroValue5
  t9 := Tryd.underlying9
  a9 := Tryd.isAgg9
  z9 := Tryd.sizeOf9
  v9 := Tryd.zeroValue9
  t20 := Tryd.underlying20
  a20 := Tryd.isAgg20
  z20 := Tryd.sizeOf20
  v20 := Tryd.zeroValue20
  t37 := Tryd.underlying29
  a37 := Tryd.isAgg29
  z37 := Tryd.sizeOf29
  v37 := Tryd.zeroValue29
  t46 := Tryd.underlying115
  a46 := Tryd.isAgg115
  z46 := Tryd.sizeOf115
  v46 := Tryd.zeroValue115
  t51 := Tryd.underlying151
  a51 := Tryd.isAgg151
  z51 := Tryd.sizeOf151
  v51 := Tryd.zeroValue151
  t53 := Tryd.underlying100
  a53 := Tryd.isAgg100
  z53 := Tryd.sizeOf100
  v53 := Tryd.zeroValue100
  t171 := Tryd.underlying138
  a171 := Tryd.isAgg138
  z171 := Tryd.sizeOf138
  v171 := Tryd.zeroValue138
  t173 := Tryd.underlying140
  a173 := Tryd.isAgg140
  z173 := Tryd.sizeOf140
  v173 := Tryd.zeroValue140
  t212 := Tryd.underlying150
  a212 := Tryd.isAgg150
  z212 := Tryd.sizeOf150
  v212 := Tryd.zeroValue150
  t213 := Tryd.underlying152
  a213 := Tryd.isAgg152
  z213 := Tryd.sizeOf152
  t232 := Tryd.underlying159
  a232 := Tryd.isAgg159
  z232 := Tryd.sizeOf159
  v232 := Tryd.zeroValue159
  t233 := Tryd.underlying160
  a233 := Tryd.isAgg160
  z233 := Tryd.sizeOf160
  v233 := Tryd.zeroValue160
  g17 := by kernel_rfl
  g18 := by kernel_rfl
  g19 := by kernel_rfl }
open Go.RowKit Go.Sort Go.Lib in
/-- THE ROAD WITHOUT THE TABLE: 0 <= i < 100: two constants are read, nothing is laid: no premise on the world, and the world is as it was. (LAID: no walk: one application.) -/
theorem Tryd.internal_strconv_FormatInt_10_small (i : Nat) (hi : i < 100) (w : World) :
    Calls Tryd.prog 135 #[.int .i64 i, .int .i64 10] w fun e w' => e = .returned (.string ⟨(Lib.decDigits i).toArray⟩) ∧ w' = w := Any.internal_strconv_FormatInt_10_small Tryd.lays246 i hi w
def Tryd.laysM243_ren : Go.Shelf.Ren := ⟨fun | 243 => 115 | 246 => 135 | 283 => 147 | 284 => 148 | 285 => 149 | 286 => 150 | 129 => 139 | 317 => 157 | 318 => 158 | 319 => 159 | 320 => 160 | 337 => 167 | 338 => 168 | n => n, fun | 3 => 3 | 9 => 9 | 2 => 2 | 4 => 4 | 171 => 138 | 0 => 0 | 53 => 100 | 37 => 29 | 5 => 5 | 173 => 140 | 212 => 150 | 51 => 151 | 20 => 20 | 213 => 152 | 46 => 115 | 232 => 159 | 233 => 160 | n => n, fun | 17 => 3 | 18 => 4 | 19 => 5 | n => n⟩
theorem Tryd.laysM243 : Go.Proofs.LaysM.n243 Tryd.prog Tryd.laysM243_ren := {
  mixed := by kernel_rfl
  f129 := Tryd.func139.trans (congrArg some (by kernel_rfl))
  f243 := Tryd.func115.trans (congrArg some (by kernel_rfl))
  f246 := Tryd.func135.trans (congrArg some (by kernel_rfl))
  f283 := Tryd.func147.trans (congrArg some (by kernel_rfl))
  f284 := Tryd.func148.trans (congrArg some (by kernel_rfl))
  f285 := Tryd.func149.trans (congrArg some (by kernel_rfl))
  f286 := Tryd.func150.trans (congrArg some (by kernel_rfl))
  f317 := Tryd.func157.trans (congrArg some (by kernel_rfl))
  f318 := Tryd.func158.trans (congrArg some (by kernel_rfl))
  f319 := Tryd.func159.trans (congrArg some (by kernel_rfl))
  f320 := Tryd.func160.trans (congrArg some (by kernel_rfl))
  f337 := Tryd.func167.trans (congrArg some (by kernel_rfl))
  f338 := Tryd.func168.trans (congrArg some (by kernel_rfl))
  t0 := Tryd.underlying0
  a0 := Tryd.isAgg0
  z0 := Tryd.sizeOf0
  v0 := Tryd.zeroValue0
  t2 := Tryd.underlying2
  a2 := Tryd.isAgg2
  z2 := Tryd.sizeOf2
  v2 := Tryd.zeroValue2
  t3 := Tryd.underlying3
  a3 := Tryd.isAgg3
  z3 := Tryd.sizeOf3
  v3 := Tryd.zeroValue3
  t4 := Tryd.underlying4
  a4 := Tryd.isAgg4
  z4 := Tryd.sizeOf4
  v4 := Tryd.zeroValue4
  t5 := Tryd.underlying5
  a5 := Tryd.isAgg5
  z5 := Tryd.sizeOf5
  v5 := Tryd.zeroValue5
  t9 := Tryd.underlying9
  a9 := Tryd.isAgg9
  z9 := Tryd.sizeOf9
  v9 := Tryd.zeroValue9
  t20 := Tryd.underlying20
  a20 := Tryd.isAgg20
  z20 := Tryd.sizeOf20
  v20 := Tryd.zeroValue20
  t37 := Tryd.underlying29
  a37 := Tryd.isAgg29
  z37 := Tryd.sizeOf29
  v37 := Tryd.zeroValue29
  t46 := Tryd.underlying115
  a46 := Tryd.isAgg115
  z46 := Tryd.sizeOf115
  v46 := Tryd.zeroValue115
  t51 := Tryd.underlying151
  a51 := Tryd.isAgg151
  z51 := Tryd.sizeOf151
  v51 := Tryd.zeroValue151
  t53 := Tryd.underlying100
  a53 := Tryd.isAgg100
  z53 := Tryd.sizeOf100
  v53 := Tryd.zeroValue100
  t171 := Tryd.underlying138
  a171 := Tryd.isAgg138
  z171 := Tryd.sizeOf138
  v171 := Tryd.zeroValue138
  t173 := Tryd.underlying140
  a173 := Tryd.isAgg140
  z173 := Tryd.sizeOf140
  v173 := Tryd.zeroValue140
  t212 := Tryd.underlying150
  a212 := Tryd.isAgg150
  z212 := Tryd.sizeOf150
  v212 := Tryd.zeroValue150
  t213 := Tryd.underlying152
  a213 := Tryd.isAgg152
  z213 := Tryd.sizeOf152
  t232 := Tryd.underlying159
  a232 := Tryd.isAgg159
  z232 := Tryd.sizeOf159
  v232 := Tryd.zeroValue159
  t233 := Tryd.underlying160
  a233 := Tryd.isAgg160
  z233 := Tryd.sizeOf160
  v233 := Tryd.zeroValue160
  g17 := by kernel_rfl
  g18 := by kernel_rfl
  g19 := by kernel_rfl
  i0 := by kernel_rfl
  i2 := by kernel_rfl
  i3 := by kernel_rfl
  i4 := by kernel_rfl
  i5 := by kernel_rfl
  i9 := by kernel_rfl
  i20 := by kernel_rfl
  i37 := by kernel_rfl
  i46 := by kernel_rfl
  i51 := by kernel_rfl
  i53 := by kernel_rfl
  i171 := by kernel_rfl
  i173 := by kernel_rfl
  i212 := by kernel_rfl
  i232 := by kernel_rfl
  i233 := by kernel_rfl
  m17 := by kernel_rfl
  m18 := by kernel_rfl
  m19 := by kernel_rfl }
open Go.RowKit Go.Sort Go.Lib in
/-- internal/strconv.Itoa: "Itoa is equivalent to FormatInt(int64(i), 10).": i's decimal numeral, for every int. (LAID: no walk: one application.) -/
theorem Tryd.internal_strconv_Itoa (n : Int) (h0 : -9223372036854775808 ≤ n) (h1 : n ≤ 9223372036854775807) (w : World) (htab : Lib.TabIs Tryd.prog w "internal/strconv.uint64pow10" .u64 Lib.pow10Tab) :
    Calls Tryd.prog 115 #[.int .i64 n] w fun e w' => e = .returned (.string ⟨(Lib.itoa n).toArray⟩) ∧ ∃ k os, w' = grow (w.drewN k) os := Any.internal_strconv_Itoa Tryd.laysM243 n h0 h1 w htab
def Tryd.lays243_ren : Go.Shelf.Ren := ⟨fun | 243 => 115 | 246 => 135 | 283 => 147 | 284 => 148 | 285 => 149 | 286 => 150 | 129 => 139 | 317 => 157 | 318 => 158 | 319 => 159 | 320 => 160 | 337 => 167 | 338 => 168 | n => n, fun | 3 => 3 | 9 => 9 | 2 => 2 | 4 => 4 | 171 => 138 | 0 => 0 | 53 => 100 | 37 => 29 | 5 => 5 | 173 => 140 | 212 => 150 | 51 => 151 | 20 => 20 | 213 => 152 | 46 => 115 | 232 => 159 | 233 => 160 | n => n, fun | 17 => 3 | 18 => 4 | 19 => 5 | n => n⟩
theorem Tryd.lays243 : Go.Proofs.Lays.n243 Tryd.prog Tryd.lays243_ren := {
  mixed := by kernel_rfl
  f129 := Tryd.func139.trans (congrArg some (by kernel_rfl))
  f243 := Tryd.func115.trans (congrArg some (by kernel_rfl))
  f246 := Tryd.func135.trans (congrArg some (by kernel_rfl))
  f283 := Tryd.func147.trans (congrArg some (by kernel_rfl))
  f284 := Tryd.func148.trans (congrArg some (by kernel_rfl))
  f285 := Tryd.func149.trans (congrArg some (by kernel_rfl))
  f286 := Tryd.func150.trans (congrArg some (by kernel_rfl))
  f317 := Tryd.func157.trans (congrArg some (by kernel_rfl))
  f318 := Tryd.func158.trans (congrArg some (by kernel_rfl))
  f319 := Tryd.func159.trans (congrArg some (by kernel_rfl))
  f320 := Tryd.func160.trans (congrArg some (by kernel_rfl))
  f337 := Tryd.func167.trans (congrArg some (by kernel_rfl))
  f338 := Tryd.func168.trans (congrArg some (by kernel_rfl))
  t0 := Tryd.underlying0
  a0 := Tryd.isAgg0
  z0 := Tryd.sizeOf0
  v0 := Tryd.zeroValue0
  t2 := Tryd.underlying2
  a2 := Tryd.isAgg2
  z2 := Tryd.sizeOf2
  v2 := Tryd.zeroValue2
  t3 := Tryd.underlying3
  a3 := Tryd.isAgg3
  z3 := Tryd.sizeOf3
  v3 := Tryd.zeroValue3
  t4 := Tryd.underlying4
  a4 := Tryd.isAgg4
  z4 := Tryd.sizeOf4
  v4 := Tryd.zeroValue4
  t5 := Tryd.underlying5
  a5 := Tryd.isAgg5
  z5 := Tryd.sizeOf5
  v5 := Tryd.zeroValue5
  t9 := Tryd.underlying9
  a9 := Tryd.isAgg9
  z9 := Tryd.sizeOf9
  v9 := Tryd.zeroValue9
  t20 := Tryd.underlying20
  a20 := Tryd.isAgg20
  z20 := Tryd.sizeOf20
  v20 := Tryd.zeroValue20
  t37 := Tryd.underlying29
  a37 := Tryd.isAgg29
  z37 := Tryd.sizeOf29
  v37 := Tryd.zeroValue29
  t46 := Tryd.underlying115
  a46 := Tryd.isAgg115
  z46 := Tryd.sizeOf115
  v46 := Tryd.zeroValue115
  t51 := Tryd.underlying151
  a51 := Tryd.isAgg151
  z51 := Tryd.sizeOf151
  v51 := Tryd.zeroValue151
  t53 := Tryd.underlying100
  a53 := Tryd.isAgg100
  z53 := Tryd.sizeOf100
  v53 := Tryd.zeroValue100
  t171 := Tryd.underlying138
  a171 := Tryd.isAgg138
  z171 := Tryd.sizeOf138
  v171 := Tryd.zeroValue138
  t173 := Tryd.underlying140
  a173 := Tryd.isAgg140
  z173 := Tryd.sizeOf140
  v173 := Tryd.zeroValue140
  t212 := Tryd.underlying150
  a212 := Tryd.isAgg150
  z212 := Tryd.sizeOf150
  v212 := Tryd.zeroValue150
  t213 := Tryd.underlying152
  a213 := Tryd.isAgg152
  z213 := Tryd.sizeOf152
  t232 := Tryd.underlying159
  a232 := Tryd.isAgg159
  z232 := Tryd.sizeOf159
  v232 := Tryd.zeroValue159
  t233 := Tryd.underlying160
  a233 := Tryd.isAgg160
  z233 := Tryd.sizeOf160
  v233 := Tryd.zeroValue160
  g17 := by kernel_rfl
  g18 := by kernel_rfl
  g19 := by kernel_rfl }
open Go.RowKit Go.Sort Go.Lib in
/-- THE ROAD WITHOUT THE TABLE: 0 <= i < 100. (LAID: no walk: one application.) -/
theorem Tryd.internal_strconv_Itoa_small (i : Nat) (hi : i < 100) (w : World) :
    Calls Tryd.prog 115 #[.int .i64 i] w fun e w' => e = .returned (.string ⟨(Lib.decDigits i).toArray⟩) ∧ w' = w := Any.internal_strconv_Itoa_small Tryd.lays243 i hi w
def Tryd.laysM171_ren : Go.Shelf.Ren := ⟨fun | 171 => 80 | 243 => 115 | 246 => 135 | 283 => 147 | 284 => 148 | 285 => 149 | 286 => 150 | 129 => 139 | 317 => 157 | 318 => 158 | 319 => 159 | 320 => 160 | 337 => 167 | 338 => 168 | n => n, fun | 3 => 3 | 9 => 9 | 2 => 2 | 4 => 4 | 171 => 138 | 0 => 0 | 53 => 100 | 37 => 29 | 5 => 5 | 173 => 140 | 212 => 150 | 51 => 151 | 20 => 20 | 213 => 152 | 46 => 115 | 232 => 159 | 233 => 160 | n => n, fun | 17 => 3 | 18 => 4 | 19 => 5 | n => n⟩
theorem Tryd.laysM171 : Go.Proofs.LaysM.n171 Tryd.prog Tryd.laysM171_ren := {
  mixed := by kernel_rfl
  f129 := Tryd.func139.trans (congrArg some (by kernel_rfl))
  f171 := Tryd.func80.trans (congrArg some (by kernel_rfl))
  f243 := Tryd.func115.trans (congrArg some (by kernel_rfl))
  f246 := Tryd.func135.trans (congrArg some (by kernel_rfl))
  f283 := Tryd.func147.trans (congrArg some (by kernel_rfl))
  f284 := Tryd.func148.trans (congrArg some (by kernel_rfl))
  f285 := Tryd.func149.trans (congrArg some (by kernel_rfl))
  f286 := Tryd.func150.trans (congrArg some (by kernel_rfl))
  f317 := Tryd.func157.trans (congrArg some (by kernel_rfl))
  f318 := Tryd.func158.trans (congrArg some (by kernel_rfl))
  f319 := Tryd.func159.trans (congrArg some (by kernel_rfl))
  f320 := Tryd.func160.trans (congrArg some (by kernel_rfl))
  f337 := Tryd.func167.trans (congrArg some (by kernel_rfl))
  f338 := Tryd.func168.trans (congrArg some (by kernel_rfl))
  t0 := Tryd.underlying0
  a0 := Tryd.isAgg0
  z0 := Tryd.sizeOf0
  v0 := Tryd.zeroValue0
  t2 := Tryd.underlying2
  a2 := Tryd.isAgg2
  z2 := Tryd.sizeOf2
  v2 := Tryd.zeroValue2
  t3 := Tryd.underlying3
  a3 := Tryd.isAgg3
  z3 := Tryd.sizeOf3
  v3 := Tryd.zeroValue3
  t4 := Tryd.underlying4
  a4 := Tryd.isAgg4
  z4 := Tryd.sizeOf4
  v4 := Tryd.zeroValue4
  t5 := Tryd.underlying5
  a5 := Tryd.isAgg5
  z5 := Tryd.sizeOf5
  v5 := Tryd.zeroValue5
  t9 := Tryd.underlying9
  a9 := Tryd.isAgg9
  z9 := Tryd.sizeOf9
  v9 := Tryd.zeroValue9
  t20 := Tryd.underlying20
  a20 := Tryd.isAgg20
  z20 := Tryd.sizeOf20
  v20 := Tryd.zeroValue20
  t37 := Tryd.underlying29
  a37 := Tryd.isAgg29
  z37 := Tryd.sizeOf29
  v37 := Tryd.zeroValue29
  t46 := Tryd.underlying115
  a46 := Tryd.isAgg115
  z46 := Tryd.sizeOf115
  v46 := Tryd.zeroValue115
  t51 := Tryd.underlying151
  a51 := Tryd.isAgg151
  z51 := Tryd.sizeOf151
  v51 := Tryd.zeroValue151
  t53 := Tryd.underlying100
  a53 := Tryd.isAgg100
  z53 := Tryd.sizeOf100
  v53 := Tryd.zeroValue100
  t171 := Tryd.underlying138
  a171 := Tryd.isAgg138
  z171 := Tryd.sizeOf138
  v171 := Tryd.zeroValue138
  t173 := Tryd.underlying140
  a173 := Tryd.isAgg140
  z173 := Tryd.sizeOf140
  v173 := Tryd.zeroValue140
  t212 := Tryd.underlying150
  a212 := Tryd.isAgg150
  z212 := Tryd.sizeOf150
  v212 := Tryd.zeroValue150
  t213 := Tryd.underlying152
  a213 := Tryd.isAgg152
  z213 := Tryd.sizeOf152
  t232 := Tryd.underlying159
  a232 := Tryd.isAgg159
  z232 := Tryd.sizeOf159
  v232 := Tryd.zeroValue159
  t233 := Tryd.underlying160
  a233 := Tryd.isAgg160
  z233 := Tryd.sizeOf160
  v233 := Tryd.zeroValue160
  g17 := by kernel_rfl
  g18 := by kernel_rfl
  g19 := by kernel_rfl
  i0 := by kernel_rfl
  i2 := by kernel_rfl
  i3 := by kernel_rfl
  i4 := by kernel_rfl
  i5 := by kernel_rfl
  i9 := by kernel_rfl
  i20 := by kernel_rfl
  i37 := by kernel_rfl
  i46 := by kernel_rfl
  i51 := by kernel_rfl
  i53 := by kernel_rfl
  i171 := by kernel_rfl
  i173 := by kernel_rfl
  i212 := by kernel_rfl
  i232 := by kernel_rfl
  i233 := by kernel_rfl
  m17 := by kernel_rfl
  m18 := by kernel_rfl
  m19 := by kernel_rfl }
open Go.RowKit Go.Sort Go.Lib in
/-- strconv.Itoa: "Itoa is equivalent to FormatInt(int64(i), 10).": i's DECIMAL NUMERAL ('Lib.itoa': a '-' where i is negative, then the digits), FOR EVERY int. The world behind the call: the world before it, new blocks behind the heap (the library's 'var a [24]byte'), draws. (LAID: no walk: one application.) -/
theorem Tryd.strconv_Itoa (n : Int) (h0 : -9223372036854775808 ≤ n) (h1 : n ≤ 9223372036854775807) (w : World) (htab : Lib.TabIs Tryd.prog w "internal/strconv.uint64pow10" .u64 Lib.pow10Tab) :
    Calls Tryd.prog 80 #[.int .i64 n] w fun e w' => e = .returned (.string ⟨(Lib.itoa n).toArray⟩) ∧ ∃ k os, w' = grow (w.drewN k) os := Any.strconv_Itoa Tryd.laysM171 n h0 h1 w htab
def Tryd.lays171_ren : Go.Shelf.Ren := ⟨fun | 171 => 80 | 243 => 115 | 246 => 135 | 283 => 147 | 284 => 148 | 285 => 149 | 286 => 150 | 129 => 139 | 317 => 157 | 318 => 158 | 319 => 159 | 320 => 160 | 337 => 167 | 338 => 168 | n => n, fun | 3 => 3 | 9 => 9 | 2 => 2 | 4 => 4 | 171 => 138 | 0 => 0 | 53 => 100 | 37 => 29 | 5 => 5 | 173 => 140 | 212 => 150 | 51 => 151 | 20 => 20 | 213 => 152 | 46 => 115 | 232 => 159 | 233 => 160 | n => n, fun | 17 => 3 | 18 => 4 | 19 => 5 | n => n⟩
theorem Tryd.lays171 : Go.Proofs.Lays.n171 Tryd.prog Tryd.lays171_ren := {
  mixed := by kernel_rfl
  f129 := Tryd.func139.trans (congrArg some (by kernel_rfl))
  f171 := Tryd.func80.trans (congrArg some (by kernel_rfl))
  f243 := Tryd.func115.trans (congrArg some (by kernel_rfl))
  f246 := Tryd.func135.trans (congrArg some (by kernel_rfl))
  f283 := Tryd.func147.trans (congrArg some (by kernel_rfl))
  f284 := Tryd.func148.trans (congrArg some (by kernel_rfl))
  f285 := Tryd.func149.trans (congrArg some (by kernel_rfl))
  f286 := Tryd.func150.trans (congrArg some (by kernel_rfl))
  f317 := Tryd.func157.trans (congrArg some (by kernel_rfl))
  f318 := Tryd.func158.trans (congrArg some (by kernel_rfl))
  f319 := Tryd.func159.trans (congrArg some (by kernel_rfl))
  f320 := Tryd.func160.trans (congrArg some (by kernel_rfl))
  f337 := Tryd.func167.trans (congrArg some (by kernel_rfl))
  f338 := Tryd.func168.trans (congrArg some (by kernel_rfl))
  t0 := Tryd.underlying0
  a0 := Tryd.isAgg0
  z0 := Tryd.sizeOf0
  v0 := Tryd.zeroValue0
  t2 := Tryd.underlying2
  a2 := Tryd.isAgg2
  z2 := Tryd.sizeOf2
  v2 := Tryd.zeroValue2
  t3 := Tryd.underlying3
  a3 := Tryd.isAgg3
  z3 := Tryd.sizeOf3
  v3 := Tryd.zeroValue3
  t4 := Tryd.underlying4
  a4 := Tryd.isAgg4
  z4 := Tryd.sizeOf4
  v4 := Tryd.zeroValue4
  t5 := Tryd.underlying5
  a5 := Tryd.isAgg5
  z5 := Tryd.sizeOf5
  v5 := Tryd.zeroValue5
  t9 := Tryd.underlying9
  a9 := Tryd.isAgg9
  z9 := Tryd.sizeOf9
  v9 := Tryd.zeroValue9
  t20 := Tryd.underlying20
  a20 := Tryd.isAgg20
  z20 := Tryd.sizeOf20
  v20 := Tryd.zeroValue20
  t37 := Tryd.underlying29
  a37 := Tryd.isAgg29
  z37 := Tryd.sizeOf29
  v37 := Tryd.zeroValue29
  t46 := Tryd.underlying115
  a46 := Tryd.isAgg115
  z46 := Tryd.sizeOf115
  v46 := Tryd.zeroValue115
  t51 := Tryd.underlying151
  a51 := Tryd.isAgg151
  z51 := Tryd.sizeOf151
  v51 := Tryd.zeroValue151
  t53 := Tryd.underlying100
  a53 := Tryd.isAgg100
  z53 := Tryd.sizeOf100
  v53 := Tryd.zeroValue100
  t171 := Tryd.underlying138
  a171 := Tryd.isAgg138
  z171 := Tryd.sizeOf138
  v171 := Tryd.zeroValue138
  t173 := Tryd.underlying140
  a173 := Tryd.isAgg140
  z173 := Tryd.sizeOf140
  v173 := Tryd.zeroValue140
  t212 := Tryd.underlying150
  a212 := Tryd.isAgg150
  z212 := Tryd.sizeOf150
  v212 := Tryd.zeroValue150
  t213 := Tryd.underlying152
  a213 := Tryd.isAgg152
  z213 := Tryd.sizeOf152
  t232 := Tryd.underlying159
  a232 := Tryd.isAgg159
  z232 := Tryd.sizeOf159
  v232 := Tryd.zeroValue159
  t233 := Tryd.underlying160
  a233 := Tryd.isAgg160
  z233 := Tryd.sizeOf160
  v233 := Tryd.zeroValue160
  g17 := by kernel_rfl
  g18 := by kernel_rfl
  g19 := by kernel_rfl }
open Go.RowKit Go.Sort Go.Lib in
/-- THE ROAD WITHOUT THE TABLE: 0 <= i < 100: NO PREMISE ON THE WORLD, AND THE WORLD IS AS IT WAS: a row that keeps its argument in that range need list no table ('laid = []'). (LAID: no walk: one application.) -/
theorem Tryd.strconv_Itoa_small (i : Nat) (hi : i < 100) (w : World) :
    Calls Tryd.prog 80 #[.int .i64 i] w fun e w' => e = .returned (.string ⟨(Lib.decDigits i).toArray⟩) ∧ w' = w := Any.strconv_Itoa_small Tryd.lays171 i hi w
def Tryd.lays217_ren : Go.Shelf.Ren := ⟨fun | 217 => 163 | 266 => 170 | n => n, fun | 9 => 9 | 5 => 5 | 3 => 3 | n => n, fun | n => n⟩
theorem Tryd.lays217 : Go.Proofs.Lays.n217 Tryd.prog Tryd.lays217_ren := {
  mixed := by kernel_rfl
  f217 := Tryd.func163.trans (congrArg some (by kernel_rfl))
  f266 := Tryd.func170.trans (congrArg some (by kernel_rfl))
  t3 := Tryd.underlying3
  a3 := Tryd.isAgg3
  z3 := Tryd.sizeOf3
  v3 := Tryd.zeroValue3
  t5 := Tryd.underlying5
  a5 := Tryd.isAgg5
  z5 := Tryd.sizeOf5
  v5 := Tryd.zeroValue5
  t9 := Tryd.underlying9
  a9 := Tryd.isAgg9
  z9 := Tryd.sizeOf9
  v9 := Tryd.zeroValue9 }
open Go.RowKit Go.Lib in
/-- internal/stringslite.IndexByte (what strings.IndexByte calls): IT RETURNS 'Lib.indexByte s c'; the world is as it was. (LAID: no walk: one application.) -/
theorem Tryd.stringslite_IndexByte (s : ByteArray) (c : Int) (w : World) :
    Calls Tryd.prog 163 #[.string s, .int .u8 c] w fun e w' => e = .returned (.int .i64 (Lib.indexByte s.data.toList c.toNat.toUInt8)) ∧ w' = w := Any.stringslite_IndexByte Tryd.lays217 s c w
def Tryd.lays224_ren : Go.Shelf.Ren := ⟨fun | 224 => 165 | n => n, fun | 3 => 3 | n => n, fun | n => n⟩
theorem Tryd.lays224 : Go.Proofs.Lays.n224 Tryd.prog Tryd.lays224_ren := {
  mixed := by kernel_rfl
  f224 := Tryd.func165.trans (congrArg some (by kernel_rfl))
  t3 := Tryd.underlying3
  a3 := Tryd.isAgg3
  z3 := Tryd.sizeOf3
  v3 := Tryd.zeroValue3 }
open Go.RowKit Go.Lib in
/-- internal/bytealg.Cutover: "Cutover reports the number of failures of IndexByte we should tolerate before switching over to Index. n is the number of bytes processed so far.": on amd64: (n + 16) / 8. (LAID: no walk: one application.) -/
theorem Tryd.bytealg_Cutover (n : Int) (h0 : 0 ≤ n) (h1 : n < 4611686018427387904) (w : World) :
    Calls Tryd.prog 165 #[.int .i64 n] w fun e w' => e = .returned (.int .i64 ((n + 16) / 8)) ∧ w' = w := Any.bytealg_Cutover Tryd.lays224 n h0 h1 w
def Tryd.lays314_ren : Go.Shelf.Ren := ⟨fun | 314 => 171 | n => n, fun | 9 => 9 | 51 => 151 | 3 => 3 | 4 => 4 | 5 => 5 | 46 => 115 | n => n, fun | n => n⟩
theorem Tryd.lays314 : Go.Proofs.Lays.n314 Tryd.prog Tryd.lays314_ren := {
  mixed := by kernel_rfl
  f314 := Tryd.func171.trans (congrArg some (by kernel_rfl))
  t3 := Tryd.underlying3
  a3 := Tryd.isAgg3
  z3 := Tryd.sizeOf3
  v3 := Tryd.zeroValue3
  t4 := Tryd.underlying4
  a4 := Tryd.isAgg4
  z4 := Tryd.sizeOf4
  v4 := Tryd.zeroValue4
  t5 := Tryd.underlying5
  a5 := Tryd.isAgg5
  z5 := Tryd.sizeOf5
  v5 := Tryd.zeroValue5
  t9 := Tryd.underlying9
  a9 := Tryd.isAgg9
  z9 := Tryd.sizeOf9
  v9 := Tryd.zeroValue9
  t46 := Tryd.underlying115
  a46 := Tryd.isAgg115
  z46 := Tryd.sizeOf115
  v46 := Tryd.zeroValue115
  t51 := Tryd.underlying151
  a51 := Tryd.isAgg151
  z51 := Tryd.sizeOf151
  v51 := Tryd.zeroValue151 }
open Go.RowKit Go.Lib in
/-- hashStr: "returns the hash and the appropriate multiplicative factor for use in Rabin-Karp algorithm": THE HASH OF ALL OF sep, AND 16777619 ^ len(sep), both in uint32. (LAID: no walk: one application.) -/
theorem Tryd.bytealg_hashStr (sep : ByteArray) (hs : sep.size < 4294967281) (w : World) :
    Calls Tryd.prog 171 #[.string sep] w fun e w' => e = .returned (.tuple #[.int .u32 (RK.H sep.data.toList % 4294967296), .int .u32 (16777619 ^ sep.size % 4294967296)]) ∧ w' = w := Any.bytealg_hashStr Tryd.lays314 sep hs w
def Tryd.lays267_ren : Go.Shelf.Ren := ⟨fun | 267 => 166 | 314 => 171 | n => n, fun | 9 => 9 | 3 => 3 | 146 => 157 | 51 => 151 | 4 => 4 | 5 => 5 | 46 => 115 | n => n, fun | n => n⟩
theorem Tryd.lays267 : Go.Proofs.Lays.n267 Tryd.prog Tryd.lays267_ren := {
  mixed := by kernel_rfl
  f267 := Tryd.func166.trans (congrArg some (by kernel_rfl))
  f314 := Tryd.func171.trans (congrArg some (by kernel_rfl))
  t3 := Tryd.underlying3
  a3 := Tryd.isAgg3
  z3 := Tryd.sizeOf3
  v3 := Tryd.zeroValue3
  t4 := Tryd.underlying4
  a4 := Tryd.isAgg4
  z4 := Tryd.sizeOf4
  v4 := Tryd.zeroValue4
  t5 := Tryd.underlying5
  a5 := Tryd.isAgg5
  z5 := Tryd.sizeOf5
  v5 := Tryd.zeroValue5
  t9 := Tryd.underlying9
  a9 := Tryd.isAgg9
  z9 := Tryd.sizeOf9
  v9 := Tryd.zeroValue9
  t46 := Tryd.underlying115
  a46 := Tryd.isAgg115
  z46 := Tryd.sizeOf115
  v46 := Tryd.zeroValue115
  t51 := Tryd.underlying151
  a51 := Tryd.isAgg151
  z51 := Tryd.sizeOf151
  v51 := Tryd.zeroValue151
  t146 := Tryd.underlying157
  a146 := Tryd.isAgg157
  z146 := Tryd.sizeOf157
  v146 := Tryd.zeroValue157 }
open Go.RowKit Go.Lib in
theorem Tryd.bytealg_IndexRabinKarp (s sep : ByteArray) (h1 : 1 ≤ sep.size) (h2 : sep.size ≤ s.size) (hs : s.size < 4294967281) (w : World) :
    Calls Tryd.prog 166 #[.string s, .string sep] w fun e w' => e = .returned (.int .i64 (Lib.index s.data.toList sep.data.toList)) ∧ w' = w := Any.bytealg_IndexRabinKarp Tryd.lays267 s sep h1 h2 hs w
def Tryd.lays219_ren : Go.Shelf.Ren := ⟨fun | 219 => 156 | 217 => 163 | 225 => 164 | 224 => 165 | 267 => 166 | 266 => 170 | 314 => 171 | n => n, fun | 9 => 9 | 3 => 3 | 4 => 4 | 5 => 5 | 46 => 115 | 146 => 157 | 51 => 151 | n => n, fun | 1 => 2 | n => n⟩
theorem Tryd.lays219 : Go.Proofs.Lays.n219 Tryd.prog Tryd.lays219_ren := {
  mixed := by kernel_rfl
  f217 := Tryd.func163.trans (congrArg some (by kernel_rfl))
  f219 := Tryd.func156.trans (congrArg some (by kernel_rfl))
  f224 := Tryd.func165.trans (congrArg some (by kernel_rfl))
  f225 := Tryd.func164.trans (congrArg some (by kernel_rfl))
  f266 := Tryd.func170.trans (congrArg some (by kernel_rfl))
  f267 := Tryd.func166.trans (congrArg some (by kernel_rfl))
  f314 := Tryd.func171.trans (congrArg some (by kernel_rfl))
  t3 := Tryd.underlying3
  a3 := Tryd.isAgg3
  z3 := Tryd.sizeOf3
  v3 := Tryd.zeroValue3
  t4 := Tryd.underlying4
  a4 := Tryd.isAgg4
  z4 := Tryd.sizeOf4
  v4 := Tryd.zeroValue4
  t5 := Tryd.underlying5
  a5 := Tryd.isAgg5
  z5 := Tryd.sizeOf5
  v5 := Tryd.zeroValue5
  t9 := Tryd.underlying9
  a9 := Tryd.isAgg9
  z9 := Tryd.sizeOf9
  v9 := Tryd.zeroValue9
  t46 := Tryd.underlying115
  a46 := Tryd.isAgg115
  z46 := Tryd.sizeOf115
  v46 := Tryd.zeroValue115
  t51 := Tryd.underlying151
  a51 := Tryd.isAgg151
  z51 := Tryd.sizeOf151
  v51 := Tryd.zeroValue151
  t146 := Tryd.underlying157
  a146 := Tryd.isAgg157
  z146 := Tryd.sizeOf157
  v146 := Tryd.zeroValue157
  g1 := by kernel_rfl }
open Go.RowKit Go.Lib in
/-- internal/stringslite.Index (what strings.Index calls) AT A substr OF ONE BYTE c: IT RETURNS 'Lib.indexByte s c'; the world is as it was. (LAID: no walk: one application.) -/
theorem Tryd.stringslite_Index_one (s : ByteArray) (c : UInt8) (w : World) :
    Calls Tryd.prog 156 #[.string s, .string ⟨#[c]⟩] w fun e w' => e = .returned (.int .i64 (Lib.indexByte s.data.toList c)) ∧ w' = w := Any.stringslite_Index_one Tryd.lays219 s c w
open Go.RowKit Go.Lib in
/-- internal/stringslite.Index (what strings.Index calls) AT A substr OF WHATEVER LENGTH: IT RETURNS 'Lib.index s substr'; the world is as it was. 'm': what internal/bytealg.MaxLen holds: whatever. (LAID: no walk: one application.) -/
theorem Tryd.stringslite_Index (s sub : ByteArray) (m : Int) (w : World) (hs : s.size < 4294967281) (hm : w.cell? ⟨2, 0, none⟩ = some (.int .i64 m)) :
    Calls Tryd.prog 156 #[.string s, .string sub] w fun e w' => e = .returned (.int .i64 (Lib.index s.data.toList sub.data.toList)) ∧ w' = w := Any.stringslite_Index Tryd.lays219 s sub m w hs hm
def Tryd.lays220_ren : Go.Shelf.Ren := ⟨fun | 220 => 146 | 219 => 156 | 217 => 163 | 225 => 164 | 224 => 165 | 267 => 166 | 266 => 170 | 314 => 171 | n => n, fun | 9 => 9 | 4 => 4 | 3 => 3 | 5 => 5 | 46 => 115 | 146 => 157 | 51 => 151 | n => n, fun | 1 => 2 | n => n⟩
theorem Tryd.lays220 : Go.Proofs.Lays.n220 Tryd.prog Tryd.lays220_ren := {
  mixed := by kernel_rfl
  f217 := Tryd.func163.trans (congrArg some (by kernel_rfl))
  f219 := Tryd.func156.trans (congrArg some (by kernel_rfl))
  f220 := Tryd.func146.trans (congrArg some (by kernel_rfl))
  f224 := Tryd.func165.trans (congrArg some (by kernel_rfl))
  f225 := Tryd.func164.trans (congrArg some (by kernel_rfl))
  f266 := Tryd.func170.trans (congrArg some (by kernel_rfl))
  f267 := Tryd.func166.trans (congrArg some (by kernel_rfl))
  f314 := Tryd.func171.trans (congrArg some (by kernel_rfl))
  t3 := Tryd.underlying3
  a3 := Tryd.isAgg3
  z3 := Tryd.sizeOf3
  v3 := Tryd.zeroValue3
  t4 := Tryd.underlying4
  a4 := Tryd.isAgg4
  z4 := Tryd.sizeOf4
  v4 := Tryd.zeroValue4
  t5 := Tryd.underlying5
  a5 := Tryd.isAgg5
  z5 := Tryd.sizeOf5
  v5 := Tryd.zeroValue5
  t9 := Tryd.underlying9
  a9 := Tryd.isAgg9
  z9 := Tryd.sizeOf9
  v9 := Tryd.zeroValue9
  t46 := Tryd.underlying115
  a46 := Tryd.isAgg115
  z46 := Tryd.sizeOf115
  v46 := Tryd.zeroValue115
  t51 := Tryd.underlying151
  a51 := Tryd.isAgg151
  z51 := Tryd.sizeOf151
  v51 := Tryd.zeroValue151
  t146 := Tryd.underlying157
  a146 := Tryd.isAgg157
  z146 := Tryd.sizeOf157
  v146 := Tryd.zeroValue157
  g1 := by kernel_rfl }
open Go.RowKit Go.Lib in
/-- internal/stringslite.Cut (what strings.Cut calls): IT RETURNS 'Lib.cut s sep'; the world is as it was but for the count of draws. (LAID: no walk: one application.) -/
theorem Tryd.stringslite_Cut (s sep : ByteArray) (m : Int) (w : World) (hs : s.size < 4294967281) (hm : w.cell? ⟨2, 0, none⟩ = some (.int .i64 m)) :
    Calls Tryd.prog 146 #[.string s, .string sep] w fun e w' => e = .returned (.tuple #[.string ⟨(Lib.cut s.data.toList sep.data.toList).1.toArray⟩, .string ⟨(Lib.cut s.data.toList sep.data.toList).2.1.toArray⟩, .bool (Lib.cut s.data.toList sep.data.toList).2.2]) ∧ ∃ n, w' = w.drewN n := Any.stringslite_Cut Tryd.lays220 s sep m w hs hm
def Tryd.lays145_ren : Go.Shelf.Ren := ⟨fun | 145 => 134 | 220 => 146 | 219 => 156 | 217 => 163 | 225 => 164 | 224 => 165 | 267 => 166 | 266 => 170 | 314 => 171 | n => n, fun | 9 => 9 | 4 => 4 | 59 => 129 | 3 => 3 | 5 => 5 | 46 => 115 | 146 => 157 | 51 => 151 | n => n, fun | 1 => 2 | n => n⟩
theorem Tryd.lays145 : Go.Proofs.Lays.n145 Tryd.prog Tryd.lays145_ren := {
  mixed := by kernel_rfl
  f145 := Tryd.func134.trans (congrArg some (by kernel_rfl))
  f217 := Tryd.func163.trans (congrArg some (by kernel_rfl))
  f219 := Tryd.func156.trans (congrArg some (by kernel_rfl))
  f220 := Tryd.func146.trans (congrArg some (by kernel_rfl))
  f224 := Tryd.func165.trans (congrArg some (by kernel_rfl))
  f225 := Tryd.func164.trans (congrArg some (by kernel_rfl))
  f266 := Tryd.func170.trans (congrArg some (by kernel_rfl))
  f267 := Tryd.func166.trans (congrArg some (by kernel_rfl))
  f314 := Tryd.func171.trans (congrArg some (by kernel_rfl))
  t3 := Tryd.underlying3
  a3 := Tryd.isAgg3
  z3 := Tryd.sizeOf3
  v3 := Tryd.zeroValue3
  t4 := Tryd.underlying4
  a4 := Tryd.isAgg4
  z4 := Tryd.sizeOf4
  v4 := Tryd.zeroValue4
  t5 := Tryd.underlying5
  a5 := Tryd.isAgg5
  z5 := Tryd.sizeOf5
  v5 := Tryd.zeroValue5
  t9 := Tryd.underlying9
  a9 := Tryd.isAgg9
  z9 := Tryd.sizeOf9
  v9 := Tryd.zeroValue9
  t46 := Tryd.underlying115
  a46 := Tryd.isAgg115
  z46 := Tryd.sizeOf115
  v46 := Tryd.zeroValue115
  t51 := Tryd.underlying151
  a51 := Tryd.isAgg151
  z51 := Tryd.sizeOf151
  v51 := Tryd.zeroValue151
  t59 := Tryd.underlying129
  a59 := Tryd.isAgg129
  z59 := Tryd.sizeOf129
  v59 := Tryd.zeroValue129
  t146 := Tryd.underlying157
  a146 := Tryd.isAgg157
  z146 := Tryd.sizeOf157
  v146 := Tryd.zeroValue157
  g1 := by kernel_rfl }
open Go.RowKit Go.Lib in
/-- strings.Cut: "Cut slices s around the first instance of sep, returning the text before and after sep. The found result reports whether sep appears in s. If sep does not appear in s, cut returns s, "", false.": IT RETURNS 'Lib.cut s sep'; the world is as it was but for the count of draws. (LAID: no walk: one application.) -/
theorem Tryd.strings_Cut (s sep : ByteArray) (m : Int) (w : World) (hs : s.size < 4294967281) (hm : w.cell? ⟨2, 0, none⟩ = some (.int .i64 m)) :
    Calls Tryd.prog 134 #[.string s, .string sep] w fun e w' => e = .returned (.tuple #[.string ⟨(Lib.cut s.data.toList sep.data.toList).1.toArray⟩, .string ⟨(Lib.cut s.data.toList sep.data.toList).2.1.toArray⟩, .bool (Lib.cut s.data.toList sep.data.toList).2.2]) ∧ ∃ n, w' = w.drewN n := Any.strings_Cut Tryd.lays145 s sep m w hs hm
def Tryd.laysM219_ren : Go.Shelf.Ren := ⟨fun | 219 => 156 | 217 => 163 | 225 => 164 | 224 => 165 | 267 => 166 | 266 => 170 | 314 => 171 | n => n, fun | 9 => 9 | 3 => 3 | 4 => 4 | 5 => 5 | 46 => 115 | 146 => 157 | 51 => 151 | n => n, fun | 1 => 2 | n => n⟩
theorem Tryd.laysM219 : Go.Proofs.LaysM.n219 Tryd.prog Tryd.laysM219_ren := {
  mixed := by kernel_rfl
  f217 := Tryd.func163.trans (congrArg some (by kernel_rfl))
  f219 := Tryd.func156.trans (congrArg some (by kernel_rfl))
  f224 := Tryd.func165.trans (congrArg some (by kernel_rfl))
  f225 := Tryd.func164.trans (congrArg some (by kernel_rfl))
  f266 := Tryd.func170.trans (congrArg some (by kernel_rfl))
  f267 := Tryd.func166.trans (congrArg some (by kernel_rfl))
  f314 := Tryd.func171.trans (congrArg some (by kernel_rfl))
  t3 := Tryd.underlying3
  a3 := Tryd.isAgg3
  z3 := Tryd.sizeOf3
  v3 := Tryd.zeroValue3
  t4 := Tryd.underlying4
  a4 := Tryd.isAgg4
  z4 := Tryd.sizeOf4
  v4 := Tryd.zeroValue4
  t5 := Tryd.underlying5
  a5 := Tryd.isAgg5
  z5 := Tryd.sizeOf5
  v5 := Tryd.zeroValue5
  t9 := Tryd.underlying9
  a9 := Tryd.isAgg9
  z9 := Tryd.sizeOf9
  v9 := Tryd.zeroValue9
  t46 := Tryd.underlying115
  a46 := Tryd.isAgg115
  z46 := Tryd.sizeOf115
  v46 := Tryd.zeroValue115
  t51 := Tryd.underlying151
  a51 := Tryd.isAgg151
  z51 := Tryd.sizeOf151
  v51 := Tryd.zeroValue151
  t146 := Tryd.underlying157
  a146 := Tryd.isAgg157
  z146 := Tryd.sizeOf157
  v146 := Tryd.zeroValue157
  g1 := by kernel_rfl
  i3 := by kernel_rfl
  i4 := by kernel_rfl
  i5 := by kernel_rfl
  i9 := by kernel_rfl
  i46 := by kernel_rfl
  i51 := by kernel_rfl
  i146 := by kernel_rfl
  m1 := by kernel_rfl
  s1_3 := fun w h => Go.Proofs.cell_of_shapedOpen_int (zero := #[.int .i64 0]) (t := 3) h (of_decide_eq_true (by kernel_rfl)) (by kernel_rfl) rfl (by kernel_rfl) (by kernel_rfl) Tryd.underlying3 }
open Go.RowKit Go.Lib in
theorem Tryd.stringslite_Index_shaped (s sub : ByteArray) (w : World) (h : w.ShapedOpen Tryd.prog) (hs : s.size < 4294967281) :
    Calls Tryd.prog 156 #[.string s, .string sub] w fun e w' => e = .returned (.int .i64 (Lib.index s.data.toList sub.data.toList)) ∧ w' = w := Any.stringslite_Index_shaped Tryd.laysM219 s sub w h hs
def Tryd.laysM220_ren : Go.Shelf.Ren := ⟨fun | 220 => 146 | 219 => 156 | 217 => 163 | 225 => 164 | 224 => 165 | 267 => 166 | 266 => 170 | 314 => 171 | n => n, fun | 9 => 9 | 4 => 4 | 3 => 3 | 5 => 5 | 46 => 115 | 146 => 157 | 51 => 151 | n => n, fun | 1 => 2 | n => n⟩
theorem Tryd.laysM220 : Go.Proofs.LaysM.n220 Tryd.prog Tryd.laysM220_ren := {
  mixed := by kernel_rfl
  f217 := Tryd.func163.trans (congrArg some (by kernel_rfl))
  f219 := Tryd.func156.trans (congrArg some (by kernel_rfl))
  f220 := Tryd.func146.trans (congrArg some (by kernel_rfl))
  f224 := Tryd.func165.trans (congrArg some (by kernel_rfl))
  f225 := Tryd.func164.trans (congrArg some (by kernel_rfl))
  f266 := Tryd.func170.trans (congrArg some (by kernel_rfl))
  f267 := Tryd.func166.trans (congrArg some (by kernel_rfl))
  f314 := Tryd.func171.trans (congrArg some (by kernel_rfl))
  t3 := Tryd.underlying3
  a3 := Tryd.isAgg3
  z3 := Tryd.sizeOf3
  v3 := Tryd.zeroValue3
  t4 := Tryd.underlying4
  a4 := Tryd.isAgg4
  z4 := Tryd.sizeOf4
  v4 := Tryd.zeroValue4
  t5 := Tryd.underlying5
  a5 := Tryd.isAgg5
  z5 := Tryd.sizeOf5
  v5 := Tryd.zeroValue5
  t9 := Tryd.underlying9
  a9 := Tryd.isAgg9
  z9 := Tryd.sizeOf9
  v9 := Tryd.zeroValue9
  t46 := Tryd.underlying115
  a46 := Tryd.isAgg115
  z46 := Tryd.sizeOf115
  v46 := Tryd.zeroValue115
  t51 := Tryd.underlying151
  a51 := Tryd.isAgg151
  z51 := Tryd.sizeOf151
  v51 := Tryd.zeroValue151
  t146 := Tryd.underlying157
  a146 := Tryd.isAgg157
  z146 := Tryd.sizeOf157
  v146 := Tryd.zeroValue157
  g1 := by kernel_rfl
  i3 := by kernel_rfl
  i4 := by kernel_rfl
  i5 := by kernel_rfl
  i9 := by kernel_rfl
  i46 := by kernel_rfl
  i51 := by kernel_rfl
  i146 := by kernel_rfl
  m1 := by kernel_rfl
  s1_3 := fun w h => Go.Proofs.cell_of_shapedOpen_int (zero := #[.int .i64 0]) (t := 3) h (of_decide_eq_true (by kernel_rfl)) (by kernel_rfl) rfl (by kernel_rfl) (by kernel_rfl) Tryd.underlying3 }
open Go.RowKit Go.Lib in
theorem Tryd.stringslite_Cut_shaped (s sep : ByteArray) (w : World) (h : w.ShapedOpen Tryd.prog) (hs : s.size < 4294967281) :
    Calls Tryd.prog 146 #[.string s, .string sep] w fun e w' => e = .returned (.tuple #[.string ⟨(Lib.cut s.data.toList sep.data.toList).1.toArray⟩, .string ⟨(Lib.cut s.data.toList sep.data.toList).2.1.toArray⟩, .bool (Lib.cut s.data.toList sep.data.toList).2.2]) ∧ ∃ n, w' = w.drewN n := Any.stringslite_Cut_shaped Tryd.laysM220 s sep w h hs
def Tryd.laysM145_ren : Go.Shelf.Ren := ⟨fun | 145 => 134 | 220 => 146 | 219 => 156 | 217 => 163 | 225 => 164 | 224 => 165 | 267 => 166 | 266 => 170 | 314 => 171 | n => n, fun | 9 => 9 | 4 => 4 | 59 => 129 | 3 => 3 | 5 => 5 | 46 => 115 | 146 => 157 | 51 => 151 | n => n, fun | 1 => 2 | n => n⟩
theorem Tryd.laysM145 : Go.Proofs.LaysM.n145 Tryd.prog Tryd.laysM145_ren := {
  mixed := by kernel_rfl
  f145 := Tryd.func134.trans (congrArg some (by kernel_rfl))
  f217 := Tryd.func163.trans (congrArg some (by kernel_rfl))
  f219 := Tryd.func156.trans (congrArg some (by kernel_rfl))
  f220 := Tryd.func146.trans (congrArg some (by kernel_rfl))
  f224 := Tryd.func165.trans (congrArg some (by kernel_rfl))
  f225 := Tryd.func164.trans (congrArg some (by kernel_rfl))
  f266 := Tryd.func170.trans (congrArg some (by kernel_rfl))
  f267 := Tryd.func166.trans (congrArg some (by kernel_rfl))
  f314 := Tryd.func171.trans (congrArg some (by kernel_rfl))
  t3 := Tryd.underlying3
  a3 := Tryd.isAgg3
  z3 := Tryd.sizeOf3
  v3 := Tryd.zeroValue3
  t4 := Tryd.underlying4
  a4 := Tryd.isAgg4
  z4 := Tryd.sizeOf4
  v4 := Tryd.zeroValue4
  t5 := Tryd.underlying5
  a5 := Tryd.isAgg5
  z5 := Tryd.sizeOf5
  v5 := Tryd.zeroValue5
  t9 := Tryd.underlying9
  a9 := Tryd.isAgg9
  z9 := Tryd.sizeOf9
  v9 := Tryd.zeroValue9
  t46 := Tryd.underlying115
  a46 := Tryd.isAgg115
  z46 := Tryd.sizeOf115
  v46 := Tryd.zeroValue115
  t51 := Tryd.underlying151
  a51 := Tryd.isAgg151
  z51 := Tryd.sizeOf151
  v51 := Tryd.zeroValue151
  t59 := Tryd.underlying129
  a59 := Tryd.isAgg129
  z59 := Tryd.sizeOf129
  v59 := Tryd.zeroValue129
  t146 := Tryd.underlying157
  a146 := Tryd.isAgg157
  z146 := Tryd.sizeOf157
  v146 := Tryd.zeroValue157
  g1 := by kernel_rfl
  i3 := by kernel_rfl
  i4 := by kernel_rfl
  i5 := by kernel_rfl
  i9 := by kernel_rfl
  i46 := by kernel_rfl
  i51 := by kernel_rfl
  i59 := by kernel_rfl
  i146 := by kernel_rfl
  m1 := by kernel_rfl
  s1_3 := fun w h => Go.Proofs.cell_of_shapedOpen_int (zero := #[.int .i64 0]) (t := 3) h (of_decide_eq_true (by kernel_rfl)) (by kernel_rfl) rfl (by kernel_rfl) (by kernel_rfl) Tryd.underlying3 }
open Go.RowKit Go.Lib in
theorem Tryd.strings_Cut_shaped (s sep : ByteArray) (w : World) (h : w.ShapedOpen Tryd.prog) (hs : s.size < 4294967281) :
    Calls Tryd.prog 134 #[.string s, .string sep] w fun e w' => e = .returned (.tuple #[.string ⟨(Lib.cut s.data.toList sep.data.toList).1.toArray⟩, .string ⟨(Lib.cut s.data.toList sep.data.toList).2.1.toArray⟩, .bool (Lib.cut s.data.toList sep.data.toList).2.2]) ∧ ∃ n, w' = w.drewN n := Any.strings_Cut_shaped Tryd.laysM145 s sep w h hs
def Tryd.lays206_ren : Go.Shelf.Ren := ⟨fun | 206 => 145 | n => n, fun | 9 => 9 | 4 => 4 | 3 => 3 | n => n, fun | n => n⟩
theorem Tryd.lays206 : Go.Proofs.Lays.n206 Tryd.prog Tryd.lays206_ren := {
  mixed := by kernel_rfl
  f206 := Tryd.func145.trans (congrArg some (by kernel_rfl))
  t3 := Tryd.underlying3
  a3 := Tryd.isAgg3
  z3 := Tryd.sizeOf3
  v3 := Tryd.zeroValue3
  t4 := Tryd.underlying4
  a4 := Tryd.isAgg4
  z4 := Tryd.sizeOf4
  v4 := Tryd.zeroValue4
  t9 := Tryd.underlying9
  a9 := Tryd.isAgg9
  z9 := Tryd.sizeOf9
  v9 := Tryd.zeroValue9 }
open Go.RowKit Go.Lib in
/-- internal/stringslite.HasPrefix (what strings.HasPrefix calls). (LAID: no walk: one application.) -/
theorem Tryd.stringslite_HasPrefix (s p : ByteArray) (w : World) :
    Calls Tryd.prog 145 #[.string s, .string p] w fun e w' => e = .returned (.bool (Lib.hasPrefix s.data.toList p.data.toList)) ∧ w' = w := Any.stringslite_HasPrefix Tryd.lays206 s p w
def Tryd.lays193_ren : Go.Shelf.Ren := ⟨fun | 193 => 79 | n => n, fun | 31 => 23 | 9 => 9 | 4 => 4 | 3 => 3 | 0 => 0 | n => n, fun | n => n⟩
theorem Tryd.lays193 : Go.Proofs.Lays.n193 Tryd.prog Tryd.lays193_ren := {
  mixed := by kernel_rfl
  f193 := Tryd.func79.trans (congrArg some (by kernel_rfl))
  t0 := Tryd.underlying0
  a0 := Tryd.isAgg0
  z0 := Tryd.sizeOf0
  v0 := Tryd.zeroValue0
  t3 := Tryd.underlying3
  a3 := Tryd.isAgg3
  z3 := Tryd.sizeOf3
  v3 := Tryd.zeroValue3
  t4 := Tryd.underlying4
  a4 := Tryd.isAgg4
  z4 := Tryd.sizeOf4
  v4 := Tryd.zeroValue4
  t9 := Tryd.underlying9
  a9 := Tryd.isAgg9
  z9 := Tryd.sizeOf9
  v9 := Tryd.zeroValue9
  t31 := Tryd.underlying23
  a31 := Tryd.isAgg23
  z31 := Tryd.sizeOf23
  v31 := Tryd.zeroValue23 }
open Go.RowKit Go.Lib in
/-- slices.Equal at []string: "Equal reports whether two slices are equal: the same length and all elements equal. If the lengths are different, Equal returns false. Otherwise, the elements are compared in increasing index order, and the comparison stops at the first unequal pair. Empty and nil slices are considered equal.": IT RETURNS WHETHER THE TWO LISTS OF ELEMENTS ARE ONE; the world is as it was but for the count of draws (the test 's1[i] != s2[i]' has two reads, whose order the model draws, once a round). 'xs', 'ys': what the cells behind the two addresses hold (the spare capacity too, if you have it); 'xs.take n', 'ys.take m': the elements. THE TWO SLICES MAY OVERLAP. (LAID: no walk: one application.) -/
theorem Tryd.slices_Equal_string (b1 o1 n c b2 o2 m d : Nat) (xs ys : List ByteArray) (w : World) (hx : n ≤ xs.length) (hy : m ≤ ys.length) (hbig : n ≤ 9223372036854775807) (hbig2 : m ≤ 9223372036854775807) (hc1 : ∀ j, j < xs.length → w.cell? ⟨b1, o1 + j, none⟩ = some (.string (xs.getD j ByteArray.empty))) (hc2 : ∀ j, j < ys.length → w.cell? ⟨b2, o2 + j, none⟩ = some (.string (ys.getD j ByteArray.empty))) :
    Calls Tryd.prog 79 #[.slice (some ⟨b1, o1, none⟩) n c, .slice (some ⟨b2, o2, none⟩) m d] w fun e w' => e = .returned (.bool (decide (xs.take n = ys.take m))) ∧ ∃ q, w' = w.drewN q := Any.slices_Equal_string Tryd.lays193 b1 o1 n c b2 o2 m d xs ys w hx hy hbig hbig2 hc1 hc2
open Go.RowKit Go.Lib in
/-- The same where the first is of length 0 (a nil one too): no cell is asked for. (LAID: no walk: one application.) -/
theorem Tryd.slices_Equal_string_empty (a1 a2 : Option Addr) (c m d : Nat) (w : World) (hbig2 : m ≤ 9223372036854775807) :
    Calls Tryd.prog 79 #[.slice a1 0 c, .slice a2 m d] w fun e w' => e = .returned (.bool (decide (m = 0))) ∧ w' = w := Any.slices_Equal_string_empty Tryd.lays193 a1 a2 c m d w hbig2
def Tryd.laysNm237_ren : Go.Shelf.Ren := ⟨fun | 37 => 86 | n => n, fun | 3 => 3 | 4 => 4 | n => n, fun | n => n⟩
theorem Tryd.laysNm237 : Go.Proofs.Lays2.n37 Tryd.prog Tryd.laysNm237_ren := {
  mixed := by kernel_rfl
  f37 := Tryd.func86.trans (congrArg some (by kernel_rfl))
  t3 := Tryd.underlying3
  a3 := Tryd.isAgg3
  z3 := Tryd.sizeOf3
  v3 := Tryd.zeroValue3
  t4 := Tryd.underlying4
  a4 := Tryd.isAgg4
  z4 := Tryd.sizeOf4
  v4 := Tryd.zeroValue4 }
open Go.RowKit Go.Lib in
/-- cmp.isNaN[int]: 'x != x': false. (LAID: no walk: one application.) -/
theorem Tryd.cmp_isNaN_int2 (x : Int) (w : World) :
    Calls Tryd.prog 86 #[.int .i64 x] w fun e w' => e = .returned (.bool false) ∧ w' = w := Any.cmp_isNaN_int2 Tryd.laysNm237 x w
open Go.RowKit Go.Lib in
theorem Tryd.slices_Equal_string_lens (a1 a2 : Option Addr) (n c m d : Nat) (w : World) (hnm : n ≠ m) :
    Calls Tryd.prog 79 #[.slice a1 n c, .slice a2 m d] w fun e w' => e = .returned (.bool false) ∧ w' = w := Any.slices_Equal_string_lens Tryd.lays193 a1 a2 n c m d w hnm
def Tryd.laysSlK4_ren : Go.Shelf.Ren := ⟨fun | 4 => 36 | n => n, fun | 22 => 29 | 4 => 4 | 5 => 5 | n => n, fun | n => n⟩
theorem Tryd.laysSlK4 : Go.Proofs.SlLaysK.n4 Tryd.prog Tryd.laysSlK4_ren := {
  mixed := by kernel_rfl
  f4 := Tryd.func36.trans (congrArg some (by kernel_rfl))
  t4 := Tryd.underlying4
  a4 := Tryd.isAgg4
  z4 := Tryd.sizeOf4
  v4 := Tryd.zeroValue4
  t22 := Tryd.underlying29
  a22 := Tryd.isAgg29
  z22 := Tryd.sizeOf29
  v22 := Tryd.zeroValue29
  t5 := Tryd.underlying5
  i5 := by kernel_rfl }
open Go.RowKit Go.Lib in
/-- bytes.Clone: "Clone returns a copy of b[:len(b)]. The result may have additional unused capacity.": OF A SLICE THAT IS NOT nil IT RETURNS A SLICE THAT IS NOT nil, OF THE SAME BYTES, IN MEMORY OF THE CALL's OWN: in the how-to's words (6f): 'w'.ownsRow B e 1 v' n cells' · 'Below B w w'', B the heap's size at the call. b AT WHATEVER ADDRESS, its cells as 'open_ints' hands them ('a.add i'; the numbers 'xs'). No byte: no cell is asked for. (LAID: no walk: one application.) -/
theorem Tryd.bytes_Clone_at (a : Addr) (n c : Nat) (xs : List Int) (w : World) (hx : xs.length = n) (hbig : n ≤ 140737488355328) (hc : ∀ i, i < n → w.cell? (a.add i) = some (.int .u8 (xs.getD i 0))) :
    Calls Tryd.prog 36 #[.slice (some a) n c] w fun e w' => ∃ v', e = .returned v' ∧ w'.ownsRow w.heap.size 5 1 v' n (xs.map (Value.int .u8)) ∧ v' ≠ .slice none 0 0 ∧ Below w.heap.size w w' := Any.bytes_Clone_at Tryd.laysSlK4 a n c xs w hx hbig hc
open Go.RowKit Go.Lib in
/-- "Clone(nil) returns nil.": the world is as it was. (LAID: no walk: one application.) -/
theorem Tryd.bytes_Clone_nil (n c : Nat) (w : World) :
    Calls Tryd.prog 36 #[.slice none n c] w fun e w' => e = .returned (.slice none 0 0) ∧ w' = w := Any.bytes_Clone_nil Tryd.laysSlK4 n c w
def Tryd.laysSlJ14_ren : Go.Shelf.Ren := ⟨fun | 14 => 132 | 15 => 144 | n => n, fun | 26 => 30 | 22 => 29 | 3 => 3 | 4 => 4 | 0 => 0 | 9 => 9 | 20 => 20 | 5 => 5 | n => n, fun | n => n⟩
theorem Tryd.laysSlJ14 : Go.Proofs.SlLaysJ.n14 Tryd.prog Tryd.laysSlJ14_ren := {
  mixed := by kernel_rfl
  f14 := Tryd.func132.trans (congrArg some (by kernel_rfl))
  f15 := Tryd.func144.trans (congrArg some (by kernel_rfl))
  t0 := Tryd.underlying0
  a0 := Tryd.isAgg0
  z0 := Tryd.sizeOf0
  v0 := Tryd.zeroValue0
  t3 := Tryd.underlying3
  a3 := Tryd.isAgg3
  z3 := Tryd.sizeOf3
  v3 := Tryd.zeroValue3
  t4 := Tryd.underlying4
  a4 := Tryd.isAgg4
  z4 := Tryd.sizeOf4
  v4 := Tryd.zeroValue4
  t9 := Tryd.underlying9
  a9 := Tryd.isAgg9
  z9 := Tryd.sizeOf9
  v9 := Tryd.zeroValue9
  t20 := Tryd.underlying20
  a20 := Tryd.isAgg20
  z20 := Tryd.sizeOf20
  v20 := Tryd.zeroValue20
  t22 := Tryd.underlying29
  a22 := Tryd.isAgg29
  z22 := Tryd.sizeOf29
  v22 := Tryd.zeroValue29
  t26 := Tryd.underlying30
  a26 := Tryd.isAgg30
  z26 := Tryd.sizeOf30
  v26 := Tryd.zeroValue30
  t5 := Tryd.underlying5
  z5 := Tryd.sizeOf5
  i5 := by kernel_rfl }
open Go.RowKit Go.Lib in
theorem Tryd.bytes_Join_many (b o n c : Nat) (vs : List Value) (ls : List (List UInt8)) (sv : Value) (sep : List UInt8) (w : World) (hn : ls.length = n) (h2 : 2 ≤ n) (hP : Lib.PartsAt w ⟨b, o, none⟩ vs ls) (hcap : n ≤ c) (hS : Lib.HoldsBytes w sv sep) (hn47 : n ≤ 140737488355328) (hlen : Lib.lens ls + sep.length * (n - 1) ≤ 140737488355328) :
    Calls Tryd.prog 132 #[.slice (some ⟨b, o, none⟩) n c, sv] w fun e w' => ∃ v', e = .returned v' ∧ Lib.FreshBytes w.heap.size w' v' (Lib.join ls sep) ∧ Below w.heap.size w w' := Any.bytes_Join_many Tryd.laysSlJ14 b o n c vs ls sv sep w hn h2 hP hcap hS hn47 hlen
open Go.RowKit Go.Lib in
/-- bytes.Join of no part (nil too): '[]byte{}': a slice of no byte THAT IS NOT nil, at the head of a new, empty row. (LAID: no walk: one application.) -/
theorem Tryd.bytes_Join_none (p : Option Addr) (c : Nat) (sv : Value) (w : World) :
    Calls Tryd.prog 132 #[.slice p 0 c, sv] w fun e w' => e = .returned (.slice (some ⟨w.heap.size, 0, none⟩) 0 0) ∧ w' = w.alloc (.cells #[] 5) := Any.bytes_Join_none Tryd.laysSlJ14 p c sv w
open Go.RowKit Go.Lib in
/-- bytes.Join of ONE part, of one byte or more: 'append([]byte(nil), s[0]...)': a new []byte of its bytes; sep is not looked at. (LAID: no walk: one application.) -/
theorem Tryd.bytes_Join_one (b o c : Nat) (ad0 : Addr) (c0 : Nat) (l0 : List UInt8) (sv : Value) (w : World) (hcell : w.cell? ⟨b, o, none⟩ = some (.slice (some ad0) l0.length c0)) (hc : ∀ (i : Nat) x, l0[i]? = some x → w.cell? (ad0.add i) = some (.int .u8 (x.toNat : Int))) (h0 : 0 < l0.length) (hs : l0.length ≤ 140737488355328) :
    Calls Tryd.prog 132 #[.slice (some ⟨b, o, none⟩) 1 c, sv] w fun e w' => ∃ v', e = .returned v' ∧ Lib.FreshBytes w.heap.size w' v' l0 ∧ Below w.heap.size w w' := Any.bytes_Join_one Tryd.laysSlJ14 b o c ad0 c0 l0 sv w hcell hc h0 hs
open Go.RowKit Go.Lib in
/-- bytes.Join of ONE part of no byte (nil or not): 'append([]byte(nil), s[0]...)' IS nil; the world is as it was. (LAID: no walk: one application.) -/
theorem Tryd.bytes_Join_one_empty (b o c : Nat) (p0 : Option Addr) (c0 : Nat) (sv : Value) (w : World) (hcell : w.cell? ⟨b, o, none⟩ = some (.slice p0 0 c0)) :
    Calls Tryd.prog 132 #[.slice (some ⟨b, o, none⟩) 1 c, sv] w fun e w' => e = .returned (.slice none 0 0) ∧ w' = w := Any.bytes_Join_one_empty Tryd.laysSlJ14 b o c p0 c0 sv w hcell
end Go.Proofs

/- A region that draws its order, walked in one order that is laid down: what only reads, and yields the same in every world that meets S, is taken as it comes; what writes stands alone when it comes up, and leaves S, unless nothing that was taken can come behind it. -/




namespace Go.Proofs.YtnlhajhbmkhnjaaDoor.Wd
open Go.RowKit
variable {P : Program} {md : Region.Mode} {ops : Array Oper} {Q : Exit → Act → World → Prop} {S : World → Prop} {z : Nat}
/-- Whatever order is picked from here on; S holds behind each operation ahead of number z. -/
def wpAnyZ (P : Program) (md : Region.Mode) (ops : Array Oper) (Q : Exit → Act → World → Prop) (S : World → Prop) (z : Nat) : Nat → Array Bool → Act → World → Prop
  | 0, listed, a, w => Region.ready md ops listed = [] ∧ Q .normal a w
  | fuel + 1, listed, a, w =>
    (Region.ready md ops listed = [] → Q .normal a w) ∧
    ∀ i ∈ Region.ready md ops listed, wpOp P ops Q i (fun a' w' => (i < z → S w') ∧ wpAnyZ P md ops Q S z fuel (listed.setIfInBounds i true) a' w') a w
theorem wpAny_of_Z : ∀ (fuel : Nat) (listed : Array Bool) (a : Act) (w : World), wpAnyZ P md ops Q S z fuel listed a w → wpAny P md ops Q fuel listed a w
  | 0, _, _, _, h => h
  | fuel + 1, _, _, _, h => ⟨h.1, fun i hi => wpOp_mono (fun a' w' h' => wpAny_of_Z fuel _ a' w' h'.2) (h.2 i hi)⟩
/-- Does t wait for i? -/
def waits (md : Region.Mode) (ops : Array Oper) : Nat → Nat → Nat → Bool
  | 0, _, _ => false
  | f + 1, i, t => match ops[t]? with
    | some o => o.after.any fun e => Region.binds md e && (e.on == i || waits md ops f i e.on)
    | none => false
def Closed (md : Region.Mode) (ops : Array Oper) (listed : Array Bool) : Prop :=
  ∀ j o, ops[j]? = some o → listed.getD j false = true → ∀ e ∈ o.after, Region.binds md e = true → listed.getD e.on false = true
theorem Closed.waits {listed : Array Bool} (hc : Closed md ops listed) : ∀ (f i t : Nat), waits md ops f i t = true → (∀ o, ops[t]? = some o → ∀ e ∈ o.after, Region.binds md e = true → listed.getD e.on false = true) → listed.getD i false = true
  | 0, _, _, h, _ => by simp [Wd.waits] at h
  | f + 1, i, t, h, ht => by
    unfold Wd.waits at h
    cases ho : ops[t]? with
    | none => simp [ho] at h
    | some o =>
      simp only [ho] at h
      obtain ⟨e, he, hb⟩ := Array.any_eq_true'.1 h
      simp only [Bool.and_eq_true, Bool.or_eq_true, beq_iff_eq] at hb
      have hl := ht o ho e he hb.1
      rcases hb.2 with rfl | hw
      · exact hl
      · exact hc.waits f i e.on hw (fun o' ho' e' he' hb' => hc e.on o' ho' hl e' he' hb')
theorem Closed.set {listed : Array Bool} (hc : Closed md ops listed) {i : Nat} (hi : i ∈ Region.ready md ops listed) : Closed md ops (listed.setIfInBounds i true) := by
  intro j o ho hl e he hb
  obtain ⟨_, oi, hoi, hall⟩ := mem_ready.1 hi
  by_cases hji : j = i
  · subst hji
    rw [ho] at hoi
    injection hoi with hoi
    subst hoi
    exact getD_set_true (hall e he hb)
  · rw [getD_set_ne false (Ne.symm hji)] at hl
    exact getD_set_true (hc j o ho hl e he hb)
theorem Closed.start (n : Nat) : Closed md ops (Array.replicate n false) := by
  intro j o _ hl
  exfalso
  by_cases h : j < n <;> simp [h] at hl
theorem wpAnyZ_first {i : Nat} {oi : Oper} {v : Value} (hi : ops[i]? = some oi) (hsel : ∀ (j : Nat) (o : Oper) cs b, ops[j]? = some o → o.op ≠ .select cs b)
    (hQ : ∀ c a w, Q (.panic c) (a.put oi.dst v) w → Q (.panic c) a w) (hz : ∀ t, z ≤ t → t < ops.size → waits md ops ops.size i t = true) :
    ∀ (fuel : Nat) (listed : Array Bool) (a : Act) (w : World), Closed md ops listed →
      (∀ j oj, ops[j]? = some oj → j ≠ i → listed.getD j true = false → (∀ e ∈ oj.after, Region.binds md e = true → e.on ≠ i) → oi.apart ops oj = true) →
      i ∈ Region.ready md ops listed → YieldsIf P ops S oi v a → S w →
      wpAnyZ P md ops Q S z fuel (listed.setIfInBounds i true) (a.put oi.dst v) w → wpAnyZ P md ops Q S z (fuel + 1) listed a w := by
  intro fuel
  induction fuel with
  | zero =>
    intro listed a w _ _ hr hy hS H
    refine ⟨fun h => (by rw [h] at hr; cases hr), fun j hj => ?_⟩
    by_cases hji : j = i
    · subst hji; exact hy.wpOp hi hS ⟨fun _ => hS, H⟩
    · have := ready_mono hj hji
      rw [H.1] at this
      cases this
  | succ fuel ih =>
    intro listed a w hc hfree hr hy hS H
    refine ⟨fun h => (by rw [h] at hr; cases hr), fun j hj => ?_⟩
    by_cases hji : j = i
    · subst hji; exact hy.wpOp hi hS ⟨fun _ => hS, H⟩
    · have h1 := H.2 j (ready_mono hj hji)
      obtain ⟨hjun, oj, hoj, hall⟩ := mem_ready.1 hj
      have hun := (mem_ready.1 hr).1
      have hnl : ¬ listed.getD i false = true := fun h0 => by
        rcases Nat.lt_or_ge i listed.size with h' | h'
        · simp [h'] at h0 hun; rw [h0] at hun; cases hun
        · simp [Array.getElem?_eq_none h'] at h0
      have hnot : ∀ e ∈ oj.after, Region.binds md e = true → e.on ≠ i := fun e he hb heq => hnl (by rw [← heq]; exact hall e he hb)
      have hjz : j < z := by
        rcases Nat.lt_or_ge j z with h' | h'
        · exact h'
        · exact absurd (hc.waits _ i j (hz j h' (Array.getElem?_eq_some_iff.1 hoj).1) (fun o ho e he hb => by rw [hoj] at ho; injection ho with ho; subst ho; exact hall e he hb)) hnl
      have h2 := wpOp_putIf hoj (hfree j oj hoj hji hjun hnot) (fun cs b => hsel i oi cs b hi) (fun cs b => hsel j oj cs b hoj) hQ hy h1
      have hfree' : ∀ k ok, ops[k]? = some ok → k ≠ i → (listed.setIfInBounds j true).getD k true = false →
          (∀ e ∈ ok.after, Region.binds md e = true → e.on ≠ i) → oi.apart ops ok = true := fun k ok hk hki hun hno => by
        refine hfree k ok hk hki ?_ hno
        by_cases hjk : j = k
        · subst hjk; exact hjun
        · rw [getD_set_ne true hjk] at hun; exact hun
      refine wpOp_mono (fun a' w' h3 => ⟨h3.2.1, ih (listed.setIfInBounds j true) a' w' (hc.set hj) hfree' (ready_mono hr (Ne.symm hji)) h3.1 (h3.2.1 hjz) ?_⟩) h2
      rw [Array.setIfInBounds_comm _ _ hji]
      exact h3.2.2
/-- A plan: the numbers in the order in which they are walked; 'true': taken (it only reads), 'false': it stands alone. Is it one? -/
def planB (md : Region.Mode) (ops : Array Oper) (z : Nat) : List (Nat × Bool) → Array Bool → Bool
  | [], listed => (Region.ready md ops listed).isEmpty
  | (i, true) :: r, listed => (Region.ready md ops listed).contains i && Region.free md ops listed i && ((List.range ops.size).all fun t => decide (t < z) || waits md ops ops.size i t) && planB md ops z r (listed.setIfInBounds i true)
  | (i, false) :: r, listed => decide (Region.ready md ops listed = [i]) && planB md ops z r (listed.setIfInBounds i true)
def wpPlan (P : Program) (ops : Array Oper) (Q : Exit → Act → World → Prop) (S : World → Prop) (z : Nat) : List (Nat × Bool) → Act → World → Prop
  | [], a, w => Q .normal a w
  | (i, true) :: r, a, w => ∃ o v, ops[i]? = some o ∧ YieldsIf P ops S o v a ∧ S w ∧ wpPlan P ops Q S z r (a.put o.dst v) w
  | (i, false) :: r, a, w => wpOp P ops Q i (fun a' w' => (i < z → S w') ∧ wpPlan P ops Q S z r a' w') a w
theorem wpAnyZ_of_plan (hsel : Region.noSelect ops = true) (hQ : ∀ (d : Option Tmp) (v : Value) c a w, Q (.panic c) (a.put d v) w → Q (.panic c) a w) :
    ∀ (r : List (Nat × Bool)) (listed : Array Bool) (a : Act) (w : World), Closed md ops listed → planB md ops z r listed = true → wpPlan P ops Q S z r a w → wpAnyZ P md ops Q S z r.length listed a w
  | [], listed, a, w, _, hB, h => ⟨by simpa [planB] using hB, h⟩
  | (i, true) :: r, listed, a, w, hc, hB, h => by
    simp only [planB, Bool.and_eq_true, List.all_eq_true, List.mem_range, Bool.or_eq_true, decide_eq_true_eq] at hB
    obtain ⟨⟨⟨hr, hf⟩, hz⟩, hB'⟩ := hB
    obtain ⟨o, v, ho, hy, hS, h⟩ := h
    have hr' : i ∈ Region.ready md ops listed := by simpa using hr
    exact wpAnyZ_first ho (Region.noSelect_spec hsel) (fun c a w => hQ _ _ c a w) (fun t h1 h2 => by rcases hz t h2 with h | h; omega; exact h) r.length listed a w hc (Region.free_spec ho hf) hr' hy hS
      (wpAnyZ_of_plan hsel hQ r _ _ w (hc.set hr') hB' h)
  | (i, false) :: r, listed, a, w, hc, hB, h => by
    simp only [planB, Bool.and_eq_true, decide_eq_true_eq] at hB
    obtain ⟨hr, hB'⟩ := hB
    refine ⟨fun h0 => (by rw [hr] at h0; cases h0), fun j hj => ?_⟩
    have hc' := hc.set hj
    rw [hr] at hj
    obtain rfl : j = i := by simpa using hj
    exact wpOp_mono (fun a' w' h' => ⟨h'.1, wpAnyZ_of_plan hsel hQ r _ a' w' hc' hB' h'.2⟩) h
/-- The region, by a plan. -/
theorem region_plan {id : Nat} {a : Act} {w : World} {l : List Oper} (r : List (Nat × Bool)) (z : Nat) (S : World → Prop) (hm : P.follows .mixedOrders = true) (hsel : Region.noSelect l.toArray = true)
    (hlen : r.length = l.toArray.size) (hB : planB .any l.toArray z r (Array.replicate l.toArray.size false) = true) (hQ : ∀ (d : Option Tmp) (v : Value) c a w, Q (.panic c) (a.put d v) w → Q (.panic c) a w)
    (h : ∀ wd, wd = w.drew → wpPlan P l.toArray Q S z r a wd) : (Code.region id l.toArray true).wp P Q a w := by
  refine wp_region_any hm (wpAny_of_Z (S := S) (z := z) _ _ _ _ ?_)
  rw [← hlen]
  have := wpAnyZ_of_plan (md := .any) hsel hQ r (Array.replicate l.toArray.size false) a w.drew (Closed.start _) hB (h _ rfl)
  rw [hlen] at this ⊢
  exact this
theorem plan_end {a : Act} {w : World} (h : Q .normal a w) : wpPlan P ops Q S z [] a w := h
theorem plan_take {l : List Oper} {i : Nat} {r : List (Nat × Bool)} {a : Act} {w : World} {o : Oper} (ho : l[i]? = some o) (hw : Region.wanted o (yielded l.toArray a.tmps) = true) (hS : S w)
    (h : ∃ v, (∀ w, S w → (execOp a.eval o).run P w = .ok (.value v) w) ∧ wpPlan P l.toArray Q S z r (a.put o.dst v) w) : wpPlan P l.toArray Q S z ((i, true) :: r) a w := by
  obtain ⟨v, hy, h⟩ := h
  exact ⟨o, v, by simpa using ho, .inl ⟨hw, hy⟩, hS, h⟩
theorem plan_skip {l : List Oper} {i : Nat} {r : List (Nat × Bool)} {a : Act} {w : World} {o : Oper} (ho : l[i]? = some o) (hw : Region.wanted o (yielded l.toArray a.tmps) = false) (hS : S w)
    (h : wpPlan P l.toArray Q S z r (a.put o.dst undef) w) : wpPlan P l.toArray Q S z ((i, true) :: r) a w := ⟨o, undef, by simpa using ho, .inr ⟨hw, rfl⟩, hS, h⟩
theorem plan_load {l : List Oper} {i : Nat} {r : List (Nat × Bool)} {a : Act} {w : World} {o : Oper} (ho : l[i]? = some o) (hw : Region.wanted o (yielded l.toArray a.tmps) = true) (ty : TypeId) (x : Operand) (hop : o.op = .load ty x) (p v : Value) (hx : a.eval x = p)
    (hy : ∀ w, S w → (Instr.loadAt ty p).run P w = .ok v w) (hS : S w) (h : wpPlan P l.toArray Q S z r (a.put o.dst v) w) : wpPlan P l.toArray Q S z ((i, true) :: r) a w :=
  plan_take ho hw hS ⟨v, fun w hw => by unfold execOp; simp only [hop, hx, Sem.run_bind, hy w hw, Result.andThen_ok, Sem.run_pure], h⟩
theorem plan_build {l : List Oper} {i : Nat} {r : List (Nat × Bool)} {a : Act} {w : World} {o : Oper} (ho : l[i]? = some o) (hw : Region.wanted o (yielded l.toArray a.tmps) = true) (t : TypeId) (parts : List (Nat × Operand)) (hop : o.op = .build t parts.toArray) (ps : List (Nat × Value)) (v : Value) (hx : (parts.map fun (i, x) => (i, a.eval x)) = ps)
    (hy : ∀ w, S w → (Instr.build t ps.toArray).run P w = .ok v w) (hS : S w) (h : wpPlan P l.toArray Q S z r (a.put o.dst v) w) : wpPlan P l.toArray Q S z ((i, true) :: r) a w :=
  plan_take ho hw hS ⟨v, fun w hw => by unfold execOp; simp only [hop, List.map_toArray, hx, Sem.run_bind, hy w hw, Result.andThen_ok, Sem.run_pure], h⟩
theorem plan_do {l : List Oper} {i : Nat} {r : List (Nat × Bool)} {a : Act} {w : World} {o : Oper} (ho : l[i]? = some o) (hw : Region.wanted o (yielded l.toArray a.tmps) = true)
    (h : ∀ K : Act → World → Prop, (∀ a' w', (i < z → S w') → wpPlan P l.toArray Q S z r a' w' → K a' w') → o.wp P a w K Q) : wpPlan P l.toArray Q S z ((i, false) :: r) a w := by
  show wpOp P l.toArray Q i _ a w
  have ho' : l.toArray[i]? = some o := by simpa using ho
  unfold wpOp
  simp only [ho', hw, if_true]
  exact .inl (h _ fun a' w' h1 h2 => ⟨h1, h2⟩)
end Go.Proofs.YtnlhajhbmkhnjaaDoor.Wd
