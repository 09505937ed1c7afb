/- Results one of which lives in a cell: a struct or an array that a function hands back. -/
import Derived.Test.YthjmefjadibjjaaAct
import Derived.Laws.ResultCell
import Derived.ChangeKeysEq
namespace Go.Proofs.Ythjmefjadibjjaa.Wd
open Go.RowKit
variable {P : Program} {fn : Func} {T : TypeId}
theorem run_cellVar (w : World) (p : Nat) (cs : List Value) (hB : Block w p T cs) (d : TypeDesc) (hu : P.underlying T = some d) (hd : d.isRow = true) (hi : (P.info? T).map (·.size) = some cs.length) :
    (loadVar T ⟨p, 0, none⟩).run P w = .ok (.agg cs.toArray) w := run_loadVar_mid (P := P) w p 0 T cs d (hB.range 0 cs (by simp)) hu hd hi
theorem ret_cell1 {a : Tmp} (h : fn.results = #[.cell a T]) (tmps : Array Value) (w : World) (p : Nat) (cs : List Value) (hB : Block w p T cs) (h2 : tmps.getD a undef = .pointer (some ⟨p, 0, none⟩))
    (d : TypeDesc) (hu : P.underlying T = some d) (hd : d.isRow = true) (hi : (P.info? T).map (·.size) = some cs.length) : (results fn tmps).run P w = .ok (.agg cs.toArray) w := by
  have hl := run_cellVar (P := P) w p cs hB d hu hd hi
  have h3 : tmps[a]?.getD undef = .pointer (some ⟨p, 0, none⟩) := by simpa using h2
  unfold results
  rw [h]
  simp [h3, asAddr, hl]
theorem ret_cell2 {a b : Tmp} (h : fn.results = #[.cell a T, .tmp b]) (tmps : Array Value) (w : World) (p : Nat) (cs : List Value) (hB : Block w p T cs) (h2 : tmps.getD a undef = .pointer (some ⟨p, 0, none⟩))
    (d : TypeDesc) (hu : P.underlying T = some d) (hd : d.isRow = true) (hi : (P.info? T).map (·.size) = some cs.length) : (results fn tmps).run P w = .ok (.tuple #[.agg cs.toArray, tmps.getD b undef]) w := by
  have hl := run_cellVar (P := P) w p cs hB d hu hd hi
  have h3 : tmps[a]?.getD undef = .pointer (some ⟨p, 0, none⟩) := by simpa using h2
  unfold results
  rw [h]
  simp [Result.andThen, h3, asAddr, hl]
theorem ret_cell4 {a b c e : Tmp} (h : fn.results = #[.cell a T, .tmp b, .tmp c, .tmp e]) (tmps : Array Value) (w : World) (p : Nat) (cs : List Value) (hB : Block w p T cs) (h2 : tmps.getD a undef = .pointer (some ⟨p, 0, none⟩))
    (d : TypeDesc) (hu : P.underlying T = some d) (hd : d.isRow = true) (hi : (P.info? T).map (·.size) = some cs.length) : (results fn tmps).run P w = .ok (.tuple #[.agg cs.toArray, tmps.getD b undef, tmps.getD c undef, tmps.getD e undef]) w := by
  have hl := run_cellVar (P := P) w p cs hB d hu hd hi
  have h3 : tmps[a]?.getD undef = .pointer (some ⟨p, 0, none⟩) := by simpa using h2
  unfold results
  rw [h]
  simp [Result.andThen, h3, asAddr, hl]
/-! a struct's literal, known whole -/
theorem build0 {t : TypeId} {z : Value} (hz : (P.info? t).map (·.zero) = some (some z)) {cells : Array Value} (hc : z.cells = cells) (hp : (placesOf P t).isSome = true) (w : World) : (Instr.build t #[]).run P w = .ok (.agg cells) w := by
  obtain ⟨places, hp⟩ := Option.isSome_iff_exists.1 hp
  exact run_build_parts hp hz #[] cells (by rw [hc]; rfl) w
section
variable {ops : Array Oper} {rest : List Oper} {o : Oper} {a : Act} {w : World} {K : Act → World → Prop} {Q : Exit → Act → World → Prop}
theorem wp_build_run (t : TypeId) (parts : List (Nat × Operand)) (ho : o.op = .build t parts.toArray) (ps : List (Nat × Value)) (hx : (parts.map fun (i, x) => (i, a.eval x)) = ps) (v : Value) (hr : (Instr.build t ps.toArray).run P w = .ok v w) (h : K (a.put o.dst v) w) : o.wp P a w K Q := by
  unfold Oper.wp execOp
  simp only [ho, List.map_toArray, hx, Sem.run_bind, hr, Result.andThen_ok, Sem.run_pure]
  exact h
theorem wpList_build_run (hgd : o.guard = none) (t : TypeId) (parts : List (Nat × Operand)) (ho : o.op = .build t parts.toArray) (ps : List (Nat × Value)) (hx : (parts.map fun (i, x) => (i, a.eval x)) = ps) (v : Value) (hr : (Instr.build t ps.toArray).run P w = .ok v w) (h : wpList P ops Q rest (a.put o.dst v) w) : wpList P ops Q (o :: rest) a w :=
  wpList_plain hgd fun _ hK => wp_build_run t parts ho ps hx v hr (hK _ _ h)
end
/-! an element of an array that is held as a value -/
theorem run_index_bytes {t e : TypeId} {n : Nat} (h : P.underlying t = some (.array n e)) (he : P.plainKey e = true) (hs : (P.info? e).map (·.size) = some 1) (f : List UInt8) (hl : f.length = n) (k : IntKind) (j : Nat) (hj : j < n) (w : World) :
    (Instr.index t (.agg (bvs f).toArray) (.int k (j : Int))).run P w = .ok (.int .u8 ((f.getD j 0).toNat : Int)) w := by
  have hx : (bvs f).toArray[j]? = some (.int .u8 ((f.getD j 0).toNat : Int)) := by
    rw [List.getElem?_toArray, bvs_at f j (by omega)]; rfl
  have hp := run_part_plain w he hx
  have hz := Wd.run_sizeOf hs w
  simp [Instr.index, run_underlying h, asIntOf, hz, hp, Result.andThen]
  intro h; omega
end Go.Proofs.Ythjmefjadibjjaa.Wd
