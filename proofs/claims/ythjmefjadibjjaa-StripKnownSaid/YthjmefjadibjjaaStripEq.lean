/- Two cells' parts held against each other. -/
import Derived.Test.YthjmefjadibjjaaStripSplit
import Derived.Stop.BytesEq
namespace Go.Proofs.Ythjmefjadibjjaa
open Go.RowKit
namespace StripW
open BinM StripM Wd
theorem part_arr {P : Program} {T : TypeId} (n o : Nat) (a : List UInt8) {e : TypeId} (hu : P.underlying T = some (.array n e)) (hs : (P.info? T).map (·.size) = some n) (w : World) : (part T (bvs a).toArray o).run P w = .ok (.agg (bvs ((a.drop o).take n)).toArray) w := by
  have hz := Wd.run_sizeOf hs w
  simp [part, isAgg, run_underlying hu, hz, Result.andThen, ← bvs_take, ← bvs_drop]
theorem part_u8 {P : Program} {T : TypeId} (o : Nat) (a : List UInt8) (hu : P.underlying T = some (.int .u8)) (ho : o < a.length) (w : World) : (part T (bvs a).toArray o).run P w = .ok (.int .u8 ((a.getD o 0).toNat : Int)) w := by
  have hx : (bvs a).toArray[o]? = some (.int .u8 ((a.getD o 0).toNat : Int)) := by
    rw [List.getElem?_toArray, bvs_at a o ho]; rfl
  simp only [part, isAgg, Sem.run_bind, run_underlying hu, Result.andThen_ok, Sem.run_pure]
  simp [hx]
theorem size47 : (Try.prog.info? 62).map (·.size) = some 47 := by kernel_rfl
theorem size8' : (Try.prog.info? 61).map (·.size) = some 8 := by kernel_rfl
theorem sizeU (w : World) : (sizeOf 5).run Try.prog w = .ok 1 w := by kernel_rfl
theorem joined4' (l : List UInt8) (h : l.length = 64) : (l.drop 0).take 8 ++ ([l.getD 8 0] ++ ((l.drop 9).take 47 ++ (l.drop 56).take 8)) = l := by
  have e1 : l.drop 8 = l.getD 8 0 :: l.drop 9 := by rw [List.drop_eq_getElem_cons (by omega)]; simp [List.getD, h]
  have e2 : l.drop 9 = (l.drop 9).take 47 ++ l.drop 56 := by
    have := (List.take_append_drop 47 (l.drop 9)).symm
    rwa [List.drop_drop] at this
  rw [List.take_of_length_le (l := l.drop 56) (by rw [List.length_drop]; omega), ← e2, List.singleton_append, ← e1, List.drop_zero, List.take_append_drop]
theorem beq_cells (a b : List UInt8) (ha : a.length = 64) (hb : b.length = 64) : (a == b) = ((a.drop 0).take 8 == (b.drop 0).take 8 && (((a.getD 8 0).toNat : Int) == ((b.getD 8 0).toNat : Int) && ((a.drop 9).take 47 == (b.drop 9).take 47 && (a.drop 56).take 8 == (b.drop 56).take 8))) := by
  rw [Bool.eq_iff_iff]
  simp only [Bool.and_eq_true, beq_iff_eq]
  constructor
  · rintro rfl; exact ⟨rfl, rfl, rfl, rfl⟩
  · rintro ⟨h1, h2, h3, h4⟩
    have h2' : a.getD 8 0 = b.getD 8 0 := UInt8.toNat_inj.1 (by omega)
    rw [← joined4' a ha, ← joined4' b hb, h1, h2', h3, h4]
theorem eq_parts (a b : List UInt8) (ha : a.length = 64) (hb : b.length = 64) (w : World) : (Op.equalIn 10000 64 (.agg (bvs a).toArray) (.agg (bvs b).toArray)).run Try.prog w = .ok (a == b) w := by
  have hl : ∀ o n (x : List UInt8), x.length = 64 → o + n ≤ 64 → ((x.drop o).take n).length = n := fun o n x hx h => by rw [List.length_take, List.length_drop]; omega
  have e8 : ∀ o, o + 8 ≤ 64 → (Op.equalIn 9999 61 (.agg (bvs ((a.drop o).take 8)).toArray) (.agg (bvs ((b.drop o).take 8)).toArray)).run Try.prog w = .ok ((a.drop o).take 8 == (b.drop o).take 8) w := fun o h =>
    run_equalIn_bytes w 9997 _ _ 8 Try.underlying61 Try.underlying5 sizeU _ _ (hl o 8 a ha h) (hl o 8 b hb h)
  have e47 : (Op.equalIn 9999 62 (.agg (bvs ((a.drop 9).take 47)).toArray) (.agg (bvs ((b.drop 9).take 47)).toArray)).run Try.prog w = .ok ((a.drop 9).take 47 == (b.drop 9).take 47) w :=
    run_equalIn_bytes w 9997 _ _ 47 Try.underlying62 Try.underlying5 sizeU _ _ (hl 9 47 a ha (by decide)) (hl 9 47 b hb (by decide))
  have e1 := run_equalIn_int (P := Try.prog) w 9998 5 .u8 .u8 ((a.getD 8 0).toNat : Int) ((b.getD 8 0).toNat : Int) Try.underlying5
  have p8 := fun o x => part_arr (P := Try.prog) 8 o x Try.underlying61 size8' w
  have p47 := fun o x => part_arr (P := Try.prog) 47 o x Try.underlying62 size47 w
  have pa := part_u8 (P := Try.prog) 8 a Try.underlying5 (by omega) w
  have pb := part_u8 (P := Try.prog) 8 b Try.underlying5 (by omega) w
  rw [run_equalIn_agg w 9999 64 _ _ (by kernel_rfl) (by kernel_rfl)]
  simp only [Program.fieldsOf, Try.underlying64, Op.eqFields]
  rw [if_pos (show ("front" : String) ≠ "_" by decide), if_pos (show ("count" : String) ≠ "_" by decide), if_pos (show ("data" : String) ≠ "_" by decide), if_pos (show ("back" : String) ≠ "_" by decide), beq_cells a b ha hb]
  rw [Sem.run_bind, p8, Result.andThen_ok, Sem.run_bind, p8, Result.andThen_ok, Sem.run_bind, e8 0 (by decide), Result.andThen_ok]
  generalize ((a.drop 0).take 8 == (b.drop 0).take 8) = s0
  cases s0
  · rfl
  rw [if_neg (by decide), Sem.run_bind, pa, Result.andThen_ok, Sem.run_bind, pb, Result.andThen_ok, Sem.run_bind, e1, Result.andThen_ok]
  generalize (((a.getD 8 0).toNat : Int) == ((b.getD 8 0).toNat : Int)) = s1
  cases s1
  · rfl
  rw [if_neg (by decide), Sem.run_bind, p47, Result.andThen_ok, Sem.run_bind, p47, Result.andThen_ok, Sem.run_bind, e47, Result.andThen_ok]
  generalize ((a.drop 9).take 47 == (b.drop 9).take 47) = s2
  cases s2
  · rfl
  rw [if_neg (by decide), Sem.run_bind, p8, Result.andThen_ok, Sem.run_bind, p8, Result.andThen_ok, Sem.run_bind, e8 56 (by decide), Result.andThen_ok]
  generalize ((a.drop 56).take 8 == (b.drop 56).take 8) = s3
  cases s3 <;> rfl
theorem neq_parts (a b : List UInt8) (ha : a.length = 64) (hb : b.length = 64) (w : World) : (binOp .neq 64 (.agg (bvs a).toArray) (.agg (bvs b).toArray)).run Try.prog w = .ok (.bool (!(a == b))) w := by
  rw [run_neq_struct, eq_parts a b ha hb]; rfl
theorem guard_parts (op : BinOp) (x y : Operand) (xs ys : Array Value) (w : World) : (eqGuard op 64 x y (.agg xs) (.agg ys)).run Try.prog w = .ok () w := run_eqGuard_agg w op _ x y xs ys (by kernel_rfl)
end StripW
end Go.Proofs.Ythjmefjadibjjaa
