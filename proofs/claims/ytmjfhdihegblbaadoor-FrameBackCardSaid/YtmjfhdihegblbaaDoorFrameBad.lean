/- The program's find, where the number tells an error. -/
import Derived.Test.YtmjfhdihegblbaaDoorFramePack
import Derived.Test.YtmjfhdihegblbaaDoorFwd
import Derived.Laws.ResultCell
namespace Go.Proofs.YtmjfhdihegblbaaDoor
open Go.RowKit
namespace FrameM
open BinM CrcM BinW
/-- What the first nine bytes tell. -/
theorem tk9 (l : List UInt8) : (nxE l ≠ 0 ∧ tkNum (l.take 9) = (0, [], nxE l)) ∨ (tkNum (l.take 9) = ((nn l : Int), (l.take 9).drop (hd l), 0) ∧ hd l ≤ min l.length 9 ∧ nn l ≤ 9007199254740991 ∧
    nxE l = if 8192 < nn l then 5 else if l.length < hd l + nn l + 4 then 3 else if (l.drop (hd l + nn l)).take 4 ≠ sum4 (l.take (hd l + nn l)) then 40 else 0) := by
  have hr := rd_take9 l
  have hf := nn_hd (l.take 9)
  unfold nn hd at hf
  rw [hr] at hf
  unfold tkNum nxE nn hd
  rw [hr]
  by_cases h1 : (rd l).2.2 ≠ 0
  · rw [if_pos h1, if_pos h1]; exact .inl ⟨by omega, rfl⟩
  rw [if_neg h1, if_neg h1]
  by_cases h2 : 9007199254740991 < (rd l).1
  · rw [if_pos h2, if_pos h2]; exact .inl ⟨by decide, rfl⟩
  rw [if_neg h2, if_neg h2]
  have h3 := hf.2.1
  rw [List.length_take] at h3
  exact .inr ⟨rfl, by omega, by omega, rfl⟩
end FrameM
namespace FrameW
open BinM CrcM BinW FrameM Wd CrcW
/-- What find answers: nothing, with an error; or where the payload lies, and where the frame ends. -/
def Found (w : World) (c : Nat) (l : List UInt8) (v : Value) : Prop :=
  (nxE l ≠ 0 ∧ v = .agg #[.slice none 0 0, .int .u32 0, .int .i64 0]) ∨
  (nxE l = 0 ∧ ∃ A1 sm, v = .agg #[.slice A1 (nn l) (c - hd l), .int .u32 sm, .int .i64 ((hd l + nn l + 4 : Nat) : Int)] ∧ Row w w.heap.size A1 (bvs (nxP l)))
theorem zeroPos : (Tryd.prog.info? 48).map (·.zero) = some (some (.agg #[.slice none 0 0, .int .u32 0, .int .i64 0])) := by kernel_rfl
theorem infoPos : (Tryd.prog.info? 48).map (·.size) = some 3 := by kernel_rfl
theorem infoSl : (Tryd.prog.info? 22).map (·.size) = some 1 := by kernel_rfl
theorem infoI : (Tryd.prog.info? 3).map (·.size) = some 1 := by kernel_rfl
theorem infoU32 : (Tryd.prog.info? 41).map (·.size) = some 1 := by kernel_rfl
theorem ret_pos {P : Program} {fn : Func} {T : TypeId} (h : fn.results = #[.cell 2 T, .tmp 3]) (tmps : Array Value) (w : World) (p : Nat) (cs : List Value) (hB : Block w p T cs) (h2 : tmps.getD 2 undef = .pointer (some ⟨p, 0, none⟩))
    (d : TypeDesc) (hu : P.underlying T = some d) (hd : d.isRow = true) (hi : (P.info? T).map (·.size) = some cs.length) : (results fn tmps).run P w = .ok (.tuple #[.agg cs.toArray, tmps.getD 3 undef]) w := by
  rw [results_cell_tmp h, h2]
  have hl := run_loadVar_mid (P := P) w p 0 T cs d (hB.range 0 cs (by simp)) hu hd hi
  simp only [asAddr, Sem.run_pure, Result.andThen_ok, hl]
def posZ : List Value := [.slice none 0 0, .int .u32 0, .int .i64 0]
set_option maxHeartbeats 4000000 in
theorem find_bad (B : Nat) (A : Option Addr) (n c : Nat) (l : List UInt8) (w : World) (hn : n = l.length) (hl : n ≤ 140737488355328) (hc : n ≤ c) (h : Row w B A (bvs l)) (he : nxE l ≠ 0) (hT : tkNum (l.take 9) = (0, [], nxE l)) :
    Calls Tryd.prog 27 #[.slice A n c] w fun e w' => e = .returned (.tuple #[.agg posZ.toArray, .int .i64 (nxE l)]) ∧ Below w.heap.size w w' := by
  subst hn
  have hmin : min (l.length : Int) 9 = ((min l.length 9 : Nat) : Int) := by omega
  have hm9 : (l.take 9).length = min l.length 9 := by rw [List.length_take]; omega
  have hcut : ∀ w, (Instr.slice 22 (.slice A l.length c) none (some (.int .i64 ((min l.length 9 : Nat) : Int))) none).run Tryd.prog w = .ok (.slice A (min l.length 9) c) w := fun w => by
    rw [slice_h A l.length c .i64 _ (by omega) (by omega) w, cutAt_zero, Int.toNat_natCast]
  have HT := Lib.hid (fun B => TakeNum_any B A (min l.length 9) c (l.take 9))
  have HTK := Lib.hid hT
  have HROW : Hid (Row w B A (bvs (l.take 9))) := by have := h.take 9; rwa [bvs_take] at this
  have HM9 := Lib.hid hm9
  generalize hem : nxE l = em at *
  have hne : (em == 0) = false := by simpa using he
  clear h hT hm9 hem
  go_enter Tryd.func27, Tryd.ntmps27
  go_wp2_with (refine wpList_alloc_blk rfl 48 rfl posZ _ zeroPos rfl ?_; intro p w1 B1 O1 hp)
  have hb1 : Below w.heap.size w w1 := O1.below (fun _ h => h.elim) (Nat.le_refl _)
  have HR1 := Lib.hid ((HROW.out.tight.only O1 (Nat.le_refl _) (fun _ _ h => h)).tight)
  refine wp_scope_fwd ?_
  generalize hF : fwd _ _ _ = F
  have HF := Lib.hid hF
  clear hF
  go_wp2_with fail
  refine (HT.out _ w1 HM9.out.symm (by omega) (by omega) HR1.out).mono ?_; rintro _ w2 ⟨r, rfl, hG⟩
  rw [HTK.out] at hG
  rw [HTK.out]
  obtain ⟨A2, c2, rfl, _, _, _, hb2⟩ := hG
  have B2 := B1.kept hb2
  have hb12 := hb1.trans (hb2.mono hb1.size)
  have hpw : w.heap.size ≤ p := hp
  clear B1 O1 hb1 hb2 hp
  simp only [List.length_nil]
  go_wp2_with fail
  go_step3
  simp only [Exit.then]
  rw [← HF.out]
  refine fwd_goto _ _ (by rfl) ?_
  clear HF
  go_wp2_with (refine wpList_store_blk rfl 48 (.tmp 2) (.tmp 83) rfl p 0 rfl posZ _ rfl rfl 48 _ B2 (by decide) infoPos (by simp [posZ, Value.oneCell']) ?_; intro w3 B3 O3 hs3)
  rw [Exit.noGoto_ret]
  refine bodyPost_ret (ret_pos Tryd.results27 _ w3 p posZ B3 (by rfl) _ Tryd.underlying48 rfl infoPos) rfl ⟨rfl, below_only hb12 O3 (fun i h => by omega)⟩
end FrameW
end Go.Proofs.YtmjfhdihegblbaaDoor
