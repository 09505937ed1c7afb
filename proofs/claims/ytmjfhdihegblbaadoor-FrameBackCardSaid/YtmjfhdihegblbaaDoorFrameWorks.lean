/- The chapter's examples on frames. -/
import Derived.Test.YtmjfhdihegblbaaDoorFrameAllRef
import Derived.Test.YtmjfhdihegblbaaDoorGuarded
namespace Go.Proofs.YtmjfhdihegblbaaDoor
open Go.RowKit
namespace Wd
section
variable {P : Program} {ops : Array Oper} {rest : List Oper} {o : Oper} {a : Act} {w : World} {Q : Exit → Act → World → Prop}
theorem wpList_buildN_on (hgd : Region.wanted o (yielded ops a.tmps) = true) (t e : TypeId) (n : Nat) (parts : List (Nat × Operand)) (ho : o.op = .buildSlice t n parts.toArray) (ht : P.underlying t = some (.slice e)) (C : Nat) (hs : (P.info? e).map (·.size) = some C) (hC : 0 < C) (z : Value) (hz : (P.info? e).map (·.zero) = some (some z))
    (vs : List Value) (hx : (parts.map fun (i, x) => (i, a.eval x)) = (vs.zipIdx).map fun p => (p.2, p.1)) (xs : List Value) (hxs : (vs.flatMap fun v => v.cells.toList) = xs) (hv : ∀ v ∈ vs, v.cells.size = C) (hpos : 0 < vs.length) (hsm : vs.length * C ≤ 16777216) (hn : n = vs.length)
    (h : ∀ g w', Block w' g e xs → Only (fun _ => False) w w' → w.heap.size ≤ g → wpList P ops Q rest (a.put o.dst (.slice (some ⟨g, 0, none⟩) n n)) w') : wpList P ops Q (o :: rest) a w :=
  wpList_on hgd fun _ hK => wp_buildN_blk t e n parts ho ht C hs hC z hz vs hx xs hxs hv hpos hsm hn fun g w' h1 h2 h3 => hK _ _ (h g w' h1 h2 h3)
end
end Wd
namespace FrameL
open BinM CrcM BinW FrameM Wd CrcW FrameW
theorem Fresh.at {w : World} {base : Nat} {l : List UInt8} {v : Value} (h : Fresh w base l v) : ∃ A c, v = .slice A l.length c ∧ l.length ≤ c ∧ w.ownsRow base 5 1 (.slice A l.length c) l.length (bvs l) ∧ Row w w.heap.size A (bvs l) := by
  obtain ⟨A, c, rfl, h⟩ := h
  exact ⟨A, c, rfl, fresh_cap h, h, Row.own h⟩
theorem next_to (B : Nat) (A : Option Addr) (n c : Nat) (l : List UInt8) (w : World) (hn : n = l.length) (hl : n ≤ 140737488355328) (hc : n ≤ c) (ht : Tab w) (h : Row w B A (bvs l)) {e : Int} {p r : List UInt8} (he : nxE l = e) (hp : nxP l = p) (hr : nxR l = r) {np nr : Nat} (hnp : p.length = np) (hnr : r.length = nr) :
    Calls Tryd.prog 17 #[.slice A n c] w fun en w' => ∃ A1 c1 A2 c2, en = .returned (.tuple #[.slice A1 np c1, .slice A2 nr c2, .int .i64 e]) ∧ (nr ≤ c2 ∧ np ≤ c1) ∧ w'.ownsRow w.heap.size 5 1 (.slice A1 np c1) np (bvs p) ∧ w'.ownsRow w.heap.size 5 1 (.slice A2 nr c2) nr (bvs r) ∧ Below w.heap.size w w' := by
  refine (next_any B A n c l w hn hl hc ht h).mono ?_
  rintro _ w' ⟨v1, v2, rfl, h1, h2, hb⟩
  rw [hp] at h1; rw [hr] at h2
  obtain ⟨A1, c1, rfl, hc1, ho1, _⟩ := Fresh.at h1
  obtain ⟨A2, c2, rfl, hc2, ho2, _⟩ := Fresh.at h2
  subst hnp hnr
  exact ⟨A1, c1, A2, c2, by rw [he], ⟨hc2, hc1⟩, ho1, ho2, hb⟩
theorem pack_to (B : Nat) (A : Option Addr) (n c : Nat) (l : List UInt8) (w : World) (hn : n = l.length) (hl : n ≤ 140737488355328) (ht : Tab w) (h : Row w B A (bvs l)) {e : Int} {p : List UInt8} (he : packE l = e) (hp : packB l = p) {np : Nat} (hnp : p.length = np) :
    Calls Tryd.prog 11 #[.slice A n c] w fun en w' => ∃ A1 c1, en = .returned (.tuple #[.slice A1 np c1, .int .i64 e]) ∧ w'.ownsRow w.heap.size 5 1 (.slice A1 np c1) np (bvs p) ∧ Below w.heap.size w w' := by
  refine (pack_any B A n c l w hn hl ht h).mono ?_
  rintro _ w' ⟨v1, rfl, hM⟩
  rw [hp] at hM
  obtain ⟨A1, c1, rfl, ho, hb⟩ := hM
  subst hnp
  exact ⟨A1, c1, by rw [he], ho, hb⟩
theorem size_to (n : Int) (hn : -9223372036854775808 ≤ n ∧ n ≤ 9223372036854775807) (w : World) {m : Int} (hm : sizeF n = m) :
    Calls Tryd.prog 14 #[.int .i64 n] w fun e w' => e = .returned (.int .i64 m) ∧ Below w.heap.size w w' := by
  have := size_any n hn w; rwa [hm] at this
theorem eq_to (B B' : Nat) (A A' : Option Addr) (n n' c c' : Nat) (l : List UInt8) (w : World) (hn : n = l.length) (hn' : n' = l.length) (hl : n ≤ 140737488355328) (h : Row w B A (bvs l)) (h' : Row w B' A' (bvs l)) :
    Calls Tryd.prog 13 #[.slice A n c, .slice A' n' c'] w fun e w' => e = .returned (.bool true) ∧ Below w.heap.size w w' := eqBytes_same B B' A A' n n' c c' l w hn hn' hl h h'
def nothing : List UInt8 := [0, 0x52, 0x7d, 0x53, 0x51]
def damaged : List UInt8 := [0, 0x52, 0x7d, 0x53, 0x50]
theorem pack_nil : pack [] = nothing := by decide +kernel
theorem nx_nine : nxE (nothing ++ [9]) = 0 ∧ nxP (nothing ++ [9]) = [] ∧ nxR (nothing ++ [9]) = [9] := by rw [← pack_nil]; exact nx_pack [] [9] (by decide)
theorem nx_cut4 : nxE (nothing.take 4) = 3 := by rw [← pack_nil]; exact nx_short [] (by decide) 4 (by rw [pack_nil]; decide)
theorem nx_dam : nxE damaged = 40 := by decide +kernel
theorem nx_cut4s : nxE (nothing.take 4) = 3 ∧ nxP (nothing.take 4) = [] ∧ nxR (nothing.take 4) = [] := ⟨nx_cut4, nx_nil (by rw [nx_cut4]; decide)⟩
theorem nx_dams : nxE damaged = 40 ∧ nxP damaged = [] ∧ nxR damaged = [] := ⟨nx_dam, nx_nil (by rw [nx_dam]; decide)⟩
theorem size_examples : sizeF 127 = 132 ∧ sizeF 128 = 134 ∧ sizeF 8192 = 8198 ∧ sizeF 8193 = 0 := by decide +kernel
theorem u8s (l : List UInt8) : ((bvs l).flatMap fun v => v.cells.toList) = bvs l := by
  induction l with
  | nil => rfl
  | cons x r ih =>
    have e : bvs (x :: r) = bv x :: bvs r := rfl
    rw [e, List.flatMap_cons, ih]; rfl
theorem u8cells (l : List UInt8) : ∀ v ∈ bvs l, v.cells.size = 1 := fun v hv => by
  obtain ⟨c, _, rfl⟩ := List.mem_map.1 hv; rfl
set_option maxHeartbeats 8000000 in
theorem works_any (w : World) (ht : Tab w) : Calls Tryd.prog 16 #[] w fun e w' => e = .returned (.bool true) ∧ Below w.heap.size w w' := by
  obtain ⟨i0, hi, hz0, hz1, hz2⟩ := info_parts infoU8
  have HTAB := Lib.hid ht
  clear ht
  go_enter Tryd.func16, Tryd.ntmps16
  go_wp2_with (refine wpList_buildN_blk rfl 22 5 5 _ rfl Tryd.underlying22 1 sizeU8i (by decide) _ zeroU8 (bvs nothing) (by rfl) (bvs nothing) (u8s _) (u8cells _) (by decide) (by decide) rfl ?_; intro g1 w1 B1 O1 hg1)
  have hb1 : Below w.heap.size w w1 := O1.below (fun _ h => h.elim) (Nat.le_refl _)
  clear O1
  refine (pack_to 0 none 0 0 [] w1 rfl (by decide) (HTAB.out.kept hb1) (Row.nil _ _ _) (e := 0) (p := nothing) (by decide +kernel) (by decide +kernel) (np := 5) rfl).mono ?_; rintro _ w2 ⟨A2, c2, rfl, ho2, hb2⟩
  have hb12 := hb1.trans (hb2.mono hb1.size)
  have B2 := B1.kept hb2
  have HR2 := Lib.hid (Row.own ho2)
  clear ho2 B1 hb1 hb2
  go_wp2_with fail
  refine (copyBytes_any w2.heap.size (some ⟨g1, 0, none⟩) 5 5 nothing w2 rfl (by decide) B2.row).mono ?_; rintro _ w3 ⟨A3, c3, rfl, ho3, hb3⟩
  have hb13 := hb12.trans (hb3.mono hb12.size)
  have hz12 := hb12.size
  have hz3 := hb3.size
  go_wp2_with (first
    | (have _ := B4; refine wpList_append_row rfl _ _ 22 rfl w2.heap.size 5 i0 _ 1 Tryd.underlying22 hi hz0 hz1 hz2 rfl _ 5 (bvs nothing) rfl ho4 w4.heap.size (some ⟨g4, 0, none⟩) 1 1 (bvs [9]) rfl rfl B4.row (bvs_one _) (by unfold maxLen; omega) (by omega) (by omega) ?_; intro v5 w5 ho5 hgr5)
    | (refine wpList_buildN_blk rfl 22 5 1 _ rfl Tryd.underlying22 1 sizeU8i (by decide) _ zeroU8 (bvs [9]) (by rfl) (bvs [9]) (u8s _) (u8cells _) (by decide) (by decide) rfl ?_; intro g4 w4 B4 O4 hg4; have hb34 : Below w3.heap.size w3 w4 := O4.below (fun _ h => h.elim) (Nat.le_refl _); have ho4 := owns_kept ho3 hb34; have hz4 := hb34.size))
  have hb25 : Below w2.heap.size w2 w5 := (hb3.trans (hb34.mono hz3)).grown hgr5 (by omega) (fun g hg => (ho4.lt g hg).1)
  have hb15 : Below w.heap.size w w5 := (hb13.trans (hb34.mono hb13.size)).grown hgr5 (by have := hb13.size; omega) (fun g hg => by have := (ho4.lt g hg).1; omega)
  have B5 := B2.kept hb25
  have HR5 := Lib.hid (HR2.out.below hb25)
  clear hb13 ho3 hb3 ho4 hgr5 B4 hb34 O4
  obtain ⟨A5, c5, rfl⟩ := own_slice ho5
  have e5 : bvs nothing ++ bvs [9] = bvs (nothing ++ [9]) := by simp [bvs]
  rw [e5] at ho5
  refine (next_to w5.heap.size A5 6 c5 (nothing ++ [9]) w5 rfl (by decide) (fresh_cap ho5) (HTAB.out.kept hb15) (Row.own ho5) nx_nine.1 nx_nine.2.1 nx_nine.2.2 (np := 0) (nr := 1) rfl rfl).mono ?_; rintro _ w6 ⟨A6, c6, A7, c7, rfl, _, _, ho7, hb6⟩
  have hb16 := hb15.trans (hb6.mono hb15.size)
  have B6 := B5.kept hb6
  have HR6 := Lib.hid (HR5.out.tight.below hb6)
  have HO7 := Lib.hid ho7
  clear B5 HR5 ho5 hb25 hb15 hb6
  have hcut : ∀ w, (Instr.slice 22 (.slice (some ⟨g1, 0, none⟩) 5 5) none (some (.int .i64 4)) none).run Tryd.prog w = .ok (.slice (some ⟨g1, 0, none⟩) 4 5) w := fun w => by
    rw [slice_h (some ⟨g1, 0, none⟩) 5 5 .i64 4 (by decide) (by decide) w, cutAt_zero]; rfl
  go_wp2_with fail
  refine (next_to w6.heap.size (some ⟨g1, 0, none⟩) 4 5 (nothing.take 4) w6 rfl (by decide) (by decide) (HTAB.out.kept hb16) (by have := B6.row.take 4; rwa [bvs_take] at this) nx_cut4s.1 nx_cut4s.2.1 nx_cut4s.2.2 (np := 0) (nr := 0) rfl rfl).mono ?_; rintro _ w8 ⟨A8, c8, A9, c9, rfl, _, _, _, hb8⟩
  have hb18 := hb16.trans (hb8.mono hb16.size)
  have B8 := B6.kept hb8
  have HR8 := Lib.hid (HR6.out.tight.below hb8)
  have HO8 := Lib.hid (owns_kept HO7.out hb8)
  clear B6 HR6 HO7 hb16 hb8 hcut
  go_wp2_with (refine wpList_buildN_blk rfl 22 5 5 _ rfl Tryd.underlying22 1 sizeU8i (by decide) _ zeroU8 (bvs damaged) (by rfl) (bvs damaged) (u8s _) (u8cells _) (by decide) (by decide) rfl ?_; intro g10 w10 B10 O10 hg10)
  have hb10 : Below w8.heap.size w8 w10 := O10.below (fun _ h => h.elim) (Nat.le_refl _)
  have hb1a := hb18.trans (hb10.mono hb18.size)
  refine (next_to w10.heap.size (some ⟨g10, 0, none⟩) 5 5 damaged w10 rfl (by decide) (by decide) (HTAB.out.kept hb1a) B10.row nx_dams.1 nx_dams.2.1 nx_dams.2.2 (np := 0) (nr := 0) rfl rfl).mono ?_; rintro _ w11 ⟨A11, c11, A12, c12, rfl, _, _, _, hb11⟩
  have hb8b := hb10.trans (hb11.mono hb10.size)
  have hb1b := hb18.trans (hb8b.mono hb18.size)
  have B11 := B8.kept hb8b
  have HR11 := Lib.hid (HR8.out.tight.below hb8b)
  have HO11 := Lib.hid (owns_kept HO8.out hb8b)
  clear B8 HR8 HO8 hb18 hb10 hb11 hb8b hb1a B10 O10
  go_wp2_with fail
  refine (eq_to _ w11.heap.size A2 (some ⟨g1, 0, none⟩) 5 5 c2 5 nothing w11 rfl rfl (by decide) HR11.out B11.row).mono ?_; rintro _ w12 ⟨rfl, hb12⟩
  have hb1c := hb1b.trans (hb12.mono hb1b.size)
  have HO12 := Lib.hid (owns_kept HO11.out hb12)
  clear B11 HR11 HO11 hb1b hb12
  go_wp2_with (refine wpList_buildN_on (by rfl) 22 5 1 _ rfl Tryd.underlying22 1 sizeU8i (by decide) _ zeroU8 (bvs [9]) (by rfl) (bvs [9]) (u8s _) (u8cells _) (by decide) (by decide) rfl ?_; intro g13 w13 B13 O13 hg13)
  have hb13 : Below w12.heap.size w12 w13 := O13.below (fun _ h => h.elim) (Nat.le_refl _)
  have hb1d := hb1c.trans (hb13.mono hb1c.size)
  refine (eq_to w13.heap.size w13.heap.size A7 (some ⟨g13, 0, none⟩) 1 1 c7 1 [9] w13 rfl rfl (by decide) (Row.own (owns_kept HO12.out hb13)) B13.row).mono ?_; rintro _ w14 ⟨rfl, hb14⟩
  have hb1e := hb1d.trans (hb14.mono hb1d.size)
  clear HO12 B13 O13 hb13 hb14 hb1c hb1d
  go_wp2_with fail
  refine (size_to 127 (by decide) w14 size_examples.1).mono ?_; rintro _ w15 ⟨rfl, hb15⟩
  have hb1f := hb1e.trans (hb15.mono hb1e.size)
  go_wp2_with fail
  refine (size_to 128 (by decide) w15 size_examples.2.1).mono ?_; rintro _ w16 ⟨rfl, hb16⟩
  have hb1g := hb1f.trans (hb16.mono hb1f.size)
  go_wp2_with fail
  refine (size_to 8192 (by decide) w16 size_examples.2.2.1).mono ?_; rintro _ w17 ⟨rfl, hb17⟩
  have hb1h := hb1g.trans (hb17.mono hb1g.size)
  go_wp2_with fail
  refine (size_to 8193 (by decide) w17 size_examples.2.2.2).mono ?_; rintro _ w18 ⟨rfl, hb18⟩
  have hb1i := hb1h.trans (hb18.mono hb1h.size)
  clear hb1e hb1f hb1g hb1h hb15 hb16 hb17 hb18
  go_wp2_with fail
  go_ret
  exact ⟨rfl, hb1i⟩
end FrameL
end Go.Proofs.YtmjfhdihegblbaaDoor
