/- The walk of the disk's Read. -/
import Derived.Test.YtkdonicegffcbaaDiskCalls
namespace Go.Proofs.Ytkdonicegffcbaa
open Go.RowKit
namespace DiskW
open DiskM Wd
/-- What a call hands back: nil for no bytes, or a block of its own with these. -/
def Handed (w w' : World) (T : TypeId) (l : List UInt8) (r : Value) : Prop :=
  Below w.heap.size w w' ∧ ((l = [] ∧ r = .slice none 0 0) ∨ ∃ g, r = .slice (some ⟨g, 0, none⟩) l.length l.length ∧ w.heap.size ≤ g ∧ Block w' g T (bvs l))
theorem read_none (v : Value) (at_ : Int) (w : World) (h : NoDisk w v) : Calls Try.prog 29 #[v, .int .i64 at_] w fun e w' => e = .returned (.tuple #[.slice none 0 0, .int .i64 1]) ∧ w = w' := by
  have H := Lib.hid (refusesSector_none v at_ w h)
  clear h
  go_enter Try.func29, Try.ntmps29
  go_wp2_with fail
  refine H.out.mono ?_; rintro e w' ⟨rfl, rfl⟩
  go_wp2_with fail
  go_ret2
  exact ⟨rfl, rfl⟩
set_option maxHeartbeats 2000000 in
theorem read_any {F : Nat → Prop} {w : World} {d r m : Nat} {S : St} (hD : DiskAt F w d r m S) (at_ : Int) :
    Calls Try.prog 29 #[.pointer (some ⟨d, 0, none⟩), .int .i64 at_] w fun e w' => ∃ v, e = .returned (.tuple #[v, .int .i64 (rdE S at_ : Int)]) ∧ Handed w w' 75 (rdB S at_) v := by
  obtain ⟨pv, aft, bits0, cut0, es, clock, hX⟩ := hD
  have hR := refusesSector_any at_ hX
  unfold rdB
  obtain ⟨q, hq⟩ : ∃ q, rdE S at_ = q := ⟨_, rfl⟩
  rw [hq] at hR
  rw [hq]
  have HR := Lib.hid hR
  by_cases he : q = 0
  · have hq0 : rdE S at_ = 0 := by rw [hq, he]
    have hd : S.dead = false := by
      unfold rdE at hq0
      cases h : S.dead
      · rfl
      · rw [h] at hq0; simp at hq0
    have hr : ¬ (at_ < 0 ∨ (S.dur.length : Int) ≤ at_) := by
      intro h
      unfold rdE at hq0
      rw [hd, if_pos h] at hq0; simp at hq0
    subst he
    rw [if_pos rfl]
    obtain ⟨k, rfl⟩ : ∃ k : Nat, at_ = (k : Int) := ⟨at_.toNat, by omega⟩
    have hk : k < S.dur.length := by omega
    have h2 := hX.c2
    have h0 := hX.c0
    have hcl := cur_length hX.ok hk
    have hlk := hX.cur.1 k
    rw [Int.toNat_natCast]
    have hku : (0 : Int) ≤ (k : Int) := by omega
    have hkl : (k : Int) < (S.dur.length : Int) := by omega
    have HX := Lib.hid hX
    clear hX hR hq hq0 hd hr
    cases hl : lastW S.pend k with
    | some s =>
      have hs : cur S k = s := by unfold cur; rw [hl]; rfl
      rw [hs] at hcl
      rw [hs]
      rw [hl] at hlk
      have h64 : (bvs s).length = 64 := by rw [bvs_length]; exact hcl
      have H64 := Lib.hid h64
      have HLK := Lib.hid hlk
      have HCL := Lib.hid hcl
      clear hl hs h64 hlk hcl
      go_enter Try.func29, Try.ntmps29
      go_wp2_with (first
        | (go_at_call 38; refine HR.out.mono ?_; rintro e w' ⟨rfl, rfl⟩)
        | (refine wpList_lookup_map rfl (.tmp 19) (.tmp 20) _ rfl _ _ Try.underlying62 Try.underlying3 m clock es rfl HX.out.map_ (k : Int) rfl (.agg (bvs (zeros 64)).toArray) zeroSec ?_; rw [HLK.out])
        | (refine wpList_alloc_blk rfl _ rfl (bvs (zeros 64)) _ zeroSec rfl ?_; intro g7 w1 B1 O1 hg7)
        | (refine wpList_store_blk rfl _ (.tmp 7) (.tmp 22) rfl g7 0 rfl (bvs s) _ rfl rfl 75 _ B1 (by rw [H64.out]; simp [bvs, zeros]) (infoSec.trans (congrArg some H64.out.symm)) (bvs_one _) ?_; intro w2 B2 O2 hs2))
      go_ret2
      rw [lay_all _ _ (by rw [H64.out]; simp [bvs, zeros])] at B2
      refine ⟨_, rfl, below_only (below_only (Below.refl _ _) O1 (fun _ h => h.elim)) O2 (fun i h => by omega), .inr ⟨g7, by rw [HCL.out]; rfl, hg7, B2⟩⟩
    | none =>
      have hs : cur S k = S.dur.getD k [] := by unfold cur; rw [hl]; rfl
      rw [hs] at hcl
      rw [hs]
      rw [hl] at hlk
      have hseg := flat_seg bvs 64 S.dur k (S.dur.getD k []) (by simp [List.getD, List.getElem?_eq_getElem hk]) (fun x hx => by rw [bvs_length]; exact HX.out.ok.secs x hx)
      generalize S.dur.getD k [] = s at *
      have h64 : (bvs s).length = 64 := by rw [bvs_length]; exact hcl
      have H64 := Lib.hid h64
      have HLK := Lib.hid hlk
      have HCL := Lib.hid hcl
      have HSEG := Lib.hid hseg
      clear hl hs h64 hlk hcl hseg
      go_enter Try.func29, Try.ntmps29
      go_wp2_with (first
        | (go_at_call 38; refine HR.out.mono ?_; rintro e w' ⟨rfl, rfl⟩)
        | (refine wpList_lookup_map rfl (.tmp 19) (.tmp 20) _ rfl _ _ Try.underlying62 Try.underlying3 m clock es rfl HX.out.map_ (k : Int) rfl (.agg (bvs (zeros 64)).toArray) zeroSec ?_; rw [HLK.out])
        | (refine wpList_alloc_blk rfl _ rfl (bvs (zeros 64)) _ zeroSec rfl ?_; intro g7 w1 B1 O1 hg7)
        | (refine wpList_store_blk rfl _ (.tmp 7) (.tmp 22) rfl g7 0 rfl (bvs (zeros 64)) _ rfl rfl 75 _ B1 (by simp) (by rw [infoSec]; simp [bvs, zeros]) (bvs_one _) ?_; intro w2 B2 O2 hs2; have c0 := ((HX.out.head.only O1 (fun h => h)).only O2 (fun h => by have := HX.out.head.lt; omega)).cell (k := 0) rfl; have BR2 := (HX.out.dur.only O1 (fun h => h)).only O2 (fun h => by have := HX.out.dur.lt; omega))
        | (refine wpList_load_blk rfl _ (.tmp 31) rfl r (k * 64) rfl _ _ BR2 (bvs s) (by rw [H64.out]; exact HSEG.out) _ Try.underlying75 rfl (infoSec.trans (congrArg some H64.out.symm)) ?_)
        | (refine wpList_store_blk rfl _ (.tmp 7) (.tmp 32) rfl g7 0 rfl (bvs s) _ rfl rfl 75 _ B2 (by rw [H64.out, lay_all _ _ rfl]; simp [bvs, zeros]) (infoSec.trans (congrArg some H64.out.symm)) (bvs_one _) ?_; intro w3 B3 O3 hs3))
      go_ret2
      rw [lay_all _ _ rfl, lay_all _ _ (by rw [H64.out]; simp [bvs, zeros])] at B3
      refine ⟨_, rfl, below_only (below_only (below_only (Below.refl _ _) O1 (fun _ h => h.elim)) O2 (fun i h => by omega)) O3 (fun i h => by omega), .inr ⟨g7, by rw [HCL.out]; rfl, hg7, B3⟩⟩
  · rw [if_neg he]
    have hne : (((q : Nat) : Int) != 0) = true := by simp; omega
    clear hR hX hq he
    go_enter Try.func29, Try.ntmps29
    go_wp2_with (go_at_call 38; refine HR.out.mono ?_; rintro e w' ⟨rfl, rfl⟩)
    go_ret2
    exact ⟨_, rfl, Below.refl _ _, .inl ⟨rfl, rfl⟩⟩
end DiskW
end Go.Proofs.Ytkdonicegffcbaa
