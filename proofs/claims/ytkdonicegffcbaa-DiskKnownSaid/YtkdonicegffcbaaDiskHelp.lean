/- The walks of the statements' helpers on package disk: a sector of a byte, a disk, whether a sector is just that. -/
import Derived.Test.YtkdonicegffcbaaDiskFlush
import Derived.Test.YtkdonicegffcbaaDiskRead
import Derived.Test.YtkdonicegffcbaaDiskWrite
import Derived.Test.YtkdonicegffcbaaEqBytes
import Derived.Test.YtkdonicegffcbaaBring
namespace Go.Proofs.Ytkdonicegffcbaa
open Go.RowKit
namespace DiskL
open DiskM Wd DiskW
def ofI (b : Int) : UInt8 := UInt8.ofNat (b % 256).toNat
theorem ofI_toNat (b : Int) : ((ofI b).toNat : Int) = b % 256 := by
  unfold ofI; rw [UInt8.toNat_ofNat']; omega
/-- What sector answers. -/
def secOf (b : Int) : List UInt8 := ofI (b + 1) :: List.replicate 63 (ofI b)
theorem secOf_length (b : Int) : (secOf b).length = 64 := by simp [secOf]
/-- The first k bytes are b, the others zero. -/
def fillTo (b : Int) (k : Nat) : List UInt8 := List.replicate k (ofI b) ++ List.replicate (64 - k) 0
theorem fill_length (b : Int) {k : Nat} (h : k ≤ 64) : (bvs (fillTo b k)).length = 64 := by simp [bvs_length, fillTo]; omega
theorem u8Info : (Try.prog.info? 5).map (fun i => (i.zero, i.size, i.bytes)) = some (some (.int .u8 0), 1, 1) := by kernel_rfl
set_option maxHeartbeats 1000000 in
theorem sector_any (b : Int) (w : World) (hb : -9223372036854775808 ≤ b ∧ b ≤ 9223372036854775807) :
    Calls Try.prog 23 #[.int .i64 b] w fun e w' => ∃ g, e = .returned (.slice (some ⟨g, 0, none⟩) 64 64) ∧ w.heap.size ≤ g ∧ Block w' g 5 (bvs (secOf b)) ∧ Below w.heap.size w w' := by
  obtain ⟨i0, hi, hz0, hz1, hz2⟩ := info_parts u8Info
  have hcv : IntKind.u8.wrap b = ((ofI b).toNat : Int) := by rw [ofI_toNat, IntKind.wrap_u8]
  have HB := Lib.hid hb
  clear hb
  go_enter Try.func23, Try.ntmps23
  go_wp2_with (refine wpList_make_blk rfl 35 5 _ _ rfl Try.underlying35 [.int .u8 0] (by simp) i0 hi _ hz0 rfl (by rw [hz1]; rfl) .i64 .i64 64 rfl rfl (by rw [hz2]; omega) (by omega) ?_; intro g w1 B1 O1 hg1)
  have B1 : Block w1 g 5 (bvs (fillTo b 0)) := B1
  go_loopw [4] (fun i wr => ∃ k : Nat, k ≤ 64 ∧ i = .int .i64 (k : Int) ∧ Block wr g 5 (bvs (fillTo b k)) ∧ Below w.heap.size w wr) (fun i _ => 64 - (intOf i).toNat)
  case atStart => exact ⟨0, by omega, rfl, B1, below_only (Below.refl _ _) O1 (fun _ h => h.elim)⟩
  case round =>
    obtain ⟨k, hk, rfl, BR, hbl⟩ := hrel
    rename_i wr _
    by_cases hlt : k < 64
    · have hk0 : (0 : Int) ≤ (k : Int) := by omega
      have hk1 : (k : Int) < 64 := by omega
      go_wp2_with (refine wpList_store_blk rfl _ (.tmp 14) (.tmp 13) rfl g k rfl [.int .u8 ((ofI b).toNat : Int)] _ rfl rfl 5 _ BR (by rw [fill_length b hk]; simp; omega) infoByte (by simp [Value.oneCell']) ?_; intro w2 B2 O2 hs2)
      have e : lay (bvs (fillTo b k)) k [.int .u8 ((ofI b).toNat : Int)] = bvs (fillTo b (k + 1)) := by
        obtain ⟨j, hj⟩ : ∃ j, 64 - k = j + 1 := ⟨63 - k, by omega⟩
        have hj2 : 64 - (k + 1) = j := by omega
        unfold lay fillTo
        rw [hj, hj2]
        simp only [bvs, List.map_append, List.map_replicate, List.length_singleton]
        rw [List.take_left' (by simp), List.replicate_succ (n := j), ← List.drop_drop, List.drop_left' (by simp), List.replicate_succ']
        simp [bv]
      rw [e] at B2
      go_roundw
      case rel => exact ⟨k + 1, by omega, by go_num, B2, below_only hbl O2 (fun i h => by omega)⟩
      case measure => simp [intOf]; omega
    · have hk64 : k = 64 := by omega
      subst hk64
      have hsz := hbl.size
      have hcv1 : wrap64 (b + 1) % 256 = ((ofI (b + 1)).toNat : Int) := by
        rw [ofI_toNat]; unfold wrap64; omega
      have HCV := Lib.hid hcv1
      clear hcv1
      go_wp2_with (refine wpList_store_blk rfl _ (.tmp 19) (.tmp 18) rfl g 0 rfl [.int .u8 (wrap64 (b + 1) % 256)] _ rfl rfl 5 _ BR (by rw [fill_length b (Nat.le_refl _)]; simp) infoByte (by simp [Value.oneCell']) ?_; intro w2 B2 O2 hs2)
      rw [HCV.out] at B2
      have e : lay (bvs (fillTo b 64)) 0 [.int .u8 ((ofI (b + 1)).toNat : Int)] = bvs (secOf b) := by
        simp [lay, fillTo, secOf, bvs, bv]
      rw [e] at B2
      go_ret
      exact ⟨g, rfl, hg1, B2, below_only hbl O2 (fun i h => by omega)⟩
theorem made_any (w : World) : Calls Try.prog 20 #[] w fun e w' => ∃ d r m, e = .returned (.pointer (some ⟨d, 0, none⟩)) ∧ DiskAt (fun i => w.heap.size ≤ i ∧ i < w'.heap.size) w' d r m (fresh 8) ∧ Below w.heap.size w w' := by
  go_enter Try.func20, Try.ntmps20
  go_wp2_with (go_at_call 9; refine (new_any 8 w (by decide) (by decide)).mono ?_; rintro e w1 ⟨d, r, m, rfl, D1, hb1⟩)
  go_ret
  exact ⟨d, r, m, rfl, D1, hb1⟩
theorem handed_row {w w' : World} {T : TypeId} {l : List UInt8} {v : Value} (h : Handed w w' T l v) : ∃ A c, v = .slice A l.length c ∧ Row w' w'.heap.size A (bvs l) := by
  rcases h.2 with ⟨rfl, rfl⟩ | ⟨g, rfl, _, hB⟩
  · exact ⟨none, 0, rfl, Row.nil _ _ _⟩
  · exact ⟨_, _, rfl, hB.row⟩
set_option maxHeartbeats 1000000 in
theorem has_any {F : Nat → Prop} {w : World} {d r m : Nat} {S : St} (hD : DiskAt F w d r m S) (at_ : Int) (B : Nat) (A : Option Addr) (n c : Nat) (l : List UInt8) (hn : n = l.length) (hl : n ≤ 140737488355328) (hrow : Row w B A (bvs l)) (hB : B ≤ w.heap.size) :
    Calls Try.prog 27 #[.pointer (some ⟨d, 0, none⟩), .int .i64 at_, .slice A n c] w fun e w' => e = .returned (.bool (rdE S at_ == 0 && rdB S at_ == l)) ∧ Below w.heap.size w w' := by
  have H := Lib.hid (read_any hD at_)
  have hlen : (rdB S at_).length ≤ 64 := by
    unfold rdB
    split
    · rename_i h0
      have hr : ¬ (at_ < 0 ∨ (S.dur.length : Int) ≤ at_) := by
        intro h
        unfold rdE at h0
        cases hd : S.dead
        · rw [hd, if_pos h] at h0; simp at h0
        · rw [hd] at h0; simp at h0
      rw [cur_length hD.ok (by omega)]; omega
    · simp
  clear hD
  generalize rdB S at_ = got at *
  generalize rdE S at_ = q at *
  by_cases hq : q = 0
  · subst hq
    have HN := Lib.hid hn
    clear hn
    go_enter Try.func27, Try.ntmps27
    go_wp2_with fail
    refine H.out.mono ?_; rintro e w1 ⟨v, rfl, hh⟩
    obtain ⟨A1, c1, rfl, hr1⟩ := handed_row hh
    have hrow1 := (hrow.more hB).below hh.1
    have hbl := hh.1
    clear hh
    go_wp2_with (go_at_call 36; refine (eqBytes_any _ _ A1 A got.length n c1 c got l w1 rfl HN.out (by omega) hl hr1 hrow1).mono ?_; rintro e w2 ⟨rfl, k, rfl⟩)
    go_ret
    refine ⟨by simp, hbl.trans (drawn_below _ _ _)⟩
  · have hne : (((q : Nat) : Int) == 0) = false := by simp; omega
    go_enter Try.func27, Try.ntmps27
    go_wp2_with fail
    refine H.out.mono ?_; rintro e w1 ⟨v, rfl, hh⟩
    go_wp2_with fail
    go_ret
    refine ⟨by simp [hq], hh.1⟩
/-! the calls, with what they answer and leave laid down -/
section
variable {F : Nat → Prop} {w : World} {d r m : Nat} {S S' : St} {q : Nat}
theorem write_to (hD : DiskAt F w d r m S) (at_ : Int) (l : List UInt8) (he : wr S at_ l = (q, S')) (hsm : S.pend.length ≤ 1000000) (B : Nat) (A : Option Addr) (n c : Nat) (hn : n = l.length) (hrow : Row w B A (bvs l)) (hB : B ≤ w.heap.size) (hA : ∀ ad, A = some ad → 0 < l.length → ¬ F ad.block) :
    Calls Try.prog 22 #[.pointer (some ⟨d, 0, none⟩), .int .i64 at_, .slice A n c] w fun e w' => e = .returned (.int .i64 (q : Int)) ∧ DiskAt (Grow F w w') w' d r m S' ∧ Only F w w' := by
  have h := write_any hD hsm at_ B A n c l hn hrow hB hA
  rw [he] at h; exact h
theorem flush_to (hD : DiskAt F w d r m S) (he : flu S = (q, S')) (hsm : S.pend.length ≤ 1000000) :
    Calls Try.prog 24 #[.pointer (some ⟨d, 0, none⟩)] w fun e w' => e = .returned (.int .i64 (q : Int)) ∧ DiskAt (Grow F w w') w' d r m S' ∧ Only F w w' := by
  have h := flush_any hD hsm
  rw [he] at h; exact h
theorem crash_to (hD : DiskAt F w d r m S) (bits : Nat) (cut : Int) (he : cra S bits cut = (q, S')) (hsm : S.pend.length ≤ 1000000) (hb : bits < 18446744073709551616) :
    Calls Try.prog 25 #[.pointer (some ⟨d, 0, none⟩), .int .u64 (bits : Int), .int .i64 cut] w fun e w' => e = .returned (.int .i64 (q : Int)) ∧ DiskAt (Grow F w w') w' d r m S' ∧ Only F w w' := by
  have h := crash_any hD hsm bits cut hb
  rw [he] at h; exact h
theorem boot_to (hD : DiskAt F w d r m S) (he : boo S = S') :
    Calls Try.prog 26 #[.pointer (some ⟨d, 0, none⟩)] w fun e w' => e = .returned (.int .i64 0) ∧ DiskAt (Grow F w w') w' d r m S' ∧ Only F w w' := by
  have h := boot_any hD
  rw [he] at h; exact h
theorem fail_to (hD : DiskAt F w d r m S) (n : Int) (bits : Nat) (cut : Int) (he : fai S n bits cut = (q, S')) (hn : -9223372036854775808 ≤ n ∧ n ≤ 9223372036854775807) (hb : bits < 18446744073709551616) (hc : -9223372036854775808 ≤ cut ∧ cut ≤ 9223372036854775807) :
    Calls Try.prog 28 #[.pointer (some ⟨d, 0, none⟩), .int .i64 n, .int .u64 (bits : Int), .int .i64 cut] w fun e w' => e = .returned (.int .i64 (q : Int)) ∧ DiskAt (Grow F w w') w' d r m S' ∧ Only F w w' := by
  have h := fail_any hD n bits cut hn hb hc
  rw [he] at h; exact h
theorem waits_to (hD : DiskAt F w d r m S) (n : Nat) (he : S.pend.length = n) :
    Calls Try.prog 16 #[.pointer (some ⟨d, 0, none⟩)] w fun e w' => e = .returned (.int .i64 (n : Int)) ∧ w = w' := by
  obtain ⟨_, _, _, _, _, _, hX⟩ := hD
  have h := waits_any hX
  rw [he] at h; exact h
theorem dead_to (hD : DiskAt F w d r m S) (b : Bool) (he : S.dead = b) :
    Calls Try.prog 14 #[.pointer (some ⟨d, 0, none⟩)] w fun e w' => e = .returned (.bool b) ∧ w = w' := by
  obtain ⟨_, _, _, _, _, _, hX⟩ := hD
  have h := dead_any hX
  rw [he] at h; exact h
theorem size_to (hD : DiskAt F w d r m S) (n : Nat) (he : S.dur.length = n) :
    Calls Try.prog 18 #[.pointer (some ⟨d, 0, none⟩)] w fun e w' => e = .returned (.int .i64 (n : Int)) ∧ w = w' := by
  obtain ⟨_, _, _, _, _, _, hX⟩ := hD
  have h := size_any hX
  rw [he] at h; exact h
theorem has_to (hD : DiskAt F w d r m S) (at_ : Int) (l : List UInt8) (b : Bool) (he : (rdE S at_ == 0 && rdB S at_ == l) = b) (B : Nat) (A : Option Addr) (n c : Nat) (hn : n = l.length) (hl : n ≤ 140737488355328) (hrow : Row w B A (bvs l)) (hB : B ≤ w.heap.size) :
    Calls Try.prog 27 #[.pointer (some ⟨d, 0, none⟩), .int .i64 at_, .slice A n c] w fun e w' => e = .returned (.bool b) ∧ Below w.heap.size w w' := by
  have h := has_any hD at_ B A n c l hn hl hrow hB
  rw [he] at h; exact h
theorem DiskAt.kept (hD : DiskAt F w d r m S) {w' : World} (hb : Below w.heap.size w w') : DiskAt F w' d r m S := hD.only (Only.new (F := fun _ => False) hb) (fun _ _ h => h)
end
end DiskL
end Go.Proofs.Ytkdonicegffcbaa
