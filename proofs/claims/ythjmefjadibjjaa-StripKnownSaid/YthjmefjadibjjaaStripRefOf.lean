/- The document's four bytes and their number. -/
import Derived.Test.YthjmefjadibjjaaStripWorks
namespace Go.Proofs.Ythjmefjadibjjaa
open Go.RowKit
namespace StripR
open BinM StripM Wd StripW
theorem i64_or_sh (a b : Nat) (ha : a < 9223372036854775808) (hb : b < 9223372036854775808) : bits .or .i64 (a : Int) (b : Int) = ((a ||| b : Nat) : Int) := by
  have h : a ||| b < 2 ^ 63 := Nat.or_lt_two_pow (by simpa using ha) (by simpa using hb)
  show IntKind.i64.wrap ((BitVec.ofInt 64 (a : Int) ||| BitVec.ofInt 64 (b : Int)).toNat : Int) = _
  rw [BitVec.ofInt_natCast, BitVec.ofInt_natCast, BitVec.toNat_or, BitVec.toNat_ofNat, BitVec.toNat_ofNat, Nat.mod_eq_of_lt (by omega), Nat.mod_eq_of_lt (by omega)]
  exact IntWalk.i64_in _ (by omega)
theorem acc4 (a b c d : UInt8) : acc 0 [a, b, c, d] = ((a.toNat * 256 + b.toNat) * 256 + c.toNat) * 256 + d.toNat := by simp [acc]
theorem sh1 (a b : Nat) : a * 16777216 + b * 65536 = (a * 256 + b) * 65536 := by omega
theorem sh2 (q c : Nat) : q * 65536 + c * 256 = (q * 256 + c) * 256 := by omega
theorem or4 (a b c d : Nat) (hb : b < 2 ^ 8) (hc : c < 2 ^ 8) (hd : d < 2 ^ 8) : a * 16777216 ||| b * 65536 ||| c * 256 ||| d = ((a * 256 + b) * 256 + c) * 256 + d := by
  have k1 := Nat.shiftLeft_add_eq_or_of_lt (i := 24) (b := b * 65536) (by omega) a
  have k2 := Nat.shiftLeft_add_eq_or_of_lt (i := 16) (b := c * 256) (by omega) (a * 256 + b)
  have k3 := Nat.shiftLeft_add_eq_or_of_lt (i := 8) (b := d) (by omega) ((a * 256 + b) * 256 + c)
  rw [Nat.shiftLeft_eq, show (2 : Nat) ^ 24 = 16777216 from rfl] at k1
  rw [Nat.shiftLeft_eq, show (2 : Nat) ^ 16 = 65536 from rfl] at k2
  rw [Nat.shiftLeft_eq, show (2 : Nat) ^ 8 = 256 from rfl] at k3
  have h1 : a * 16777216 ||| b * 65536 = (a * 256 + b) * 65536 := k1.symm.trans (sh1 a b)
  have h2 : (a * 256 + b) * 65536 ||| c * 256 = ((a * 256 + b) * 256 + c) * 256 := k2.symm.trans (sh2 _ c)
  rw [h1, h2]; exact k3.symm
set_option maxRecDepth 20000 in
theorem of_any (B : Nat) (A : Option Addr) (n c : Nat) (l : List UInt8) (w : World) (hn : n = l.length) (h4 : l.length = 4) (h : Row w B A (bvs l)) :
    Calls Try.prog 34 #[.slice A n c] w fun e w' => e = .returned (.int .i64 ((acc 0 l : Nat) : Int)) ∧ Below w.heap.size w w' := by
  obtain ⟨a, b, c', d, rfl⟩ : ∃ a b c' d, l = [a, b, c', d] := by
    match l, h4 with
    | [a, b, c', d], _ => exact ⟨_, _, _, _, rfl⟩
  subst hn
  obtain ⟨ad, rfl, _, q0⟩ := h 0 _ (show (bvs [a, b, c', d])[0]? = some (.int .u8 (a.toNat : Int)) from rfl)
  obtain ⟨_, e, _, q1⟩ := h 1 _ (show (bvs [a, b, c', d])[1]? = some (.int .u8 (b.toNat : Int)) from rfl)
  injection e with e; subst e
  obtain ⟨_, e, _, q2⟩ := h 2 _ (show (bvs [a, b, c', d])[2]? = some (.int .u8 (c'.toNat : Int)) from rfl)
  injection e with e; subst e
  obtain ⟨_, e, _, q3⟩ := h 3 _ (show (bvs [a, b, c', d])[3]? = some (.int .u8 (d.toNat : Int)) from rfl)
  injection e with e; subst e
  have z0 : w.cell? ad = some (.int .u8 (a.toNat : Int)) := by simpa [Addr.add] using q0
  have z1 : w.cell? ⟨ad.block, ad.off + 1, none⟩ = some (.int .u8 (b.toNat : Int)) := by simpa [Addr.add] using q1
  have z2 : w.cell? ⟨ad.block, ad.off + 2, none⟩ = some (.int .u8 (c'.toNat : Int)) := by simpa [Addr.add] using q2
  have z3 : w.cell? ⟨ad.block, ad.off + 3, none⟩ = some (.int .u8 (d.toNat : Int)) := by simpa [Addr.add] using q3
  have ha := a.toNat_lt
  have hb := b.toNat_lt
  have hc := c'.toNat_lt
  have hd := d.toNat_lt
  show Calls _ _ #[.slice (some ad) 4 c] _ _
  have HA := Lib.hid (acc4 a b c' d)
  rw [HA.out]
  generalize a.toNat = a at *
  generalize b.toNat = b at *
  generalize c'.toNat = c' at *
  generalize d.toNat = d at *
  clear h h4 q0 q1 q2 q3
  have HO := Lib.hid (or4 a b c' d hb hc hd)
  obtain ⟨X, hX⟩ : ∃ X : Nat, X = a * 16777216 := ⟨_, rfl⟩
  obtain ⟨Y, hY⟩ : ∃ Y : Nat, Y = b * 65536 := ⟨_, rfl⟩
  obtain ⟨Z, hZ⟩ : ∃ Z : Nat, Z = c' * 256 := ⟨_, rfl⟩
  rw [← hX, ← hY, ← hZ] at HO
  have e1 : (a : Int) * 16777216 = (X : Int) := by omega
  have e2 : (b : Int) * 65536 = (Y : Int) := by omega
  have e3 : (c' : Int) * 256 = (Z : Int) := by omega
  have w1 : IntKind.i64.wrap (a : Int) = (a : Int) := IntWalk.i64_in _ (by omega)
  have w2 : IntKind.i64.wrap (b : Int) = (b : Int) := IntWalk.i64_in _ (by omega)
  have w3 : IntKind.i64.wrap (c' : Int) = (c' : Int) := IntWalk.i64_in _ (by omega)
  have w4 : IntKind.i64.wrap (d : Int) = (d : Int) := IntWalk.i64_in _ (by omega)
  have w5 : IntKind.i64.wrap (X : Int) = (X : Int) := IntWalk.i64_in _ (by omega)
  have w6 : IntKind.i64.wrap (Y : Int) = (Y : Int) := IntWalk.i64_in _ (by omega)
  have w7 : IntKind.i64.wrap (Z : Int) = (Z : Int) := IntWalk.i64_in _ (by omega)
  have o1 := i64_or_sh X Y (by omega) (by omega)
  have hv : X ||| Y < 4294967296 := Nat.or_lt_two_pow (n := 32) (by omega) (by omega)
  have o2 := i64_or_sh (X ||| Y) Z (by omega) (by omega)
  have hv2 : X ||| Y ||| Z < 4294967296 := Nat.or_lt_two_pow (n := 32) hv (by omega)
  have o3 := i64_or_sh (X ||| Y ||| Z) d (by omega) (by omega)
  rw [HO.out] at o3
  clear HO hX hY hZ hv hv2 ha hb hc hd
  generalize X ||| Y ||| Z = V at *
  generalize X ||| Y = U at *
  go_enter Try.func34, Try.ntmps34
  go_wp2_with fail
  go_quiet (fail)
  go_wp2
  go_ret
  exact ⟨rfl, drawn_below _ _ _⟩
end StripR
end Go.Proofs.Ythjmefjadibjjaa
