/- The walks of the statements on package crc: each answers true, and changes nothing that was there. -/
import Derived.Test.YtmjfhdihegblbaaDoorCrcWorks
import Derived.Test.YtmjfhdihegblbaaDoorCrcRef
import Derived.Test.YtmjfhdihegblbaaDoorCopyBytes
import Derived.Test.YtmjfhdihegblbaaDoorEqBytes
namespace Go.Proofs.YtmjfhdihegblbaaDoor
open Go.RowKit
namespace CrcL
open CrcM Wd CrcW
/-- sums that are known -/
def nought32 : List UInt8 := List.replicate 32 0
def ones32 : List UInt8 := List.replicate 32 255
def rising32 : List UInt8 := (List.range 32).map fun i => UInt8.ofNat i
theorem k1 : ((sumOf 0#32 nought32).toNat : Int) = 2324772522 := by decide +kernel
theorem k2 : ((sumOf 0#32 ones32).toNat : Int) = 1655221059 := by decide +kernel
theorem k3 : ((sumOf 0#32 rising32).toNat : Int) = 1188919630 := by decide +kernel
end CrcL
end Go.Proofs.YtmjfhdihegblbaaDoor
