/-
  The library's OnesCount64: the number of set bits.
-/
import Derived.Test.YtggkhbjhhglbbaaDoorWord
import Derived.Test.YtggkhbjhhglbbaaDoorPop
import Derived.Laws.BitsAllLaws
import Derived.Laws.Bits128
namespace Go.Proofs.YtggkhbjhhglbbaaDoor
open Go.RowKit
set_option linter.unusedVariables false

theorem and_nat (a b : Nat) (B : Int) (hB : B = (b : Int)) (ha : a < 18446744073709551616) (hb : b < 18446744073709551616) : bits BinOp.and IntKind.u64 (a : Int) B = ((a &&& b : Nat) : Int) := by
  rw [hB]; exact bits_and_u64_nat a b ha hb
theorem key1 (x : Nat) (hx : x < 18446744073709551616) : IntKind.u64.wrap (bits BinOp.and IntKind.u64 ((x : Int) / 2) 6148914691236517205 + bits BinOp.and IntKind.u64 (x : Int) 6148914691236517205) = ((y1 x : Nat) : Int) := by
  have h1 := and_nat (x / 2) 6148914691236517205 6148914691236517205 rfl (by omega) (by omega)
  have h2 := and_nat x 6148914691236517205 6148914691236517205 rfl hx (by omega)
  have b := (y_bounds x hx).1
  unfold y1 at b
  rw [show (((x / 2 : Nat)) : Int) = (x : Int) / 2 from by omega] at h1
  rw [h1, h2, IntKind.wrap_u64]
  unfold y1
  omega
theorem key2 (x : Nat) (hx : x < 18446744073709551616) : IntKind.u64.wrap (bits BinOp.and IntKind.u64 ((y1 x : Int) / 4) 3689348814741910323 + bits BinOp.and IntKind.u64 (y1 x : Int) 3689348814741910323) = ((y2 x : Nat) : Int) := by
  have b1 := (y_bounds x hx).1
  have b := (y_bounds x hx).2.1
  have h1 := and_nat (y1 x / 4) 3689348814741910323 3689348814741910323 rfl (by omega) (by omega)
  have h2 := and_nat (y1 x) 3689348814741910323 3689348814741910323 rfl (by omega) (by omega)
  unfold y2 at b
  rw [show (((y1 x / 4 : Nat)) : Int) = (y1 x : Int) / 4 from by omega] at h1
  rw [h1, h2, IntKind.wrap_u64]
  unfold y2
  omega
theorem key3 (x : Nat) (hx : x < 18446744073709551616) : bits BinOp.and IntKind.u64 ((y2 x : Int) / 16 + (y2 x : Int)) 1085102592571150095 = ((y3 x : Nat) : Int) := by
  have b1 := (y_bounds x hx).2.1
  have h1 := and_nat (y2 x / 16 + y2 x) 1085102592571150095 1085102592571150095 rfl (by omega) (by omega)
  rw [show ((y2 x / 16 + y2 x : Nat) : Int) = (y2 x : Int) / 16 + (y2 x : Int) from by omega] at h1
  rw [h1]
  rfl
theorem key5 (Y3 : Nat) (b3 : Y3 ≤ 578721382704613384) : bits BinOp.and IntKind.i64 ((Y3 : Int) + (Y3 : Int) / 256 + ((Y3 : Int) + (Y3 : Int) / 256) / 65536 + ((Y3 : Int) + (Y3 : Int) / 256 + ((Y3 : Int) + (Y3 : Int) / 256) / 65536) / 4294967296) 127 =
    ((((Y3 / 256 + Y3) / 65536 + (Y3 / 256 + Y3)) / 4294967296 + ((Y3 / 256 + Y3) / 65536 + (Y3 / 256 + Y3))) % 128 : Nat) := by
  rw [i64_and127]
  omega

set_option maxHeartbeats 1000000 in
theorem ones_core (x Y1 Y2 Y3 R : Nat) (w : World) (hx : x < 18446744073709551616)
    (k1 : IntKind.u64.wrap (bits BinOp.and IntKind.u64 ((x : Int) / 2) 6148914691236517205 + bits BinOp.and IntKind.u64 (x : Int) 6148914691236517205) = (Y1 : Int))
    (k2 : IntKind.u64.wrap (bits BinOp.and IntKind.u64 ((Y1 : Int) / 4) 3689348814741910323 + bits BinOp.and IntKind.u64 (Y1 : Int) 3689348814741910323) = (Y2 : Int))
    (k3 : bits BinOp.and IntKind.u64 ((Y2 : Int) / 16 + (Y2 : Int)) 1085102592571150095 = (Y3 : Int)) (b2 : Y2 ≤ 4919131752989213764) (b3 : Y3 ≤ 578721382704613384)
    (hR : (((Y3 / 256 + Y3) / 65536 + (Y3 / 256 + Y3)) / 4294967296 + ((Y3 / 256 + Y3) / 65536 + (Y3 / 256 + Y3))) % 128 = R) :
    Calls Tryd.prog 41 #[.int .u64 x] w fun e w' => e = .returned (.int .i64 R) ∧ w = w' := by
  have b2' : (0 : Int) ≤ (Y2 : Int) / 16 + Y2 := by omega
  have K5 := Lib.hid (key5 Y3 b3)
  have HR := Lib.hid hR
  clear hR
  go_enter Tryd.func41, Tryd.ntmps41
  go_wp2
  go_ret
  exact ⟨ret_int (by rw [← HR.out]; exact K5.out), rfl⟩

theorem ones_any (x : Nat) (w : World) (hx : x < 18446744073709551616) :
    Calls Tryd.prog 41 #[.int .u64 x] w fun e w' => e = .returned (.int .i64 (cnt 64 x : Nat)) ∧ w = w' :=
  ones_core x (y1 x) (y2 x) (y3 x) (cnt 64 x) w hx (key1 x hx) (key2 x hx) (key3 x hx) (y_bounds x hx).2.1 (y_bounds x hx).2.2 (ones_sum x hx)
end Go.Proofs.YtggkhbjhhglbbaaDoor
