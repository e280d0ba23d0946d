/-
  'utf8.word' of a slice of bytes: the number that its first eight bytes spell.
-/
import Derived.Test.YtcmillbjpplfjaaGreatDoorProg
import Derived.Lib.Endian
import Derived.Lib.EndianBits
import Derived.Lib.ValidAsc
import Derived.WalkKit
import Derived.RegionTactic
import Derived.Deep.Draws
import Derived.BigQuiet
import Derived.Lib.Hide
namespace Go.Proofs.YtcmillbjpplfjaaGreatDoor
open Go.RowKit

/-- What lies at a place: bytes. -/
def BytesAt (w : World) (g o : Nat) (t : ByteArray) : Prop := ∀ j, j < t.size → w.cell? ⟨g, o + j, none⟩ = some (.int .u8 ((t.get! j).toNat : Nat))
set_option maxHeartbeats 8000000 in
set_option maxRecDepth 100000 in
theorem word8_any (t : ByteArray) (g o n c : Nat) (w : World) (h8 : 8 ≤ t.size) (hn : n = t.size) (hb : BytesAt w g o t) :
    Calls Tryz.prog 67 #[.slice (some ⟨g, o, none⟩) n c] w fun e w' => e = .returned (.int .u64 (Lib.leNat [t.get! 0, t.get! 1, t.get! 2, t.get! 3, t.get! 4, t.get! 5, t.get! 6, t.get! 7] : Nat)) ∧ ∃ q, w' = w.drewN q := by
  have c0 := hb 0 (by omega)
  have c1 := hb 1 (by omega)
  have c2 := hb 2 (by omega)
  have c3 := hb 3 (by omega)
  have c4 := hb 4 (by omega)
  have c5 := hb 5 (by omega)
  have c6 := hb 6 (by omega)
  have c7 := hb 7 (by omega)
  rw [Nat.add_zero] at c0
  have hn8 : (8 : Int) ≤ (n : Int) := by omega
  clear hb hn h8
  generalize t.get! 0 = x0 at *
  generalize t.get! 1 = x1 at *
  generalize t.get! 2 = x2 at *
  generalize t.get! 3 = x3 at *
  generalize t.get! 4 = x4 at *
  generalize t.get! 5 = x5 at *
  generalize t.get! 6 = x6 at *
  generalize t.get! 7 = x7 at *
  have h0 : x0.toNat < 256 := x0.toNat_lt
  have h1 : x1.toNat < 256 := x1.toNat_lt
  have h2 : x2.toNat < 256 := x2.toNat_lt
  have h3 : x3.toNat < 256 := x3.toNat_lt
  have h4 : x4.toNat < 256 := x4.toNat_lt
  have h5 : x5.toNat < 256 := x5.toNat_lt
  have h6 : x6.toNat < 256 := x6.toNat_lt
  have h7 : x7.toNat < 256 := x7.toNat_lt
  have hv : ((Lib.leNat [x0, x1, x2, x3, x4, x5, x6, x7] : Nat) : Int) = (x0.toNat : Int) + (x1.toNat : Int) * 256 + (x2.toNat : Int) * 65536 + (x3.toNat : Int) * 16777216 + (x4.toNat : Int) * 4294967296 + (x5.toNat : Int) * 1099511627776 + (x6.toNat : Int) * 281474976710656 + (x7.toNat : Int) * 72057594037927936 := by
    simp only [Lib.leNat]
    push_cast
    omega
  have q0 : (0 : Int) < (n : Int) := by omega
  have q1 : (1 : Int) < (n : Int) := by omega
  have q2 : (2 : Int) < (n : Int) := by omega
  have q3 : (3 : Int) < (n : Int) := by omega
  have q4 : (4 : Int) < (n : Int) := by omega
  have q5 : (5 : Int) < (n : Int) := by omega
  have q6 : (6 : Int) < (n : Int) := by omega
  have q7 : (7 : Int) < (n : Int) := by omega
  go_enter Tryz.func67, Tryz.ntmps67
  go_wp2
  go_quiet (fail)
  go_wp2
  go_ret
  refine ⟨?_, _, rfl⟩
  simp (disch := omega) only [u64_wrap_id, u64_or8, u64_or16, u64_or24, u64_or32, u64_or40, u64_or48, u64_or56]
  rw [hv]
  rfl
end Go.Proofs.YtcmillbjpplfjaaGreatDoor
