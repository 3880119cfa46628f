import Derived.Test.YtfomndilhlgikajGreatDoorP36
set_option maxHeartbeats 8000000
set_option maxRecDepth 100000
namespace Go.Proofs.YtfomndilhlgikajGreatDoor
open Go.ChangeShapes Go.WideShapes Go.ChangeAt Go.RowKit
theorem qX (s : ByteArray) (n : Int) (o1 : Option Addr) (l1 c1 : Nat) (o2 : Option Addr) (l2 c2 : Nat) (o3 : Option Addr) (l3 c3 : Nat) (w : World) :
 Calls Tryz.prog 159 #[.agg #[.int .i64 1, .string s, .int .i64 n, .slice o1 l1 c1, .slice o2 l2 c2, .slice o3 l3 c3]] w fun e w' => e = .returned (.iface 193 (.agg #[.string s])) /\ Below w.heap.size w w' := by
 have HB : Hid (Below w.heap.size w (w.alloc (.cells #[.int .i64 1, .string s, .int .i64 n, .slice o1 l1 c1, .slice o2 l2 c2, .slice o3 l3 c3] 34))) := (U4 w).alloc U0 _
 go_enter Tryz.func159, Tryz.ntmps159
 go_wp2
 go_ret
 exact ⟨rfl, HB.out⟩
theorem qQ (s : ByteArray) (n : Int) (o1 : Option Addr) (l1 c1 : Nat) (o2 : Option Addr) (l2 c2 : Nat) (o3 : Option Addr) (l3 c3 : Nat) (w : World) :
 Calls Tryz.prog 159 #[.agg #[.int .i64 2, .string s, .int .i64 n, .slice o1 l1 c1, .slice o2 l2 c2, .slice o3 l3 c3]] w fun e w' => e = .returned (.iface 194 (.agg #[.string s])) /\ Below w.heap.size w w' := by
 have HB : Hid (Below w.heap.size w (w.alloc (.cells #[.int .i64 2, .string s, .int .i64 n, .slice o1 l1 c1, .slice o2 l2 c2, .slice o3 l3 c3] 34))) := (U4 w).alloc U0 _
 go_enter Tryz.func159, Tryz.ntmps159
 go_wp2
 go_ret
 exact ⟨rfl, HB.out⟩
theorem qN (s : ByteArray) (n : Int) (o1 : Option Addr) (l1 c1 : Nat) (o2 : Option Addr) (l2 c2 : Nat) (o3 : Option Addr) (l3 c3 : Nat) (w : World) :
 Calls Tryz.prog 159 #[.agg #[.int .i64 3, .string s, .int .i64 n, .slice o1 l1 c1, .slice o2 l2 c2, .slice o3 l3 c3]] w fun e w' => e = .returned (.iface 196 (.agg #[.int .i64 n])) /\ Below w.heap.size w w' := by
 have HB : Hid (Below w.heap.size w (w.alloc (.cells #[.int .i64 3, .string s, .int .i64 n, .slice o1 l1 c1, .slice o2 l2 c2, .slice o3 l3 c3] 34))) := (U4 w).alloc U0 _
 go_enter Tryz.func159, Tryz.ntmps159
 go_wp2
 go_ret
 exact ⟨rfl, HB.out⟩
theorem ri (s : ByteArray) (n : Int) (b off c1 : Nat) (o2 : Option Addr) (l2 c2 : Nat) (o3 : Option Addr) (l3 c3 : Nat) (a0 a1 a2 a3 a4 a5 : Value) (b0 b1 b2 b3 b4 b5 : Value) (w : World) (m00 : w.cell? ⟨b, off, none⟩ = some a0) (m01 : w.cell? ⟨b, off + 1, none⟩ = some a1) (m02 : w.cell? ⟨b, off + 2, none⟩ = some a2) (m03 : w.cell? ⟨b, off + 3, none⟩ = some a3) (m04 : w.cell? ⟨b, off + 4, none⟩ = some a4) (m05 : w.cell? ⟨b, off + 5, none⟩ = some a5) (m10 : w.cell? ⟨b, off + 6, none⟩ = some b0) (m11 : w.cell? ⟨b, off + 6 + 1, none⟩ = some b1) (m12 : w.cell? ⟨b, off + 6 + 2, none⟩ = some b2) (iG : w.cell? ⟨b, off + 6 + 3, none⟩ = some b3) (m14 : w.cell? ⟨b, off + 6 + 4, none⟩ = some b4) (m15 : w.cell? ⟨b, off + 6 + 5, none⟩ = some b5) :
 Calls Tryz.prog 159 #[.agg #[.int .i64 4, .string s, .int .i64 n, .slice (some ⟨b, off, none⟩) 2 c1, .slice o2 l2 c2, .slice o3 l3 c3]] w fun e w' => e = .returned (.iface 198 (.agg #[a0, a1, a2, a3, a4, a5, b0, b1, b2, b3, b4, b5])) /\ Below w.heap.size w w' := by
 have HB : Hid (Below w.heap.size w (w.alloc (.cells #[.int .i64 4, .string s, .int .i64 n, .slice (some ⟨b, off, none⟩) 2 c1, .slice o2 l2 c2, .slice o3 l3 c3] 34))) := (U4 w).alloc U0 _
 have De : b < w.heap.size := World.block_lt_of_cell? w _ m00
 go_enter Tryz.func159, Tryz.ntmps159
 go_wp2_with fail
 go_quiet (fail)
 go_wp2
 go_ret
 exact ⟨rfl, below_drewN HB.out _⟩
theorem rN (s : ByteArray) (n : Int) (b off c1 : Nat) (o2 : Option Addr) (l2 c2 : Nat) (o3 : Option Addr) (l3 c3 : Nat) (a0 a1 a2 a3 a4 a5 : Value) (w : World) (m00 : w.cell? ⟨b, off, none⟩ = some a0) (m01 : w.cell? ⟨b, off + 1, none⟩ = some a1) (m02 : w.cell? ⟨b, off + 2, none⟩ = some a2) (m03 : w.cell? ⟨b, off + 3, none⟩ = some a3) (m04 : w.cell? ⟨b, off + 4, none⟩ = some a4) (m05 : w.cell? ⟨b, off + 5, none⟩ = some a5) :
 Calls Tryz.prog 159 #[.agg #[.int .i64 5, .string s, .int .i64 n, .slice (some ⟨b, off, none⟩) 1 c1, .slice o2 l2 c2, .slice o3 l3 c3]] w fun e w' => e = .returned (.iface 201 (.agg #[.string s, a0, a1, a2, a3, a4, a5])) /\ Below w.heap.size w w' := by
 have HB : Hid (Below w.heap.size w (w.alloc (.cells #[.int .i64 5, .string s, .int .i64 n, .slice (some ⟨b, off, none⟩) 1 c1, .slice o2 l2 c2, .slice o3 l3 c3] 34))) := (U4 w).alloc U0 _
 have De : b < w.heap.size := World.block_lt_of_cell? w _ m00
 go_enter Tryz.func159, Tryz.ntmps159
 go_wp2_with fail
 go_quiet (fail)
 go_wp2
 go_ret
 exact ⟨rfl, below_drewN HB.out _⟩
theorem qO (s : ByteArray) (n : Int) (b off c1 : Nat) (o2 : Option Addr) (l2 c2 : Nat) (o3 : Option Addr) (l3 c3 : Nat) (a0 a1 a2 a3 a4 a5 : Value) (w : World) (m00 : w.cell? ⟨b, off, none⟩ = some a0) (m01 : w.cell? ⟨b, off + 1, none⟩ = some a1) (m02 : w.cell? ⟨b, off + 2, none⟩ = some a2) (m03 : w.cell? ⟨b, off + 3, none⟩ = some a3) (m04 : w.cell? ⟨b, off + 4, none⟩ = some a4) (m05 : w.cell? ⟨b, off + 5, none⟩ = some a5) :
 Calls Tryz.prog 159 #[.agg #[.int .i64 6, .string s, .int .i64 n, .slice (some ⟨b, off, none⟩) 1 c1, .slice o2 l2 c2, .slice o3 l3 c3]] w fun e w' => e = .returned (.iface 203 (.agg #[.slice o2 l2 c2, a0, a1, a2, a3, a4, a5])) /\ Below w.heap.size w w' := by
 have HB : Hid (Below w.heap.size w (w.alloc (.cells #[.int .i64 6, .string s, .int .i64 n, .slice (some ⟨b, off, none⟩) 1 c1, .slice o2 l2 c2, .slice o3 l3 c3] 34))) := (U4 w).alloc U0 _
 have De : b < w.heap.size := World.block_lt_of_cell? w _ m00
 go_enter Tryz.func159, Tryz.ntmps159
 go_wp2_with fail
 go_quiet (fail)
 go_wp2
 go_ret
 exact ⟨rfl, below_drewN HB.out _⟩
theorem rf (s : ByteArray) (n : Int) (b off c1 : Nat) (o2 : Option Addr) (l2 c2 : Nat) (o3 : Option Addr) (l3 c3 : Nat) (a0 a1 a2 a3 a4 a5 : Value) (w : World) (m00 : w.cell? ⟨b, off, none⟩ = some a0) (m01 : w.cell? ⟨b, off + 1, none⟩ = some a1) (m02 : w.cell? ⟨b, off + 2, none⟩ = some a2) (m03 : w.cell? ⟨b, off + 3, none⟩ = some a3) (m04 : w.cell? ⟨b, off + 4, none⟩ = some a4) (m05 : w.cell? ⟨b, off + 5, none⟩ = some a5) :
 Calls Tryz.prog 159 #[.agg #[.int .i64 7, .string s, .int .i64 n, .slice (some ⟨b, off, none⟩) 1 c1, .slice o2 l2 c2, .slice o3 l3 c3]] w fun e w' => e = .returned (.iface 205 (.agg #[a0, a1, a2, a3, a4, a5, .slice o3 l3 c3])) /\ Below w.heap.size w w' := by
 have HB : Hid (Below w.heap.size w (w.alloc (.cells #[.int .i64 7, .string s, .int .i64 n, .slice (some ⟨b, off, none⟩) 1 c1, .slice o2 l2 c2, .slice o3 l3 c3] 34))) := (U4 w).alloc U0 _
 have De : b < w.heap.size := World.block_lt_of_cell? w _ m00
 go_enter Tryz.func159, Tryz.ntmps159
 go_wp2_with fail
 go_quiet (fail)
 go_wp2
 go_ret
 exact ⟨rfl, below_drewN HB.out _⟩
theorem rb (s : ByteArray) (n : Int) (b off c1 : Nat) (o2 : Option Addr) (l2 c2 : Nat) (o3 : Option Addr) (l3 c3 : Nat) (a0 a1 a2 a3 a4 a5 : Value) (b0 b1 b2 b3 b4 b5 : Value) (d0 d1 d2 d3 d4 d5 : Value) (w : World) (m00 : w.cell? ⟨b, off, none⟩ = some a0) (m01 : w.cell? ⟨b, off + 1, none⟩ = some a1) (m02 : w.cell? ⟨b, off + 2, none⟩ = some a2) (m03 : w.cell? ⟨b, off + 3, none⟩ = some a3) (m04 : w.cell? ⟨b, off + 4, none⟩ = some a4) (m05 : w.cell? ⟨b, off + 5, none⟩ = some a5) (m10 : w.cell? ⟨b, off + 6, none⟩ = some b0) (m11 : w.cell? ⟨b, off + 6 + 1, none⟩ = some b1) (m12 : w.cell? ⟨b, off + 6 + 2, none⟩ = some b2) (iG : w.cell? ⟨b, off + 6 + 3, none⟩ = some b3) (m14 : w.cell? ⟨b, off + 6 + 4, none⟩ = some b4) (m15 : w.cell? ⟨b, off + 6 + 5, none⟩ = some b5) (m20 : w.cell? ⟨b, off + 12, none⟩ = some d0) (m21 : w.cell? ⟨b, off + 12 + 1, none⟩ = some d1) (m22 : w.cell? ⟨b, off + 12 + 2, none⟩ = some d2) (tg : w.cell? ⟨b, off + 12 + 3, none⟩ = some d3) (m24 : w.cell? ⟨b, off + 12 + 4, none⟩ = some d4) (m25 : w.cell? ⟨b, off + 12 + 5, none⟩ = some d5) :
 Calls Tryz.prog 159 #[.agg #[.int .i64 8, .string s, .int .i64 n, .slice (some ⟨b, off, none⟩) 3 c1, .slice o2 l2 c2, .slice o3 l3 c3]] w fun e w' => e = .returned (.iface 208 (.agg #[a0, a1, a2, a3, a4, a5, b0, b1, b2, b3, b4, b5, d0, d1, d2, d3, d4, d5])) /\ Below w.heap.size w w' := by
 have HB : Hid (Below w.heap.size w (w.alloc (.cells #[.int .i64 8, .string s, .int .i64 n, .slice (some ⟨b, off, none⟩) 3 c1, .slice o2 l2 c2, .slice o3 l3 c3] 34))) := (U4 w).alloc U0 _
 have De : b < w.heap.size := World.block_lt_of_cell? w _ m00
 go_enter Tryz.func159, Tryz.ntmps159
 go_wp2_with fail
 go_quiet (fail)
 go_wp2
 go_ret
 exact ⟨rfl, below_drewN HB.out _⟩
theorem rI (s : ByteArray) (n : Int) (b off c1 : Nat) (o2 : Option Addr) (l2 c2 : Nat) (o3 : Option Addr) (l3 c3 : Nat) (a0 a1 a2 a3 a4 a5 : Value) (b0 b1 b2 b3 b4 b5 : Value) (w : World) (m00 : w.cell? ⟨b, off, none⟩ = some a0) (m01 : w.cell? ⟨b, off + 1, none⟩ = some a1) (m02 : w.cell? ⟨b, off + 2, none⟩ = some a2) (m03 : w.cell? ⟨b, off + 3, none⟩ = some a3) (m04 : w.cell? ⟨b, off + 4, none⟩ = some a4) (m05 : w.cell? ⟨b, off + 5, none⟩ = some a5) (m10 : w.cell? ⟨b, off + 6, none⟩ = some b0) (m11 : w.cell? ⟨b, off + 6 + 1, none⟩ = some b1) (m12 : w.cell? ⟨b, off + 6 + 2, none⟩ = some b2) (iG : w.cell? ⟨b, off + 6 + 3, none⟩ = some b3) (m14 : w.cell? ⟨b, off + 6 + 4, none⟩ = some b4) (m15 : w.cell? ⟨b, off + 6 + 5, none⟩ = some b5) :
 Calls Tryz.prog 159 #[.agg #[.int .i64 9, .string s, .int .i64 n, .slice (some ⟨b, off, none⟩) 2 c1, .slice o2 l2 c2, .slice o3 l3 c3]] w fun e w' => e = .returned (.iface 210 (.agg #[.string s, a0, a1, a2, a3, a4, a5, b0, b1, b2, b3, b4, b5])) /\ Below w.heap.size w w' := by
 have HB : Hid (Below w.heap.size w (w.alloc (.cells #[.int .i64 9, .string s, .int .i64 n, .slice (some ⟨b, off, none⟩) 2 c1, .slice o2 l2 c2, .slice o3 l3 c3] 34))) := (U4 w).alloc U0 _
 have De : b < w.heap.size := World.block_lt_of_cell? w _ m00
 go_enter Tryz.func159, Tryz.ntmps159
 go_wp2_with fail
 go_quiet (fail)
 go_wp2
 go_ret
 exact ⟨rfl, below_drewN HB.out _⟩
theorem At (s : ByteArray) (n : Int) (o1 : Option Addr) (l1 c1 : Nat) (o2 : Option Addr) (l2 c2 : Nat) (o3 : Option Addr) (l3 c3 : Nat) (hl : l1 ≠ 2) (hm : l1 <= maxLen) (w : World) :
 Calls Tryz.prog 159 #[.agg #[.int .i64 4, .string s, .int .i64 n, .slice o1 l1 c1, .slice o2 l2 c2, .slice o3 l3 c3]] w fun e w' => e = .returned .nilIface /\ Below w.heap.size w w' := by
 have HB : Hid (Below w.heap.size w (w.alloc (.cells #[.int .i64 4, .string s, .int .i64 n, .slice o1 l1 c1, .slice o2 l2 c2, .slice o3 l3 c3] 34))) := (U4 w).alloc U0 _
 have jo : l1 <= 9223372036854775807 := hm
 have h2 : ((l1 : Int) == 2) = false := by simp; omega
 have h3 : (l1 == 2) = false := by simpa using hl
 clear hl hm
 go_enter Tryz.func159, Tryz.ntmps159
 go_wp2
 go_ret
 exact ⟨rfl, HB.out⟩
theorem zK (s : ByteArray) (n : Int) (o1 : Option Addr) (l1 c1 : Nat) (o2 : Option Addr) (l2 c2 : Nat) (o3 : Option Addr) (l3 c3 : Nat) (hl : l1 ≠ 1) (hm : l1 <= maxLen) (w : World) :
 Calls Tryz.prog 159 #[.agg #[.int .i64 5, .string s, .int .i64 n, .slice o1 l1 c1, .slice o2 l2 c2, .slice o3 l3 c3]] w fun e w' => e = .returned .nilIface /\ Below w.heap.size w w' := by
 have HB : Hid (Below w.heap.size w (w.alloc (.cells #[.int .i64 5, .string s, .int .i64 n, .slice o1 l1 c1, .slice o2 l2 c2, .slice o3 l3 c3] 34))) := (U4 w).alloc U0 _
 have jo : l1 <= 9223372036854775807 := hm
 have h2 : ((l1 : Int) == 1) = false := by simp; omega
 have h3 : (l1 == 1) = false := by simpa using hl
 clear hl hm
 go_enter Tryz.func159, Tryz.ntmps159
 go_wp2
 go_ret
 exact ⟨rfl, HB.out⟩
theorem Bb (s : ByteArray) (n : Int) (o1 : Option Addr) (l1 c1 : Nat) (o2 : Option Addr) (l2 c2 : Nat) (o3 : Option Addr) (l3 c3 : Nat) (hl : l1 ≠ 1) (hm : l1 <= maxLen) (w : World) :
 Calls Tryz.prog 159 #[.agg #[.int .i64 6, .string s, .int .i64 n, .slice o1 l1 c1, .slice o2 l2 c2, .slice o3 l3 c3]] w fun e w' => e = .returned .nilIface /\ Below w.heap.size w w' := by
 have HB : Hid (Below w.heap.size w (w.alloc (.cells #[.int .i64 6, .string s, .int .i64 n, .slice o1 l1 c1, .slice o2 l2 c2, .slice o3 l3 c3] 34))) := (U4 w).alloc U0 _
 have jo : l1 <= 9223372036854775807 := hm
 have h2 : ((l1 : Int) == 1) = false := by simp; omega
 have h3 : (l1 == 1) = false := by simpa using hl
 clear hl hm
 go_enter Tryz.func159, Tryz.ntmps159
 go_wp2
 go_ret
 exact ⟨rfl, HB.out⟩
theorem Az (s : ByteArray) (n : Int) (o1 : Option Addr) (l1 c1 : Nat) (o2 : Option Addr) (l2 c2 : Nat) (o3 : Option Addr) (l3 c3 : Nat) (hl : l1 ≠ 1) (hm : l1 <= maxLen) (w : World) :
 Calls Tryz.prog 159 #[.agg #[.int .i64 7, .string s, .int .i64 n, .slice o1 l1 c1, .slice o2 l2 c2, .slice o3 l3 c3]] w fun e w' => e = .returned .nilIface /\ Below w.heap.size w w' := by
 have HB : Hid (Below w.heap.size w (w.alloc (.cells #[.int .i64 7, .string s, .int .i64 n, .slice o1 l1 c1, .slice o2 l2 c2, .slice o3 l3 c3] 34))) := (U4 w).alloc U0 _
 have jo : l1 <= 9223372036854775807 := hm
 have h2 : ((l1 : Int) == 1) = false := by simp; omega
 have h3 : (l1 == 1) = false := by simpa using hl
 clear hl hm
 go_enter Tryz.func159, Tryz.ntmps159
 go_wp2
 go_ret
 exact ⟨rfl, HB.out⟩
theorem AA (s : ByteArray) (n : Int) (o1 : Option Addr) (l1 c1 : Nat) (o2 : Option Addr) (l2 c2 : Nat) (o3 : Option Addr) (l3 c3 : Nat) (hl : l1 ≠ 3) (hm : l1 <= maxLen) (w : World) :
 Calls Tryz.prog 159 #[.agg #[.int .i64 8, .string s, .int .i64 n, .slice o1 l1 c1, .slice o2 l2 c2, .slice o3 l3 c3]] w fun e w' => e = .returned .nilIface /\ Below w.heap.size w w' := by
 have HB : Hid (Below w.heap.size w (w.alloc (.cells #[.int .i64 8, .string s, .int .i64 n, .slice o1 l1 c1, .slice o2 l2 c2, .slice o3 l3 c3] 34))) := (U4 w).alloc U0 _
 have jo : l1 <= 9223372036854775807 := hm
 have h2 : ((l1 : Int) == 3) = false := by simp; omega
 have h3 : (l1 == 3) = false := by simpa using hl
 clear hl hm
 go_enter Tryz.func159, Tryz.ntmps159
 go_wp2
 go_ret
 exact ⟨rfl, HB.out⟩
theorem AZ (s : ByteArray) (n : Int) (o1 : Option Addr) (l1 c1 : Nat) (o2 : Option Addr) (l2 c2 : Nat) (o3 : Option Addr) (l3 c3 : Nat) (hl : l1 ≠ 2) (hm : l1 <= maxLen) (w : World) :
 Calls Tryz.prog 159 #[.agg #[.int .i64 9, .string s, .int .i64 n, .slice o1 l1 c1, .slice o2 l2 c2, .slice o3 l3 c3]] w fun e w' => e = .returned .nilIface /\ Below w.heap.size w w' := by
 have HB : Hid (Below w.heap.size w (w.alloc (.cells #[.int .i64 9, .string s, .int .i64 n, .slice o1 l1 c1, .slice o2 l2 c2, .slice o3 l3 c3] 34))) := (U4 w).alloc U0 _
 have jo : l1 <= 9223372036854775807 := hm
 have h2 : ((l1 : Int) == 2) = false := by simp; omega
 have h3 : (l1 == 2) = false := by simpa using hl
 clear hl hm
 go_enter Tryz.func159, Tryz.ntmps159
 go_wp2
 go_ret
 exact ⟨rfl, HB.out⟩
theorem xX (k : Int) (s : ByteArray) (n : Int) (o1 : Option Addr) (l1 c1 : Nat) (o2 : Option Addr) (l2 c2 : Nat) (o3 : Option Addr) (l3 c3 : Nat) (hk : ¬ (1 <= k /\ k <= 9)) (hm : l1 <= maxLen) (w : World) :
 Calls Tryz.prog 159 #[.agg #[.int .i64 k, .string s, .int .i64 n, .slice o1 l1 c1, .slice o2 l2 c2, .slice o3 l3 c3]] w fun e w' => e = .returned .nilIface /\ Below w.heap.size w w' := by
 have HB : Hid (Below w.heap.size w (w.alloc (.cells #[.int .i64 k, .string s, .int .i64 n, .slice o1 l1 c1, .slice o2 l2 c2, .slice o3 l3 c3] 34))) := (U4 w).alloc U0 _
 have jo : l1 <= 9223372036854775807 := hm
 have h1 : (k == 1) = false := by simp; omega
 have h2 : (k == 2) = false := by simp; omega
 have h3 : (k == 3) = false := by simp; omega
 have h4 : (k == 4) = false := by simp; omega
 have h5 : (k == 5) = false := by simp; omega
 have h6 : (k == 6) = false := by simp; omega
 have h7 : (k == 7) = false := by simp; omega
 have h8 : (k == 8) = false := by simp; omega
 have h9 : (k == 9) = false := by simp; omega
 clear hk hm
 go_enter Tryz.func159, Tryz.ntmps159
 go_wp2
 go_ret
 exact ⟨rfl, HB.out⟩
theorem eU (k : Int) (s : ByteArray) (n : Int) (o1 : Option Addr) (l1 c1 : Nat) (o2 : Option Addr) (l2 c2 : Nat) (o3 : Option Addr) (l3 c3 : Nat) (w : World) (hc : ∀ w, Calls Tryz.prog 159 #[.agg #[.int .i64 k, .string s, .int .i64 n, .slice o1 l1 c1, .slice o2 l2 c2, .slice o3 l3 c3]] w fun e w' => e = .returned .nilIface /\ Below w.heap.size w w') :
 Calls Tryz.prog 112 #[.agg #[.int .i64 k, .string s, .int .i64 n, .slice o1 l1 c1, .slice o2 l2 c2, .slice o3 l3 c3]] w fun e w' => e = .returned .nilIface /\ Below w.heap.size w w' := by
 have HC := aa hc
 clear hc
 have aq : Hid (Below w.heap.size w (w.alloc (.cells #[.int .i64 k, .string s, .int .i64 n, .slice o1 l1 c1, .slice o2 l2 c2, .slice o3 l3 c3] 34))) := (U4 w).alloc U0 _
 go_enter Tryz.func112, Tryz.ntmps112
 go_wp2_with fail
 refine (HC.out _).mono ?_
 rintro e w1 ⟨rfl, hb⟩
 have aR := aa (aq.out.trans (hb.mono aq.out.size))
 clear hb
 go_wp2_with fail
 go_quiet (fail)
 go_wp2
 go_ret
 exact ⟨rfl, below_drewN aR.out _⟩
end Go.Proofs.YtfomndilhlgikajGreatDoor
