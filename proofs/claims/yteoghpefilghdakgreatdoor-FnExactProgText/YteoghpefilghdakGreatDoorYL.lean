/- The program's formOk, a kind at a time. -/
import Derived.Test.YteoghpefilghdakGreatDoorYK
namespace Go.Proofs.YteoghpefilghdakGreatDoor
open Go.ChangeShapes Go.WideShapes Go.ChangeAt Go.RowKit

theorem filled2 {R : Tr → List Value → Prop} {y z : Tr} {a0 a1 a2 a3 a4 a5 b0 b1 b2 b3 b4 b5 : Value} (h0 : R y [a0, a1, a2, a3, a4, a5]) (h1 : R z [b0, b1, b2, b3, b4, b5]) : Filled R 6 #[a0, a1, a2, a3, a4, a5, b0, b1, b2, b3, b4, b5] [y, z] := by
  intro k x hx
  match k, hx with
  | 0, hx =>
    have e : y = x := by simpa using hx
    subst e
    refine ⟨_, rfl, fun j u hu => ?_, h0⟩
    match j, hu with
    | 0, hu | 1, hu | 2, hu | 3, hu | 4, hu | 5, hu => exact hu
    | j + 6, hu => simp at hu
  | 1, hx =>
    have e : z = x := by simpa using hx
    subst e
    refine ⟨_, rfl, fun j u hu => ?_, h1⟩
    match j, hu with
    | 0, hu | 1, hu | 2, hu | 3, hu | 4, hu | 5, hu => exact hu
    | j + 6, hu => simp at hu
  | k + 2, hx => simp at hx
theorem filled3 {R : Tr → List Value → Prop} {y z q : Tr} {a0 a1 a2 a3 a4 a5 b0 b1 b2 b3 b4 b5 d0 d1 d2 d3 d4 d5 : Value} (h0 : R y [a0, a1, a2, a3, a4, a5]) (h1 : R z [b0, b1, b2, b3, b4, b5]) (h2 : R q [d0, d1, d2, d3, d4, d5]) : Filled R 6 #[a0, a1, a2, a3, a4, a5, b0, b1, b2, b3, b4, b5, d0, d1, d2, d3, d4, d5] [y, z, q] := by
  intro k x hx
  match k, hx with
  | 0, hx =>
    have e : y = x := by simpa using hx
    subst e
    refine ⟨_, rfl, fun j u hu => ?_, h0⟩
    match j, hu with
    | 0, hu | 1, hu | 2, hu | 3, hu | 4, hu | 5, hu => exact hu
    | j + 6, hu => simp at hu
  | 1, hx =>
    have e : z = x := by simpa using hx
    subst e
    refine ⟨_, rfl, fun j u hu => ?_, h1⟩
    match j, hu with
    | 0, hu | 1, hu | 2, hu | 3, hu | 4, hu | 5, hu => exact hu
    | j + 6, hu => simp at hu
  | 2, hx =>
    have e : q = x := by simpa using hx
    subst e
    refine ⟨_, rfl, fun j u hu => ?_, h2⟩
    match j, hu with
    | 0, hu | 1, hu | 2, hu | 3, hu | 4, hu | 5, hu => exact hu
    | j + 6, hu => simp at hu
  | k + 3, hx => simp at hx
theorem ta_nil_1 (w : World) : (Instr.typeAssert .nilIface 128 157 true).run Tryz.prog w = .ok (.tuple #[.agg #[.string ⟨#[]⟩], .bool false]) w := by kernel_rfl
theorem ta_1_1 (v : Value) (w : World) : (Instr.typeAssert (.iface 157 v) 128 157 true).run Tryz.prog w = .ok (.tuple #[v, .bool true]) w := by kernel_rfl
theorem ta_2_1 (v : Value) (w : World) : (Instr.typeAssert (.iface 158 v) 128 157 true).run Tryz.prog w = .ok (.tuple #[.agg #[.string ⟨#[]⟩], .bool false]) w := by kernel_rfl
theorem ta_3_1 (v : Value) (w : World) : (Instr.typeAssert (.iface 160 v) 128 157 true).run Tryz.prog w = .ok (.tuple #[.agg #[.string ⟨#[]⟩], .bool false]) w := by kernel_rfl
theorem ta_4_1 (v : Value) (w : World) : (Instr.typeAssert (.iface 162 v) 128 157 true).run Tryz.prog w = .ok (.tuple #[.agg #[.string ⟨#[]⟩], .bool false]) w := by kernel_rfl
theorem ta_5_1 (v : Value) (w : World) : (Instr.typeAssert (.iface 165 v) 128 157 true).run Tryz.prog w = .ok (.tuple #[.agg #[.string ⟨#[]⟩], .bool false]) w := by kernel_rfl
theorem ta_6_1 (v : Value) (w : World) : (Instr.typeAssert (.iface 167 v) 128 157 true).run Tryz.prog w = .ok (.tuple #[.agg #[.string ⟨#[]⟩], .bool false]) w := by kernel_rfl
theorem ta_7_1 (v : Value) (w : World) : (Instr.typeAssert (.iface 169 v) 128 157 true).run Tryz.prog w = .ok (.tuple #[.agg #[.string ⟨#[]⟩], .bool false]) w := by kernel_rfl
theorem ta_8_1 (v : Value) (w : World) : (Instr.typeAssert (.iface 172 v) 128 157 true).run Tryz.prog w = .ok (.tuple #[.agg #[.string ⟨#[]⟩], .bool false]) w := by kernel_rfl
theorem ta_9_1 (v : Value) (w : World) : (Instr.typeAssert (.iface 174 v) 128 157 true).run Tryz.prog w = .ok (.tuple #[.agg #[.string ⟨#[]⟩], .bool false]) w := by kernel_rfl
theorem ta_nil_2 (w : World) : (Instr.typeAssert .nilIface 128 158 true).run Tryz.prog w = .ok (.tuple #[.agg #[.string ⟨#[]⟩], .bool false]) w := by kernel_rfl
theorem ta_2_2 (v : Value) (w : World) : (Instr.typeAssert (.iface 158 v) 128 158 true).run Tryz.prog w = .ok (.tuple #[v, .bool true]) w := by kernel_rfl
theorem ta_3_2 (v : Value) (w : World) : (Instr.typeAssert (.iface 160 v) 128 158 true).run Tryz.prog w = .ok (.tuple #[.agg #[.string ⟨#[]⟩], .bool false]) w := by kernel_rfl
theorem ta_4_2 (v : Value) (w : World) : (Instr.typeAssert (.iface 162 v) 128 158 true).run Tryz.prog w = .ok (.tuple #[.agg #[.string ⟨#[]⟩], .bool false]) w := by kernel_rfl
theorem ta_5_2 (v : Value) (w : World) : (Instr.typeAssert (.iface 165 v) 128 158 true).run Tryz.prog w = .ok (.tuple #[.agg #[.string ⟨#[]⟩], .bool false]) w := by kernel_rfl
theorem ta_6_2 (v : Value) (w : World) : (Instr.typeAssert (.iface 167 v) 128 158 true).run Tryz.prog w = .ok (.tuple #[.agg #[.string ⟨#[]⟩], .bool false]) w := by kernel_rfl
theorem ta_7_2 (v : Value) (w : World) : (Instr.typeAssert (.iface 169 v) 128 158 true).run Tryz.prog w = .ok (.tuple #[.agg #[.string ⟨#[]⟩], .bool false]) w := by kernel_rfl
theorem ta_8_2 (v : Value) (w : World) : (Instr.typeAssert (.iface 172 v) 128 158 true).run Tryz.prog w = .ok (.tuple #[.agg #[.string ⟨#[]⟩], .bool false]) w := by kernel_rfl
theorem ta_9_2 (v : Value) (w : World) : (Instr.typeAssert (.iface 174 v) 128 158 true).run Tryz.prog w = .ok (.tuple #[.agg #[.string ⟨#[]⟩], .bool false]) w := by kernel_rfl
theorem ta_nil_3 (w : World) : (Instr.typeAssert .nilIface 128 160 true).run Tryz.prog w = .ok (.tuple #[.agg #[.int .i64 0], .bool false]) w := by kernel_rfl
theorem ta_3_3 (v : Value) (w : World) : (Instr.typeAssert (.iface 160 v) 128 160 true).run Tryz.prog w = .ok (.tuple #[v, .bool true]) w := by kernel_rfl
theorem ta_4_3 (v : Value) (w : World) : (Instr.typeAssert (.iface 162 v) 128 160 true).run Tryz.prog w = .ok (.tuple #[.agg #[.int .i64 0], .bool false]) w := by kernel_rfl
theorem ta_5_3 (v : Value) (w : World) : (Instr.typeAssert (.iface 165 v) 128 160 true).run Tryz.prog w = .ok (.tuple #[.agg #[.int .i64 0], .bool false]) w := by kernel_rfl
theorem ta_6_3 (v : Value) (w : World) : (Instr.typeAssert (.iface 167 v) 128 160 true).run Tryz.prog w = .ok (.tuple #[.agg #[.int .i64 0], .bool false]) w := by kernel_rfl
theorem ta_7_3 (v : Value) (w : World) : (Instr.typeAssert (.iface 169 v) 128 160 true).run Tryz.prog w = .ok (.tuple #[.agg #[.int .i64 0], .bool false]) w := by kernel_rfl
theorem ta_8_3 (v : Value) (w : World) : (Instr.typeAssert (.iface 172 v) 128 160 true).run Tryz.prog w = .ok (.tuple #[.agg #[.int .i64 0], .bool false]) w := by kernel_rfl
theorem ta_9_3 (v : Value) (w : World) : (Instr.typeAssert (.iface 174 v) 128 160 true).run Tryz.prog w = .ok (.tuple #[.agg #[.int .i64 0], .bool false]) w := by kernel_rfl
theorem ta_nil_4 (w : World) : (Instr.typeAssert .nilIface 128 162 true).run Tryz.prog w = .ok (.tuple #[.agg #[.int .i64 0, .string ⟨#[]⟩, .int .i64 0, .slice none 0 0, .slice none 0 0, .slice none 0 0, .int .i64 0, .string ⟨#[]⟩, .int .i64 0, .slice none 0 0, .slice none 0 0, .slice none 0 0], .bool false]) w := by kernel_rfl
theorem ta_4_4 (v : Value) (w : World) : (Instr.typeAssert (.iface 162 v) 128 162 true).run Tryz.prog w = .ok (.tuple #[v, .bool true]) w := by kernel_rfl
theorem ta_5_4 (v : Value) (w : World) : (Instr.typeAssert (.iface 165 v) 128 162 true).run Tryz.prog w = .ok (.tuple #[.agg #[.int .i64 0, .string ⟨#[]⟩, .int .i64 0, .slice none 0 0, .slice none 0 0, .slice none 0 0, .int .i64 0, .string ⟨#[]⟩, .int .i64 0, .slice none 0 0, .slice none 0 0, .slice none 0 0], .bool false]) w := by kernel_rfl
theorem ta_6_4 (v : Value) (w : World) : (Instr.typeAssert (.iface 167 v) 128 162 true).run Tryz.prog w = .ok (.tuple #[.agg #[.int .i64 0, .string ⟨#[]⟩, .int .i64 0, .slice none 0 0, .slice none 0 0, .slice none 0 0, .int .i64 0, .string ⟨#[]⟩, .int .i64 0, .slice none 0 0, .slice none 0 0, .slice none 0 0], .bool false]) w := by kernel_rfl
theorem ta_7_4 (v : Value) (w : World) : (Instr.typeAssert (.iface 169 v) 128 162 true).run Tryz.prog w = .ok (.tuple #[.agg #[.int .i64 0, .string ⟨#[]⟩, .int .i64 0, .slice none 0 0, .slice none 0 0, .slice none 0 0, .int .i64 0, .string ⟨#[]⟩, .int .i64 0, .slice none 0 0, .slice none 0 0, .slice none 0 0], .bool false]) w := by kernel_rfl
theorem ta_8_4 (v : Value) (w : World) : (Instr.typeAssert (.iface 172 v) 128 162 true).run Tryz.prog w = .ok (.tuple #[.agg #[.int .i64 0, .string ⟨#[]⟩, .int .i64 0, .slice none 0 0, .slice none 0 0, .slice none 0 0, .int .i64 0, .string ⟨#[]⟩, .int .i64 0, .slice none 0 0, .slice none 0 0, .slice none 0 0], .bool false]) w := by kernel_rfl
theorem ta_9_4 (v : Value) (w : World) : (Instr.typeAssert (.iface 174 v) 128 162 true).run Tryz.prog w = .ok (.tuple #[.agg #[.int .i64 0, .string ⟨#[]⟩, .int .i64 0, .slice none 0 0, .slice none 0 0, .slice none 0 0, .int .i64 0, .string ⟨#[]⟩, .int .i64 0, .slice none 0 0, .slice none 0 0, .slice none 0 0], .bool false]) w := by kernel_rfl
theorem ta_nil_5 (w : World) : (Instr.typeAssert .nilIface 128 165 true).run Tryz.prog w = .ok (.tuple #[.agg #[.string ⟨#[]⟩, .int .i64 0, .string ⟨#[]⟩, .int .i64 0, .slice none 0 0, .slice none 0 0, .slice none 0 0], .bool false]) w := by kernel_rfl
theorem ta_5_5 (v : Value) (w : World) : (Instr.typeAssert (.iface 165 v) 128 165 true).run Tryz.prog w = .ok (.tuple #[v, .bool true]) w := by kernel_rfl
theorem ta_6_5 (v : Value) (w : World) : (Instr.typeAssert (.iface 167 v) 128 165 true).run Tryz.prog w = .ok (.tuple #[.agg #[.string ⟨#[]⟩, .int .i64 0, .string ⟨#[]⟩, .int .i64 0, .slice none 0 0, .slice none 0 0, .slice none 0 0], .bool false]) w := by kernel_rfl
theorem ta_7_5 (v : Value) (w : World) : (Instr.typeAssert (.iface 169 v) 128 165 true).run Tryz.prog w = .ok (.tuple #[.agg #[.string ⟨#[]⟩, .int .i64 0, .string ⟨#[]⟩, .int .i64 0, .slice none 0 0, .slice none 0 0, .slice none 0 0], .bool false]) w := by kernel_rfl
theorem ta_8_5 (v : Value) (w : World) : (Instr.typeAssert (.iface 172 v) 128 165 true).run Tryz.prog w = .ok (.tuple #[.agg #[.string ⟨#[]⟩, .int .i64 0, .string ⟨#[]⟩, .int .i64 0, .slice none 0 0, .slice none 0 0, .slice none 0 0], .bool false]) w := by kernel_rfl
theorem ta_9_5 (v : Value) (w : World) : (Instr.typeAssert (.iface 174 v) 128 165 true).run Tryz.prog w = .ok (.tuple #[.agg #[.string ⟨#[]⟩, .int .i64 0, .string ⟨#[]⟩, .int .i64 0, .slice none 0 0, .slice none 0 0, .slice none 0 0], .bool false]) w := by kernel_rfl
theorem ta_nil_6 (w : World) : (Instr.typeAssert .nilIface 128 167 true).run Tryz.prog w = .ok (.tuple #[.agg #[.slice none 0 0, .int .i64 0, .string ⟨#[]⟩, .int .i64 0, .slice none 0 0, .slice none 0 0, .slice none 0 0], .bool false]) w := by kernel_rfl
theorem ta_6_6 (v : Value) (w : World) : (Instr.typeAssert (.iface 167 v) 128 167 true).run Tryz.prog w = .ok (.tuple #[v, .bool true]) w := by kernel_rfl
theorem ta_7_6 (v : Value) (w : World) : (Instr.typeAssert (.iface 169 v) 128 167 true).run Tryz.prog w = .ok (.tuple #[.agg #[.slice none 0 0, .int .i64 0, .string ⟨#[]⟩, .int .i64 0, .slice none 0 0, .slice none 0 0, .slice none 0 0], .bool false]) w := by kernel_rfl
theorem ta_8_6 (v : Value) (w : World) : (Instr.typeAssert (.iface 172 v) 128 167 true).run Tryz.prog w = .ok (.tuple #[.agg #[.slice none 0 0, .int .i64 0, .string ⟨#[]⟩, .int .i64 0, .slice none 0 0, .slice none 0 0, .slice none 0 0], .bool false]) w := by kernel_rfl
theorem ta_9_6 (v : Value) (w : World) : (Instr.typeAssert (.iface 174 v) 128 167 true).run Tryz.prog w = .ok (.tuple #[.agg #[.slice none 0 0, .int .i64 0, .string ⟨#[]⟩, .int .i64 0, .slice none 0 0, .slice none 0 0, .slice none 0 0], .bool false]) w := by kernel_rfl
theorem ta_nil_7 (w : World) : (Instr.typeAssert .nilIface 128 169 true).run Tryz.prog w = .ok (.tuple #[.agg #[.int .i64 0, .string ⟨#[]⟩, .int .i64 0, .slice none 0 0, .slice none 0 0, .slice none 0 0, .slice none 0 0], .bool false]) w := by kernel_rfl
theorem ta_7_7 (v : Value) (w : World) : (Instr.typeAssert (.iface 169 v) 128 169 true).run Tryz.prog w = .ok (.tuple #[v, .bool true]) w := by kernel_rfl
theorem ta_8_7 (v : Value) (w : World) : (Instr.typeAssert (.iface 172 v) 128 169 true).run Tryz.prog w = .ok (.tuple #[.agg #[.int .i64 0, .string ⟨#[]⟩, .int .i64 0, .slice none 0 0, .slice none 0 0, .slice none 0 0, .slice none 0 0], .bool false]) w := by kernel_rfl
theorem ta_9_7 (v : Value) (w : World) : (Instr.typeAssert (.iface 174 v) 128 169 true).run Tryz.prog w = .ok (.tuple #[.agg #[.int .i64 0, .string ⟨#[]⟩, .int .i64 0, .slice none 0 0, .slice none 0 0, .slice none 0 0, .slice none 0 0], .bool false]) w := by kernel_rfl
theorem ta_nil_8 (w : World) : (Instr.typeAssert .nilIface 128 172 true).run Tryz.prog w = .ok (.tuple #[.agg #[.int .i64 0, .string ⟨#[]⟩, .int .i64 0, .slice none 0 0, .slice none 0 0, .slice none 0 0, .int .i64 0, .string ⟨#[]⟩, .int .i64 0, .slice none 0 0, .slice none 0 0, .slice none 0 0, .int .i64 0, .string ⟨#[]⟩, .int .i64 0, .slice none 0 0, .slice none 0 0, .slice none 0 0], .bool false]) w := by kernel_rfl
theorem ta_8_8 (v : Value) (w : World) : (Instr.typeAssert (.iface 172 v) 128 172 true).run Tryz.prog w = .ok (.tuple #[v, .bool true]) w := by kernel_rfl
theorem ta_9_8 (v : Value) (w : World) : (Instr.typeAssert (.iface 174 v) 128 172 true).run Tryz.prog w = .ok (.tuple #[.agg #[.int .i64 0, .string ⟨#[]⟩, .int .i64 0, .slice none 0 0, .slice none 0 0, .slice none 0 0, .int .i64 0, .string ⟨#[]⟩, .int .i64 0, .slice none 0 0, .slice none 0 0, .slice none 0 0, .int .i64 0, .string ⟨#[]⟩, .int .i64 0, .slice none 0 0, .slice none 0 0, .slice none 0 0], .bool false]) w := by kernel_rfl
theorem ta_nil_9 (w : World) : (Instr.typeAssert .nilIface 128 174 true).run Tryz.prog w = .ok (.tuple #[.agg #[.string ⟨#[]⟩, .int .i64 0, .string ⟨#[]⟩, .int .i64 0, .slice none 0 0, .slice none 0 0, .slice none 0 0, .int .i64 0, .string ⟨#[]⟩, .int .i64 0, .slice none 0 0, .slice none 0 0, .slice none 0 0], .bool false]) w := by kernel_rfl
theorem ta_9_9 (v : Value) (w : World) : (Instr.typeAssert (.iface 174 v) 128 174 true).run Tryz.prog w = .ok (.tuple #[v, .bool true]) w := by kernel_rfl

set_option maxHeartbeats 1000000 in
set_option maxRecDepth 100000 in
theorem formOk_nil (cb : Nat) (d : Int) (w : World) : Calls Tryz.prog 143 #[.pointer (some ⟨cb, 0, none⟩), .nilIface, .int .i64 d] w fun e w' => e = .returned (.bool false) ∧ w' = w := by
  have ta1 := ta_nil_1
  have ta2 := ta_nil_2
  have ta3 := ta_nil_3
  have ta4 := ta_nil_4
  have ta5 := ta_nil_5
  have ta6 := ta_nil_6
  have ta7 := ta_nil_7
  have ta8 := ta_nil_8
  have ta9 := ta_nil_9
  go_enter Tryz.func143, Tryz.ntmps143
  go_wp2
  go_ret
  exact ⟨rfl, rfl⟩

set_option maxHeartbeats 1000000 in
set_option maxRecDepth 100000 in
theorem formOk_1 (cb : Nat) (s : ByteArray) (hs : s.size ≤ maxLen) (d : Int) (w : World) :
    Calls Tryz.prog 143 #[.pointer (some ⟨cb, 0, none⟩), .iface 157 (.agg #[.string s]), .int .i64 d] w fun e w' => e = .returned (.bool (nmB s)) ∧ Below w.heap.size w w' := by
  have HB0 : Hid (Below w.heap.size w (w.alloc (.cells #[.string s] 157))) := (Below.refl _ w).alloc (Nat.le_refl _) _
  have HX0 : Hid ((w.alloc (.cells #[.string s] 157)).heap[w.heap.size]? = some (.cells #[.string s] 157 (0, 0))) := heap_alloc_new w _
  have ta1 := ta_1_1
  go_enter Tryz.func143, Tryz.ntmps143
  go_wp2_with fail
  refine (implName_any _ _ hs).mono ?_
  rintro e w1 ⟨rfl, hb⟩
  have HB1 := hide (HB0.out.trans (hb.mono HB0.out.size))
  clear hb HX0
  go_wp2
  go_ret
  exact ⟨rfl, HB1.out⟩

set_option maxHeartbeats 1000000 in
set_option maxRecDepth 100000 in
theorem formOk_2 (cb : Nat) (s : ByteArray) (hs : s.size ≤ maxLen) (d : Int) (w : World) :
    Calls Tryz.prog 143 #[.pointer (some ⟨cb, 0, none⟩), .iface 158 (.agg #[.string s]), .int .i64 d] w fun e w' => e = .returned (.bool (grB s)) ∧ Below w.heap.size w w' := by
  have HB0 : Hid (Below w.heap.size w (w.alloc (.cells #[.string s] 158))) := (Below.refl _ w).alloc (Nat.le_refl _) _
  have HX0 : Hid ((w.alloc (.cells #[.string s] 158)).heap[w.heap.size]? = some (.cells #[.string s] 158 (0, 0))) := heap_alloc_new w _
  have ta1 := ta_2_1
  have ta2 := ta_2_2
  go_enter Tryz.func143, Tryz.ntmps143
  go_wp2_with fail
  refine (implGreat_any _ _ hs).mono ?_
  rintro e w1 ⟨rfl, hb⟩
  have HB1 := hide (HB0.out.trans (hb.mono HB0.out.size))
  clear hb HX0
  go_wp2
  go_ret
  exact ⟨rfl, HB1.out⟩

set_option maxHeartbeats 1000000 in
set_option maxRecDepth 100000 in
theorem formOk_3 (cb : Nat) (v : Int) (d : Int) (w : World) :
    Calls Tryz.prog 143 #[.pointer (some ⟨cb, 0, none⟩), .iface 160 (.agg #[.int .i64 v]), .int .i64 d] w fun e w' => e = .returned (.bool (inB v 0 999999)) ∧ Below w.heap.size w w' := by
  have HB0 : Hid (Below w.heap.size w (w.alloc (.cells #[.int .i64 v] 160))) := (Below.refl _ w).alloc (Nat.le_refl _) _
  have HX0 : Hid ((w.alloc (.cells #[.int .i64 v] 160)).heap[w.heap.size]? = some (.cells #[.int .i64 v] 160 (0, 0))) := heap_alloc_new w _
  have ta1 := ta_3_1
  have ta2 := ta_3_2
  have ta3 := ta_3_3
  by_cases h1 : 0 ≤ v
  · by_cases h2 : v ≤ 999999
    · go_enter Tryz.func143, Tryz.ntmps143
      go_wp2
      go_ret
      exact ⟨ret_bool (by unfold inB; rw [decide_eq_true h1, decide_eq_true h2]; rfl), HB0.out⟩
    · go_enter Tryz.func143, Tryz.ntmps143
      go_wp2
      go_ret
      exact ⟨ret_bool (by unfold inB; rw [decide_eq_true h1, decide_eq_false (show ¬ v ≤ 999999 by omega)]; rfl), HB0.out⟩
  · go_enter Tryz.func143, Tryz.ntmps143
    go_wp2
    go_ret
    exact ⟨ret_bool (by unfold inB; rw [decide_eq_false (show ¬ 0 ≤ v by omega)]; rfl), HB0.out⟩

end Go.Proofs.YteoghpefilghdakGreatDoor
