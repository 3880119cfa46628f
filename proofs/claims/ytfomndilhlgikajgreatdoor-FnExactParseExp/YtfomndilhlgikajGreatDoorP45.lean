import Derived.Test.YtfomndilhlgikajGreatDoorP44
set_option maxHeartbeats 8000000
set_option maxRecDepth 100000
namespace Go.Proofs.YtfomndilhlgikajGreatDoor
open Go.ChangeShapes Go.WideShapes Go.ChangeAt Go.RowKit
theorem xk {R : Tr -> List Value -> Prop} {y z : Tr} {a0 a1 a2 a3 a4 a5 b0 b1 b2 b3 b4 b5 : Value} (h0 : R y [a0, a1, a2, a3, a4, a5]) (h1 : R z [b0, b1, b2, b3, b4, b5]) : Filled R 6 #[a0, a1, a2, a3, a4, a5, b0, b1, b2, b3, b4, b5] [y, z] := by
 intro k x hx
 match k, hx with
 | 0, hx =>
  have e : y = x := by simpa using hx
  subst e
  refine ⟨_, rfl, fun j u hu => ?_, h0⟩
  match j, hu with
  | 0, hu | 1, hu | 2, hu | 3, hu | 4, hu | 5, hu => exact hu
  | j + 6, hu => simp at hu
 | 1, hx =>
  have e : z = x := by simpa using hx
  subst e
  refine ⟨_, rfl, fun j u hu => ?_, h1⟩
  match j, hu with
  | 0, hu | 1, hu | 2, hu | 3, hu | 4, hu | 5, hu => exact hu
  | j + 6, hu => simp at hu
 | k + 2, hx => simp at hx
theorem D4 {R : Tr -> List Value -> Prop} {y z q : Tr} {a0 a1 a2 a3 a4 a5 b0 b1 b2 b3 b4 b5 d0 d1 d2 d3 d4 d5 : Value} (h0 : R y [a0, a1, a2, a3, a4, a5]) (h1 : R z [b0, b1, b2, b3, b4, b5]) (h2 : R q [d0, d1, d2, d3, d4, d5]) : Filled R 6 #[a0, a1, a2, a3, a4, a5, b0, b1, b2, b3, b4, b5, d0, d1, d2, d3, d4, d5] [y, z, q] := by
 intro k x hx
 match k, hx with
 | 0, hx =>
  have e : y = x := by simpa using hx
  subst e
  refine ⟨_, rfl, fun j u hu => ?_, h0⟩
  match j, hu with
  | 0, hu | 1, hu | 2, hu | 3, hu | 4, hu | 5, hu => exact hu
  | j + 6, hu => simp at hu
 | 1, hx =>
  have e : z = x := by simpa using hx
  subst e
  refine ⟨_, rfl, fun j u hu => ?_, h1⟩
  match j, hu with
  | 0, hu | 1, hu | 2, hu | 3, hu | 4, hu | 5, hu => exact hu
  | j + 6, hu => simp at hu
 | 2, hx =>
  have e : q = x := by simpa using hx
  subst e
  refine ⟨_, rfl, fun j u hu => ?_, h2⟩
  match j, hu with
  | 0, hu | 1, hu | 2, hu | 3, hu | 4, hu | 5, hu => exact hu
  | j + 6, hu => simp at hu
 | k + 3, hx => simp at hx
theorem BQ (w : World) : (Instr.typeAssert .nilIface 154 193 true).run Tryz.prog w = .ok (.tuple #[.agg #[.string ⟨#[]⟩], .bool false]) w := by kernel_rfl
theorem Gf (v : Value) (w : World) : (Instr.typeAssert (.iface 193 v) 154 193 true).run Tryz.prog w = .ok (.tuple #[v, .bool true]) w := by kernel_rfl
theorem Gt (v : Value) (w : World) : (Instr.typeAssert (.iface 194 v) 154 193 true).run Tryz.prog w = .ok (.tuple #[.agg #[.string ⟨#[]⟩], .bool false]) w := by kernel_rfl
theorem FZ (v : Value) (w : World) : (Instr.typeAssert (.iface 196 v) 154 193 true).run Tryz.prog w = .ok (.tuple #[.agg #[.string ⟨#[]⟩], .bool false]) w := by kernel_rfl
theorem FK (v : Value) (w : World) : (Instr.typeAssert (.iface 198 v) 154 193 true).run Tryz.prog w = .ok (.tuple #[.agg #[.string ⟨#[]⟩], .bool false]) w := by kernel_rfl
theorem GK (v : Value) (w : World) : (Instr.typeAssert (.iface 201 v) 154 193 true).run Tryz.prog w = .ok (.tuple #[.agg #[.string ⟨#[]⟩], .bool false]) w := by kernel_rfl
theorem Gg (v : Value) (w : World) : (Instr.typeAssert (.iface 203 v) 154 193 true).run Tryz.prog w = .ok (.tuple #[.agg #[.string ⟨#[]⟩], .bool false]) w := by kernel_rfl
theorem GI (v : Value) (w : World) : (Instr.typeAssert (.iface 205 v) 154 193 true).run Tryz.prog w = .ok (.tuple #[.agg #[.string ⟨#[]⟩], .bool false]) w := by kernel_rfl
theorem FX (v : Value) (w : World) : (Instr.typeAssert (.iface 208 v) 154 193 true).run Tryz.prog w = .ok (.tuple #[.agg #[.string ⟨#[]⟩], .bool false]) w := by kernel_rfl
theorem F3 (v : Value) (w : World) : (Instr.typeAssert (.iface 210 v) 154 193 true).run Tryz.prog w = .ok (.tuple #[.agg #[.string ⟨#[]⟩], .bool false]) w := by kernel_rfl
theorem AW (w : World) : (Instr.typeAssert .nilIface 154 194 true).run Tryz.prog w = .ok (.tuple #[.agg #[.string ⟨#[]⟩], .bool false]) w := by kernel_rfl
theorem Gz (v : Value) (w : World) : (Instr.typeAssert (.iface 194 v) 154 194 true).run Tryz.prog w = .ok (.tuple #[v, .bool true]) w := by kernel_rfl
theorem G0 (v : Value) (w : World) : (Instr.typeAssert (.iface 196 v) 154 194 true).run Tryz.prog w = .ok (.tuple #[.agg #[.string ⟨#[]⟩], .bool false]) w := by kernel_rfl
theorem Gx (v : Value) (w : World) : (Instr.typeAssert (.iface 198 v) 154 194 true).run Tryz.prog w = .ok (.tuple #[.agg #[.string ⟨#[]⟩], .bool false]) w := by kernel_rfl
theorem GX (v : Value) (w : World) : (Instr.typeAssert (.iface 201 v) 154 194 true).run Tryz.prog w = .ok (.tuple #[.agg #[.string ⟨#[]⟩], .bool false]) w := by kernel_rfl
theorem G9 (v : Value) (w : World) : (Instr.typeAssert (.iface 203 v) 154 194 true).run Tryz.prog w = .ok (.tuple #[.agg #[.string ⟨#[]⟩], .bool false]) w := by kernel_rfl
theorem Ha (v : Value) (w : World) : (Instr.typeAssert (.iface 205 v) 154 194 true).run Tryz.prog w = .ok (.tuple #[.agg #[.string ⟨#[]⟩], .bool false]) w := by kernel_rfl
theorem Gq (v : Value) (w : World) : (Instr.typeAssert (.iface 208 v) 154 194 true).run Tryz.prog w = .ok (.tuple #[.agg #[.string ⟨#[]⟩], .bool false]) w := by kernel_rfl
theorem GH (v : Value) (w : World) : (Instr.typeAssert (.iface 210 v) 154 194 true).run Tryz.prog w = .ok (.tuple #[.agg #[.string ⟨#[]⟩], .bool false]) w := by kernel_rfl
theorem Be (w : World) : (Instr.typeAssert .nilIface 154 196 true).run Tryz.prog w = .ok (.tuple #[.agg #[.int .i64 0], .bool false]) w := by kernel_rfl
theorem FQ (v : Value) (w : World) : (Instr.typeAssert (.iface 196 v) 154 196 true).run Tryz.prog w = .ok (.tuple #[v, .bool true]) w := by kernel_rfl
theorem FL (v : Value) (w : World) : (Instr.typeAssert (.iface 198 v) 154 196 true).run Tryz.prog w = .ok (.tuple #[.agg #[.int .i64 0], .bool false]) w := by kernel_rfl
theorem GY (v : Value) (w : World) : (Instr.typeAssert (.iface 201 v) 154 196 true).run Tryz.prog w = .ok (.tuple #[.agg #[.int .i64 0], .bool false]) w := by kernel_rfl
theorem GP (v : Value) (w : World) : (Instr.typeAssert (.iface 203 v) 154 196 true).run Tryz.prog w = .ok (.tuple #[.agg #[.int .i64 0], .bool false]) w := by kernel_rfl
theorem Gk (v : Value) (w : World) : (Instr.typeAssert (.iface 205 v) 154 196 true).run Tryz.prog w = .ok (.tuple #[.agg #[.int .i64 0], .bool false]) w := by kernel_rfl
theorem FT (v : Value) (w : World) : (Instr.typeAssert (.iface 208 v) 154 196 true).run Tryz.prog w = .ok (.tuple #[.agg #[.int .i64 0], .bool false]) w := by kernel_rfl
theorem Gh (v : Value) (w : World) : (Instr.typeAssert (.iface 210 v) 154 196 true).run Tryz.prog w = .ok (.tuple #[.agg #[.int .i64 0], .bool false]) w := by kernel_rfl
theorem BK (w : World) : (Instr.typeAssert .nilIface 154 198 true).run Tryz.prog w = .ok (.tuple #[.agg #[.int .i64 0, .string ⟨#[]⟩, .int .i64 0, .slice none 0 0, .slice none 0 0, .slice none 0 0, .int .i64 0, .string ⟨#[]⟩, .int .i64 0, .slice none 0 0, .slice none 0 0, .slice none 0 0], .bool false]) w := by kernel_rfl
theorem Gm (v : Value) (w : World) : (Instr.typeAssert (.iface 198 v) 154 198 true).run Tryz.prog w = .ok (.tuple #[v, .bool true]) w := by kernel_rfl
theorem GC (v : Value) (w : World) : (Instr.typeAssert (.iface 201 v) 154 198 true).run Tryz.prog w = .ok (.tuple #[.agg #[.int .i64 0, .string ⟨#[]⟩, .int .i64 0, .slice none 0 0, .slice none 0 0, .slice none 0 0, .int .i64 0, .string ⟨#[]⟩, .int .i64 0, .slice none 0 0, .slice none 0 0, .slice none 0 0], .bool false]) w := by kernel_rfl
theorem GV (v : Value) (w : World) : (Instr.typeAssert (.iface 203 v) 154 198 true).run Tryz.prog w = .ok (.tuple #[.agg #[.int .i64 0, .string ⟨#[]⟩, .int .i64 0, .slice none 0 0, .slice none 0 0, .slice none 0 0, .int .i64 0, .string ⟨#[]⟩, .int .i64 0, .slice none 0 0, .slice none 0 0, .slice none 0 0], .bool false]) w := by kernel_rfl
theorem GF (v : Value) (w : World) : (Instr.typeAssert (.iface 205 v) 154 198 true).run Tryz.prog w = .ok (.tuple #[.agg #[.int .i64 0, .string ⟨#[]⟩, .int .i64 0, .slice none 0 0, .slice none 0 0, .slice none 0 0, .int .i64 0, .string ⟨#[]⟩, .int .i64 0, .slice none 0 0, .slice none 0 0, .slice none 0 0], .bool false]) w := by kernel_rfl
theorem G1 (v : Value) (w : World) : (Instr.typeAssert (.iface 208 v) 154 198 true).run Tryz.prog w = .ok (.tuple #[.agg #[.int .i64 0, .string ⟨#[]⟩, .int .i64 0, .slice none 0 0, .slice none 0 0, .slice none 0 0, .int .i64 0, .string ⟨#[]⟩, .int .i64 0, .slice none 0 0, .slice none 0 0, .slice none 0 0], .bool false]) w := by kernel_rfl
theorem FY (v : Value) (w : World) : (Instr.typeAssert (.iface 210 v) 154 198 true).run Tryz.prog w = .ok (.tuple #[.agg #[.int .i64 0, .string ⟨#[]⟩, .int .i64 0, .slice none 0 0, .slice none 0 0, .slice none 0 0, .int .i64 0, .string ⟨#[]⟩, .int .i64 0, .slice none 0 0, .slice none 0 0, .slice none 0 0], .bool false]) w := by kernel_rfl
theorem Bp (w : World) : (Instr.typeAssert .nilIface 154 201 true).run Tryz.prog w = .ok (.tuple #[.agg #[.string ⟨#[]⟩, .int .i64 0, .string ⟨#[]⟩, .int .i64 0, .slice none 0 0, .slice none 0 0, .slice none 0 0], .bool false]) w := by kernel_rfl
theorem Gw (v : Value) (w : World) : (Instr.typeAssert (.iface 201 v) 154 201 true).run Tryz.prog w = .ok (.tuple #[v, .bool true]) w := by kernel_rfl
theorem Gi (v : Value) (w : World) : (Instr.typeAssert (.iface 203 v) 154 201 true).run Tryz.prog w = .ok (.tuple #[.agg #[.string ⟨#[]⟩, .int .i64 0, .string ⟨#[]⟩, .int .i64 0, .slice none 0 0, .slice none 0 0, .slice none 0 0], .bool false]) w := by kernel_rfl
theorem GR (v : Value) (w : World) : (Instr.typeAssert (.iface 205 v) 154 201 true).run Tryz.prog w = .ok (.tuple #[.agg #[.string ⟨#[]⟩, .int .i64 0, .string ⟨#[]⟩, .int .i64 0, .slice none 0 0, .slice none 0 0, .slice none 0 0], .bool false]) w := by kernel_rfl
theorem GO (v : Value) (w : World) : (Instr.typeAssert (.iface 208 v) 154 201 true).run Tryz.prog w = .ok (.tuple #[.agg #[.string ⟨#[]⟩, .int .i64 0, .string ⟨#[]⟩, .int .i64 0, .slice none 0 0, .slice none 0 0, .slice none 0 0], .bool false]) w := by kernel_rfl
theorem F9 (v : Value) (w : World) : (Instr.typeAssert (.iface 210 v) 154 201 true).run Tryz.prog w = .ok (.tuple #[.agg #[.string ⟨#[]⟩, .int .i64 0, .string ⟨#[]⟩, .int .i64 0, .slice none 0 0, .slice none 0 0, .slice none 0 0], .bool false]) w := by kernel_rfl
theorem Ax (w : World) : (Instr.typeAssert .nilIface 154 203 true).run Tryz.prog w = .ok (.tuple #[.agg #[.slice none 0 0, .int .i64 0, .string ⟨#[]⟩, .int .i64 0, .slice none 0 0, .slice none 0 0, .slice none 0 0], .bool false]) w := by kernel_rfl
theorem Gj (v : Value) (w : World) : (Instr.typeAssert (.iface 203 v) 154 203 true).run Tryz.prog w = .ok (.tuple #[v, .bool true]) w := by kernel_rfl
theorem FU (v : Value) (w : World) : (Instr.typeAssert (.iface 205 v) 154 203 true).run Tryz.prog w = .ok (.tuple #[.agg #[.slice none 0 0, .int .i64 0, .string ⟨#[]⟩, .int .i64 0, .slice none 0 0, .slice none 0 0, .slice none 0 0], .bool false]) w := by kernel_rfl
theorem F8 (v : Value) (w : World) : (Instr.typeAssert (.iface 208 v) 154 203 true).run Tryz.prog w = .ok (.tuple #[.agg #[.slice none 0 0, .int .i64 0, .string ⟨#[]⟩, .int .i64 0, .slice none 0 0, .slice none 0 0, .slice none 0 0], .bool false]) w := by kernel_rfl
theorem Hc (v : Value) (w : World) : (Instr.typeAssert (.iface 210 v) 154 203 true).run Tryz.prog w = .ok (.tuple #[.agg #[.slice none 0 0, .int .i64 0, .string ⟨#[]⟩, .int .i64 0, .slice none 0 0, .slice none 0 0, .slice none 0 0], .bool false]) w := by kernel_rfl
theorem Bt (w : World) : (Instr.typeAssert .nilIface 154 205 true).run Tryz.prog w = .ok (.tuple #[.agg #[.int .i64 0, .string ⟨#[]⟩, .int .i64 0, .slice none 0 0, .slice none 0 0, .slice none 0 0, .slice none 0 0], .bool false]) w := by kernel_rfl
theorem GL (v : Value) (w : World) : (Instr.typeAssert (.iface 205 v) 154 205 true).run Tryz.prog w = .ok (.tuple #[v, .bool true]) w := by kernel_rfl
theorem GW (v : Value) (w : World) : (Instr.typeAssert (.iface 208 v) 154 205 true).run Tryz.prog w = .ok (.tuple #[.agg #[.int .i64 0, .string ⟨#[]⟩, .int .i64 0, .slice none 0 0, .slice none 0 0, .slice none 0 0, .slice none 0 0], .bool false]) w := by kernel_rfl
theorem GE (v : Value) (w : World) : (Instr.typeAssert (.iface 210 v) 154 205 true).run Tryz.prog w = .ok (.tuple #[.agg #[.int .i64 0, .string ⟨#[]⟩, .int .i64 0, .slice none 0 0, .slice none 0 0, .slice none 0 0, .slice none 0 0], .bool false]) w := by kernel_rfl
theorem Aj (w : World) : (Instr.typeAssert .nilIface 154 208 true).run Tryz.prog w = .ok (.tuple #[.agg #[.int .i64 0, .string ⟨#[]⟩, .int .i64 0, .slice none 0 0, .slice none 0 0, .slice none 0 0, .int .i64 0, .string ⟨#[]⟩, .int .i64 0, .slice none 0 0, .slice none 0 0, .slice none 0 0, .int .i64 0, .string ⟨#[]⟩, .int .i64 0, .slice none 0 0, .slice none 0 0, .slice none 0 0], .bool false]) w := by kernel_rfl
theorem Gc (v : Value) (w : World) : (Instr.typeAssert (.iface 208 v) 154 208 true).run Tryz.prog w = .ok (.tuple #[v, .bool true]) w := by kernel_rfl
theorem Ga (v : Value) (w : World) : (Instr.typeAssert (.iface 210 v) 154 208 true).run Tryz.prog w = .ok (.tuple #[.agg #[.int .i64 0, .string ⟨#[]⟩, .int .i64 0, .slice none 0 0, .slice none 0 0, .slice none 0 0, .int .i64 0, .string ⟨#[]⟩, .int .i64 0, .slice none 0 0, .slice none 0 0, .slice none 0 0, .int .i64 0, .string ⟨#[]⟩, .int .i64 0, .slice none 0 0, .slice none 0 0, .slice none 0 0], .bool false]) w := by kernel_rfl
theorem Bg (w : World) : (Instr.typeAssert .nilIface 154 210 true).run Tryz.prog w = .ok (.tuple #[.agg #[.string ⟨#[]⟩, .int .i64 0, .string ⟨#[]⟩, .int .i64 0, .slice none 0 0, .slice none 0 0, .slice none 0 0, .int .i64 0, .string ⟨#[]⟩, .int .i64 0, .slice none 0 0, .slice none 0 0, .slice none 0 0], .bool false]) w := by kernel_rfl
theorem F7 (v : Value) (w : World) : (Instr.typeAssert (.iface 210 v) 154 210 true).run Tryz.prog w = .ok (.tuple #[v, .bool true]) w := by kernel_rfl
theorem vN (cb : Nat) (d : Int) (w : World) : Calls Tryz.prog 153 #[.pointer (some ⟨cb, 0, none⟩), .nilIface, .int .i64 d] w fun e w' => e = .returned (.bool false) /\ w' = w := by
 have E5 := BQ
 have Fq := AW
 have Hz := Be
 have Jl := BK
 have KX := Bp
 have L3 := Ax
 have Ok := Bt
 have Qs := Aj
 have Sz := Bg
 go_enter Tryz.func153, Tryz.ntmps153
 go_wp2
 go_ret
 exact ⟨rfl, rfl⟩
theorem Bo (cb : Nat) (s : ByteArray) (hs : s.size <= maxLen) (d : Int) (w : World) :
 Calls Tryz.prog 153 #[.pointer (some ⟨cb, 0, none⟩), .iface 193 (.agg #[.string s]), .int .i64 d] w fun e w' => e = .returned (.bool (mf s)) /\ Below w.heap.size w w' := by
 have aq : Hid (Below w.heap.size w (w.alloc (.cells #[.string s] 193))) := (U4 w).alloc U0 _
 have aF : Hid ((w.alloc (.cells #[.string s] 193)).heap[w.heap.size]? = some (.cells #[.string s] 193 (0, 0))) := heap_alloc_new w _
 have E5 := Gf
 go_enter Tryz.func153, Tryz.ntmps153
 go_wp2_with fail
 refine (dw _ _ hs).mono ?_
 rintro e w1 ⟨rfl, hb⟩
 have aR := aa (aq.out.trans (hb.mono aq.out.size))
 clear hb aF
 go_wp2
 go_ret
 exact ⟨rfl, aR.out⟩
theorem zW (cb : Nat) (s : ByteArray) (hs : s.size <= maxLen) (d : Int) (w : World) :
 Calls Tryz.prog 153 #[.pointer (some ⟨cb, 0, none⟩), .iface 194 (.agg #[.string s]), .int .i64 d] w fun e w' => e = .returned (.bool (Do s)) /\ Below w.heap.size w w' := by
 have aq : Hid (Below w.heap.size w (w.alloc (.cells #[.string s] 194))) := (U4 w).alloc U0 _
 have aF : Hid ((w.alloc (.cells #[.string s] 194)).heap[w.heap.size]? = some (.cells #[.string s] 194 (0, 0))) := heap_alloc_new w _
 have E5 := Gt
 have Fq := Gz
 go_enter Tryz.func153, Tryz.ntmps153
 go_wp2_with fail
 refine (fY _ _ hs).mono ?_
 rintro e w1 ⟨rfl, hb⟩
 have aR := aa (aq.out.trans (hb.mono aq.out.size))
 clear hb aF
 go_wp2
 go_ret
 exact ⟨rfl, aR.out⟩
theorem z7 (cb : Nat) (v : Int) (d : Int) (w : World) :
 Calls Tryz.prog 153 #[.pointer (some ⟨cb, 0, none⟩), .iface 196 (.agg #[.int .i64 v]), .int .i64 d] w fun e w' => e = .returned (.bool (cz v 0 999999)) /\ Below w.heap.size w w' := by
 have aq : Hid (Below w.heap.size w (w.alloc (.cells #[.int .i64 v] 196))) := (U4 w).alloc U0 _
 have aF : Hid ((w.alloc (.cells #[.int .i64 v] 196)).heap[w.heap.size]? = some (.cells #[.int .i64 v] 196 (0, 0))) := heap_alloc_new w _
 have E5 := FZ
 have Fq := G0
 have Hz := FQ
 by_cases h1 : 0 <= v
 ·by_cases h2 : v <= 999999
  ·go_enter Tryz.func153, Tryz.ntmps153
   go_wp2
   go_ret
   exact ⟨ah (by unfold cz; rw [decide_eq_true h1, decide_eq_true h2]; rfl), aq.out⟩
  ·go_enter Tryz.func153, Tryz.ntmps153
   go_wp2
   go_ret
   exact ⟨ah (by unfold cz; rw [decide_eq_true h1, decide_eq_false (show ¬ v <= 999999 by omega)]; rfl), aq.out⟩
 ·go_enter Tryz.func153, Tryz.ntmps153
  go_wp2
  go_ret
  exact ⟨ah (by unfold cz; rw [decide_eq_false (show ¬ 0 <= v by omega)]; rfl), aq.out⟩
end Go.Proofs.YtfomndilhlgikajGreatDoor
