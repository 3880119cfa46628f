/- Made of ZWH, CZa, QH. -/
import Derived.Test.YtgeckgdmkjddpaaQ13
import Derived.Test.YtgeckgdmkjddpaaQ05
import Derived.Test.YtgeckgdmkjddpaaQ00
import Derived.OrdersIn
import Derived.TacticsIn
import Derived.TacticsInMore
namespace Go.Proofs.Ytgeckgdmkjddpaa.Hd
open Go.ChangeShapes Go.WideShapes Go.ChangeAt Go.RowKit Go.Proofs.Ytgeckgdmkjddpaa.Br
set_option linter.unusedVariables false

theorem sumTo_mono (f : Nat → Nat) {n m : Nat} (h : n ≤ m) : sumTo f n ≤ sumTo f m := by
  obtain ⟨d, rfl⟩ := Nat.exists_eq_add_of_le h
  induction d with
  | zero => exact Nat.le_refl _
  | succ d ih =>
    have := ih (by omega)
    show sumTo f n ≤ sumTo f (n + d) + f (n + d)
    omega
theorem sumTo_at (f : Nat → Nat) {n j : Nat} (h : j < n) : sumTo f j + f j ≤ sumTo f n := sumTo_mono f (n := j + 1) h
theorem lenAt_of {w : World} {b p n c : Nat} {o : Option Addr} (h : w.cell? ⟨b, p, none⟩ = some (.slice o n c)) : lenAt w b p = n := by
  unfold lenAt
  rw [h]
theorem mby_0 (v : Value) (w : World) : (method 307 58 v "loop.example/g00471/impl.bytes").run Try.prog w = .ok (105, v) w := by kernel_rfl
theorem mby_1 (v : Value) (w : World) : (method 307 97 v "loop.example/g00471/impl.bytes").run Try.prog w = .ok (110, v) w := by kernel_rfl
theorem mby_2 (v : Value) (w : World) : (method 307 205 v "loop.example/g00471/impl.bytes").run Try.prog w = .ok (117, v) w := by kernel_rfl
theorem ta_0 (v : Value) (w : World) : (Instr.typeAssert (.iface 58 v) 111 97 true).run Try.prog w = .ok (.tuple #[.slice none 0 0, .bool false]) w := by kernel_rfl
theorem ta_1 (v : Value) (w : World) : (Instr.typeAssert (.iface 97 v) 111 97 true).run Try.prog w = .ok (.tuple #[v, .bool true]) w := by kernel_rfl
theorem ta_2 (v : Value) (w : World) : (Instr.typeAssert (.iface 205 v) 111 97 true).run Try.prog w = .ok (.tuple #[.slice none 0 0, .bool false]) w := by kernel_rfl

set_option maxHeartbeats 1000000 in
set_option maxRecDepth 100000 in
theorem bytes_0 (o : Option Addr) (n c : Nat) (hn : n * 104 ≤ 1000000000) (w : World) :
    Calls Try.prog 105 #[.slice o n c] w fun e w' => e = .returned (.int .i64 ((n * 104 : Nat) : Int)) ∧ Below w.heap.size w w' := by
  have hw : IntKind.i64.wrap ((n : Int) * 104) = ((n * 104 : Nat) : Int) := by rw [IntKind.wrap_i64]; omega
  generalize hM : ((n * 104 : Nat) : Int) = M at *
  clear hM
  go_enter Try.func105, Try.ntmps105
  go_wp2
  go_ret
  exact ⟨rfl, Below.refl _ _⟩

set_option maxHeartbeats 2000000 in
set_option maxRecDepth 100000 in
theorem bytes_1 {K : Nat → Prop} {h : Nat} (w : World) (b off n c : Nat) (xs : List Tr) (hr : Rd K w h ⟨1, some ⟨b, off, none⟩, n, c⟩ xs) (hle : by1 w ⟨1, some ⟨b, off, none⟩, n, c⟩ ≤ 1000000000) :
    Calls Try.prog 110 #[.slice (some ⟨b, off, none⟩) n c] w fun e w' => e = .returned (.int .i64 ((by1 w ⟨1, some ⟨b, off, none⟩, n, c⟩ : Nat) : Int)) ∧ Below w.heap.size w w' := by
  obtain ⟨b', off', e1, kb, hbl, hat⟩ := hr.at
  cases e1
  have hn : n = xs.length := hr.2.2.1
  have hm : n ≤ maxLen := by have := hr.2.2.2.1.1; omega
  have hm' : n ≤ 9223372036854775807 := hm
  have hcap : n ≤ c := by have := hr.2.2.2.1.2; simp only at this; omega
  have hby : by1 w ⟨1, some ⟨b, off, none⟩, n, c⟩ = n * 168 + sumTo (fun j => pn w 1 b off j * 16) n := rfl
  rw [hby] at hle ⊢
  obtain ⟨f, hf⟩ : ∃ f, (fun j => pn w 1 b off j * 16) = f := ⟨_, rfl⟩
  rw [hf] at hle ⊢
  have HF := hide hf
  have hw : IntKind.i64.wrap ((n : Int) * 168) = ((n * 168 : Nat) : Int) := by rw [IntKind.wrap_i64]; omega
  obtain ⟨M, hM⟩ : ∃ M : Int, ((n * 168 : Nat) : Int) = M := ⟨_, rfl⟩
  rw [hM] at hw
  have HB0 : Hid (M = ((n * 168 : Nat) : Int)) := hM.symm
  have HAT := hide hat
  clear hat hr hm hby hf hM
  go_enter Try.func110, Try.ntmps110
  go_wp2
  go_loopw [3, 11] (fun tB tI wr => ∃ (i : Nat) (z : Int), i ≤ n ∧ tI = .int .i64 i ∧ tB = .int .i64 z ∧ z = ((n * 168 + sumTo f i : Nat) : Int) ∧ Below w.heap.size w wr) (fun tB tI _ => n - (intOf tI).toNat)
  case atStart => exact ⟨0, _, Nat.zero_le _, rfl, rfl, by have h9 := HB0.out; have h0 : sumTo f 0 = 0 := rfl; rw [h0]; omega, Below.refl _ _⟩
  case round =>
    obtain ⟨i, z, hi, rfl, rfl, hz, hbw⟩ := hrel
    have HZ := hide hz
    have HBW := hide hbw
    clear hbw
    by_cases hlt : i < n
    · obtain ⟨t, ht⟩ : ∃ t, xs[i]? = some t := ⟨xs[i]'(by omega), List.getElem?_eq_getElem (by omega)⟩
      obtain ⟨cs, hlen, hcs, hrt⟩ := HAT.out i t ht
      have hcs2 : ∀ q u, cs[q]? = some u → w.cell? ⟨b, off + i * 9 + q, none⟩ = some u := hcs
      obtain ⟨b0, oP, nP, cP, a0, a1, a2, o0, n0, c0, o1, n1, c1, o2, n2, c2, o9, m9, c8, rfl, hm0, hm1, hm2, hm9, hkids⟩ := cellsOf_1 hcs2 hrt
      have hcx : ∀ q u, [(.string b0), (.slice oP nP cP), (.int .i64 a0), (.string a1), (.int .i64 a2), (.slice o0 n0 c0), (.slice o1 n1 c1), (.slice o2 n2 c2), (.slice o9 m9 c8)][q]? = some u → wr.cell? ⟨b, off + i * 9 + q, none⟩ = some u := fun q u hq => (HBW.out.cell (p := ⟨b, off + i * 9 + q, none⟩) hbl).trans (hcs2 q u hq)
      have l1 : lenAt w b (off + i * 9 + 1) = nP := lenAt_of (hcs2 1 _ rfl)
      have q0 := hcx 0 (.string b0) rfl
      have q1 := hcx 1 (.slice oP nP cP) rfl
      have q2 := hcx 2 (.int .i64 a0) rfl
      have q3 := hcx 3 (.string a1) rfl
      have q4 := hcx 4 (.int .i64 a2) rfl
      have q5 := hcx 5 (.slice o0 n0 c0) rfl
      have q6 := hcx 6 (.slice o1 n1 c1) rfl
      have q7 := hcx 7 (.slice o2 n2 c2) rfl
      have q8 := hcx 8 (.slice o9 m9 c8) rfl
      rw [Nat.add_zero] at q0
      have hst := sumTo_at f hlt
      have hlt2 : (i : Int) < n := by omega
      have hfi : f i = nP * 16 := by rw [← HF.out]; show lenAt w b (off + i * 9 + 1) * 16 = _; rw [l1]
      have hnP : nP ≤ 9223372036854775807 := by omega
      have hw1 : IntKind.i64.wrap ((nP : Int) * 16) = (nP : Int) * 16 := by rw [IntKind.wrap_i64]; omega
      have hw2 : IntKind.i64.wrap (z + (nP : Int) * 16) = z + (nP : Int) * 16 := by rw [IntKind.wrap_i64]; omega
      have HFI : Hid (z + (nP : Int) * 16 = ((n * 168 + sumTo f (i + 1) : Nat) : Int)) := by show z + (nP : Int) * 16 = ((n * 168 + (sumTo f i + f i) : Nat) : Int); omega
      clear hcs hcs2 hrt hcx ht hlen hkids hz
      clear hst hfi l1
      go_wp2
      exact ⟨⟨i + 1, _, hlt, by go_num, rfl, HFI.out, HBW.out.trans (((Below.refl _ wr).alloc (Nat.le_refl _) _).mono HBW.out.size)⟩, by simp [intOf]; omega⟩
    · obtain rfl : i = n := by omega
      clear hz
      go_wp2
      go_ret
      exact ⟨by first | rfl | (rw [HZ.out]; rfl) | (have h9 := HZ.out; subst h9; rfl), HBW.out⟩

set_option maxHeartbeats 2000000 in
set_option maxRecDepth 100000 in
theorem bytes_2 {K : Nat → Prop} {h : Nat} (w : World) (b off n c : Nat) (xs : List Tr) (hr : Rd K w h ⟨2, some ⟨b, off, none⟩, n, c⟩ xs) (hle : by1 w ⟨2, some ⟨b, off, none⟩, n, c⟩ ≤ 1000000000) :
    Calls Try.prog 117 #[.slice (some ⟨b, off, none⟩) n c] w fun e w' => e = .returned (.int .i64 ((by1 w ⟨2, some ⟨b, off, none⟩, n, c⟩ : Nat) : Int)) ∧ Below w.heap.size w w' := by
  obtain ⟨b', off', e1, kb, hbl, hat⟩ := hr.at
  cases e1
  have hn : n = xs.length := hr.2.2.1
  have hm : n ≤ maxLen := by have := hr.2.2.2.1.1; omega
  have hm' : n ≤ 9223372036854775807 := hm
  have hcap : n ≤ c := by have := hr.2.2.2.1.2; simp only at this; omega
  have hby : by1 w ⟨2, some ⟨b, off, none⟩, n, c⟩ = n * 144 + sumTo (fun j => pn w 2 b off j * 16) n := rfl
  rw [hby] at hle ⊢
  obtain ⟨f, hf⟩ : ∃ f, (fun j => pn w 2 b off j * 16) = f := ⟨_, rfl⟩
  rw [hf] at hle ⊢
  have HF := hide hf
  have hw : IntKind.i64.wrap ((n : Int) * 144) = ((n * 144 : Nat) : Int) := by rw [IntKind.wrap_i64]; omega
  obtain ⟨M, hM⟩ : ∃ M : Int, ((n * 144 : Nat) : Int) = M := ⟨_, rfl⟩
  rw [hM] at hw
  have HB0 : Hid (M = ((n * 144 : Nat) : Int)) := hM.symm
  have HAT := hide hat
  clear hat hr hm hby hf hM
  go_enter Try.func117, Try.ntmps117
  go_wp2
  go_loopw [3, 11] (fun tB tI wr => ∃ (i : Nat) (z : Int), i ≤ n ∧ tI = .int .i64 i ∧ tB = .int .i64 z ∧ z = ((n * 144 + sumTo f i : Nat) : Int) ∧ Below w.heap.size w wr) (fun tB tI _ => n - (intOf tI).toNat)
  case atStart => exact ⟨0, _, Nat.zero_le _, rfl, rfl, by have h9 := HB0.out; have h0 : sumTo f 0 = 0 := rfl; rw [h0]; omega, Below.refl _ _⟩
  case round =>
    obtain ⟨i, z, hi, rfl, rfl, hz, hbw⟩ := hrel
    have HZ := hide hz
    have HBW := hide hbw
    clear hbw
    by_cases hlt : i < n
    · obtain ⟨t, ht⟩ : ∃ t, xs[i]? = some t := ⟨xs[i]'(by omega), List.getElem?_eq_getElem (by omega)⟩
      obtain ⟨cs, hlen, hcs, hrt⟩ := HAT.out i t ht
      have hcs2 : ∀ q u, cs[q]? = some u → w.cell? ⟨b, off + i * 8 + q, none⟩ = some u := hcs
      obtain ⟨b0, oP, nP, cP, a0, a1, a2, o0, n0, c0, o1, n1, c1, o2, n2, c2, rfl, hm0, hm1, hm2, hkids⟩ := cellsOf_2 hcs2 hrt
      have hcx : ∀ q u, [(.string b0), (.slice oP nP cP), (.int .i64 a0), (.string a1), (.int .i64 a2), (.slice o0 n0 c0), (.slice o1 n1 c1), (.slice o2 n2 c2)][q]? = some u → wr.cell? ⟨b, off + i * 8 + q, none⟩ = some u := fun q u hq => (HBW.out.cell (p := ⟨b, off + i * 8 + q, none⟩) hbl).trans (hcs2 q u hq)
      have l1 : lenAt w b (off + i * 8 + 1) = nP := lenAt_of (hcs2 1 _ rfl)
      have q0 := hcx 0 (.string b0) rfl
      have q1 := hcx 1 (.slice oP nP cP) rfl
      have q2 := hcx 2 (.int .i64 a0) rfl
      have q3 := hcx 3 (.string a1) rfl
      have q4 := hcx 4 (.int .i64 a2) rfl
      have q5 := hcx 5 (.slice o0 n0 c0) rfl
      have q6 := hcx 6 (.slice o1 n1 c1) rfl
      have q7 := hcx 7 (.slice o2 n2 c2) rfl
      rw [Nat.add_zero] at q0
      have hst := sumTo_at f hlt
      have hlt2 : (i : Int) < n := by omega
      have hfi : f i = nP * 16 := by rw [← HF.out]; show lenAt w b (off + i * 8 + 1) * 16 = _; rw [l1]
      have hnP : nP ≤ 9223372036854775807 := by omega
      have hw1 : IntKind.i64.wrap ((nP : Int) * 16) = (nP : Int) * 16 := by rw [IntKind.wrap_i64]; omega
      have hw2 : IntKind.i64.wrap (z + (nP : Int) * 16) = z + (nP : Int) * 16 := by rw [IntKind.wrap_i64]; omega
      have HFI : Hid (z + (nP : Int) * 16 = ((n * 144 + sumTo f (i + 1) : Nat) : Int)) := by show z + (nP : Int) * 16 = ((n * 144 + (sumTo f i + f i) : Nat) : Int); omega
      clear hcs hcs2 hrt hcx ht hlen hkids hz
      clear hst hfi l1
      go_wp2
      exact ⟨⟨i + 1, _, hlt, by go_num, rfl, HFI.out, HBW.out.trans (((Below.refl _ wr).alloc (Nat.le_refl _) _).mono HBW.out.size)⟩, by simp [intOf]; omega⟩
    · obtain rfl : i = n := by omega
      clear hz
      go_wp2
      go_ret
      exact ⟨by first | rfl | (rw [HZ.out]; rfl) | (have h9 := HZ.out; subst h9; rfl), HBW.out⟩

theorem bytes_I {K : Nat → Prop} {h : Nat} {i : Nat} (hi : i < 3) (w : World) (b off n c : Nat) (xs : List Tr) (hr : Rd K w h ⟨i, some ⟨b, off, none⟩, n, c⟩ xs) (hle : by1 w ⟨i, some ⟨b, off, none⟩, n, c⟩ ≤ 1000000000) :
    Calls Try.prog (byF i) #[.slice (some ⟨b, off, none⟩) n c] w fun e w' => e = .returned (.int .i64 ((by1 w ⟨i, some ⟨b, off, none⟩, n, c⟩ : Nat) : Int)) ∧ Below w.heap.size w w' := by
  rcases three hi with rfl | rfl | rfl
  · exact bytes_0 _ n c hle w
  · exact bytes_1 w b off n c xs hr hle
  · exact bytes_2 w b off n c xs hr hle

set_option maxHeartbeats 2000000 in
set_option maxRecDepth 100000 in
theorem bare_0 {K : Nat → Prop} {h : Nat} (w : World) (b off n c : Nat) (xs : List Tr) (hr : Rd K w h ⟨0, some ⟨b, off, none⟩, n, c⟩ xs) (hle : bb w ⟨0, some ⟨b, off, none⟩, n, c⟩ ≤ 1000000000) :
    Calls Try.prog 27 #[.iface 58 (.slice (some ⟨b, off, none⟩) n c)] w fun e w' => e = .returned (.int .i64 ((bb w ⟨0, some ⟨b, off, none⟩, n, c⟩ : Nat) : Int)) ∧ Below w.heap.size w w' := by
  obtain ⟨b', off', e1, kb, hbl, hat⟩ := hr.at
  cases e1
  have hn : n = xs.length := hr.2.2.1
  have hm : n ≤ maxLen := by have := hr.2.2.2.1.1; omega
  have hm' : n ≤ 9223372036854775807 := hm
  have hcap : n ≤ c := by have := hr.2.2.2.1.2; simp only at this; omega
  have hby : bb w ⟨0, some ⟨b, off, none⟩, n, c⟩ = by1 w ⟨0, some ⟨b, off, none⟩, n, c⟩ := rfl
  rw [hby] at hle ⊢
  have ht := ta_0 (.slice (some ⟨b, off, none⟩) n c)
  have hmd := mby_0 (.slice (some ⟨b, off, none⟩) n c)
  have hC := bytes_0 (some ⟨b, off, none⟩) n c hle w
  obtain ⟨M, hM⟩ : ∃ M, by1 w ⟨0, some ⟨b, off, none⟩, n, c⟩ = M := ⟨_, rfl⟩
  rw [hM]
  have hC2 : Calls Try.prog 105 #[.slice (some ⟨b, off, none⟩) n c] w fun e w' => e = .returned (.int .i64 ((M : Nat) : Int)) ∧ Below w.heap.size w w' := by rw [← hM]; exact hC
  have HC := hide hC2
  clear hr hle hby hat hn hC hC2 hM
  go_enter Try.func27, Try.ntmps27
  go_wp2_with fail
  refine HC.out.mono ?_
  rintro e w1 ⟨rfl, hb⟩
  have HB := hide hb
  clear hb HC
  go_wp2
  go_ret
  exact ⟨rfl, HB.out⟩

set_option maxHeartbeats 2000000 in
set_option maxRecDepth 100000 in
theorem bare_2 {K : Nat → Prop} {h : Nat} (w : World) (b off n c : Nat) (xs : List Tr) (hr : Rd K w h ⟨2, some ⟨b, off, none⟩, n, c⟩ xs) (hle : bb w ⟨2, some ⟨b, off, none⟩, n, c⟩ ≤ 1000000000) :
    Calls Try.prog 27 #[.iface 205 (.slice (some ⟨b, off, none⟩) n c)] w fun e w' => e = .returned (.int .i64 ((bb w ⟨2, some ⟨b, off, none⟩, n, c⟩ : Nat) : Int)) ∧ Below w.heap.size w w' := by
  obtain ⟨b', off', e1, kb, hbl, hat⟩ := hr.at
  cases e1
  have hn : n = xs.length := hr.2.2.1
  have hm : n ≤ maxLen := by have := hr.2.2.2.1.1; omega
  have hm' : n ≤ 9223372036854775807 := hm
  have hcap : n ≤ c := by have := hr.2.2.2.1.2; simp only at this; omega
  have hby : bb w ⟨2, some ⟨b, off, none⟩, n, c⟩ = by1 w ⟨2, some ⟨b, off, none⟩, n, c⟩ := rfl
  rw [hby] at hle ⊢
  have ht := ta_2 (.slice (some ⟨b, off, none⟩) n c)
  have hmd := mby_2 (.slice (some ⟨b, off, none⟩) n c)
  have hC := bytes_2 w b off n c xs hr hle
  obtain ⟨M, hM⟩ : ∃ M, by1 w ⟨2, some ⟨b, off, none⟩, n, c⟩ = M := ⟨_, rfl⟩
  rw [hM]
  have hC2 : Calls Try.prog 117 #[.slice (some ⟨b, off, none⟩) n c] w fun e w' => e = .returned (.int .i64 ((M : Nat) : Int)) ∧ Below w.heap.size w w' := by rw [← hM]; exact hC
  have HC := hide hC2
  clear hr hle hby hat hn hC hC2 hM
  go_enter Try.func27, Try.ntmps27
  go_wp2_with fail
  refine HC.out.mono ?_
  rintro e w1 ⟨rfl, hb⟩
  have HB := hide hb
  clear hb HC
  go_wp2
  go_ret
  exact ⟨rfl, HB.out⟩

set_option maxHeartbeats 2000000 in
set_option maxRecDepth 100000 in
theorem bare_1 {K : Nat → Prop} {h : Nat} (w : World) (b off n c : Nat) (xs : List Tr) (hr : Rd K w h ⟨1, some ⟨b, off, none⟩, n, c⟩ xs) (hle : bb w ⟨1, some ⟨b, off, none⟩, n, c⟩ ≤ 1000000000) :
    Calls Try.prog 27 #[.iface 97 (.slice (some ⟨b, off, none⟩) n c)] w fun e w' => e = .returned (.int .i64 ((bb w ⟨1, some ⟨b, off, none⟩, n, c⟩ : Nat) : Int)) ∧ Below w.heap.size w w' := by
  obtain ⟨b', off', e1, kb, hbl, hat⟩ := hr.at
  cases e1
  have hn : n = xs.length := hr.2.2.1
  have hm : n ≤ maxLen := by have := hr.2.2.2.1.1; omega
  have hm' : n ≤ 9223372036854775807 := hm
  have hcap : n ≤ c := by have := hr.2.2.2.1.2; simp only at this; omega
  obtain ⟨B1, hB1⟩ : ∃ B1, by1 w ⟨1, some ⟨b, off, none⟩, n, c⟩ = B1 := ⟨_, rfl⟩
  have hby : bb w ⟨1, some ⟨b, off, none⟩, n, c⟩ = B1 + sumTo (fun j => pn w 1 b off j * 88 + wn w 1 b off j * 104) n := by rw [← hB1]; rfl
  rw [hby] at hle ⊢
  obtain ⟨f, hf⟩ : ∃ f, (fun j => pn w 1 b off j * 88 + wn w 1 b off j * 104) = f := ⟨_, rfl⟩
  rw [hf] at hle ⊢
  have HF := hide hf
  have ht := ta_1 (.slice (some ⟨b, off, none⟩) n c)
  have hmd := mby_1 (.slice (some ⟨b, off, none⟩) n c)
  have hC := bytes_1 w b off n c xs hr (by omega)
  rw [hB1] at hC
  have HC := hide hC
  obtain ⟨M, hM⟩ : ∃ M : Int, (B1 : Int) = M := ⟨_, rfl⟩
  have HB0 : Hid (M = ((B1 : Nat) : Int)) := hM.symm
  have HAT := hide hat
  have HN := hide hn
  clear hat hr hm hby hf hB1 hC hn
  go_enter Try.func27, Try.ntmps27
  go_wp2_with fail
  refine HC.out.mono ?_
  rintro e w1 ⟨rfl, hb⟩
  have HB1 := hide hb
  rw [hM]
  clear hb HC hM
  go_wp2
  go_loopw [3, 20] (fun tB tI wr => ∃ (i : Nat) (z : Int), i ≤ n ∧ tI = .int .i64 i ∧ tB = .int .i64 z ∧ z = ((B1 + sumTo f i : Nat) : Int) ∧ Below w.heap.size w wr) (fun tB tI _ => n - (intOf tI).toNat)
  case atStart => exact ⟨0, _, Nat.zero_le _, rfl, rfl, by have h9 := HB0.out; have h0 : sumTo f 0 = 0 := rfl; rw [h0]; omega, HB1.out⟩
  case round =>
    obtain ⟨i, z, hi, rfl, rfl, hz, hbw⟩ := hrel
    have HZ := hide hz
    have HBW := hide hbw
    clear hbw
    by_cases hlt : i < n
    · obtain ⟨t, ht⟩ : ∃ t, xs[i]? = some t := ⟨xs[i]'(by have := HN.out; omega), List.getElem?_eq_getElem (by have := HN.out; omega)⟩
      obtain ⟨cs, hlen, hcs, hrt⟩ := HAT.out i t ht
      have hcs2 : ∀ q u, cs[q]? = some u → w.cell? ⟨b, off + i * 9 + q, none⟩ = some u := hcs
      obtain ⟨b0, oP, nP, cP, a0, a1, a2, o0, n0, c0, o1, n1, c1, o2, n2, c2, o9, m9, c8, rfl, hm0, hm1, hm2, hm9, hkids⟩ := cellsOf_1 hcs2 hrt
      have hcx : ∀ q u, [(.string b0), (.slice oP nP cP), (.int .i64 a0), (.string a1), (.int .i64 a2), (.slice o0 n0 c0), (.slice o1 n1 c1), (.slice o2 n2 c2), (.slice o9 m9 c8)][q]? = some u → wr.cell? ⟨b, off + i * 9 + q, none⟩ = some u := fun q u hq => (HBW.out.cell (p := ⟨b, off + i * 9 + q, none⟩) hbl).trans (hcs2 q u hq)
      have l1 : lenAt w b (off + i * 9 + 1) = nP := lenAt_of (hcs2 1 _ rfl)
      have q0 := hcx 0 (.string b0) rfl
      have q1 := hcx 1 (.slice oP nP cP) rfl
      have q2 := hcx 2 (.int .i64 a0) rfl
      have q3 := hcx 3 (.string a1) rfl
      have q4 := hcx 4 (.int .i64 a2) rfl
      have q5 := hcx 5 (.slice o0 n0 c0) rfl
      have q6 := hcx 6 (.slice o1 n1 c1) rfl
      have q7 := hcx 7 (.slice o2 n2 c2) rfl
      have q8 := hcx 8 (.slice o9 m9 c8) rfl
      rw [Nat.add_zero] at q0
      have hst := sumTo_at f hlt
      have hlt2 : (i : Int) < n := by omega
      have hfi : f i = nP * 88 + (if m9 = 0 then 0 else 1) * 104 := by
        rw [← HF.out]
        show lenAt w b (off + i * 9 + 1) * 88 + (if lenAt w b (off + i * 9 + 8) = 0 then 0 else 1) * 104 = _
        rw [l1, lenAt_of (hcs2 8 _ rfl)]
      have hnP : nP ≤ 9223372036854775807 := by omega
      have hm9' : m9 ≤ 9223372036854775807 := hm9
      have hw1 : IntKind.i64.wrap ((nP : Int) * 88) = (nP : Int) * 88 := by rw [IntKind.wrap_i64]; omega
      have hw2 : IntKind.i64.wrap (z + (nP : Int) * 88) = z + (nP : Int) * 88 := by rw [IntKind.wrap_i64]; omega
      clear hcs hcs2 hrt hcx ht hlen hkids hz
      clear l1
      by_cases hz9 : m9 = 0
      · subst hz9
        rw [if_pos rfl] at hfi
        have HFI : Hid (z + (nP : Int) * 88 = ((B1 + sumTo f (i + 1) : Nat) : Int)) := by show z + (nP : Int) * 88 = ((B1 + (sumTo f i + f i) : Nat) : Int); have := HZ.out; omega
        clear hst hfi
        go_wp2
        exact ⟨⟨i + 1, _, hlt, by go_num, rfl, HFI.out, HBW.out.trans (((Below.refl _ wr).alloc (Nat.le_refl _) _).mono HBW.out.size)⟩, by simp [intOf]; omega⟩
      · rw [if_neg hz9] at hfi
        have hp9 : (0 : Int) < m9 := by omega
        have HFI : Hid (z + (nP : Int) * 88 + 104 = ((B1 + sumTo f (i + 1) : Nat) : Int)) := by show z + (nP : Int) * 88 + 104 = ((B1 + (sumTo f i + f i) : Nat) : Int); have := HZ.out; omega
        have hw3 : IntKind.i64.wrap (z + (nP : Int) * 88 + 104) = z + (nP : Int) * 88 + 104 := by rw [IntKind.wrap_i64]; have := HZ.out; omega
        clear hst hfi
        go_wp2
        exact ⟨⟨i + 1, _, hlt, by go_num, rfl, HFI.out, HBW.out.trans (((Below.refl _ wr).alloc (Nat.le_refl _) _).mono HBW.out.size)⟩, by simp [intOf]; omega⟩
    · obtain rfl : i = n := by omega
      clear hz
      go_wp2
      go_ret
      exact ⟨by first | rfl | (rw [HZ.out]; rfl) | (have h9 := HZ.out; subst h9; rfl), HBW.out⟩

theorem bare_I {K : Nat → Prop} {h : Nat} {i : Nat} (hi : i < 3) (w : World) (b off n c : Nat) (xs : List Tr) (hr : Rd K w h ⟨i, some ⟨b, off, none⟩, n, c⟩ xs) (hle : bb w ⟨i, some ⟨b, off, none⟩, n, c⟩ ≤ 1000000000) :
    Calls Try.prog 27 #[.iface (tyOf i) (.slice (some ⟨b, off, none⟩) n c)] w fun e w' => e = .returned (.int .i64 ((bb w ⟨i, some ⟨b, off, none⟩, n, c⟩ : Nat) : Int)) ∧ Below w.heap.size w w' := by
  rcases three hi with rfl | rfl | rfl
  · exact bare_0 w b off n c xs hr hle
  · exact bare_1 w b off n c xs hr hle
  · exact bare_2 w b off n c xs hr hle
end Go.Proofs.Ytgeckgdmkjddpaa.Hd
namespace Go.Proofs.Ytgeckgdmkjddpaa.It
open Go.RowKit
set_option linter.unusedVariables false

/-- A row of values, one cell each, that is owned from B on. -/
def ORow (E : TypeId) (B : Nat) (w : World) (v : Value) (xs : List Value) : Prop := w.ownsRow B E 1 v xs.length xs
theorem ORow.form {E : TypeId} {B : Nat} {w : World} {v : Value} {xs : List Value} (h : ORow E B w v xs) : ∃ o cap, v = .slice o xs.length cap ∧ xs.length ≤ cap ∧ cap ≤ maxLen := by
  rcases h.2 with ⟨rfl, h0⟩ | ⟨g, cap, cur, rfl, hb, hg, hn, hcap, -⟩
  · exact ⟨none, 0, by rw [h0], by omega, by unfold maxLen; omega⟩
  · exact ⟨_, _, rfl, hn, hcap⟩
theorem ORow.own {E : TypeId} {B : Nat} {w : World} {v : Value} {xs : List Value} (h : ORow E B w v xs) {g : Nat} (e : v.ownBlock = some g) : B ≤ g ∧ ∃ cur, w.heap[g]? = some (.cells cur E (0, 0)) := by
  rcases h.2 with ⟨rfl, h0⟩ | ⟨g', cap, cur, rfl, hb, hg, -⟩
  · cases e
  · cases e
    exact ⟨hb, cur, hg⟩
theorem ORow.keep {E : TypeId} {B : Nat} {w w' : World} {v : Value} {xs : List Value} (h : ORow E B w v xs) (hk : ∀ g, v.ownBlock = some g → w'.heap[g]? = w.heap[g]?) : ORow E B w' v xs := by
  obtain ⟨hl, h⟩ := h
  refine ⟨hl, ?_⟩
  rcases h with h | ⟨g, cap, cur, rfl, hb, hg, h⟩
  · exact .inl h
  · exact .inr ⟨g, cap, cur, rfl, hb, (hk g rfl).trans hg, h⟩
theorem ORow.base {E : TypeId} {B B' : Nat} {w : World} {v : Value} {xs : List Value} (h : ORow E B w v xs) (hb : B' ≤ B) : ORow E B' w v xs := by
  obtain ⟨hl, h⟩ := h
  refine ⟨hl, ?_⟩
  rcases h with h | ⟨g, cap, cur, rfl, hb', h⟩
  · exact .inl h
  · exact .inr ⟨g, cap, cur, rfl, Nat.le_trans hb hb', h⟩
/-- The last one, and what is ahead of it. -/
theorem ORow.last {E : TypeId} {B : Nat} {w : World} {v : Value} {xs : List Value} {x : Value} (h : ORow E B w v (xs ++ [x])) : ∃ g cap, v = .slice (some ⟨g, 0, none⟩) (xs.length + 1) cap ∧ xs.length + 1 ≤ cap ∧ cap ≤ maxLen ∧ w.cell? ⟨g, xs.length, none⟩ = some x ∧ ORow E B w (.slice (some ⟨g, 0, none⟩) xs.length cap) xs := by
  obtain ⟨hl, h⟩ := h
  rcases h with ⟨-, h0⟩ | ⟨g, cap, cur, rfl, hb, hg, hn, hc, hsz, ht⟩
  · simp at h0
  · rw [List.length_append, List.length_singleton] at hn ht ⊢
    refine ⟨g, cap, rfl, hn, hc, ?_, by rw [Nat.mul_one], .inr ⟨g, cap, cur, rfl, hb, hg, by omega, hc, hsz, ?_⟩⟩
    · rw [cell_of hg]
      have := congrArg (fun l => l[xs.length]?) ht
      simp only [Nat.mul_one] at this
      rw [List.getElem?_take, if_pos (by omega)] at this
      simpa using this
    · have := congrArg (List.take xs.length) ht
      rw [List.take_take, List.take_left, Nat.mul_one, Nat.min_eq_left (by omega)] at this
      rw [Nat.mul_one]
      exact this
theorem ORow.app {T E : TypeId} {i0 : TypeInfo} {z : Value} {bytes : Nat} (hT : Try.prog.underlying T = some (.slice E)) (hi : Try.prog.info? E = some i0) (hz : i0.zero = some z) (hsz : i0.size = 1) (hby : i0.bytes = bytes) (hzs : z.cells.size = 1) (hb : bytes ≤ 1000)
    {B : Nat} {w : World} {v : Value} {xs : List Value} (h : ORow E B w v xs) (hB : B ≤ w.heap.size) {g c : Nat} {u : Value} (hg : w.cell? ⟨g, 0, none⟩ = some u) (hu : u.oneCell' = true) (hn : xs.length + 1 ≤ 100000000) (ty : TypeId) :
    ∃ v' w', (Builtin.append_ #[T, T] ty #[v, .slice (some ⟨g, 0, none⟩) 1 c]).run Try.prog w = .ok v' w' ∧ ORow E B w' v' (xs ++ [u]) ∧ w.grownBy w' v.ownBlock ∧ (v'.ownBlock = v.ownBlock ∨ v'.ownBlock = some w.heap.size) := by
  obtain ⟨v', w', h1, h2, h3, h4⟩ := Nm.app_run (P := Try.prog) hT hi hz hsz hby hzs (by omega) hb h hB (some ⟨g, 0, none⟩) 1 c [u] (by simp) (fun _ => ⟨g, 0, rfl, fun j y hj => by
    cases j with
    | zero =>
      simp at hj
      subst hj
      exact hg
    | succ j => simp at hj⟩) (fun y hy => by rw [List.mem_singleton.1 hy]; exact hu) hn ty
  exact ⟨v', w', h1, by unfold ORow; rw [List.length_append, List.length_singleton]; exact h2, h3, h4⟩
end Go.Proofs.Ytgeckgdmkjddpaa.It
namespace Go.Proofs.Ytgeckgdmkjddpaa
open Go.RowKit

/-- Each operation waits for what stands ahead of it in the text alone. -/
def aheadB (md : Region.Mode) (ops : Array Oper) : Bool := (List.range ops.size).all fun i => ((ops[i]?).map fun o => o.after.all fun e => !Region.binds md e || decide (e.on < i)).getD true
section
variable {F : Fence} {n : Nat} {P : Program} {ops : Array Oper} {Q : Exit → Act → World → Prop} {md : Region.Mode}
theorem all_listed (hB : aheadB md ops = true) {listed : Array Bool} (hs : listed.size = ops.size) (hr : Region.ready md ops listed = []) : ∀ i, i < ops.size → listed.getD i false = true := by
  intro i
  induction i using Nat.strongRecOn with
  | ind i ih =>
    intro hi
    cases hl : listed.getD i false with
    | true => rfl
    | false =>
      exfalso
      have ho : ops[i]? = some ops[i] := Array.getElem?_eq_getElem hi
      have hB2 := List.all_eq_true.1 hB i (List.mem_range.2 hi)
      rw [ho] at hB2
      simp only [Option.map_some, Option.getD_some, Array.all_eq_true_iff_forall_mem, Bool.or_eq_true, Bool.not_eq_true', decide_eq_true_eq] at hB2
      have hm : i ∈ Region.ready md ops listed := mem_ready.2 ⟨by
        have hi2 : i < listed.size := by omega
        simpa [hi2] using hl, ops[i], ho, fun e he hb => by
        rcases hB2 e he with h1 | h1
        · rw [hb] at h1; cases h1
        · exact ih e.on h1 (by omega)⟩
      rw [hr] at hm
      cases hm
def cntB (l : List Bool) : Nat := l.countP fun b => !b
theorem cnt_set {listed : Array Bool} {i : Nat} (h : listed.getD i true = false) : cntB (listed.setIfInBounds i true).toList + 1 = cntB listed.toList := by
  have hi : i < listed.size := by
    rcases Nat.lt_or_ge i listed.size with h1 | h1
    · exact h1
    · simp [Array.getElem?_eq_none h1] at h
  have hl : listed[i] = false := by simpa [hi] using h
  unfold cntB
  have key : ∀ (l : List Bool) (i : Nat), l[i]? = some false → (l.set i true).countP (fun b => !b) + 1 = l.countP fun b => !b := by
    intro l
    induction l with
    | nil => intro i h; cases h
    | cons b l ih =>
      intro i h
      cases i with
      | zero =>
        have : b = false := by simpa using h
        subst this
        simp
      | succ i =>
        have := ih i (by simpa using h)
        simp only [List.set_cons_succ, List.countP_cons]
        omega
  have h2 : listed.toList[i]? = some false := by rw [Array.getElem?_toList, Array.getElem?_eq_getElem hi, hl]
  rw [Array.toList_setIfInBounds]
  exact key _ _ h2
theorem wpAnyIn_inv (I : Array Bool → Act → World → Prop) (hstep : ∀ listed a w, listed.size = ops.size → I listed a w → ∀ i ∈ Region.ready md ops listed, wpOpIn F n P ops Q i (I (listed.setIfInBounds i true)) a w)
    (hend : ∀ listed a w, listed.size = ops.size → I listed a w → Region.ready md ops listed = [] → Q .normal a w) :
    ∀ (fuel : Nat) (listed : Array Bool) (a : Act) (w : World), listed.size = ops.size → cntB listed.toList ≤ fuel → I listed a w → wpAnyIn F n P md ops Q fuel listed a w := by
  intro fuel
  induction fuel with
  | zero =>
    intro listed a w hs hc hI
    have hr : Region.ready md ops listed = [] := by
      rcases hr : Region.ready md ops listed with _ | ⟨i, r⟩
      · rfl
      · exfalso
        have hi : i ∈ Region.ready md ops listed := by rw [hr]; simp
        have := cnt_set (mem_ready.1 hi).1
        omega
    exact ⟨hr, hend listed a w hs hI hr⟩
  | succ fuel ih =>
    intro listed a w hs hc hI
    refine ⟨fun hr => hend listed a w hs hI hr, fun i hi => ?_⟩
    refine wpOpIn_mono (fun a' w' h => ?_) (hstep listed a w hs hI i hi)
    have h1 := cnt_set (mem_ready.1 hi).1
    exact ih _ a' w' (by simpa using hs) (by omega) h
/-- THE RULE: I holds of what has been done, and goes on whatever comes next; at the end all has been done. -/
theorem wpIn_region_inv {id : Nat} {a : Act} {w : World} (I : Array Bool → Act → World → Prop) (hm : P.follows .mixedOrders = true) (hB : aheadB .any ops = true) (h0 : I (Array.replicate ops.size false) a w.drew)
    (hstep : ∀ listed a w, listed.size = ops.size → I listed a w → ∀ i ∈ Region.ready .any ops listed, wpOpIn F n P ops Q i (I (listed.setIfInBounds i true)) a w)
    (hend : ∀ listed a w, listed.size = ops.size → I listed a w → (∀ i, i < ops.size → listed.getD i false = true) → Q .normal a w) : (Code.region id ops true).wpIn F n P Q a w :=
  wpIn_region_any hm (wpAnyIn_inv (md := .any) I hstep (fun listed a w hs hI hr => hend listed a w hs hI (all_listed hB hs hr)) _ _ a _ (by simp) (by
    unfold cntB
    have := List.countP_le_length (p := fun b : Bool => !b) (l := (Array.replicate ops.size false).toList)
    simpa using this) h0)
/-- What is known of an operation that comes up. -/
theorem ready_lt {i : Nat} {listed : Array Bool} (h : i ∈ Region.ready md ops listed) : i < ops.size := by
  obtain ⟨-, o, ho, -⟩ := mem_ready.1 h
  exact (Array.getElem?_eq_some_iff.1 ho).1
def depB (md : Region.Mode) (ops : Array Oper) (i d : Nat) : Bool := ((ops[i]?).map fun o => o.after.any fun e => Region.binds md e && e.on == d).getD false
theorem ready_dep {i : Nat} (d : Nat) {listed : Array Bool} (h : i ∈ Region.ready md ops listed) (hd : depB md ops i d = true) : listed.getD d false = true := by
  obtain ⟨-, o, ho, hall⟩ := mem_ready.1 h
  unfold depB at hd
  rw [ho] at hd
  simp only [Option.map_some, Option.getD_some, Array.any_eq_true'] at hd
  obtain ⟨e, he, h2⟩ := hd
  simp only [Bool.and_eq_true, beq_iff_eq] at h2
  rw [← h2.2]
  exact hall e he h2.1
end
end Go.Proofs.Ytgeckgdmkjddpaa
