/- Made of RNg, RNh. -/
import Derived.Test.YtgeckgdmkjddpaaQ08
namespace Go.Proofs.Ytgeckgdmkjddpaa.Mh
open Go.ChangeShapes Go.WideShapes Go.ChangeAt Go.RowKit
set_option linter.unusedVariables false

/-- The cells of a place. -/
def Cs (w : World) (b P : Nat) (us : List Value) : Prop := ∀ d u, us[d]? = some u → w.cell? ⟨b, P + d, none⟩ = some u
theorem Cs.same {w w' : World} {b P : Nat} {us : List Value} (h : Cs w b P us) (e : w'.heap[b]? = w.heap[b]?) : Cs w' b P us := fun d u hd => (cell_same e _).trans (h d u hd)
theorem Cs.set {w : World} {b P d : Nat} {us : List Value} {u v : Value} (h : Cs w b P us) (hd : us[d]? = some u) : Cs (w.setCell ⟨b, P + d, none⟩ v) b P (us.set d v) := by
  intro e x hx
  by_cases hed : d = e
  · subst hed
    have hl := (List.getElem?_eq_some_iff.1 hd).1
    rw [List.getElem?_set_self hl] at hx
    cases hx
    exact cell_now (h d u hd)
  · rw [List.getElem?_set_ne hed] at hx
    exact cell_other (h e x hx) (.inr (by omega))
theorem SR.toS {w w' : World} {m : Nat} {S : Nat → Prop} {v : Value} (hh : ∀ x, S x → w'.heap[x]? = w.heap[x]?) (h : SR 1 (strB w) w S v m) : SR 1 (strB w') w' S v m := h.frame hh fun b p T q hb hT hx => by
  obtain ⟨⟨s, hs⟩, h1⟩ := hx
  exact ⟨⟨s, (cell_same (hh b hb) _).trans hs⟩, h1⟩
theorem HR.toS {w w' : World} {k k' : Nat} {S T : Nat → Prop} {v : Value} (hh : ∀ x, S x → w'.heap[x]? = w.heap[x]?) (hST : ∀ x, S x → T x) (h : HR 1 (strA w) S v k k') : HR 1 (strA w') T v k k' := (h.frame (R' := strA w') fun b p a c hb hx => ⟨hx.1, (cell_same (hh b hb) p).trans hx.2⟩).more hST fun _ _ _ _ h => h

set_option maxHeartbeats 4000000 in
set_option maxRecDepth 100000 in
theorem mA_of {H : Nat} (ih : ∀ h, h < H → ME h ∧ MD h ∧ MA h) : MA H := by
  intro S v m k w hr hSw hkm
  obtain ⟨o, n, c, b, off, T, q, rfl, hn, ho, e2, e3, e4, e5⟩ := hr.open'
  have HI0 : Hid (Inv 8 (fun w T => (hd w T H).al) (fun w => (sh w H).al) w S b off n k T q 0 k w) := ⟨⟨fun _ => k, rfl, rfl, fun _ _ => Nat.le_refl _, fun j hj => absurd hj (by omega)⟩, fun j _ hj => e2 j hj, Nat.le_add_right _ _, fun h0 => (ho h0).2.2, Keeps.refl _ _⟩
  have HO : Hid (0 < n → o = some ⟨b, off, none⟩ ∧ S b) := fun h0 => ⟨(ho h0).1, (ho h0).2.1⟩
  have HT := hide e3
  have HD := hide e4
  have HSW := hide hSw
  have IH := hide ih
  have ml : n ≤ 9223372036854775807 := hn
  clear hr ho e2 e3 e4 hSw ih
  go_enter Try.func36, Try.ntmps36
  go_wp2
  go_loopw [1, 5] (fun t1 t5 wr => ∃ i r : Nat, i ≤ n ∧ t5 = .int .i64 i ∧ t1 = .int .i64 ((r : Int) + 1) ∧ k ≤ r ∧ Hid (Inv 8 (fun w T => (hd w T H).al) (fun w => (sh w H).al) w S b off n k T q i r wr)) (fun _ t5 _ => n - (intOf t5).toNat)
  case atStart => exact ⟨0, k, Nat.zero_le _, rfl, rfl, Nat.le_refl _, HI0⟩
  case round =>
    obtain ⟨i, r, hi, rfl, rfl, hkr, HIV⟩ := hrel
    by_cases hlt : i < n
    · obtain ⟨eo, hSb⟩ := HO.out (by omega)
      subst eo
      have hrest := HIV.out.rest i (Nat.le_refl _) hlt
      have hle := HIV.out.le
      have hq1 : sumQ q i + q i ≤ sumQ q n := sumQ_le q n (i + 1) hlt
      cases H with
      | zero => exact hrest.elim
      | succ H =>
        obtain ⟨s, v1, S1, T2, m1, m2, q0, q1, r1, rE, hs, d1, hm⟩ := hrest
        cases H with
        | zero => exact rE.elim
        | succ H =>
          obtain ⟨kk, s2, nn, u1, u2, u3, U1, U2, U3, n1, n2, n3, q2, q3, q4, q5, q6, q7, p1, p2, p3, hu, g1, g2, g3, hnm⟩ := rE
          obtain ⟨ihE, ihD, ihA⟩ := IH.out H (by omega)
          obtain ⟨-, ihD1, -⟩ := IH.out (H + 1) (by omega)
          have hTb : Hid (¬ T i b) := fun h9 => (HT.out i b hlt h9).2 rfl
          have hTw : Hid (∀ x, T i x → x < wr.heap.size ∧ x ≠ b) := fun x hx => ⟨Nat.lt_of_lt_of_le (HSW.out x (HT.out i x hlt hx).1) HIV.out.keep.size, (HT.out i x hlt hx).2⟩
          have iS : Hid (∀ x, S1 x → T i x) := fun x hx => hs x (.inl hx)
          have i2 : Hid (∀ x, T2 x → T i x) := fun x hx => hs x (.inr hx)
          have iU1 : Hid (∀ x, U1 x → T i x) := fun x hx => i2.out x (hu x (.inl hx))
          have iU2 : Hid (∀ x, U2 x → T i x) := fun x hx => i2.out x (hu x (.inr (.inl hx)))
          have iU3 : Hid (∀ x, U3 x → T i x) := fun x hx => i2.out x (hu x (.inr (.inr hx)))
          have x1 : Hid (Dj S1 U1) := fun x hx hy => d1 x hx (hu x (.inl hy))
          have x2 : Hid (Dj S1 U2) := fun x hx hy => d1 x hx (hu x (.inr (.inl hy)))
          have x3 : Hid (Dj S1 U3) := fun x hx hy => d1 x hx (hu x (.inr (.inr hy)))
          have y12 := hide g1
          have y13 := hide g2
          have y23 := hide g3
          have C0 : Hid (Cs wr b (off + i * 8) [.string s, v1, .int .i64 kk, .string s2, .int .i64 nn, u1, u2, u3]) := fun d u hd => by
            match d, u, hd with
            | 0, u, h => cases h; exact q0
            | 1, u, h => cases h; exact q1
            | 2, u, h => cases h; exact q2
            | 3, u, h => cases h; exact q3
            | 4, u, h => cases h; exact q4
            | 5, u, h => cases h; exact q5
            | 6, u, h => cases h; exact q6
            | 7, u, h => cases h; exact q7
          have R1 := hide r1
          have P1 := hide p1
          have P2 := hide p2
          have P3 := hide p3
          have HihE := hide ihE
          have HihD := hide ihD
          have HihA := hide ihA
          have F0 : Hid (Fm b (off + i * 8) 8 (fun _ => False) wr wr) := Fm.refl (HIV.out.plain (by omega))
          clear q0 q1 q2 q3 q4 q5 q6 q7 hs hu d1 g1 g2 g3 r1 p1 p2 p3 ihE ihD ihA ihD1 
          have hrb : r ≤ 8900000 := by omega
          go_wp2_with fail
          refine Calls.mono (Nm.mt0 r hrb _) ?_
          rintro ee w1 ⟨rfl, hb1⟩
          have HB1 := hide hb1
          clear hb1
          have F1 : Hid (Fm b (off + i * 8) 8 (fun _ => False) wr w1) := F0.out.later HB1.out
          have C1 : Hid (Cs w1 b (off + i * 8) [.string s, v1, .int .i64 kk, .string s2, .int .i64 nn, u1, u2, u3]) := by
            obtain ⟨cs, e, hp⟩ := F0.out.plain
            exact C0.out.same (HB1.out.block b (heap_lt hp))
          have y2 : w1.cell? ⟨b, off + i * 8, none⟩ = some (.string s) := C1.out 0 _ rfl
          obtain ⟨bc1, bt1, hpc1⟩ := F1.out.plain
          have f2 := frozen_of hpc1 (off + i * 8)
          have F4 : Hid (Fm b (off + i * 8) 8 (fun _ => False) wr (w1.setCell ⟨b, off + i * 8, none⟩ (.string (markS r)))) := F1.out.set _ (by omega)
          have C4 : Hid (Cs (w1.setCell ⟨b, off + i * 8, none⟩ (.string (markS r))) b (off + i * 8) [.string (markS r), v1, .int .i64 kk, .string s2, .int .i64 nn, u1, u2, u3]) := C1.out.set (d := 0) (v := .string (markS r)) rfl
          have y5 := C4.out 1 _ rfl
          clear hpc1
          obtain ⟨W4, hW4⟩ : ∃ W, W = (w1.setCell ⟨b, off + i * 8, none⟩ (.string (markS r))) := ⟨_, rfl⟩
          have a4 : Hid (∀ x, T i x → W4.heap[x]? = wr.heap[x]?) := fun x hx => by rw [hW4]; exact F4.out.keep.block x ⟨(hTw.out x hx).1, (hTw.out x hx).2, fun h => h⟩
          have z4 : Hid (wr.heap.size ≤ W4.heap.size) := by rw [hW4]; exact F4.out.keep.size
          have HC6 : Hid (Calls Try.prog 44 #[v1, .int .i64 ((r : Int) + 1 + 1)] W4 (Mr 1 (fun w _ => strA w) S1 v1 (r + 1) m1 W4)) := by
            have h9 := markS_all S1 v1 m1 (r + 1) W4 (R1.out.toS fun x hx => a4.out x (iS.out x hx)) (by omega)
            have e9 : (((r + 1) : Nat) : Int) + 1 = ((r : Int) + 1 + 1) := by omega
            rw [e9] at h9
            exact h9
          rw [hW4] at HC6
          go_wp2_with fail
          refine Calls.mono HC6.out ?_
          rw [← hW4] at F4 C4 ⊢
          clear HC6 y2 f2 y5
          rintro ee w6 ⟨r6, rfl, hr6, hs6, hh6, hk6⟩
          have HH6 := hide hh6
          have HK6 := hide hk6
          clear hh6 hk6
          have F6 : Hid (Fm b (off + i * 8) 8 (T i) wr w6) := (F4.out.mono fun _ h => h.elim).call iS.out hTb.out HK6.out
          have C6 : Hid (Cs w6 b (off + i * 8) [.string (markS r), v1, .int .i64 kk, .string s2, .int .i64 nn, u1, u2, u3]) := C4.out.same (HK6.out.block b ⟨by obtain ⟨cs, e, hp⟩ := F4.out.plain; exact heap_lt hp, fun h9 => hTb.out (iS.out b h9)⟩)
          have a6 : Hid (∀ x, T i x → ¬ S1 x → w6.heap[x]? = wr.heap[x]?) := fun x hx hn => (HK6.out.block x ⟨Nat.lt_of_lt_of_le (hTw.out x hx).1 z4.out, hn⟩).trans (a4.out x hx)
          have z6 : Hid (wr.heap.size ≤ w6.heap.size) := F6.out.keep.size
          have y7 := C6.out 2 _ rfl
          obtain ⟨bc6, bt6, hpc6⟩ := F6.out.plain
          have f8 := frozen_of hpc6 (off + i * 8 + 2)
          have E6 : Hid (Fm b (off + i * 8) 8 (fun _ => False) w6 w6) := Fm.refl F6.out.plain
          have E9 : Hid (Fm b (off + i * 8) 8 (fun _ => False) w6 (w6.setCell ⟨b, off + i * 8 + 2, none⟩ (.int .i64 ((r6 : Int) + 1)))) := E6.out.set _ (by omega)
          have C9 : Hid (Cs (w6.setCell ⟨b, off + i * 8 + 2, none⟩ (.int .i64 ((r6 : Int) + 1))) b (off + i * 8) [.string (markS r), v1, .int .i64 ((r6 : Int) + 1), .string s2, .int .i64 nn, u1, u2, u3]) := C6.out.set (d := 2) (v := .int .i64 ((r6 : Int) + 1)) rfl
          clear hpc6
          have hrb10 : r6 ≤ 8900000 := by omega
          go_wp2_with fail
          refine Calls.mono (Nm.mt1 r6 hrb10 _) ?_
          rintro ee w10 ⟨rfl, hb10⟩
          have HB10 := hide hb10
          clear hb10 y7 f8
          have E10 : Hid (Fm b (off + i * 8) 8 (fun _ => False) w6 w10) := E9.out.later HB10.out
          have C10 : Hid (Cs w10 b (off + i * 8) [.string (markS r), v1, .int .i64 ((r6 : Int) + 1), .string s2, .int .i64 nn, u1, u2, u3]) := by
            obtain ⟨cs, e, hp⟩ := E9.out.plain
            exact C9.out.same (HB10.out.block b (heap_lt hp))
          have y11 := C10.out 3 _ rfl
          obtain ⟨bc10, bt10, hpc10⟩ := E10.out.plain
          have f12 := frozen_of hpc10 (off + i * 8 + 3)
          have E13 : Hid (Fm b (off + i * 8) 8 (fun _ => False) w6 (w10.setCell ⟨b, off + i * 8 + 3, none⟩ (.string (markS (r6 + 1))))) := E10.out.set _ (by omega)
          have C13 : Hid (Cs (w10.setCell ⟨b, off + i * 8 + 3, none⟩ (.string (markS (r6 + 1)))) b (off + i * 8) [.string (markS r), v1, .int .i64 ((r6 : Int) + 1), .string (markS (r6 + 1)), .int .i64 nn, u1, u2, u3]) := C10.out.set (d := 3) (v := .string (markS (r6 + 1))) rfl
          have y14 := C13.out 4 _ rfl
          obtain ⟨bc13, bt13, hpc13⟩ := E13.out.plain
          have f15 := frozen_of hpc13 (off + i * 8 + 4)
          have E16 : Hid (Fm b (off + i * 8) 8 (fun _ => False) w6 ((w10.setCell ⟨b, off + i * 8 + 3, none⟩ (.string (markS (r6 + 1)))).setCell ⟨b, off + i * 8 + 4, none⟩ (.int .i64 ((r6 : Int) + 1 + 1 + 1)))) := E13.out.set _ (by omega)
          have C16 : Hid (Cs ((w10.setCell ⟨b, off + i * 8 + 3, none⟩ (.string (markS (r6 + 1)))).setCell ⟨b, off + i * 8 + 4, none⟩ (.int .i64 ((r6 : Int) + 1 + 1 + 1))) b (off + i * 8) [.string (markS r), v1, .int .i64 ((r6 : Int) + 1), .string (markS (r6 + 1)), .int .i64 ((r6 : Int) + 1 + 1 + 1), u1, u2, u3]) := C13.out.set (d := 4) (v := .int .i64 ((r6 : Int) + 1 + 1 + 1)) rfl
          have y17 := C16.out 5 _ rfl
          clear hpc10 hpc13
          obtain ⟨W16, hW16⟩ : ∃ W, W = ((w10.setCell ⟨b, off + i * 8 + 3, none⟩ (.string (markS (r6 + 1)))).setCell ⟨b, off + i * 8 + 4, none⟩ (.int .i64 ((r6 : Int) + 1 + 1 + 1))) := ⟨_, rfl⟩
          have a16 : Hid (∀ x, T i x → W16.heap[x]? = w6.heap[x]?) := fun x hx => by rw [hW16]; exact E16.out.keep.block x ⟨Nat.lt_of_lt_of_le (hTw.out x hx).1 z6.out, (hTw.out x hx).2, fun h => h⟩
          have z16 : Hid (wr.heap.size ≤ W16.heap.size) := by rw [hW16]; exact Nat.le_trans z6.out E16.out.keep.size
          have HC18 : Hid (Calls Try.prog 34 #[u1, .int .i64 ((r6 : Int) + 1 + 1 + 1 + 1)] W16 (Mr 6 (fun w S => (hd w S H).ex) U1 u1 (r6 + 3) n1 W16)) := by
            have h9 := HihE.out U1 u1 n1 (r6 + 3) W16 (P1.out.toE fun x hx => (a16.out x (iU1.out x hx)).trans (a6.out x (iU1.out x hx) fun h9 => x1.out x h9 hx)) (fun x hx => Nat.lt_of_lt_of_le (hTw.out x (iU1.out x hx)).1 z16.out) (by omega)
            have e9 : (((r6 + 3) : Nat) : Int) + 1 = ((r6 : Int) + 1 + 1 + 1 + 1) := by omega
            rw [e9] at h9
            exact h9
          rw [hW16] at HC18
          go_wp2_with fail
          refine Calls.mono HC18.out ?_
          rw [← hW16] at E16 C16 ⊢
          clear HC18 y11 f12 y14 f15 y17
          rintro ee w18 ⟨r18, rfl, hr18, hs18, hh18, hk18⟩
          have HH18 := hide hh18
          have HK18 := hide hk18
          clear hh18 hk18
          have F16 : Hid (Fm b (off + i * 8) 8 (T i) wr W16) := F6.out.trans (E16.out.mono fun _ h => h.elim)
          have F18 : Hid (Fm b (off + i * 8) 8 (T i) wr w18) := F16.out.call iU1.out hTb.out HK18.out
          have C18 : Hid (Cs w18 b (off + i * 8) [.string (markS r), v1, .int .i64 ((r6 : Int) + 1), .string (markS (r6 + 1)), .int .i64 ((r6 : Int) + 1 + 1 + 1), u1, u2, u3]) := C16.out.same (HK18.out.block b ⟨by obtain ⟨cs, e, hp⟩ := F16.out.plain; exact heap_lt hp, fun h9 => hTb.out (iU1.out b h9)⟩)
          have a18 : Hid (∀ x, T i x → ¬ U1 x → w18.heap[x]? = W16.heap[x]?) := fun x hx hn => HK18.out.block x ⟨Nat.lt_of_lt_of_le (hTw.out x hx).1 z16.out, hn⟩
          have z18 : Hid (wr.heap.size ≤ w18.heap.size) := F18.out.keep.size
          have y20 := C18.out 6 _ rfl
          have HC20 : Hid (Calls Try.prog 35 #[u2, .int .i64 ((r18 : Int) + 1)] w18 (Mr 9 (fun w S => (hd w S H).de) U2 u2 r18 n2 w18)) := HihD.out U2 u2 n2 r18 w18 (P2.out.toD fun x hx => (a18.out x (iU2.out x hx) fun h9 => y12.out x h9 hx).trans ((a16.out x (iU2.out x hx)).trans (a6.out x (iU2.out x hx) fun h9 => x2.out x h9 hx))) (fun x hx => Nat.lt_of_lt_of_le (hTw.out x (iU2.out x hx)).1 z18.out) (by omega)
          go_wp2_with fail
          refine Calls.mono HC20.out ?_
          clear HC20 y20
          rintro ee w20 ⟨r20, rfl, hr20, hs20, hh20, hk20⟩
          have HH20 := hide hh20
          have HK20 := hide hk20
          clear hh20 hk20
          have F20 : Hid (Fm b (off + i * 8) 8 (T i) wr w20) := F18.out.call iU2.out hTb.out HK20.out
          have C20 : Hid (Cs w20 b (off + i * 8) [.string (markS r), v1, .int .i64 ((r6 : Int) + 1), .string (markS (r6 + 1)), .int .i64 ((r6 : Int) + 1 + 1 + 1), u1, u2, u3]) := C18.out.same (HK20.out.block b ⟨by obtain ⟨cs, e, hp⟩ := F18.out.plain; exact heap_lt hp, fun h9 => hTb.out (iU2.out b h9)⟩)
          have a20 : Hid (∀ x, T i x → ¬ U2 x → w20.heap[x]? = w18.heap[x]?) := fun x hx hn => HK20.out.block x ⟨Nat.lt_of_lt_of_le (hTw.out x hx).1 z18.out, hn⟩
          have z20 : Hid (wr.heap.size ≤ w20.heap.size) := F20.out.keep.size
          have y22 := C20.out 7 _ rfl
          have HC22 : Hid (Calls Try.prog 36 #[u3, .int .i64 ((r20 : Int) + 1)] w20 (Mr 8 (fun w S => (hd w S H).al) U3 u3 r20 n3 w20)) := HihA.out U3 u3 n3 r20 w20 (P3.out.toA fun x hx => ((a20.out x (iU3.out x hx) fun h9 => y23.out x h9 hx).trans (a18.out x (iU3.out x hx) fun h9 => y13.out x h9 hx)).trans ((a16.out x (iU3.out x hx)).trans (a6.out x (iU3.out x hx) fun h9 => x3.out x h9 hx))) (fun x hx => Nat.lt_of_lt_of_le (hTw.out x (iU3.out x hx)).1 z20.out) (by omega)
          go_wp2_with fail
          refine Calls.mono HC22.out ?_
          clear HC22 y22
          rintro ee w22 ⟨r22, rfl, hr22, hs22, hh22, hk22⟩
          have HH22 := hide hh22
          have HK22 := hide hk22
          clear hh22 hk22
          have F22 : Hid (Fm b (off + i * 8) 8 (T i) wr w22) := F20.out.call iU3.out hTb.out HK22.out
          have C22 : Hid (Cs w22 b (off + i * 8) [.string (markS r), v1, .int .i64 ((r6 : Int) + 1), .string (markS (r6 + 1)), .int .i64 ((r6 : Int) + 1 + 1 + 1), u1, u2, u3]) := C20.out.same (HK22.out.block b ⟨by obtain ⟨cs, e, hp⟩ := F20.out.plain; exact heap_lt hp, fun h9 => hTb.out (iU3.out b h9)⟩)
          have a22 : Hid (∀ x, T i x → ¬ U3 x → w22.heap[x]? = w20.heap[x]?) := fun x hx hn => HK22.out.block x ⟨Nat.lt_of_lt_of_le (hTw.out x hx).1 z20.out, hn⟩
          have z22 : Hid (wr.heap.size ≤ w22.heap.size) := F22.out.keep.size
          have HNEW : Hid ((hd w22 (T i) (H + 1 + 1)).al b (off + i * 8) r r22) := by
            have t3 : ∀ x, U3 x → w22.heap[x]? = w22.heap[x]? := fun x hx => rfl
            have t2 : ∀ x, U2 x → w22.heap[x]? = w20.heap[x]? := fun x hx => a22.out x (iU2.out x hx) fun h9 => y23.out x hx h9
            have t1 : ∀ x, U1 x → w22.heap[x]? = w18.heap[x]? := fun x hx => (a22.out x (iU1.out x hx) fun h9 => y13.out x hx h9).trans (a20.out x (iU1.out x hx) fun h9 => y12.out x hx h9)
            have t0 : ∀ x, S1 x → w22.heap[x]? = w6.heap[x]? := fun x hx => (((a22.out x (iS.out x hx) fun h9 => x3.out x hx h9).trans (a20.out x (iS.out x hx) fun h9 => x2.out x hx h9)).trans (a18.out x (iS.out x hx) fun h9 => x1.out x hx h9)).trans (a16.out x (iS.out x hx))
            have hE : (hd w22 (T i) (H + 1)).ex b (off + i * 8 + 2) r6 r22 := ⟨C22.out 2 _ rfl, C22.out 3 _ rfl, C22.out 4 _ rfl, u1, u2, u3, r18, r20, C22.out 5 _ rfl, C22.out 6 _ rfl, C22.out 7 _ rfl, HH18.out.toE t1 iU1.out, HH20.out.toD t2 iU2.out, HH22.out.toA t3 iU3.out⟩
            exact ⟨C22.out 0 _ rfl, v1, r6, C22.out 1 _ rfl, HH6.out.toS t0 iS.out, hE⟩
          have HSTEP : Hid (Inv 8 (fun w T => (hd w T (H + 1 + 1)).al) (fun w => (sh w (H + 1 + 1)).al) w S b off n k T q (i + 1) r22 w22) := HIV.out.step (fun w w' b p T a c h1 h2 h3 => (hd_keep (H + 1 + 1)).2.2 b p T a c h1 h2 h3) (fun w w' b p T m h1 h2 h3 => (sh_frame (H + 1 + 1)).2.2 b p T m h1 h2 h3) hlt HSW.out hSb HT.out HD.out HNEW.out (by omega) (by omega) F22.out
          go_wp2
          go_roundw
          case rel => exact ⟨i + 1, r22, by omega, by go_num, rfl, by omega, HSTEP⟩
          case measure => simp [intOf]; omega
    · have hie : i = n := by omega
      subst hie
      go_wp2
      go_ret
      exact HIV.out.done hn HO.out HT.out e5 hkr fun T b p a c hTS h => (hd_more hTS H).2.2 b p a c h
end Go.Proofs.Ytgeckgdmkjddpaa.Mh
namespace Go.Proofs.Ytgeckgdmkjddpaa.Mh
open Go.ChangeShapes Go.WideShapes Go.ChangeAt Go.RowKit
set_option linter.unusedVariables false

set_option maxHeartbeats 4000000 in
set_option maxRecDepth 100000 in
theorem mD_of {H : Nat} (ih : ∀ h, h < H → ME h ∧ MD h ∧ MA h) : MD H := by
  intro S v m k w hr hSw hkm
  obtain ⟨o, n, c, b, off, T, q, rfl, hn, ho, e2, e3, e4, e5⟩ := hr.open'
  have HI0 : Hid (Inv 9 (fun w T => (hd w T H).de) (fun w => (sh w H).de) w S b off n k T q 0 k w) := ⟨⟨fun _ => k, rfl, rfl, fun _ _ => Nat.le_refl _, fun j hj => absurd hj (by omega)⟩, fun j _ hj => e2 j hj, Nat.le_add_right _ _, fun h0 => (ho h0).2.2, Keeps.refl _ _⟩
  have HO : Hid (0 < n → o = some ⟨b, off, none⟩ ∧ S b) := fun h0 => ⟨(ho h0).1, (ho h0).2.1⟩
  have HT := hide e3
  have HD := hide e4
  have HSW := hide hSw
  have IH := hide ih
  have ml : n ≤ 9223372036854775807 := hn
  clear hr ho e2 e3 e4 hSw ih
  go_enter Try.func35, Try.ntmps35
  go_wp2
  go_loopw [1, 5] (fun t1 t5 wr => ∃ i r : Nat, i ≤ n ∧ t5 = .int .i64 i ∧ t1 = .int .i64 ((r : Int) + 1) ∧ k ≤ r ∧ Hid (Inv 9 (fun w T => (hd w T H).de) (fun w => (sh w H).de) w S b off n k T q i r wr)) (fun _ t5 _ => n - (intOf t5).toNat)
  case atStart => exact ⟨0, k, Nat.zero_le _, rfl, rfl, Nat.le_refl _, HI0⟩
  case round =>
    obtain ⟨i, r, hi, rfl, rfl, hkr, HIV⟩ := hrel
    by_cases hlt : i < n
    · obtain ⟨eo, hSb⟩ := HO.out (by omega)
      subst eo
      have hrest := HIV.out.rest i (Nat.le_refl _) hlt
      have hle := HIV.out.le
      have hq1 : sumQ q i + q i ≤ sumQ q n := sumQ_le q n (i + 1) hlt
      cases H with
      | zero => exact hrest.elim
      | succ H =>
        obtain ⟨s, v1, v8, S1, T2, S8, m1, m2, m8, q0, q1, q8, r1, rE, r8, hs, d1, d18, d28, hm⟩ := hrest
        cases H with
        | zero => exact rE.elim
        | succ H =>
          obtain ⟨kk, s2, nn, u1, u2, u3, U1, U2, U3, n1, n2, n3, q2, q3, q4, q5, q6, q7, p1, p2, p3, hu, g1, g2, g3, hnm⟩ := rE
          obtain ⟨ihE, ihD, ihA⟩ := IH.out H (by omega)
          obtain ⟨-, ihD1, -⟩ := IH.out (H + 1) (by omega)
          have hTb : Hid (¬ T i b) := fun h9 => (HT.out i b hlt h9).2 rfl
          have hTw : Hid (∀ x, T i x → x < wr.heap.size ∧ x ≠ b) := fun x hx => ⟨Nat.lt_of_lt_of_le (HSW.out x (HT.out i x hlt hx).1) HIV.out.keep.size, (HT.out i x hlt hx).2⟩
          have iS : Hid (∀ x, S1 x → T i x) := fun x hx => hs x (.inl hx)
          have i2 : Hid (∀ x, T2 x → T i x) := fun x hx => hs x (.inr (.inl hx))
          have iU1 : Hid (∀ x, U1 x → T i x) := fun x hx => i2.out x (hu x (.inl hx))
          have iU2 : Hid (∀ x, U2 x → T i x) := fun x hx => i2.out x (hu x (.inr (.inl hx)))
          have iU3 : Hid (∀ x, U3 x → T i x) := fun x hx => i2.out x (hu x (.inr (.inr hx)))
          have x1 : Hid (Dj S1 U1) := fun x hx hy => d1 x hx (hu x (.inl hy))
          have x2 : Hid (Dj S1 U2) := fun x hx hy => d1 x hx (hu x (.inr (.inl hy)))
          have x3 : Hid (Dj S1 U3) := fun x hx hy => d1 x hx (hu x (.inr (.inr hy)))
          have y12 := hide g1
          have y13 := hide g2
          have y23 := hide g3
          have iS8 : Hid (∀ x, S8 x → T i x) := fun x hx => hs x (.inr (.inr hx))
          have dS8 : Hid (Dj S1 S8) := d18
          have k1 : Hid (Dj U1 S8) := fun x hx hy => d28 x (hu x (.inl hx)) hy
          have k2 : Hid (Dj U2 S8) := fun x hx hy => d28 x (hu x (.inr (.inl hx))) hy
          have k3 : Hid (Dj U3 S8) := fun x hx hy => d28 x (hu x (.inr (.inr hx))) hy
          have R8 := hide r8
          have HihD1 := hide ihD1
          have C0 : Hid (Cs wr b (off + i * 9) [.string s, v1, .int .i64 kk, .string s2, .int .i64 nn, u1, u2, u3, v8]) := fun d u hd => by
            match d, u, hd with
            | 0, u, h => cases h; exact q0
            | 1, u, h => cases h; exact q1
            | 2, u, h => cases h; exact q2
            | 3, u, h => cases h; exact q3
            | 4, u, h => cases h; exact q4
            | 5, u, h => cases h; exact q5
            | 6, u, h => cases h; exact q6
            | 7, u, h => cases h; exact q7
            | 8, u, h => cases h; exact q8
          have R1 := hide r1
          have P1 := hide p1
          have P2 := hide p2
          have P3 := hide p3
          have HihE := hide ihE
          have HihD := hide ihD
          have HihA := hide ihA
          have F0 : Hid (Fm b (off + i * 9) 9 (fun _ => False) wr wr) := Fm.refl (HIV.out.plain (by omega))
          clear q0 q1 q2 q3 q4 q5 q6 q7 hs hu d1 g1 g2 g3 r1 p1 p2 p3 ihE ihD ihA ihD1 d18 d28 r8 q8
          have hrb : r ≤ 8900000 := by omega
          go_wp2_with fail
          refine Calls.mono (Nm.mt0 r hrb _) ?_
          rintro ee w1 ⟨rfl, hb1⟩
          have HB1 := hide hb1
          clear hb1
          have F1 : Hid (Fm b (off + i * 9) 9 (fun _ => False) wr w1) := F0.out.later HB1.out
          have C1 : Hid (Cs w1 b (off + i * 9) [.string s, v1, .int .i64 kk, .string s2, .int .i64 nn, u1, u2, u3, v8]) := by
            obtain ⟨cs, e, hp⟩ := F0.out.plain
            exact C0.out.same (HB1.out.block b (heap_lt hp))
          have y2 : w1.cell? ⟨b, off + i * 9, none⟩ = some (.string s) := C1.out 0 _ rfl
          obtain ⟨bc1, bt1, hpc1⟩ := F1.out.plain
          have f2 := frozen_of hpc1 (off + i * 9)
          have F4 : Hid (Fm b (off + i * 9) 9 (fun _ => False) wr (w1.setCell ⟨b, off + i * 9, none⟩ (.string (markS r)))) := F1.out.set _ (by omega)
          have C4 : Hid (Cs (w1.setCell ⟨b, off + i * 9, none⟩ (.string (markS r))) b (off + i * 9) [.string (markS r), v1, .int .i64 kk, .string s2, .int .i64 nn, u1, u2, u3, v8]) := C1.out.set (d := 0) (v := .string (markS r)) rfl
          have y5 := C4.out 1 _ rfl
          clear hpc1
          obtain ⟨W4, hW4⟩ : ∃ W, W = (w1.setCell ⟨b, off + i * 9, none⟩ (.string (markS r))) := ⟨_, rfl⟩
          have a4 : Hid (∀ x, T i x → W4.heap[x]? = wr.heap[x]?) := fun x hx => by rw [hW4]; exact F4.out.keep.block x ⟨(hTw.out x hx).1, (hTw.out x hx).2, fun h => h⟩
          have z4 : Hid (wr.heap.size ≤ W4.heap.size) := by rw [hW4]; exact F4.out.keep.size
          have HC6 : Hid (Calls Try.prog 44 #[v1, .int .i64 ((r : Int) + 1 + 1)] W4 (Mr 1 (fun w _ => strA w) S1 v1 (r + 1) m1 W4)) := by
            have h9 := markS_all S1 v1 m1 (r + 1) W4 (R1.out.toS fun x hx => a4.out x (iS.out x hx)) (by omega)
            have e9 : (((r + 1) : Nat) : Int) + 1 = ((r : Int) + 1 + 1) := by omega
            rw [e9] at h9
            exact h9
          rw [hW4] at HC6
          go_wp2_with fail
          refine Calls.mono HC6.out ?_
          rw [← hW4] at F4 C4 ⊢
          clear HC6 y2 f2 y5
          rintro ee w6 ⟨r6, rfl, hr6, hs6, hh6, hk6⟩
          have HH6 := hide hh6
          have HK6 := hide hk6
          clear hh6 hk6
          have F6 : Hid (Fm b (off + i * 9) 9 (T i) wr w6) := (F4.out.mono fun _ h => h.elim).call iS.out hTb.out HK6.out
          have C6 : Hid (Cs w6 b (off + i * 9) [.string (markS r), v1, .int .i64 kk, .string s2, .int .i64 nn, u1, u2, u3, v8]) := C4.out.same (HK6.out.block b ⟨by obtain ⟨cs, e, hp⟩ := F4.out.plain; exact heap_lt hp, fun h9 => hTb.out (iS.out b h9)⟩)
          have a6 : Hid (∀ x, T i x → ¬ S1 x → w6.heap[x]? = wr.heap[x]?) := fun x hx hn => (HK6.out.block x ⟨Nat.lt_of_lt_of_le (hTw.out x hx).1 z4.out, hn⟩).trans (a4.out x hx)
          have z6 : Hid (wr.heap.size ≤ w6.heap.size) := F6.out.keep.size
          have y7 := C6.out 2 _ rfl
          obtain ⟨bc6, bt6, hpc6⟩ := F6.out.plain
          have f8 := frozen_of hpc6 (off + i * 9 + 2)
          have E6 : Hid (Fm b (off + i * 9) 9 (fun _ => False) w6 w6) := Fm.refl F6.out.plain
          have E9 : Hid (Fm b (off + i * 9) 9 (fun _ => False) w6 (w6.setCell ⟨b, off + i * 9 + 2, none⟩ (.int .i64 ((r6 : Int) + 1)))) := E6.out.set _ (by omega)
          have C9 : Hid (Cs (w6.setCell ⟨b, off + i * 9 + 2, none⟩ (.int .i64 ((r6 : Int) + 1))) b (off + i * 9) [.string (markS r), v1, .int .i64 ((r6 : Int) + 1), .string s2, .int .i64 nn, u1, u2, u3, v8]) := C6.out.set (d := 2) (v := .int .i64 ((r6 : Int) + 1)) rfl
          clear hpc6
          have hrb10 : r6 ≤ 8900000 := by omega
          go_wp2_with fail
          refine Calls.mono (Nm.mt1 r6 hrb10 _) ?_
          rintro ee w10 ⟨rfl, hb10⟩
          have HB10 := hide hb10
          clear hb10 y7 f8
          have E10 : Hid (Fm b (off + i * 9) 9 (fun _ => False) w6 w10) := E9.out.later HB10.out
          have C10 : Hid (Cs w10 b (off + i * 9) [.string (markS r), v1, .int .i64 ((r6 : Int) + 1), .string s2, .int .i64 nn, u1, u2, u3, v8]) := by
            obtain ⟨cs, e, hp⟩ := E9.out.plain
            exact C9.out.same (HB10.out.block b (heap_lt hp))
          have y11 := C10.out 3 _ rfl
          obtain ⟨bc10, bt10, hpc10⟩ := E10.out.plain
          have f12 := frozen_of hpc10 (off + i * 9 + 3)
          have E13 : Hid (Fm b (off + i * 9) 9 (fun _ => False) w6 (w10.setCell ⟨b, off + i * 9 + 3, none⟩ (.string (markS (r6 + 1))))) := E10.out.set _ (by omega)
          have C13 : Hid (Cs (w10.setCell ⟨b, off + i * 9 + 3, none⟩ (.string (markS (r6 + 1)))) b (off + i * 9) [.string (markS r), v1, .int .i64 ((r6 : Int) + 1), .string (markS (r6 + 1)), .int .i64 nn, u1, u2, u3, v8]) := C10.out.set (d := 3) (v := .string (markS (r6 + 1))) rfl
          have y14 := C13.out 4 _ rfl
          obtain ⟨bc13, bt13, hpc13⟩ := E13.out.plain
          have f15 := frozen_of hpc13 (off + i * 9 + 4)
          have E16 : Hid (Fm b (off + i * 9) 9 (fun _ => False) w6 ((w10.setCell ⟨b, off + i * 9 + 3, none⟩ (.string (markS (r6 + 1)))).setCell ⟨b, off + i * 9 + 4, none⟩ (.int .i64 ((r6 : Int) + 1 + 1 + 1)))) := E13.out.set _ (by omega)
          have C16 : Hid (Cs ((w10.setCell ⟨b, off + i * 9 + 3, none⟩ (.string (markS (r6 + 1)))).setCell ⟨b, off + i * 9 + 4, none⟩ (.int .i64 ((r6 : Int) + 1 + 1 + 1))) b (off + i * 9) [.string (markS r), v1, .int .i64 ((r6 : Int) + 1), .string (markS (r6 + 1)), .int .i64 ((r6 : Int) + 1 + 1 + 1), u1, u2, u3, v8]) := C13.out.set (d := 4) (v := .int .i64 ((r6 : Int) + 1 + 1 + 1)) rfl
          have y17 := C16.out 5 _ rfl
          clear hpc10 hpc13
          obtain ⟨W16, hW16⟩ : ∃ W, W = ((w10.setCell ⟨b, off + i * 9 + 3, none⟩ (.string (markS (r6 + 1)))).setCell ⟨b, off + i * 9 + 4, none⟩ (.int .i64 ((r6 : Int) + 1 + 1 + 1))) := ⟨_, rfl⟩
          have a16 : Hid (∀ x, T i x → W16.heap[x]? = w6.heap[x]?) := fun x hx => by rw [hW16]; exact E16.out.keep.block x ⟨Nat.lt_of_lt_of_le (hTw.out x hx).1 z6.out, (hTw.out x hx).2, fun h => h⟩
          have z16 : Hid (wr.heap.size ≤ W16.heap.size) := by rw [hW16]; exact Nat.le_trans z6.out E16.out.keep.size
          have HC18 : Hid (Calls Try.prog 34 #[u1, .int .i64 ((r6 : Int) + 1 + 1 + 1 + 1)] W16 (Mr 6 (fun w S => (hd w S H).ex) U1 u1 (r6 + 3) n1 W16)) := by
            have h9 := HihE.out U1 u1 n1 (r6 + 3) W16 (P1.out.toE fun x hx => (a16.out x (iU1.out x hx)).trans (a6.out x (iU1.out x hx) fun h9 => x1.out x h9 hx)) (fun x hx => Nat.lt_of_lt_of_le (hTw.out x (iU1.out x hx)).1 z16.out) (by omega)
            have e9 : (((r6 + 3) : Nat) : Int) + 1 = ((r6 : Int) + 1 + 1 + 1 + 1) := by omega
            rw [e9] at h9
            exact h9
          rw [hW16] at HC18
          go_wp2_with fail
          refine Calls.mono HC18.out ?_
          rw [← hW16] at E16 C16 ⊢
          clear HC18 y11 f12 y14 f15 y17
          rintro ee w18 ⟨r18, rfl, hr18, hs18, hh18, hk18⟩
          have HH18 := hide hh18
          have HK18 := hide hk18
          clear hh18 hk18
          have F16 : Hid (Fm b (off + i * 9) 9 (T i) wr W16) := F6.out.trans (E16.out.mono fun _ h => h.elim)
          have F18 : Hid (Fm b (off + i * 9) 9 (T i) wr w18) := F16.out.call iU1.out hTb.out HK18.out
          have C18 : Hid (Cs w18 b (off + i * 9) [.string (markS r), v1, .int .i64 ((r6 : Int) + 1), .string (markS (r6 + 1)), .int .i64 ((r6 : Int) + 1 + 1 + 1), u1, u2, u3, v8]) := C16.out.same (HK18.out.block b ⟨by obtain ⟨cs, e, hp⟩ := F16.out.plain; exact heap_lt hp, fun h9 => hTb.out (iU1.out b h9)⟩)
          have a18 : Hid (∀ x, T i x → ¬ U1 x → w18.heap[x]? = W16.heap[x]?) := fun x hx hn => HK18.out.block x ⟨Nat.lt_of_lt_of_le (hTw.out x hx).1 z16.out, hn⟩
          have z18 : Hid (wr.heap.size ≤ w18.heap.size) := F18.out.keep.size
          have y20 := C18.out 6 _ rfl
          have HC20 : Hid (Calls Try.prog 35 #[u2, .int .i64 ((r18 : Int) + 1)] w18 (Mr 9 (fun w S => (hd w S H).de) U2 u2 r18 n2 w18)) := HihD.out U2 u2 n2 r18 w18 (P2.out.toD fun x hx => (a18.out x (iU2.out x hx) fun h9 => y12.out x h9 hx).trans ((a16.out x (iU2.out x hx)).trans (a6.out x (iU2.out x hx) fun h9 => x2.out x h9 hx))) (fun x hx => Nat.lt_of_lt_of_le (hTw.out x (iU2.out x hx)).1 z18.out) (by omega)
          go_wp2_with fail
          refine Calls.mono HC20.out ?_
          clear HC20 y20
          rintro ee w20 ⟨r20, rfl, hr20, hs20, hh20, hk20⟩
          have HH20 := hide hh20
          have HK20 := hide hk20
          clear hh20 hk20
          have F20 : Hid (Fm b (off + i * 9) 9 (T i) wr w20) := F18.out.call iU2.out hTb.out HK20.out
          have C20 : Hid (Cs w20 b (off + i * 9) [.string (markS r), v1, .int .i64 ((r6 : Int) + 1), .string (markS (r6 + 1)), .int .i64 ((r6 : Int) + 1 + 1 + 1), u1, u2, u3, v8]) := C18.out.same (HK20.out.block b ⟨by obtain ⟨cs, e, hp⟩ := F18.out.plain; exact heap_lt hp, fun h9 => hTb.out (iU2.out b h9)⟩)
          have a20 : Hid (∀ x, T i x → ¬ U2 x → w20.heap[x]? = w18.heap[x]?) := fun x hx hn => HK20.out.block x ⟨Nat.lt_of_lt_of_le (hTw.out x hx).1 z18.out, hn⟩
          have z20 : Hid (wr.heap.size ≤ w20.heap.size) := F20.out.keep.size
          have y22 := C20.out 7 _ rfl
          have HC22 : Hid (Calls Try.prog 36 #[u3, .int .i64 ((r20 : Int) + 1)] w20 (Mr 8 (fun w S => (hd w S H).al) U3 u3 r20 n3 w20)) := HihA.out U3 u3 n3 r20 w20 (P3.out.toA fun x hx => ((a20.out x (iU3.out x hx) fun h9 => y23.out x h9 hx).trans (a18.out x (iU3.out x hx) fun h9 => y13.out x h9 hx)).trans ((a16.out x (iU3.out x hx)).trans (a6.out x (iU3.out x hx) fun h9 => x3.out x h9 hx))) (fun x hx => Nat.lt_of_lt_of_le (hTw.out x (iU3.out x hx)).1 z20.out) (by omega)
          go_wp2_with fail
          refine Calls.mono HC22.out ?_
          clear HC22 y22
          rintro ee w22 ⟨r22, rfl, hr22, hs22, hh22, hk22⟩
          have HH22 := hide hh22
          have HK22 := hide hk22
          clear hh22 hk22
          have F22 : Hid (Fm b (off + i * 9) 9 (T i) wr w22) := F20.out.call iU3.out hTb.out HK22.out
          have C22 : Hid (Cs w22 b (off + i * 9) [.string (markS r), v1, .int .i64 ((r6 : Int) + 1), .string (markS (r6 + 1)), .int .i64 ((r6 : Int) + 1 + 1 + 1), u1, u2, u3, v8]) := C20.out.same (HK22.out.block b ⟨by obtain ⟨cs, e, hp⟩ := F20.out.plain; exact heap_lt hp, fun h9 => hTb.out (iU3.out b h9)⟩)
          have a22 : Hid (∀ x, T i x → ¬ U3 x → w22.heap[x]? = w20.heap[x]?) := fun x hx hn => HK22.out.block x ⟨Nat.lt_of_lt_of_le (hTw.out x hx).1 z20.out, hn⟩
          have z22 : Hid (wr.heap.size ≤ w22.heap.size) := F22.out.keep.size
          have y24 := C22.out 8 _ rfl
          have HC24 : Hid (Calls Try.prog 35 #[v8, .int .i64 ((r22 : Int) + 1)] w22 (Mr 9 (fun w S => (hd w S (H + 1)).de) S8 v8 r22 m8 w22)) := HihD1.out S8 v8 m8 r22 w22 (R8.out.toD fun x hx => (((a22.out x (iS8.out x hx) fun h9 => k3.out x h9 hx).trans (a20.out x (iS8.out x hx) fun h9 => k2.out x h9 hx)).trans (a18.out x (iS8.out x hx) fun h9 => k1.out x h9 hx)).trans ((a16.out x (iS8.out x hx)).trans (a6.out x (iS8.out x hx) fun h9 => dS8.out x h9 hx))) (fun x hx => Nat.lt_of_lt_of_le (hTw.out x (iS8.out x hx)).1 z22.out) (by omega)
          go_wp2_with fail
          refine Calls.mono HC24.out ?_
          clear HC24 y24
          rintro ee w24 ⟨r24, rfl, hr24, hs24, hh24, hk24⟩
          have HH24 := hide hh24
          have HK24 := hide hk24
          clear hh24 hk24
          have F24 : Hid (Fm b (off + i * 9) 9 (T i) wr w24) := F22.out.call iS8.out hTb.out HK24.out
          have C24 : Hid (Cs w24 b (off + i * 9) [.string (markS r), v1, .int .i64 ((r6 : Int) + 1), .string (markS (r6 + 1)), .int .i64 ((r6 : Int) + 1 + 1 + 1), u1, u2, u3, v8]) := C22.out.same (HK24.out.block b ⟨by obtain ⟨cs, e, hp⟩ := F22.out.plain; exact heap_lt hp, fun h9 => hTb.out (iS8.out b h9)⟩)
          have a24 : Hid (∀ x, T i x → ¬ S8 x → w24.heap[x]? = w22.heap[x]?) := fun x hx hn => HK24.out.block x ⟨Nat.lt_of_lt_of_le (hTw.out x hx).1 z22.out, hn⟩
          have z24 : Hid (wr.heap.size ≤ w24.heap.size) := F24.out.keep.size
          have HNEW : Hid ((hd w24 (T i) (H + 1 + 1)).de b (off + i * 9) r r24) := by
            have t3 : ∀ x, U3 x → w24.heap[x]? = w22.heap[x]? := fun x hx => a24.out x (iU3.out x hx) fun h9 => k3.out x hx h9
            have t2 : ∀ x, U2 x → w24.heap[x]? = w20.heap[x]? := fun x hx => (a24.out x (iU2.out x hx) fun h9 => k2.out x hx h9).trans (a22.out x (iU2.out x hx) fun h9 => y23.out x hx h9)
            have t1 : ∀ x, U1 x → w24.heap[x]? = w18.heap[x]? := fun x hx => ((a24.out x (iU1.out x hx) fun h9 => k1.out x hx h9).trans (a22.out x (iU1.out x hx) fun h9 => y13.out x hx h9)).trans (a20.out x (iU1.out x hx) fun h9 => y12.out x hx h9)
            have t0 : ∀ x, S1 x → w24.heap[x]? = w6.heap[x]? := fun x hx => ((((a24.out x (iS.out x hx) fun h9 => dS8.out x hx h9).trans (a22.out x (iS.out x hx) fun h9 => x3.out x hx h9)).trans (a20.out x (iS.out x hx) fun h9 => x2.out x hx h9)).trans (a18.out x (iS.out x hx) fun h9 => x1.out x hx h9)).trans (a16.out x (iS.out x hx))
            have hE : (hd w24 (T i) (H + 1)).ex b (off + i * 9 + 2) r6 r22 := ⟨C24.out 2 _ rfl, C24.out 3 _ rfl, C24.out 4 _ rfl, u1, u2, u3, r18, r20, C24.out 5 _ rfl, C24.out 6 _ rfl, C24.out 7 _ rfl, HH18.out.toE t1 iU1.out, HH20.out.toD t2 iU2.out, HH22.out.toA t3 iU3.out⟩
            exact ⟨C24.out 0 _ rfl, v1, v8, r6, r22, C24.out 1 _ rfl, C24.out 8 _ rfl, HH6.out.toS t0 iS.out, hE, HH24.out.toD (fun _ _ => rfl) iS8.out⟩
          have HSTEP : Hid (Inv 9 (fun w T => (hd w T (H + 1 + 1)).de) (fun w => (sh w (H + 1 + 1)).de) w S b off n k T q (i + 1) r24 w24) := HIV.out.step (fun w w' b p T a c h1 h2 h3 => (hd_keep (H + 1 + 1)).2.1 b p T a c h1 h2 h3) (fun w w' b p T m h1 h2 h3 => (sh_frame (H + 1 + 1)).2.1 b p T m h1 h2 h3) hlt HSW.out hSb HT.out HD.out HNEW.out (by omega) (by omega) F24.out
          go_wp2
          go_roundw
          case rel => exact ⟨i + 1, r24, by omega, by go_num, rfl, by omega, HSTEP⟩
          case measure => simp [intOf]; omega
    · have hie : i = n := by omega
      subst hie
      go_wp2
      go_ret
      exact HIV.out.done hn HO.out HT.out e5 hkr fun T b p a c hTS h => (hd_more hTS H).2.1 b p a c h
theorem m_all : ∀ h, ME h ∧ MD h ∧ MA h := by
  have key : ∀ n h, h < n → ME h ∧ MD h ∧ MA h := by
    intro n
    induction n with
    | zero => intro h hh; omega
    | succ n ih =>
      intro h hh
      have ih' : ∀ h', h' < h → ME h' ∧ MD h' ∧ MA h' := fun h' hh' => ih h' (by omega)
      exact ⟨mE_of ih', mD_of ih', mA_of ih'⟩
  exact fun h => key (h + 1) h (Nat.lt_succ_self h)
end Go.Proofs.Ytgeckgdmkjddpaa.Mh
