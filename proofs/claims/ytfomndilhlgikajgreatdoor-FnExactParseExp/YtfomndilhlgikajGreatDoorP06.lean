import Derived.Test.YtfomndilhlgikajGreatDoorP05
set_option maxHeartbeats 8000000
set_option maxRecDepth 100000
namespace Go.Proofs.YtfomndilhlgikajGreatDoor.Mh
open Go.ChangeShapes Go.WideShapes Go.ChangeAt Go.RowKit
set_option linter.unusedVariables false
theorem JH {H : Nat} (ih : ∀ h, h < H -> ME h /\ MD h /\ MA h) : MD H := by
 intro S v m k w hr hSw hkm
 obtain ⟨o, n, c, b, off, T, q, rfl, hn, ho, e2, e3, e4, e5⟩ := hr.open'
 have li : Hid (Inv 9 (fun w T => (hd w T H).de) (fun w => (sh w H).de) w S b off n k T q 0 k w) := ⟨⟨fun _ => k, rfl, rfl, fun _ _ => Nat.le_refl _, fun j hj => absurd hj (by omega)⟩, fun j _ hj => e2 j hj, Nat.le_add_right _ _, fun h0 => (ho h0).2.2, Keeps.refl _ _⟩
 have HO : Hid (0 < n -> o = some ⟨b, off, none⟩ /\ S b) := fun h0 => ⟨(ho h0).1, (ho h0).2.1⟩
 have HT := aa e3
 have HD := aa e4
 have Fz := aa hSw
 have IH := aa ih
 have ml : n <= 9223372036854775807 := hn
 clear hr ho e2 e3 e4 hSw ih
 go_enter Tryz.func39, Tryz.ntmps39
 go_wp2
 go_loopw [1, 5] (fun t1 t5 wr => ∃ i r : Nat, i <= n /\ t5 = .int .i64 i /\ t1 = .int .i64 ((r : Int) + 1) /\ k <= r /\ Hid (Inv 9 (fun w T => (hd w T H).de) (fun w => (sh w H).de) w S b off n k T q i r wr)) (fun _ t5 _ => n - (intOf t5).toNat)
 case atStart => exact ⟨0, k, Nat.zero_le _, rfl, rfl, Nat.le_refl _, li⟩
 case round =>
  obtain ⟨i, r, hi, rfl, rfl, hkr, HIV⟩ := hrel
  by_cases au : i < n
  ·obtain ⟨eo, hSb⟩ := HO.out (by omega)
   subst eo
   have gz := HIV.out.rest i U0 au
   have iL := HIV.out.le
   have io : jv q i + q i <= jv q n := sc q n (i + 1) au
   cases H with
   | zero => exact gz.elim
   | succ H =>
    obtain ⟨s, v1, v8, S1, T2, S8, m1, m2, m8, q0, q1, q8, r1, rE, r8, hs, d1, d18, d28, hm⟩ := gz
    cases H with
    | zero => exact rE.elim
    | succ H =>
     obtain ⟨kk, s2, nn, u1, u2, u3, U1, U2, U3, n1, n2, n3, q2, q3, q4, q5, q6, q7, p1, p2, p3, hu, g1, g2, g3, vr⟩ := rE
     obtain ⟨ihE, ihD, ihA⟩ := IH.out H (by omega)
     obtain ⟨-, ihD1, -⟩ := IH.out (H + 1) (by omega)
     have md : Hid (¬ T i b) := fun h9 => (HT.out i b au h9).2 rfl
     have jW : Hid (∀ x, T i x -> x < wr.heap.size /\ x ≠ b) := fun x hx => ⟨Nat.lt_of_lt_of_le (Fz.out x (HT.out i x au hx).1) HIV.out.keep.size, (HT.out i x au hx).2⟩
     have iS : Hid (∀ x, S1 x -> T i x) := fun x hx => hs x (.inl hx)
     have i2 : Hid (∀ x, T2 x -> T i x) := fun x hx => hs x (.inr (.inl hx))
     have tj : Hid (∀ x, U1 x -> T i x) := fun x hx => i2.out x (hu x (.inl hx))
     have tm : Hid (∀ x, U2 x -> T i x) := fun x hx => i2.out x (hu x (.inr (.inl hx)))
     have tr : Hid (∀ x, U3 x -> T i x) := fun x hx => i2.out x (hu x (.inr (.inr hx)))
     have x1 : Hid (Dj S1 U1) := fun x hx hy => d1 x hx (hu x (.inl hy))
     have x2 : Hid (Dj S1 U2) := fun x hx hy => d1 x hx (hu x (.inr (.inl hy)))
     have x3 : Hid (Dj S1 U3) := fun x hx hy => d1 x hx (hu x (.inr (.inr hy)))
     have Ku := aa g1
     have IM := aa g2
     have IA := aa g3
     have E4 : Hid (∀ x, S8 x -> T i x) := fun x hx => hs x (.inr (.inr hx))
     have PS : Hid (Dj S1 S8) := d18
     have k1 : Hid (Dj U1 S8) := fun x hx hy => d28 x (hu x (.inl hx)) hy
     have k2 : Hid (Dj U2 S8) := fun x hx hy => d28 x (hu x (.inr (.inl hx))) hy
     have k3 : Hid (Dj U3 S8) := fun x hx hy => d28 x (hu x (.inr (.inr hx))) hy
     have R8 := aa r8
     have KA := aa ihD1
     have C0 : Hid (Cs wr b (off + i * 9) [.string s, v1, .int .i64 kk, .string s2, .int .i64 nn, u1, u2, u3, v8]) := fun d u hd => by
      match d, u, hd with
      | 0, u, h => cases h; exact q0
      | 1, u, h => cases h; exact q1
      | 2, u, h => cases h; exact q2
      | 3, u, h => cases h; exact q3
      | 4, u, h => cases h; exact q4
      | 5, u, h => cases h; exact q5
      | 6, u, h => cases h; exact q6
      | 7, u, h => cases h; exact q7
      | 8, u, h => cases h; exact q8
     have R1 := aa r1
     have P1 := aa p1
     have P2 := aa p2
     have P3 := aa p3
     have Cb := aa ihE
     have C8 := aa ihD
     have CU := aa ihA
     have F0 : Hid (Fm b (off + i * 9) 9 (fun _ => False) wr wr) := Fm.refl (HIV.out.plain (by omega))
     clear q0 q1 q2 q3 q4 q5 q6 q7 hs hu d1 g1 g2 g3 r1 p1 p2 p3 ihE ihD ihA ihD1 d18 d28 r8 q8
     have zq : r <= 4900000 := by omega
     go_wp2_with fail
     refine Calls.mono (Nm.mt0 r zq _) ?_
     rintro ee w1 ⟨rfl, bS⟩
     have aR := aa bS
     clear bS
     have F1 : Hid (Fm b (off + i * 9) 9 (fun _ => False) wr w1) := F0.out.later aR.out
     have C1 : Hid (Cs w1 b (off + i * 9) [.string s, v1, .int .i64 kk, .string s2, .int .i64 nn, u1, u2, u3, v8]) := by
      obtain ⟨cs, e, hp⟩ := F0.out.plain
      exact C0.out.same (aR.out.block b (ad hp))
     have y2 : w1.cell? ⟨b, off + i * 9, none⟩ = some (.string s) := C1.out 0 _ rfl
     obtain ⟨bc1, bt1, hpc1⟩ := F1.out.plain
     have f2 := aj hpc1 (off + i * 9)
     have F4 : Hid (Fm b (off + i * 9) 9 (fun _ => False) wr (w1.setCell ⟨b, off + i * 9, none⟩ (.string (aD r)))) := F1.out.set _ (by omega)
     have C4 : Hid (Cs (w1.setCell ⟨b, off + i * 9, none⟩ (.string (aD r))) b (off + i * 9) [.string (aD r), v1, .int .i64 kk, .string s2, .int .i64 nn, u1, u2, u3, v8]) := C1.out.set (d := 0) (v := .string (aD r)) rfl
     have y5 := C4.out 1 _ rfl
     clear hpc1
     obtain ⟨W4, hW4⟩ : ∃ W, W = (w1.setCell ⟨b, off + i * 9, none⟩ (.string (aD r))) := ⟨_, rfl⟩
     have a4 : Hid (∀ x, T i x -> W4.heap[x]? = wr.heap[x]?) := fun x hx => by rw [hW4]; exact F4.out.keep.block x ⟨(jW.out x hx).1, (jW.out x hx).2, fun h => h⟩
     have z4 : Hid (wr.heap.size <= W4.heap.size) := by rw [hW4]; exact F4.out.keep.size
     have I5 : Hid (Calls Tryz.prog 93 #[v1, .int .i64 ((r : Int) + 1 + 1)] W4 (Mr 1 (fun w _ => kn w) S1 v1 (r + 1) m1 W4)) := by
      have h9 := qW S1 v1 m1 (r + 1) W4 (R1.out.toS fun x hx => a4.out x (iS.out x hx)) (by omega)
      have e9 : (((r + 1) : Nat) : Int) + 1 = ((r : Int) + 1 + 1) := by omega
      rw [e9] at h9
      exact h9
     rw [hW4] at I5
     go_wp2_with fail
     refine Calls.mono I5.out ?_
     rw [<- hW4] at F4 C4 ⊢
     clear I5 y2 f2 y5
     rintro ee w6 ⟨r6, rfl, hr6, Dp, hh6, fg⟩
     have Oh := aa hh6
     have nX := aa fg
     clear hh6 fg
     have F6 : Hid (Fm b (off + i * 9) 9 (T i) wr w6) := (F4.out.mono fun _ h => h.elim).call iS.out md.out nX.out
     have C6 : Hid (Cs w6 b (off + i * 9) [.string (aD r), v1, .int .i64 kk, .string s2, .int .i64 nn, u1, u2, u3, v8]) := C4.out.same (nX.out.block b ⟨by obtain ⟨cs, e, hp⟩ := F4.out.plain; exact ad hp, fun h9 => md.out (iS.out b h9)⟩)
     have a6 : Hid (∀ x, T i x -> ¬ S1 x -> w6.heap[x]? = wr.heap[x]?) := fun x hx hn => (nX.out.block x ⟨Nat.lt_of_lt_of_le (jW.out x hx).1 z4.out, hn⟩).trans (a4.out x hx)
     have z6 : Hid (wr.heap.size <= w6.heap.size) := F6.out.keep.size
     have y7 := C6.out 2 _ rfl
     obtain ⟨bc6, bt6, hpc6⟩ := F6.out.plain
     have f8 := aj hpc6 (off + i * 9 + 2)
     have E6 : Hid (Fm b (off + i * 9) 9 (fun _ => False) w6 w6) := Fm.refl F6.out.plain
     have E9 : Hid (Fm b (off + i * 9) 9 (fun _ => False) w6 (w6.setCell ⟨b, off + i * 9 + 2, none⟩ (.int .i64 ((r6 : Int) + 1)))) := E6.out.set _ (by omega)
     have C9 : Hid (Cs (w6.setCell ⟨b, off + i * 9 + 2, none⟩ (.int .i64 ((r6 : Int) + 1))) b (off + i * 9) [.string (aD r), v1, .int .i64 ((r6 : Int) + 1), .string s2, .int .i64 nn, u1, u2, u3, v8]) := C6.out.set (d := 2) (v := .int .i64 ((r6 : Int) + 1)) rfl
     clear hpc6
     have Df : r6 <= 4900000 := by omega
     go_wp2_with fail
     refine Calls.mono (Nm.mt1 r6 Df _) ?_
     rintro ee w10 ⟨rfl, nM⟩
     have Dd := aa nM
     clear nM y7 f8
     have KR : Hid (Fm b (off + i * 9) 9 (fun _ => False) w6 w10) := E9.out.later Dd.out
     have K2 : Hid (Cs w10 b (off + i * 9) [.string (aD r), v1, .int .i64 ((r6 : Int) + 1), .string s2, .int .i64 nn, u1, u2, u3, v8]) := by
      obtain ⟨cs, e, hp⟩ := E9.out.plain
      exact C9.out.same (Dd.out.block b (ad hp))
     have Cn := K2.out 3 _ rfl
     obtain ⟨bc10, bt10, hpc10⟩ := KR.out.plain
     have Ob := aj hpc10 (off + i * 9 + 3)
     have KI : Hid (Fm b (off + i * 9) 9 (fun _ => False) w6 (w10.setCell ⟨b, off + i * 9 + 3, none⟩ (.string (aD (r6 + 1))))) := KR.out.set _ (by omega)
     have KT : Hid (Cs (w10.setCell ⟨b, off + i * 9 + 3, none⟩ (.string (aD (r6 + 1)))) b (off + i * 9) [.string (aD r), v1, .int .i64 ((r6 : Int) + 1), .string (aD (r6 + 1)), .int .i64 nn, u1, u2, u3, v8]) := K2.out.set (d := 3) (v := .string (aD (r6 + 1))) rfl
     have OQ := KT.out 4 _ rfl
     obtain ⟨bc13, bt13, hpc13⟩ := KI.out.plain
     have Ns := aj hpc13 (off + i * 9 + 4)
     have ES : Hid (Fm b (off + i * 9) 9 (fun _ => False) w6 ((w10.setCell ⟨b, off + i * 9 + 3, none⟩ (.string (aD (r6 + 1)))).setCell ⟨b, off + i * 9 + 4, none⟩ (.int .i64 ((r6 : Int) + 1 + 1 + 1)))) := KI.out.set _ (by omega)
     have xM : Hid (Cs ((w10.setCell ⟨b, off + i * 9 + 3, none⟩ (.string (aD (r6 + 1)))).setCell ⟨b, off + i * 9 + 4, none⟩ (.int .i64 ((r6 : Int) + 1 + 1 + 1))) b (off + i * 9) [.string (aD r), v1, .int .i64 ((r6 : Int) + 1), .string (aD (r6 + 1)), .int .i64 ((r6 : Int) + 1 + 1 + 1), u1, u2, u3, v8]) := KT.out.set (d := 4) (v := .int .i64 ((r6 : Int) + 1 + 1 + 1)) rfl
     have Ph := xM.out 5 _ rfl
     clear hpc10 hpc13
     obtain ⟨W16, hW16⟩ : ∃ W, W = ((w10.setCell ⟨b, off + i * 9 + 3, none⟩ (.string (aD (r6 + 1)))).setCell ⟨b, off + i * 9 + 4, none⟩ (.int .i64 ((r6 : Int) + 1 + 1 + 1))) := ⟨_, rfl⟩
     have Dy : Hid (∀ x, T i x -> W16.heap[x]? = w6.heap[x]?) := fun x hx => by rw [hW16]; exact ES.out.keep.block x ⟨Nat.lt_of_lt_of_le (jW.out x hx).1 z6.out, (jW.out x hx).2, fun h => h⟩
     have Le : Hid (wr.heap.size <= W16.heap.size) := by rw [hW16]; exact Nat.le_trans z6.out ES.out.keep.size
     have wY : Hid (Calls Tryz.prog 49 #[u1, .int .i64 ((r6 : Int) + 1 + 1 + 1 + 1)] W16 (Mr 6 (fun w S => (hd w S H).ex) U1 u1 (r6 + 3) n1 W16)) := by
      have h9 := Cb.out U1 u1 n1 (r6 + 3) W16 (P1.out.toE fun x hx => (Dy.out x (tj.out x hx)).trans (a6.out x (tj.out x hx) fun h9 => x1.out x h9 hx)) (fun x hx => Nat.lt_of_lt_of_le (jW.out x (tj.out x hx)).1 Le.out) (by omega)
      have e9 : (((r6 + 3) : Nat) : Int) + 1 = ((r6 : Int) + 1 + 1 + 1 + 1) := by omega
      rw [e9] at h9
      exact h9
     rw [hW16] at wY
     go_wp2_with fail
     refine Calls.mono wY.out ?_
     rw [<- hW16] at ES xM ⊢
     clear wY Cn Ob OQ Ns Ph
     rintro ee w18 ⟨r18, rfl, hr18, hs18, hh18, hk18⟩
     have Iu := aa hh18
     have wT := aa hk18
     clear hh18 hk18
     have Hg : Hid (Fm b (off + i * 9) 9 (T i) wr W16) := F6.out.trans (ES.out.mono fun _ h => h.elim)
     have IZ : Hid (Fm b (off + i * 9) 9 (T i) wr w18) := Hg.out.call tj.out md.out wT.out
     have Kw : Hid (Cs w18 b (off + i * 9) [.string (aD r), v1, .int .i64 ((r6 : Int) + 1), .string (aD (r6 + 1)), .int .i64 ((r6 : Int) + 1 + 1 + 1), u1, u2, u3, v8]) := xM.out.same (wT.out.block b ⟨by obtain ⟨cs, e, hp⟩ := Hg.out.plain; exact ad hp, fun h9 => md.out (tj.out b h9)⟩)
     have Fp : Hid (∀ x, T i x -> ¬ U1 x -> w18.heap[x]? = W16.heap[x]?) := fun x hx hn => wT.out.block x ⟨Nat.lt_of_lt_of_le (jW.out x hx).1 Le.out, hn⟩
     have JZ : Hid (wr.heap.size <= w18.heap.size) := IZ.out.keep.size
     have O8 := Kw.out 6 _ rfl
     have B8 : Hid (Calls Tryz.prog 39 #[u2, .int .i64 ((r18 : Int) + 1)] w18 (Mr 9 (fun w S => (hd w S H).de) U2 u2 r18 n2 w18)) := C8.out U2 u2 n2 r18 w18 (P2.out.toD fun x hx => (Fp.out x (tm.out x hx) fun h9 => Ku.out x h9 hx).trans ((Dy.out x (tm.out x hx)).trans (a6.out x (tm.out x hx) fun h9 => x2.out x h9 hx))) (fun x hx => Nat.lt_of_lt_of_le (jW.out x (tm.out x hx)).1 JZ.out) (by omega)
     go_wp2_with fail
     refine Calls.mono B8.out ?_
     clear B8 O8
     rintro ee w20 ⟨r20, rfl, hr20, hs20, hh20, hk20⟩
     have ID := aa hh20
     have wK := aa hk20
     clear hh20 hk20
     have Iq : Hid (Fm b (off + i * 9) 9 (T i) wr w20) := IZ.out.call tm.out md.out wK.out
     have JW : Hid (Cs w20 b (off + i * 9) [.string (aD r), v1, .int .i64 ((r6 : Int) + 1), .string (aD (r6 + 1)), .int .i64 ((r6 : Int) + 1 + 1 + 1), u1, u2, u3, v8]) := Kw.out.same (wK.out.block b ⟨by obtain ⟨cs, e, hp⟩ := IZ.out.plain; exact ad hp, fun h9 => md.out (tm.out b h9)⟩)
     have a20 : Hid (∀ x, T i x -> ¬ U2 x -> w20.heap[x]? = w18.heap[x]?) := fun x hx hn => wK.out.block x ⟨Nat.lt_of_lt_of_le (jW.out x hx).1 JZ.out, hn⟩
     have z20 : Hid (wr.heap.size <= w20.heap.size) := Iq.out.keep.size
     have EV := JW.out 7 _ rfl
     have mT : Hid (Calls Tryz.prog 50 #[u3, .int .i64 ((r20 : Int) + 1)] w20 (Mr 8 (fun w S => (hd w S H).al) U3 u3 r20 n3 w20)) := CU.out U3 u3 n3 r20 w20 (P3.out.toA fun x hx => ((a20.out x (tr.out x hx) fun h9 => IA.out x h9 hx).trans (Fp.out x (tr.out x hx) fun h9 => IM.out x h9 hx)).trans ((Dy.out x (tr.out x hx)).trans (a6.out x (tr.out x hx) fun h9 => x3.out x h9 hx))) (fun x hx => Nat.lt_of_lt_of_le (jW.out x (tr.out x hx)).1 z20.out) (by omega)
     go_wp2_with fail
     refine Calls.mono mT.out ?_
     clear mT EV
     rintro ee w22 ⟨r22, rfl, hr22, hs22, hh22, hk22⟩
     have II := aa hh22
     have wV := aa hk22
     clear hh22 hk22
     have Jg : Hid (Fm b (off + i * 9) 9 (T i) wr w22) := Iq.out.call tr.out md.out wV.out
     have Dh : Hid (Cs w22 b (off + i * 9) [.string (aD r), v1, .int .i64 ((r6 : Int) + 1), .string (aD (r6 + 1)), .int .i64 ((r6 : Int) + 1 + 1 + 1), u1, u2, u3, v8]) := JW.out.same (wV.out.block b ⟨by obtain ⟨cs, e, hp⟩ := Iq.out.plain; exact ad hp, fun h9 => md.out (tr.out b h9)⟩)
     have Ft : Hid (∀ x, T i x -> ¬ U3 x -> w22.heap[x]? = w20.heap[x]?) := fun x hx hn => wV.out.block x ⟨Nat.lt_of_lt_of_le (jW.out x hx).1 z20.out, hn⟩
     have Nz : Hid (wr.heap.size <= w22.heap.size) := Jg.out.keep.size
     have Hh := Dh.out 8 _ rfl
     have qf : Hid (Calls Tryz.prog 39 #[v8, .int .i64 ((r22 : Int) + 1)] w22 (Mr 9 (fun w S => (hd w S (H + 1)).de) S8 v8 r22 m8 w22)) := KA.out S8 v8 m8 r22 w22 (R8.out.toD fun x hx => (((Ft.out x (E4.out x hx) fun h9 => k3.out x h9 hx).trans (a20.out x (E4.out x hx) fun h9 => k2.out x h9 hx)).trans (Fp.out x (E4.out x hx) fun h9 => k1.out x h9 hx)).trans ((Dy.out x (E4.out x hx)).trans (a6.out x (E4.out x hx) fun h9 => PS.out x h9 hx))) (fun x hx => Nat.lt_of_lt_of_le (jW.out x (E4.out x hx)).1 Nz.out) (by omega)
     go_wp2_with fail
     refine Calls.mono qf.out ?_
     clear qf Hh
     rintro ee w24 ⟨r24, rfl, hr24, hs24, hh24, hk24⟩
     have Nd := aa hh24
     have Ia := aa hk24
     clear hh24 hk24
     have QG : Hid (Fm b (off + i * 9) 9 (T i) wr w24) := Jg.out.call E4.out md.out Ia.out
     have ER : Hid (Cs w24 b (off + i * 9) [.string (aD r), v1, .int .i64 ((r6 : Int) + 1), .string (aD (r6 + 1)), .int .i64 ((r6 : Int) + 1 + 1 + 1), u1, u2, u3, v8]) := Dh.out.same (Ia.out.block b ⟨by obtain ⟨cs, e, hp⟩ := Jg.out.plain; exact ad hp, fun h9 => md.out (E4.out b h9)⟩)
     have Mx : Hid (∀ x, T i x -> ¬ S8 x -> w24.heap[x]? = w22.heap[x]?) := fun x hx hn => Ia.out.block x ⟨Nat.lt_of_lt_of_le (jW.out x hx).1 Nz.out, hn⟩
     have UM : Hid (wr.heap.size <= w24.heap.size) := QG.out.keep.size
     have Cq : Hid ((hd w24 (T i) (H + 1 + 1)).de b (off + i * 9) r r24) := by
      have t3 : ∀ x, U3 x -> w24.heap[x]? = w22.heap[x]? := fun x hx => Mx.out x (tr.out x hx) fun h9 => k3.out x hx h9
      have t2 : ∀ x, U2 x -> w24.heap[x]? = w20.heap[x]? := fun x hx => (Mx.out x (tm.out x hx) fun h9 => k2.out x hx h9).trans (Ft.out x (tm.out x hx) fun h9 => IA.out x hx h9)
      have t1 : ∀ x, U1 x -> w24.heap[x]? = w18.heap[x]? := fun x hx => ((Mx.out x (tj.out x hx) fun h9 => k1.out x hx h9).trans (Ft.out x (tj.out x hx) fun h9 => IM.out x hx h9)).trans (a20.out x (tj.out x hx) fun h9 => Ku.out x hx h9)
      have t0 : ∀ x, S1 x -> w24.heap[x]? = w6.heap[x]? := fun x hx => ((((Mx.out x (iS.out x hx) fun h9 => PS.out x hx h9).trans (Ft.out x (iS.out x hx) fun h9 => x3.out x hx h9)).trans (a20.out x (iS.out x hx) fun h9 => x2.out x hx h9)).trans (Fp.out x (iS.out x hx) fun h9 => x1.out x hx h9)).trans (Dy.out x (iS.out x hx))
      have hE : (hd w24 (T i) (H + 1)).ex b (off + i * 9 + 2) r6 r22 := ⟨ER.out 2 _ rfl, ER.out 3 _ rfl, ER.out 4 _ rfl, u1, u2, u3, r18, r20, ER.out 5 _ rfl, ER.out 6 _ rfl, ER.out 7 _ rfl, Iu.out.toE t1 tj.out, ID.out.toD t2 tm.out, II.out.toA t3 tr.out⟩
      exact ⟨ER.out 0 _ rfl, v1, v8, r6, r22, ER.out 1 _ rfl, ER.out 8 _ rfl, Oh.out.toS t0 iS.out, hE, Nd.out.toD (fun _ _ => rfl) E4.out⟩
     have dv : Hid (Inv 9 (fun w T => (hd w T (H + 1 + 1)).de) (fun w => (sh w (H + 1 + 1)).de) w S b off n k T q (i + 1) r24 w24) := HIV.out.step (fun w w' b p T a c h1 h2 h3 => (sF (H + 1 + 1)).2.1 b p T a c h1 h2 h3) (fun w w' b p T m h1 h2 h3 => (jg (H + 1 + 1)).2.1 b p T m h1 h2 h3) au Fz.out hSb HT.out HD.out Cq.out (by omega) (by omega) QG.out
     go_wp2
     go_roundw
     case rel => exact ⟨i + 1, r24, by omega, by go_num, rfl, by omega, dv⟩
     case measure => simp [intOf]; omega
  ·have jQ : i = n := by omega
   subst jQ
   go_wp2
   go_ret
   exact HIV.out.done hn HO.out HT.out e5 hkr fun T b p a c hTS h => (kO hTS H).2.1 b p a c h
theorem Jz : ∀ h, ME h /\ MD h /\ MA h := by
 have gF : ∀ n h, h < n -> ME h /\ MD h /\ MA h := by
  intro n
  induction n with
  | zero => intro h hh; omega
  | succ n ih =>
   intro h hh
   have MW : ∀ h', h' < h -> ME h' /\ MD h' /\ MA h' := fun h' hh' => ih h' (by omega)
   exact ⟨JU MW, JH MW, JQ MW⟩
 exact fun h => gF (h + 1) h (Nat.lt_succ_self h)
end Go.Proofs.YtfomndilhlgikajGreatDoor.Mh
