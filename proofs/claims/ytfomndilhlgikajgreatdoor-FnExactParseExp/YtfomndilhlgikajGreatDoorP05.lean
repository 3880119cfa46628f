import Derived.Test.YtfomndilhlgikajGreatDoorP04
set_option maxHeartbeats 8000000
set_option maxRecDepth 100000
namespace Go.Proofs.YtfomndilhlgikajGreatDoor.Mh
open Go.ChangeShapes Go.WideShapes Go.ChangeAt Go.RowKit
set_option linter.unusedVariables false
theorem Fm.mono {b P sz : Nat} {T T' : Nat -> Prop} {u w : World} (h : Fm b P sz T u w) (hT : ∀ x, T x -> T' x) : Fm b P sz T' u w := ⟨h.keep.mono fun x hx => ⟨hx.1, hx.2.1, fun h9 => hx.2.2 (hT x h9)⟩, h.cells, h.plain⟩
theorem mM {w : World} {b j : Nat} {u v : Value} (h : w.cell? ⟨b, j, none⟩ = some u) : (w.setCell ⟨b, j, none⟩ v).cell? ⟨b, j, none⟩ = some v := World.cell?_setCell_same _ _ _ h
structure Six (w : World) (b P : Nat) (u0 u1 u2 u3 u4 u5 : Value) : Prop where
 c0 : w.cell? ⟨b, P, none⟩ = some u0
 c1 : w.cell? ⟨b, P + 1, none⟩ = some u1
 c2 : w.cell? ⟨b, P + 2, none⟩ = some u2
 c3 : w.cell? ⟨b, P + 3, none⟩ = some u3
 c4 : w.cell? ⟨b, P + 4, none⟩ = some u4
 c5 : w.cell? ⟨b, P + 5, none⟩ = some u5
theorem Six.same {w w' : World} {b P : Nat} {u0 u1 u2 u3 u4 u5 : Value} (h : Six w b P u0 u1 u2 u3 u4 u5) (e : w'.heap[b]? = w.heap[b]?) : Six w' b P u0 u1 u2 u3 u4 u5 := ⟨(bu e _).trans h.c0, (bu e _).trans h.c1, (bu e _).trans h.c2, (bu e _).trans h.c3, (bu e _).trans h.c4, (bu e _).trans h.c5⟩
theorem Six.set0 {w : World} {b P : Nat} {u0 u1 u2 u3 u4 u5 : Value} (h : Six w b P u0 u1 u2 u3 u4 u5) (v : Value) : Six (w.setCell ⟨b, P, none⟩ v) b P v u1 u2 u3 u4 u5 := ⟨mM h.c0, bI h.c1 (.inr (by omega)), bI h.c2 (.inr (by omega)), bI h.c3 (.inr (by omega)), bI h.c4 (.inr (by omega)), bI h.c5 (.inr (by omega))⟩
theorem Six.set1 {w : World} {b P : Nat} {u0 u1 u2 u3 u4 u5 : Value} (h : Six w b P u0 u1 u2 u3 u4 u5) (v : Value) : Six (w.setCell ⟨b, P + 1, none⟩ v) b P u0 v u2 u3 u4 u5 := ⟨bI h.c0 (.inr (by omega)), mM h.c1, bI h.c2 (.inr (by omega)), bI h.c3 (.inr (by omega)), bI h.c4 (.inr (by omega)), bI h.c5 (.inr (by omega))⟩
theorem Six.set2 {w : World} {b P : Nat} {u0 u1 u2 u3 u4 u5 : Value} (h : Six w b P u0 u1 u2 u3 u4 u5) (v : Value) : Six (w.setCell ⟨b, P + 2, none⟩ v) b P u0 u1 v u3 u4 u5 := ⟨bI h.c0 (.inr (by omega)), bI h.c1 (.inr (by omega)), mM h.c2, bI h.c3 (.inr (by omega)), bI h.c4 (.inr (by omega)), bI h.c5 (.inr (by omega))⟩
theorem JU {H : Nat} (ih : ∀ h, h < H -> ME h /\ MD h /\ MA h) : ME H := by
 intro S v m k w hr hSw hkm
 obtain ⟨o, n, c, b, off, T, q, rfl, hn, ho, e2, e3, e4, e5⟩ := hr.open'
 have li : Hid (Inv 6 (fun w T => (hd w T H).ex) (fun w => (sh w H).ex) w S b off n k T q 0 k w) := ⟨⟨fun _ => k, rfl, rfl, fun _ _ => Nat.le_refl _, fun j hj => absurd hj (by omega)⟩, fun j _ hj => e2 j hj, Nat.le_add_right _ _, fun h0 => (ho h0).2.2, Keeps.refl _ _⟩
 have HO : Hid (0 < n -> o = some ⟨b, off, none⟩ /\ S b) := fun h0 => ⟨(ho h0).1, (ho h0).2.1⟩
 have HT := aa e3
 have HD := aa e4
 have Fz := aa hSw
 have IH := aa ih
 have ml : n <= 9223372036854775807 := hn
 clear hr ho e2 e3 e4 hSw ih
 go_enter Tryz.func49, Tryz.ntmps49
 go_wp2
 go_loopw [1, 5] (fun t1 t5 wr => ∃ i r : Nat, i <= n /\ t5 = .int .i64 i /\ t1 = .int .i64 ((r : Int) + 1) /\ k <= r /\ Hid (Inv 6 (fun w T => (hd w T H).ex) (fun w => (sh w H).ex) w S b off n k T q i r wr)) (fun _ t5 _ => n - (intOf t5).toNat)
 case atStart => exact ⟨0, k, Nat.zero_le _, rfl, rfl, Nat.le_refl _, li⟩
 case round =>
  obtain ⟨i, r, hi, rfl, rfl, hkr, HIV⟩ := hrel
  by_cases au : i < n
  ·obtain ⟨eo, hSb⟩ := HO.out (by omega)
   subst eo
   have gz := HIV.out.rest i U0 au
   have iL := HIV.out.le
   have io : jv q i + q i <= jv q n := sc q n (i + 1) au
   cases H with
   | zero => exact gz.elim
   | succ H =>
    obtain ⟨kk, s, nn, v1, v2, v3, S1, S2, S3, m1, m2, m3, q0, q1, q2, q3, q4, q5, r1, r2, r3, hs, d1, d2, d3, hm⟩ := gz
    obtain ⟨ihE, ihD, ihA⟩ := IH.out H (by omega)
    have md : Hid (¬ T i b) := fun h9 => (HT.out i b au h9).2 rfl
    have jW : Hid (∀ x, T i x -> x < wr.heap.size /\ x ≠ b) := fun x hx => ⟨Nat.lt_of_lt_of_le (Fz.out x (HT.out i x au hx).1) HIV.out.keep.size, (HT.out i x au hx).2⟩
    have C0 : Hid (Six wr b (off + i * 6) (.int .i64 kk) (.string s) (.int .i64 nn) v1 v2 v3) := ⟨q0, q1, q2, q3, q4, q5⟩
    have HS := aa hs
    have Rf := aa d1
    have Qt := aa d2
    have PR := aa d3
    have R1 := aa r1
    have R2 := aa r2
    have R3 := aa r3
    have Cb := aa ihE
    have C8 := aa ihD
    have CU := aa ihA
    have F0 : Hid (Fm b (off + i * 6) 6 (fun _ => False) wr wr) := Fm.refl (HIV.out.plain (by omega))
    obtain ⟨bc, bt, hpc⟩ := F0.out.plain
    have f0 := aj hpc (off + i * 6)
    clear q1 q2 q3 q4 q5 hs d1 d2 d3 r1 r2 r3 ihE ihD ihA hpc
    have F1 : Hid (Fm b (off + i * 6) 6 (fun _ => False) wr (wr.setCell ⟨b, off + i * 6, none⟩ (.int .i64 ((r : Int) + 1)))) := F0.out.set _ (by omega)
    have C1 := aa (C0.out.set0 (.int .i64 ((r : Int) + 1)))
    have zq : r <= 4900000 := by omega
    go_wp2_with fail
    refine Calls.mono (Nm.mt1 r zq _) ?_
    rintro ee w4 ⟨rfl, sT⟩
    have me := aa sT
    clear q0 f0 sT
    have F4 : Hid (Fm b (off + i * 6) 6 (fun _ => False) wr w4) := F1.out.later me.out
    have C4 : Hid (Six w4 b (off + i * 6) (.int .i64 ((r : Int) + 1)) (.string s) (.int .i64 nn) v1 v2 v3) := by
     obtain ⟨cs, e, hp⟩ := F1.out.plain
     exact C1.out.same (me.out.block b (ad hp))
    have y5 := C4.out.c1
    obtain ⟨bc5, bt5, hpc5⟩ := F4.out.plain
    have f5 := aj hpc5 (off + i * 6 + 1)
    have F5 := aa (F4.out.set (j := off + i * 6 + 1) (.string (aD (r + 1))) (by omega))
    have C5 := aa (C4.out.set1 (.string (aD (r + 1))))
    have y6 := C5.out.c2
    obtain ⟨bc6, bt6, hpc6⟩ := F5.out.plain
    have f6 := aj hpc6 (off + i * 6 + 2)
    have F6 := aa (F5.out.set (j := off + i * 6 + 2) (.int .i64 ((r : Int) + 1 + 1 + 1)) (by omega))
    have C6 := aa (C5.out.set2 (.int .i64 ((r : Int) + 1 + 1 + 1)))
    have y7 := C6.out.c3
    clear hpc5 hpc6
    obtain ⟨W6, hW6⟩ : ∃ W, W = (w4.setCell ⟨b, off + i * 6 + 1, none⟩ (.string (aD (r + 1)))).setCell ⟨b, off + i * 6 + 2, none⟩ (.int .i64 ((r : Int) + 1 + 1 + 1)) := ⟨_, rfl⟩
    have h6 : Hid (∀ x, T i x -> W6.heap[x]? = wr.heap[x]?) := fun x hx => by rw [hW6]; exact F6.out.keep.block x ⟨(jW.out x hx).1, (jW.out x hx).2, fun h => h⟩
    have z6 : Hid (wr.heap.size <= W6.heap.size) := by rw [hW6]; exact F6.out.keep.size
    have Hm : Hid (Calls Tryz.prog 49 #[v1, .int .i64 ((r : Int) + 1 + 1 + 1 + 1)] W6 (Mr 6 (fun w S => (hd w S H).ex) S1 v1 (r + 3) m1 W6)) := by
     have h9 := Cb.out S1 v1 m1 (r + 3) W6 (R1.out.toE fun x hx => h6.out x (HS.out x (.inl hx))) (fun x hx => Nat.lt_of_lt_of_le (jW.out x (HS.out x (.inl hx))).1 z6.out) (by omega)
     have e9 : (((r + 3) : Nat) : Int) + 1 = ((r : Int) + 1 + 1 + 1 + 1) := by omega
     rw [e9] at h9
     exact h9
    rw [hW6] at Hm
    go_wp2_with fail
    refine Calls.mono Hm.out ?_
    rw [<- hW6] at F6 C6 ⊢
    clear Hm y5 f5 y6 f6 y7
    rintro ee w12 ⟨r12, rfl, hr12, hs12, hh12, hk12⟩
    have MR := aa hh12
    have Il := aa hk12
    clear hh12 hk12
    have G6 : Hid (Fm b (off + i * 6) 6 (T i) wr W6) := F6.out.mono fun _ h => h.elim
    have MS : Hid (Fm b (off + i * 6) 6 (T i) wr w12) := G6.out.call (fun x hx => HS.out x (.inl hx)) md.out Il.out
    have Qh := aa (C6.out.same (Il.out.block b ⟨by obtain ⟨cs, e, hp⟩ := G6.out.plain; exact ad hp, fun h9 => md.out (HS.out b (.inl h9))⟩))
    have MC : Hid (∀ x, T i x -> ¬ S1 x -> w12.heap[x]? = wr.heap[x]?) := fun x hx hn => (Il.out.block x ⟨Nat.lt_of_lt_of_le (jW.out x hx).1 z6.out, hn⟩).trans (h6.out x hx)
    have NT : Hid (wr.heap.size <= w12.heap.size) := MS.out.keep.size
    have IM := Qh.out.c4
    have Lg : Hid (Calls Tryz.prog 39 #[v2, .int .i64 ((r12 : Int) + 1)] w12 (Mr 9 (fun w S => (hd w S H).de) S2 v2 r12 m2 w12)) := C8.out S2 v2 m2 r12 w12 (R2.out.toD fun x hx => MC.out x (HS.out x (.inr (.inl hx))) fun h9 => Rf.out x h9 hx) (fun x hx => Nat.lt_of_lt_of_le (jW.out x (HS.out x (.inr (.inl hx)))).1 NT.out) (by omega)
    go_wp2_with fail
    refine Calls.mono Lg.out ?_
    clear Lg IM
    rintro ee w14 ⟨r14, rfl, hr14, hs14, hh14, hk14⟩
    have MX := aa hh14
    have EQ := aa hk14
    clear hh14 hk14
    have OY : Hid (Fm b (off + i * 6) 6 (T i) wr w14) := MS.out.call (fun x hx => HS.out x (.inr (.inl hx))) md.out EQ.out
    have Qb := aa (Qh.out.same (EQ.out.block b ⟨by obtain ⟨cs, e, hp⟩ := MS.out.plain; exact ad hp, fun h9 => md.out (HS.out b (.inr (.inl h9)))⟩))
    have Nn : Hid (∀ x, T i x -> ¬ S1 x -> ¬ S2 x -> w14.heap[x]? = wr.heap[x]?) := fun x hx hn qF => (EQ.out.block x ⟨Nat.lt_of_lt_of_le (jW.out x hx).1 NT.out, qF⟩).trans (MC.out x hx hn)
    have Nb : Hid (wr.heap.size <= w14.heap.size) := OY.out.keep.size
    have Uu := Qb.out.c5
    have KG : Hid (Calls Tryz.prog 50 #[v3, .int .i64 ((r14 : Int) + 1)] w14 (Mr 8 (fun w S => (hd w S H).al) S3 v3 r14 m3 w14)) := CU.out S3 v3 m3 r14 w14 (R3.out.toA fun x hx => Nn.out x (HS.out x (.inr (.inr hx))) (fun h9 => Qt.out x h9 hx) fun h9 => PR.out x h9 hx) (fun x hx => Nat.lt_of_lt_of_le (jW.out x (HS.out x (.inr (.inr hx)))).1 Nb.out) (by omega)
    go_wp2_with fail
    refine Calls.mono KG.out ?_
    clear KG Uu
    rintro ee w16 ⟨r16, rfl, hr16, hs16, hh16, hk16⟩
    have OD := aa hh16
    have EG := aa hk16
    clear hh16 hk16
    have Hg : Hid (Fm b (off + i * 6) 6 (T i) wr w16) := OY.out.call (fun x hx => HS.out x (.inr (.inr hx))) md.out EG.out
    have xM := aa (Qb.out.same (EG.out.block b ⟨by obtain ⟨cs, e, hp⟩ := OY.out.plain; exact ad hp, fun h9 => md.out (HS.out b (.inr (.inr h9)))⟩))
    have Cq : Hid ((hd w16 (T i) (H + 1)).ex b (off + i * 6) r r16) := by
     have t1 : ∀ x, S1 x -> w16.heap[x]? = w12.heap[x]? := fun x hx => (EG.out.block x ⟨Nat.lt_of_lt_of_le (jW.out x (HS.out x (.inl hx))).1 Nb.out, fun h9 => Qt.out x hx h9⟩).trans (EQ.out.block x ⟨Nat.lt_of_lt_of_le (jW.out x (HS.out x (.inl hx))).1 NT.out, fun h9 => Rf.out x hx h9⟩)
     have t2 : ∀ x, S2 x -> w16.heap[x]? = w14.heap[x]? := fun x hx => EG.out.block x ⟨Nat.lt_of_lt_of_le (jW.out x (HS.out x (.inr (.inl hx)))).1 Nb.out, fun h9 => PR.out x hx h9⟩
     exact ⟨xM.out.c0, xM.out.c1, xM.out.c2, v1, v2, v3, r12, r14, xM.out.c3, xM.out.c4, xM.out.c5, MR.out.toE t1 fun x hx => HS.out x (.inl hx), MX.out.toD t2 fun x hx => HS.out x (.inr (.inl hx)), OD.out.toA (fun _ _ => rfl) fun x hx => HS.out x (.inr (.inr hx))⟩
    have dv : Hid (Inv 6 (fun w T => (hd w T (H + 1)).ex) (fun w => (sh w (H + 1)).ex) w S b off n k T q (i + 1) r16 w16) := HIV.out.step (fun w w' b p T a c h1 h2 h3 => (sF (H + 1)).1 b p T a c h1 h2 h3) (fun w w' b p T m h1 h2 h3 => (jg (H + 1)).1 b p T m h1 h2 h3) au Fz.out hSb HT.out HD.out Cq.out (by omega) (by omega) Hg.out
    go_wp2
    go_roundw
    case rel => exact ⟨i + 1, r16, by omega, by go_num, rfl, by omega, dv⟩
    case measure => simp [intOf]; omega
  ·have jQ : i = n := by omega
   subst jQ
   go_wp2
   go_ret
   exact HIV.out.done hn HO.out HT.out e5 hkr fun T b p a c hTS h => (kO hTS H).1 b p a c h
def Cs (w : World) (b P : Nat) (us : List Value) : Prop := ∀ d u, us[d]? = some u -> w.cell? ⟨b, P + d, none⟩ = some u
theorem Cs.same {w w' : World} {b P : Nat} {us : List Value} (h : Cs w b P us) (e : w'.heap[b]? = w.heap[b]?) : Cs w' b P us := fun d u hd => (bu e _).trans (h d u hd)
theorem Cs.set {w : World} {b P d : Nat} {us : List Value} {u v : Value} (h : Cs w b P us) (hd : us[d]? = some u) : Cs (w.setCell ⟨b, P + d, none⟩ v) b P (us.set d v) := by
 intro e x hx
 by_cases hed : d = e
 ·subst hed
  have hl := (List.getElem?_eq_some_iff.1 hd).1
  rw [List.getElem?_set_self hl] at hx
  cases hx
  exact mM (h d u hd)
 ·rw [List.getElem?_set_ne hed] at hx
  exact bI (h e x hx) (.inr (by omega))
theorem SR.toS {w w' : World} {m : Nat} {S : Nat -> Prop} {v : Value} (hh : ∀ x, S x -> w'.heap[x]? = w.heap[x]?) (h : SR 1 (ut w) w S v m) : SR 1 (ut w') w' S v m := h.frame hh fun b p T q hb hT hx => by
 obtain ⟨⟨s, hs⟩, h1⟩ := hx
 exact ⟨⟨s, (bu (hh b hb) _).trans hs⟩, h1⟩
theorem HR.toS {w w' : World} {k k' : Nat} {S T : Nat -> Prop} {v : Value} (hh : ∀ x, S x -> w'.heap[x]? = w.heap[x]?) (hST : ∀ x, S x -> T x) (h : HR 1 (kn w) S v k k') : HR 1 (kn w') T v k k' := (h.frame (R' := kn w') fun b p a c hb hx => ⟨hx.1, (bu (hh b hb) p).trans hx.2⟩).more hST fun _ _ _ _ h => h
theorem JQ {H : Nat} (ih : ∀ h, h < H -> ME h /\ MD h /\ MA h) : MA H := by
 intro S v m k w hr hSw hkm
 obtain ⟨o, n, c, b, off, T, q, rfl, hn, ho, e2, e3, e4, e5⟩ := hr.open'
 have li : Hid (Inv 8 (fun w T => (hd w T H).al) (fun w => (sh w H).al) w S b off n k T q 0 k w) := ⟨⟨fun _ => k, rfl, rfl, fun _ _ => Nat.le_refl _, fun j hj => absurd hj (by omega)⟩, fun j _ hj => e2 j hj, Nat.le_add_right _ _, fun h0 => (ho h0).2.2, Keeps.refl _ _⟩
 have HO : Hid (0 < n -> o = some ⟨b, off, none⟩ /\ S b) := fun h0 => ⟨(ho h0).1, (ho h0).2.1⟩
 have HT := aa e3
 have HD := aa e4
 have Fz := aa hSw
 have IH := aa ih
 have ml : n <= 9223372036854775807 := hn
 clear hr ho e2 e3 e4 hSw ih
 go_enter Tryz.func50, Tryz.ntmps50
 go_wp2
 go_loopw [1, 5] (fun t1 t5 wr => ∃ i r : Nat, i <= n /\ t5 = .int .i64 i /\ t1 = .int .i64 ((r : Int) + 1) /\ k <= r /\ Hid (Inv 8 (fun w T => (hd w T H).al) (fun w => (sh w H).al) w S b off n k T q i r wr)) (fun _ t5 _ => n - (intOf t5).toNat)
 case atStart => exact ⟨0, k, Nat.zero_le _, rfl, rfl, Nat.le_refl _, li⟩
 case round =>
  obtain ⟨i, r, hi, rfl, rfl, hkr, HIV⟩ := hrel
  by_cases au : i < n
  ·obtain ⟨eo, hSb⟩ := HO.out (by omega)
   subst eo
   have gz := HIV.out.rest i U0 au
   have iL := HIV.out.le
   have io : jv q i + q i <= jv q n := sc q n (i + 1) au
   cases H with
   | zero => exact gz.elim
   | succ H =>
    obtain ⟨s, v1, S1, T2, m1, m2, q0, q1, r1, rE, hs, d1, hm⟩ := gz
    cases H with
    | zero => exact rE.elim
    | succ H =>
     obtain ⟨kk, s2, nn, u1, u2, u3, U1, U2, U3, n1, n2, n3, q2, q3, q4, q5, q6, q7, p1, p2, p3, hu, g1, g2, g3, vr⟩ := rE
     obtain ⟨ihE, ihD, ihA⟩ := IH.out H (by omega)
     obtain ⟨-, ihD1, -⟩ := IH.out (H + 1) (by omega)
     have md : Hid (¬ T i b) := fun h9 => (HT.out i b au h9).2 rfl
     have jW : Hid (∀ x, T i x -> x < wr.heap.size /\ x ≠ b) := fun x hx => ⟨Nat.lt_of_lt_of_le (Fz.out x (HT.out i x au hx).1) HIV.out.keep.size, (HT.out i x au hx).2⟩
     have iS : Hid (∀ x, S1 x -> T i x) := fun x hx => hs x (.inl hx)
     have i2 : Hid (∀ x, T2 x -> T i x) := fun x hx => hs x (.inr hx)
     have tj : Hid (∀ x, U1 x -> T i x) := fun x hx => i2.out x (hu x (.inl hx))
     have tm : Hid (∀ x, U2 x -> T i x) := fun x hx => i2.out x (hu x (.inr (.inl hx)))
     have tr : Hid (∀ x, U3 x -> T i x) := fun x hx => i2.out x (hu x (.inr (.inr hx)))
     have x1 : Hid (Dj S1 U1) := fun x hx hy => d1 x hx (hu x (.inl hy))
     have x2 : Hid (Dj S1 U2) := fun x hx hy => d1 x hx (hu x (.inr (.inl hy)))
     have x3 : Hid (Dj S1 U3) := fun x hx hy => d1 x hx (hu x (.inr (.inr hy)))
     have Ku := aa g1
     have IM := aa g2
     have IA := aa g3
     have C0 : Hid (Cs wr b (off + i * 8) [.string s, v1, .int .i64 kk, .string s2, .int .i64 nn, u1, u2, u3]) := fun d u hd => by
      match d, u, hd with
      | 0, u, h => cases h; exact q0
      | 1, u, h => cases h; exact q1
      | 2, u, h => cases h; exact q2
      | 3, u, h => cases h; exact q3
      | 4, u, h => cases h; exact q4
      | 5, u, h => cases h; exact q5
      | 6, u, h => cases h; exact q6
      | 7, u, h => cases h; exact q7
     have R1 := aa r1
     have P1 := aa p1
     have P2 := aa p2
     have P3 := aa p3
     have Cb := aa ihE
     have C8 := aa ihD
     have CU := aa ihA
     have F0 : Hid (Fm b (off + i * 8) 8 (fun _ => False) wr wr) := Fm.refl (HIV.out.plain (by omega))
     clear q0 q1 q2 q3 q4 q5 q6 q7 hs hu d1 g1 g2 g3 r1 p1 p2 p3 ihE ihD ihA ihD1 
     have zq : r <= 4900000 := by omega
     go_wp2_with fail
     refine Calls.mono (Nm.mt0 r zq _) ?_
     rintro ee w1 ⟨rfl, bS⟩
     have aR := aa bS
     clear bS
     have F1 : Hid (Fm b (off + i * 8) 8 (fun _ => False) wr w1) := F0.out.later aR.out
     have C1 : Hid (Cs w1 b (off + i * 8) [.string s, v1, .int .i64 kk, .string s2, .int .i64 nn, u1, u2, u3]) := by
      obtain ⟨cs, e, hp⟩ := F0.out.plain
      exact C0.out.same (aR.out.block b (ad hp))
     have y2 : w1.cell? ⟨b, off + i * 8, none⟩ = some (.string s) := C1.out 0 _ rfl
     obtain ⟨bc1, bt1, hpc1⟩ := F1.out.plain
     have f2 := aj hpc1 (off + i * 8)
     have F4 : Hid (Fm b (off + i * 8) 8 (fun _ => False) wr (w1.setCell ⟨b, off + i * 8, none⟩ (.string (aD r)))) := F1.out.set _ (by omega)
     have C4 : Hid (Cs (w1.setCell ⟨b, off + i * 8, none⟩ (.string (aD r))) b (off + i * 8) [.string (aD r), v1, .int .i64 kk, .string s2, .int .i64 nn, u1, u2, u3]) := C1.out.set (d := 0) (v := .string (aD r)) rfl
     have y5 := C4.out 1 _ rfl
     clear hpc1
     obtain ⟨W4, hW4⟩ : ∃ W, W = (w1.setCell ⟨b, off + i * 8, none⟩ (.string (aD r))) := ⟨_, rfl⟩
     have a4 : Hid (∀ x, T i x -> W4.heap[x]? = wr.heap[x]?) := fun x hx => by rw [hW4]; exact F4.out.keep.block x ⟨(jW.out x hx).1, (jW.out x hx).2, fun h => h⟩
     have z4 : Hid (wr.heap.size <= W4.heap.size) := by rw [hW4]; exact F4.out.keep.size
     have I5 : Hid (Calls Tryz.prog 93 #[v1, .int .i64 ((r : Int) + 1 + 1)] W4 (Mr 1 (fun w _ => kn w) S1 v1 (r + 1) m1 W4)) := by
      have h9 := qW S1 v1 m1 (r + 1) W4 (R1.out.toS fun x hx => a4.out x (iS.out x hx)) (by omega)
      have e9 : (((r + 1) : Nat) : Int) + 1 = ((r : Int) + 1 + 1) := by omega
      rw [e9] at h9
      exact h9
     rw [hW4] at I5
     go_wp2_with fail
     refine Calls.mono I5.out ?_
     rw [<- hW4] at F4 C4 ⊢
     clear I5 y2 f2 y5
     rintro ee w6 ⟨r6, rfl, hr6, Dp, hh6, fg⟩
     have Oh := aa hh6
     have nX := aa fg
     clear hh6 fg
     have F6 : Hid (Fm b (off + i * 8) 8 (T i) wr w6) := (F4.out.mono fun _ h => h.elim).call iS.out md.out nX.out
     have C6 : Hid (Cs w6 b (off + i * 8) [.string (aD r), v1, .int .i64 kk, .string s2, .int .i64 nn, u1, u2, u3]) := C4.out.same (nX.out.block b ⟨by obtain ⟨cs, e, hp⟩ := F4.out.plain; exact ad hp, fun h9 => md.out (iS.out b h9)⟩)
     have a6 : Hid (∀ x, T i x -> ¬ S1 x -> w6.heap[x]? = wr.heap[x]?) := fun x hx hn => (nX.out.block x ⟨Nat.lt_of_lt_of_le (jW.out x hx).1 z4.out, hn⟩).trans (a4.out x hx)
     have z6 : Hid (wr.heap.size <= w6.heap.size) := F6.out.keep.size
     have y7 := C6.out 2 _ rfl
     obtain ⟨bc6, bt6, hpc6⟩ := F6.out.plain
     have f8 := aj hpc6 (off + i * 8 + 2)
     have E6 : Hid (Fm b (off + i * 8) 8 (fun _ => False) w6 w6) := Fm.refl F6.out.plain
     have E9 : Hid (Fm b (off + i * 8) 8 (fun _ => False) w6 (w6.setCell ⟨b, off + i * 8 + 2, none⟩ (.int .i64 ((r6 : Int) + 1)))) := E6.out.set _ (by omega)
     have C9 : Hid (Cs (w6.setCell ⟨b, off + i * 8 + 2, none⟩ (.int .i64 ((r6 : Int) + 1))) b (off + i * 8) [.string (aD r), v1, .int .i64 ((r6 : Int) + 1), .string s2, .int .i64 nn, u1, u2, u3]) := C6.out.set (d := 2) (v := .int .i64 ((r6 : Int) + 1)) rfl
     clear hpc6
     have Df : r6 <= 4900000 := by omega
     go_wp2_with fail
     refine Calls.mono (Nm.mt1 r6 Df _) ?_
     rintro ee w10 ⟨rfl, nM⟩
     have Dd := aa nM
     clear nM y7 f8
     have KR : Hid (Fm b (off + i * 8) 8 (fun _ => False) w6 w10) := E9.out.later Dd.out
     have K2 : Hid (Cs w10 b (off + i * 8) [.string (aD r), v1, .int .i64 ((r6 : Int) + 1), .string s2, .int .i64 nn, u1, u2, u3]) := by
      obtain ⟨cs, e, hp⟩ := E9.out.plain
      exact C9.out.same (Dd.out.block b (ad hp))
     have Cn := K2.out 3 _ rfl
     obtain ⟨bc10, bt10, hpc10⟩ := KR.out.plain
     have Ob := aj hpc10 (off + i * 8 + 3)
     have KI : Hid (Fm b (off + i * 8) 8 (fun _ => False) w6 (w10.setCell ⟨b, off + i * 8 + 3, none⟩ (.string (aD (r6 + 1))))) := KR.out.set _ (by omega)
     have KT : Hid (Cs (w10.setCell ⟨b, off + i * 8 + 3, none⟩ (.string (aD (r6 + 1)))) b (off + i * 8) [.string (aD r), v1, .int .i64 ((r6 : Int) + 1), .string (aD (r6 + 1)), .int .i64 nn, u1, u2, u3]) := K2.out.set (d := 3) (v := .string (aD (r6 + 1))) rfl
     have OQ := KT.out 4 _ rfl
     obtain ⟨bc13, bt13, hpc13⟩ := KI.out.plain
     have Ns := aj hpc13 (off + i * 8 + 4)
     have ES : Hid (Fm b (off + i * 8) 8 (fun _ => False) w6 ((w10.setCell ⟨b, off + i * 8 + 3, none⟩ (.string (aD (r6 + 1)))).setCell ⟨b, off + i * 8 + 4, none⟩ (.int .i64 ((r6 : Int) + 1 + 1 + 1)))) := KI.out.set _ (by omega)
     have xM : Hid (Cs ((w10.setCell ⟨b, off + i * 8 + 3, none⟩ (.string (aD (r6 + 1)))).setCell ⟨b, off + i * 8 + 4, none⟩ (.int .i64 ((r6 : Int) + 1 + 1 + 1))) b (off + i * 8) [.string (aD r), v1, .int .i64 ((r6 : Int) + 1), .string (aD (r6 + 1)), .int .i64 ((r6 : Int) + 1 + 1 + 1), u1, u2, u3]) := KT.out.set (d := 4) (v := .int .i64 ((r6 : Int) + 1 + 1 + 1)) rfl
     have Ph := xM.out 5 _ rfl
     clear hpc10 hpc13
     obtain ⟨W16, hW16⟩ : ∃ W, W = ((w10.setCell ⟨b, off + i * 8 + 3, none⟩ (.string (aD (r6 + 1)))).setCell ⟨b, off + i * 8 + 4, none⟩ (.int .i64 ((r6 : Int) + 1 + 1 + 1))) := ⟨_, rfl⟩
     have Dy : Hid (∀ x, T i x -> W16.heap[x]? = w6.heap[x]?) := fun x hx => by rw [hW16]; exact ES.out.keep.block x ⟨Nat.lt_of_lt_of_le (jW.out x hx).1 z6.out, (jW.out x hx).2, fun h => h⟩
     have Le : Hid (wr.heap.size <= W16.heap.size) := by rw [hW16]; exact Nat.le_trans z6.out ES.out.keep.size
     have wY : Hid (Calls Tryz.prog 49 #[u1, .int .i64 ((r6 : Int) + 1 + 1 + 1 + 1)] W16 (Mr 6 (fun w S => (hd w S H).ex) U1 u1 (r6 + 3) n1 W16)) := by
      have h9 := Cb.out U1 u1 n1 (r6 + 3) W16 (P1.out.toE fun x hx => (Dy.out x (tj.out x hx)).trans (a6.out x (tj.out x hx) fun h9 => x1.out x h9 hx)) (fun x hx => Nat.lt_of_lt_of_le (jW.out x (tj.out x hx)).1 Le.out) (by omega)
      have e9 : (((r6 + 3) : Nat) : Int) + 1 = ((r6 : Int) + 1 + 1 + 1 + 1) := by omega
      rw [e9] at h9
      exact h9
     rw [hW16] at wY
     go_wp2_with fail
     refine Calls.mono wY.out ?_
     rw [<- hW16] at ES xM ⊢
     clear wY Cn Ob OQ Ns Ph
     rintro ee w18 ⟨r18, rfl, hr18, hs18, hh18, hk18⟩
     have Iu := aa hh18
     have wT := aa hk18
     clear hh18 hk18
     have Hg : Hid (Fm b (off + i * 8) 8 (T i) wr W16) := F6.out.trans (ES.out.mono fun _ h => h.elim)
     have IZ : Hid (Fm b (off + i * 8) 8 (T i) wr w18) := Hg.out.call tj.out md.out wT.out
     have Kw : Hid (Cs w18 b (off + i * 8) [.string (aD r), v1, .int .i64 ((r6 : Int) + 1), .string (aD (r6 + 1)), .int .i64 ((r6 : Int) + 1 + 1 + 1), u1, u2, u3]) := xM.out.same (wT.out.block b ⟨by obtain ⟨cs, e, hp⟩ := Hg.out.plain; exact ad hp, fun h9 => md.out (tj.out b h9)⟩)
     have Fp : Hid (∀ x, T i x -> ¬ U1 x -> w18.heap[x]? = W16.heap[x]?) := fun x hx hn => wT.out.block x ⟨Nat.lt_of_lt_of_le (jW.out x hx).1 Le.out, hn⟩
     have JZ : Hid (wr.heap.size <= w18.heap.size) := IZ.out.keep.size
     have O8 := Kw.out 6 _ rfl
     have B8 : Hid (Calls Tryz.prog 39 #[u2, .int .i64 ((r18 : Int) + 1)] w18 (Mr 9 (fun w S => (hd w S H).de) U2 u2 r18 n2 w18)) := C8.out U2 u2 n2 r18 w18 (P2.out.toD fun x hx => (Fp.out x (tm.out x hx) fun h9 => Ku.out x h9 hx).trans ((Dy.out x (tm.out x hx)).trans (a6.out x (tm.out x hx) fun h9 => x2.out x h9 hx))) (fun x hx => Nat.lt_of_lt_of_le (jW.out x (tm.out x hx)).1 JZ.out) (by omega)
     go_wp2_with fail
     refine Calls.mono B8.out ?_
     clear B8 O8
     rintro ee w20 ⟨r20, rfl, hr20, hs20, hh20, hk20⟩
     have ID := aa hh20
     have wK := aa hk20
     clear hh20 hk20
     have Iq : Hid (Fm b (off + i * 8) 8 (T i) wr w20) := IZ.out.call tm.out md.out wK.out
     have JW : Hid (Cs w20 b (off + i * 8) [.string (aD r), v1, .int .i64 ((r6 : Int) + 1), .string (aD (r6 + 1)), .int .i64 ((r6 : Int) + 1 + 1 + 1), u1, u2, u3]) := Kw.out.same (wK.out.block b ⟨by obtain ⟨cs, e, hp⟩ := IZ.out.plain; exact ad hp, fun h9 => md.out (tm.out b h9)⟩)
     have a20 : Hid (∀ x, T i x -> ¬ U2 x -> w20.heap[x]? = w18.heap[x]?) := fun x hx hn => wK.out.block x ⟨Nat.lt_of_lt_of_le (jW.out x hx).1 JZ.out, hn⟩
     have z20 : Hid (wr.heap.size <= w20.heap.size) := Iq.out.keep.size
     have EV := JW.out 7 _ rfl
     have mT : Hid (Calls Tryz.prog 50 #[u3, .int .i64 ((r20 : Int) + 1)] w20 (Mr 8 (fun w S => (hd w S H).al) U3 u3 r20 n3 w20)) := CU.out U3 u3 n3 r20 w20 (P3.out.toA fun x hx => ((a20.out x (tr.out x hx) fun h9 => IA.out x h9 hx).trans (Fp.out x (tr.out x hx) fun h9 => IM.out x h9 hx)).trans ((Dy.out x (tr.out x hx)).trans (a6.out x (tr.out x hx) fun h9 => x3.out x h9 hx))) (fun x hx => Nat.lt_of_lt_of_le (jW.out x (tr.out x hx)).1 z20.out) (by omega)
     go_wp2_with fail
     refine Calls.mono mT.out ?_
     clear mT EV
     rintro ee w22 ⟨r22, rfl, hr22, hs22, hh22, hk22⟩
     have II := aa hh22
     have wV := aa hk22
     clear hh22 hk22
     have Jg : Hid (Fm b (off + i * 8) 8 (T i) wr w22) := Iq.out.call tr.out md.out wV.out
     have Dh : Hid (Cs w22 b (off + i * 8) [.string (aD r), v1, .int .i64 ((r6 : Int) + 1), .string (aD (r6 + 1)), .int .i64 ((r6 : Int) + 1 + 1 + 1), u1, u2, u3]) := JW.out.same (wV.out.block b ⟨by obtain ⟨cs, e, hp⟩ := Iq.out.plain; exact ad hp, fun h9 => md.out (tr.out b h9)⟩)
     have Ft : Hid (∀ x, T i x -> ¬ U3 x -> w22.heap[x]? = w20.heap[x]?) := fun x hx hn => wV.out.block x ⟨Nat.lt_of_lt_of_le (jW.out x hx).1 z20.out, hn⟩
     have Nz : Hid (wr.heap.size <= w22.heap.size) := Jg.out.keep.size
     have Cq : Hid ((hd w22 (T i) (H + 1 + 1)).al b (off + i * 8) r r22) := by
      have t3 : ∀ x, U3 x -> w22.heap[x]? = w22.heap[x]? := fun x hx => rfl
      have t2 : ∀ x, U2 x -> w22.heap[x]? = w20.heap[x]? := fun x hx => Ft.out x (tm.out x hx) fun h9 => IA.out x hx h9
      have t1 : ∀ x, U1 x -> w22.heap[x]? = w18.heap[x]? := fun x hx => (Ft.out x (tj.out x hx) fun h9 => IM.out x hx h9).trans (a20.out x (tj.out x hx) fun h9 => Ku.out x hx h9)
      have t0 : ∀ x, S1 x -> w22.heap[x]? = w6.heap[x]? := fun x hx => (((Ft.out x (iS.out x hx) fun h9 => x3.out x hx h9).trans (a20.out x (iS.out x hx) fun h9 => x2.out x hx h9)).trans (Fp.out x (iS.out x hx) fun h9 => x1.out x hx h9)).trans (Dy.out x (iS.out x hx))
      have hE : (hd w22 (T i) (H + 1)).ex b (off + i * 8 + 2) r6 r22 := ⟨Dh.out 2 _ rfl, Dh.out 3 _ rfl, Dh.out 4 _ rfl, u1, u2, u3, r18, r20, Dh.out 5 _ rfl, Dh.out 6 _ rfl, Dh.out 7 _ rfl, Iu.out.toE t1 tj.out, ID.out.toD t2 tm.out, II.out.toA t3 tr.out⟩
      exact ⟨Dh.out 0 _ rfl, v1, r6, Dh.out 1 _ rfl, Oh.out.toS t0 iS.out, hE⟩
     have dv : Hid (Inv 8 (fun w T => (hd w T (H + 1 + 1)).al) (fun w => (sh w (H + 1 + 1)).al) w S b off n k T q (i + 1) r22 w22) := HIV.out.step (fun w w' b p T a c h1 h2 h3 => (sF (H + 1 + 1)).2.2 b p T a c h1 h2 h3) (fun w w' b p T m h1 h2 h3 => (jg (H + 1 + 1)).2.2 b p T m h1 h2 h3) au Fz.out hSb HT.out HD.out Cq.out (by omega) (by omega) Jg.out
     go_wp2
     go_roundw
     case rel => exact ⟨i + 1, r22, by omega, by go_num, rfl, by omega, dv⟩
     case measure => simp [intOf]; omega
  ·have jQ : i = n := by omega
   subst jQ
   go_wp2
   go_ret
   exact HIV.out.done hn HO.out HT.out e5 hkr fun T b p a c hTS h => (kO hTS H).2.2 b p a c h
end Go.Proofs.YtfomndilhlgikajGreatDoor.Mh
