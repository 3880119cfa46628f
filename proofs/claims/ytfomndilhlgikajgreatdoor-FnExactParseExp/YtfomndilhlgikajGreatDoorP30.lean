import Derived.Test.YtfomndilhlgikajGreatDoorP29
set_option maxHeartbeats 8000000
set_option maxRecDepth 100000
namespace Go.Proofs.YtfomndilhlgikajGreatDoor.Rd
open Go.ChangeShapes Go.WideShapes Go.ChangeAt Go.RowKit
def oT (F : List Value -> Prop) (i : Nat) (b g d : Nat) (w : World) (ts : List TokZ) (one : bF) (e : Ending) (w' : World) : Prop := Mv b w w' /\ ((∃ t q cs h, one ts = some (t, q) /\ e = .returned (.agg cs.toArray) /\ F cs /\ Ir b g w' d q /\ h + q.length <= ts.length /\ TreeT w' w.heap.size w'.heap.size h i t cs) \/ (one ts = none /\ e = ey))
def xq (i : Nat) (b g d : Nat) (w : World) (ts : List TokZ) (bl : Jy) (e : Ending) (w' : World) : Prop := Mv b w w' /\ ((∃ l q o n c h, bl ts = some (l, q) /\ e = .returned (.slice o n c) /\ Ir b g w' d q /\ h + q.length <= ts.length /\ RowT w' w.heap.size w'.heap.size h i (.slice o n c) l) \/ (bl ts = none /\ e = ey))
def Ja (b g d n : Nat) (de : bF) : Prop := ∀ (w : World) (ts : List TokZ), Ir b g w d ts -> ts.length <= n -> Calls Tryz.prog 140 #[.pointer (some ⟨b, 0, none⟩)] w (oT Fd 1 b g d w ts de)
def Lw (b g d n : Nat) (al : bF) : Prop := ∀ (w : World) (ts : List TokZ), Ir b g w d ts -> ts.length <= n -> Calls Tryz.prog 266 #[.pointer (some ⟨b, 0, none⟩)] w (oT Fa 2 b g d w ts al)
def od (one : bF) (sep : ByteArray) (acc : List Tr) (cur : List TokZ) : Option (List Tr × List TokZ) := if cg cur sep then (aO one sep cur.tail.length cur.tail).map (fun q => (acc ++ q.1, q.2)) else some (acc, cur)
theorem rm (one : bF) (sep : ByteArray) (acc : List Tr) (t : Tr) (c : List TokZ) : ((some (t, c)).bind fun p : Tr × List TokZ => if cg p.2 sep then (aO one sep p.2.tail.length p.2.tail).map (fun q => (p.1 :: q.1, q.2)) else some ([p.1], p.2)).map (fun q => (acc ++ q.1, q.2)) = od one sep (acc ++ [t]) c := by
 unfold od
 show (if cg c sep then _ else _ : Option (List Tr × List TokZ)).map _ = _
 split
 ·cases aO one sep c.tail.length c.tail with
  | none => rfl
  | some q => simp
 ·rfl
section
variable {b g d : Nat} {w : World} {ts : List TokZ}
theorem un {one : bF} {n : Nat} (sep : ByteArray) (hs : sep.size <= 1500) (qj : sep ≠ ⟨#[]⟩) (h : Ir b g w d ts) (hn : ts.length <= n) (hP : Ja b g d n one) (hD : bC one) : Calls Tryz.prog 254 #[.pointer (some ⟨b, 0, none⟩), .string sep, .func (.func 140) #[.pointer (some ⟨b, 0, none⟩)] #[]] w (xq 1 b g d w ts (fun ts => aO one sep ts.length ts)) := by
 have au := h.lt
 have ec := h.glt
 have tp := h.len
 have HP := aa hP
 have HD := aa hD
 have H0 := aa h
 have rS := aa (fe HD.out qj h.ends)
 clear h hP hD
 go_enter Tryz.func254, Tryz.ntmps254
 go_wp2_with fail
 refine (HP.out w ts H0.out hn).mono ?_
 rintro e w1 ⟨m1, ⟨t1, c1, cs, hh, ho, rfl, hF, h1, hh1, hT⟩ | ⟨ho, rfl⟩⟩
 ·have bS : Below w1.heap.size w1 (w1.alloc (.cells cs.toArray 54)) := (U4 w1).alloc U0 _
  have Ct := aa (m1.trans (Mv.of bS))
  have H1 := aa (h1.below bS)
  have dh : Hid (RowT (w1.alloc (.cells cs.toArray 54)) w.heap.size (w1.alloc (.cells cs.toArray 54)).heap.size hh 1 (.slice (some ⟨w1.heap.size, 0, none⟩) 1 1) [t1]) := RowT.lit1 (hT.keep (aw bS U0)) (heap_alloc_new w1 _) U0 (by simp) m1.size
  have HQ : Hid (aO one sep ts.length ts = od one sep [t1] c1) := by
   rw [rS.out, ho]
   exact rfl
  have fB : c1.length + 1 <= ts.length := (HD.out _ _ _ H0.out.ends ho).2
  obtain ⟨dS, dO1, dN1, dC1, dK, dT, dN, dO2, dN2, dC2, dO3, dN3, dC3, dO4, dN4, dC4, dO5, dN5, dC5, rfl⟩ := hF
  clear m1 h1 hT bS ho
  go_wp2
  go_loopw [7] (fun t7 wr => ∃ cur acc hh, Ir b g wr d cur /\ RowT wr w.heap.size wr.heap.size hh 1 t7 acc /\ Mv b w wr /\ hh + cur.length <= ts.length /\ acc.length + cur.length <= ts.length /\ aO one sep ts.length ts = od one sep acc cur) (fun _ wr => mi b wr)
  case atStart => exact ⟨c1, [t1], hh, H1.out, dh.out, Ct.out, hh1, by simp; omega, HQ.out⟩
  case round =>
   obtain ⟨cur, acc, hx, hir, cF, hmv, nZ, mY, hq⟩ := hrel
   have Ip := aa hir
   have dh := aa cF
   have wG := aa hmv
   have HQ := aa hq
   have J2 := hmv.size
   have wP : Hid (mi b wr = cur.length) := hir.mi
   obtain ⟨o1, k1, rfl, -⟩ := cF.form
   clear hir cF hmv hq
   go_wp2_with fail
   refine (el sep hs qj Ip.out).mono ?_
   rintro e w2 ⟨⟨hi, rfl, h2⟩ | ⟨hi, rfl, h2⟩, m2⟩
   ·have H2 := aa h2
    have pY := aa ((dh.out.keep (bv m2 au U0)).up U0 m2.size U0)
    have sW := aa (wG.out.trans m2)
    have iM := m2.size
    obtain ⟨hte, om⟩ := bG hi Ip.out.ends qj
    have IS := aa hte
    have Fe : Hid (aO one sep ts.length ts = (aO one sep cur.tail.length cur.tail).map fun q => (acc ++ q.1, q.2)) := by
     rw [HQ.out]
     unfold od
     rw [if_pos hi]
     exact rfl
    clear h2 m2 hi hte
    go_wp2_with fail
    refine (HP.out w2 cur.tail H2.out (by omega)).mono ?_
    rintro e w3 ⟨m3, ⟨t3, c3, cx, h3h, ho, rfl, hF, h3, hh3, hT⟩ | ⟨ho, rfl⟩⟩
    ·have mP := aa (pY.out.keep (bv m3 au U0))
     have M3 := aa (sW.out.trans m3)
     have H3 := aa h3
     have gy := m3.size
     have Jf := (HD.out _ _ _ IS.out ho).2
     have bV : Hid (aO one sep ts.length ts = od one sep (acc ++ [t3]) c3) := by
      rw [Fe.out, fe HD.out qj IS.out, ho]
      exact rm one sep acc t3 c3
     obtain ⟨o2, n2, cp, o', c', w4, e4, m0, hrow4, dI⟩ := oE (i := 1) pN Tryz.underlying23 (by decide) (by decide) (mP.out.up U0 U0 (Nat.le_max_left hx h3h)) (hT.up U0 U0 (Nat.le_max_right hx h3h)) (by omega) gy U0 (by omega)
     cases e4
     obtain ⟨dS, dO1, dN1, dC1, dK, dT, dN, dO2, dN2, dC2, dO3, dN3, dC3, dO4, dN4, dC4, dO5, dN5, dC5, rfl⟩ := hF
     have wW := aa m0
     have jO := aa dI
     have pZ := aa hrow4
     have Cu := aa (H3.out.keeps dI au ec)
     clear m3 h3 hT m0 dI hrow4 ho
     go_wp2_with (at_builtin; refine Lib.wpList_append_run _ rfl _ _ _ _ rfl _ _ rfl rfl _ _ wW.out ?_)
     go_wp2
     go_roundw
     case rel => exact ⟨c3, acc ++ [t3], max hx h3h, Cu.out, by simpa using pZ.out, gh jO.out U0 M3.out, by omega, by simp; omega, bV.out⟩
     case measure =>
      rw [Cu.out.mi, wP.out]
      omega
    ·have M3 := aa (sW.out.trans m3)
     have bV : Hid (aO one sep ts.length ts = none) := by
      rw [Fe.out, fe HD.out qj IS.out, ho]
      exact rfl
     clear m3 ho
     unfold ey
     go_wp2
     exact ⟨rfl, M3.out, .inr ⟨bV.out, rfl⟩⟩
   ·have H2 := aa h2
    have pY := aa ((dh.out.keep (bv m2 au U0)).up U0 m2.size U0)
    have sW := aa (wG.out.trans m2)
    have Fe : Hid (aO one sep ts.length ts = some (acc, cur)) := by
     rw [HQ.out]
     unfold od
     rw [if_neg (by rw [hi]; decide)]
     exact rfl
    clear h2 m2 hi
    go_wp2
    go_ret
    exact ⟨sW.out, .inl ⟨acc, cur, _, _, _, hx, Fe.out, rfl, H2.out, nZ, pY.out⟩⟩
 ·have M1 := aa m1
  have HQ : Hid (aO one sep ts.length ts = none) := by
   rw [rS.out, ho]
   exact rfl
  clear m1 ho
  unfold ey
  go_wp2
  exact ⟨rfl, M1.out, .inr ⟨HQ.out, rfl⟩⟩
theorem lz {one : bF} {n : Nat} (h : Ir b g w d ts) (hn : ts.length <= n + 1) (hP : Ja b g d n one) (hD : bC one) : Calls Tryz.prog 192 #[.pointer (some ⟨b, 0, none⟩), .func (.func 140) #[.pointer (some ⟨b, 0, none⟩)] #[]] w (xq 1 b g d w ts (aP one)) := by
 have au := h.lt
 have HP := aa hP
 have HD := aa hD
 have HC := aa (cN df (by decide) (by decide) h)
 clear h hP hD
 go_enter Tryz.func192, Tryz.ntmps192
 go_wp2_with fail
 refine HC.out.mono ?_
 rintro e w1 ⟨⟨q1, io, rfl, h1⟩ | ⟨io, rfl⟩, m1⟩
 ·have H1 := aa h1
  have M1 := aa m1
  have xJ := aa io
  have fB := aQ io
  have iN := m1.size
  clear h1 m1 io
  go_wp2_with fail
  refine (un ck (by decide) (by decide) H1.out (by omega) HP.out HD.out).mono ?_
  rintro e w2 ⟨m2, ⟨l, q2, o, k, c, hh, ho, rfl, h2, hh2, hR⟩ | ⟨ho, rfl⟩⟩
  ·have H2 := aa h2
   have M2 := aa (M1.out.trans m2)
   have HR := aa hR
   have HO := aa ho
   clear h2 m2 hR ho
   go_wp2_with fail
   refine (cN dZ (by decide) (by decide) H2.out).mono ?_
   rintro e w3 ⟨⟨q3, iv, rfl, h3⟩ | ⟨iv, rfl⟩, m3⟩
   ·have H3 := aa h3
    have M3 := aa (M2.out.trans m3)
    have I8 := aa ((HR.out.keep (bv m3 (by omega) U0)).up iN m3.size U0)
    have Jf := aQ iv
    have HQ : Hid (aP one ts = some (l, q3)) := by
     unfold aP
     rw [xJ.out]
     show (aO one ck q1.length q1).bind _ = _
     rw [HO.out]
     show (ar dZ q2).bind _ = _
     rw [iv]
     exact rfl
    clear h3 m3 iv
    go_wp2
    go_ret
    exact ⟨M3.out, .inl ⟨l, q3, _, _, _, hh, HQ.out, rfl, H3.out, by omega, I8.out⟩⟩
   ·have M3 := aa (M2.out.trans m3)
    have HQ : Hid (aP one ts = none) := by
     unfold aP
     rw [xJ.out]
     show (aO one ck q1.length q1).bind _ = _
     rw [HO.out]
     show (ar dZ q2).bind _ = _
     rw [iv]
     exact rfl
    clear m3 iv
    unfold ey
    go_wp2
    exact ⟨rfl, M3.out, .inr ⟨HQ.out, rfl⟩⟩
  ·have M2 := aa (M1.out.trans m2)
   have HQ : Hid (aP one ts = none) := by
    unfold aP
    rw [xJ.out]
    show (aO one ck q1.length q1).bind _ = _
    have zm : aO one ck q1.length q1 = none := ho
    rw [zm]
    exact rfl
   clear m2 ho
   unfold ey
   go_wp2
   exact ⟨rfl, M2.out, .inr ⟨HQ.out, rfl⟩⟩
 ·have M1 := aa m1
  have HQ : Hid (aP one ts = none) := by
   unfold aP
   rw [io]
   exact rfl
  clear m1 io
  unfold ey
  go_wp2
  exact ⟨rfl, M1.out, .inr ⟨HQ.out, rfl⟩⟩
end
section
variable {b g d : Nat} {w : World} {ts : List TokZ}
theorem tA {one : bF} {n : Nat} (sep : ByteArray) (hs : sep.size <= 1500) (qj : sep ≠ ⟨#[]⟩) (h : Ir b g w d ts) (hn : ts.length <= n) (hP : Lw b g d n one) (hD : bC one) : Calls Tryz.prog 282 #[.pointer (some ⟨b, 0, none⟩), .string sep, .func (.func 266) #[.pointer (some ⟨b, 0, none⟩)] #[]] w (xq 2 b g d w ts (fun ts => aO one sep ts.length ts)) := by
 have au := h.lt
 have ec := h.glt
 have tp := h.len
 have HP := aa hP
 have HD := aa hD
 have H0 := aa h
 have rS := aa (fe HD.out qj h.ends)
 clear h hP hD
 go_enter Tryz.func282, Tryz.ntmps282
 go_wp2_with fail
 refine (HP.out w ts H0.out hn).mono ?_
 rintro e w1 ⟨m1, ⟨t1, c1, cs, hh, ho, rfl, hF, h1, hh1, hT⟩ | ⟨ho, rfl⟩⟩
 ·have bS : Below w1.heap.size w1 (w1.alloc (.cells cs.toArray 142)) := (U4 w1).alloc U0 _
  have Ct := aa (m1.trans (Mv.of bS))
  have H1 := aa (h1.below bS)
  have dh : Hid (RowT (w1.alloc (.cells cs.toArray 142)) w.heap.size (w1.alloc (.cells cs.toArray 142)).heap.size hh 2 (.slice (some ⟨w1.heap.size, 0, none⟩) 1 1) [t1]) := RowT.lit1 (hT.keep (aw bS U0)) (heap_alloc_new w1 _) U0 (by simp) m1.size
  have HQ : Hid (aO one sep ts.length ts = od one sep [t1] c1) := by
   rw [rS.out, ho]
   exact rfl
  have fB : c1.length + 1 <= ts.length := (HD.out _ _ _ H0.out.ends ho).2
  obtain ⟨dS, dO1, dN1, dC1, dK, dT, dN, dO2, dN2, dC2, dO3, dN3, dC3, dO4, dN4, dC4, rfl⟩ := hF
  clear m1 h1 hT bS ho
  go_wp2
  go_loopw [7] (fun t7 wr => ∃ cur acc hh, Ir b g wr d cur /\ RowT wr w.heap.size wr.heap.size hh 2 t7 acc /\ Mv b w wr /\ hh + cur.length <= ts.length /\ acc.length + cur.length <= ts.length /\ aO one sep ts.length ts = od one sep acc cur) (fun _ wr => mi b wr)
  case atStart => exact ⟨c1, [t1], hh, H1.out, dh.out, Ct.out, hh1, by simp; omega, HQ.out⟩
  case round =>
   obtain ⟨cur, acc, hx, hir, cF, hmv, nZ, mY, hq⟩ := hrel
   have Ip := aa hir
   have dh := aa cF
   have wG := aa hmv
   have HQ := aa hq
   have J2 := hmv.size
   have wP : Hid (mi b wr = cur.length) := hir.mi
   obtain ⟨o1, k1, rfl, -⟩ := cF.form
   clear hir cF hmv hq
   go_wp2_with fail
   refine (el sep hs qj Ip.out).mono ?_
   rintro e w2 ⟨⟨hi, rfl, h2⟩ | ⟨hi, rfl, h2⟩, m2⟩
   ·have H2 := aa h2
    have pY := aa ((dh.out.keep (bv m2 au U0)).up U0 m2.size U0)
    have sW := aa (wG.out.trans m2)
    have iM := m2.size
    obtain ⟨hte, om⟩ := bG hi Ip.out.ends qj
    have IS := aa hte
    have Fe : Hid (aO one sep ts.length ts = (aO one sep cur.tail.length cur.tail).map fun q => (acc ++ q.1, q.2)) := by
     rw [HQ.out]
     unfold od
     rw [if_pos hi]
     exact rfl
    clear h2 m2 hi hte
    go_wp2_with fail
    refine (HP.out w2 cur.tail H2.out (by omega)).mono ?_
    rintro e w3 ⟨m3, ⟨t3, c3, cx, h3h, ho, rfl, hF, h3, hh3, hT⟩ | ⟨ho, rfl⟩⟩
    ·have mP := aa (pY.out.keep (bv m3 au U0))
     have M3 := aa (sW.out.trans m3)
     have H3 := aa h3
     have gy := m3.size
     have Jf := (HD.out _ _ _ IS.out ho).2
     have bV : Hid (aO one sep ts.length ts = od one sep (acc ++ [t3]) c3) := by
      rw [Fe.out, fe HD.out qj IS.out, ho]
      exact rm one sep acc t3 c3
     obtain ⟨o2, n2, cp, o', c', w4, e4, m0, hrow4, dI⟩ := oE (i := 2) oQ Tryz.underlying32 (by decide) (by decide) (mP.out.up U0 U0 (Nat.le_max_left hx h3h)) (hT.up U0 U0 (Nat.le_max_right hx h3h)) (by omega) gy U0 (by omega)
     cases e4
     obtain ⟨dS, dO1, dN1, dC1, dK, dT, dN, dO2, dN2, dC2, dO3, dN3, dC3, dO4, dN4, dC4, rfl⟩ := hF
     have wW := aa m0
     have jO := aa dI
     have pZ := aa hrow4
     have Cu := aa (H3.out.keeps dI au ec)
     clear m3 h3 hT m0 dI hrow4 ho
     go_wp2_with (at_builtin; refine Lib.wpList_append_run _ rfl _ _ _ _ rfl _ _ rfl rfl _ _ wW.out ?_)
     go_wp2
     go_roundw
     case rel => exact ⟨c3, acc ++ [t3], max hx h3h, Cu.out, by simpa using pZ.out, gh jO.out U0 M3.out, by omega, by simp; omega, bV.out⟩
     case measure =>
      rw [Cu.out.mi, wP.out]
      omega
    ·have M3 := aa (sW.out.trans m3)
     have bV : Hid (aO one sep ts.length ts = none) := by
      rw [Fe.out, fe HD.out qj IS.out, ho]
      exact rfl
     clear m3 ho
     unfold ey
     go_wp2
     exact ⟨rfl, M3.out, .inr ⟨bV.out, rfl⟩⟩
   ·have H2 := aa h2
    have pY := aa ((dh.out.keep (bv m2 au U0)).up U0 m2.size U0)
    have sW := aa (wG.out.trans m2)
    have Fe : Hid (aO one sep ts.length ts = some (acc, cur)) := by
     rw [HQ.out]
     unfold od
     rw [if_neg (by rw [hi]; decide)]
     exact rfl
    clear h2 m2 hi
    go_wp2
    go_ret
    exact ⟨sW.out, .inl ⟨acc, cur, _, _, _, hx, Fe.out, rfl, H2.out, nZ, pY.out⟩⟩
 ·have M1 := aa m1
  have HQ : Hid (aO one sep ts.length ts = none) := by
   rw [rS.out, ho]
   exact rfl
  clear m1 ho
  unfold ey
  go_wp2
  exact ⟨rfl, M1.out, .inr ⟨HQ.out, rfl⟩⟩
theorem qr {one : bF} {n : Nat} (h : Ir b g w d ts) (hn : ts.length <= n + 1) (hP : Lw b g d n one) (hD : bC one) : Calls Tryz.prog 265 #[.pointer (some ⟨b, 0, none⟩), .func (.func 266) #[.pointer (some ⟨b, 0, none⟩)] #[]] w (xq 2 b g d w ts (aP one)) := by
 have au := h.lt
 have HP := aa hP
 have HD := aa hD
 have HC := aa (cN df (by decide) (by decide) h)
 clear h hP hD
 go_enter Tryz.func265, Tryz.ntmps265
 go_wp2_with fail
 refine HC.out.mono ?_
 rintro e w1 ⟨⟨q1, io, rfl, h1⟩ | ⟨io, rfl⟩, m1⟩
 ·have H1 := aa h1
  have M1 := aa m1
  have xJ := aa io
  have fB := aQ io
  have iN := m1.size
  clear h1 m1 io
  go_wp2_with fail
  refine (tA ck (by decide) (by decide) H1.out (by omega) HP.out HD.out).mono ?_
  rintro e w2 ⟨m2, ⟨l, q2, o, k, c, hh, ho, rfl, h2, hh2, hR⟩ | ⟨ho, rfl⟩⟩
  ·have H2 := aa h2
   have M2 := aa (M1.out.trans m2)
   have HR := aa hR
   have HO := aa ho
   clear h2 m2 hR ho
   go_wp2_with fail
   refine (cN dZ (by decide) (by decide) H2.out).mono ?_
   rintro e w3 ⟨⟨q3, iv, rfl, h3⟩ | ⟨iv, rfl⟩, m3⟩
   ·have H3 := aa h3
    have M3 := aa (M2.out.trans m3)
    have I8 := aa ((HR.out.keep (bv m3 (by omega) U0)).up iN m3.size U0)
    have Jf := aQ iv
    have HQ : Hid (aP one ts = some (l, q3)) := by
     unfold aP
     rw [xJ.out]
     show (aO one ck q1.length q1).bind _ = _
     rw [HO.out]
     show (ar dZ q2).bind _ = _
     rw [iv]
     exact rfl
    clear h3 m3 iv
    go_wp2
    go_ret
    exact ⟨M3.out, .inl ⟨l, q3, _, _, _, hh, HQ.out, rfl, H3.out, by omega, I8.out⟩⟩
   ·have M3 := aa (M2.out.trans m3)
    have HQ : Hid (aP one ts = none) := by
     unfold aP
     rw [xJ.out]
     show (aO one ck q1.length q1).bind _ = _
     rw [HO.out]
     show (ar dZ q2).bind _ = _
     rw [iv]
     exact rfl
    clear m3 iv
    unfold ey
    go_wp2
    exact ⟨rfl, M3.out, .inr ⟨HQ.out, rfl⟩⟩
  ·have M2 := aa (M1.out.trans m2)
   have HQ : Hid (aP one ts = none) := by
    unfold aP
    rw [xJ.out]
    show (aO one ck q1.length q1).bind _ = _
    have zm : aO one ck q1.length q1 = none := ho
    rw [zm]
    exact rfl
   clear m2 ho
   unfold ey
   go_wp2
   exact ⟨rfl, M2.out, .inr ⟨HQ.out, rfl⟩⟩
 ·have M1 := aa m1
  have HQ : Hid (aP one ts = none) := by
   unfold aP
   rw [io]
   exact rfl
  clear m1 io
  unfold ey
  go_wp2
  exact ⟨rfl, M1.out, .inr ⟨HQ.out, rfl⟩⟩
end
section
variable {A : Arr} {b d : Nat} {w : World} {r : Option (List TokZ)}
def JT (A : Arr) (b d : Nat) (w : World) (r1 : Option (List TokZ)) (one : bF) (again : Bool) (v : Value) (wr : World) : Prop :=
 (∃ ts cur acc h, r1 = some ts /\ Sr A b wr d cur /\ RowT wr w.heap.size wr.heap.size h 2 v acc /\ h + cur.length <= ts.length /\ acc.length + cur.length <= ts.length /\ (again = true -> aO one ck ts.length ts = (aO one ck cur.length cur).map (fun q => (acc ++ q.1, q.2))) /\ (again = false -> aO one ck ts.length ts = some (acc, cur)))
 \/ (Sb b wr /\ (∃ o n c, v = .slice o n c) /\ (r1.bind fun ts => aO one ck ts.length ts) = none)
theorem tI {w2 w3 : World} {one : bF} {o : Option Addr} {n c : Nat} {st : Option (List TokZ)} (hs : JT A b d w (r.bind (ar df)) one false (.slice o n c) w2) (hmv : Mv b w w2) (au : b < w.heap.size) (jk : ∀ c, (r.bind (ar df)).bind (fun ts => aO one ck ts.length ts) = c -> st = c.map (·.2)) (h3 : St A b w3 d (st.bind (ar dZ))) (m3 : Mv b w2 w3) : AE 2 A b d w r (aP one) (.returned (.slice o n c)) w3 := by
 have hb : (r.bind fun ts => (aP one ts).map (·.2)) = ((r.bind (ar df)).bind (fun ts => aO one ck ts.length ts)).bind fun p => ar dZ p.2 := by
  cases r with
  | none => rfl
  | some ts =>
   show (aP one ts).map (·.2) = ((ar df ts).bind (fun ts => aO one ck ts.length ts)).bind fun p => ar dZ p.2
   unfold aP
   cases ar df ts with
   | none => rfl
   | some q =>
    show ((aO one ck q.length q).bind _).map _ = (aO one ck q.length q).bind _
    cases aO one ck q.length q with
    | none => rfl
    | some p =>
     show ((ar dZ p.2).bind _).map _ = ar dZ p.2
     cases ar dZ p.2 with
     | none => rfl
     | some u => rfl
 refine ⟨o, n, c, rfl, ?_, hmv.trans m3, fun ts l rest e1 e2 => ?_⟩
 ·show St A b w3 d (r.bind fun ts => (aP one ts).map (·.2))
  rw [hb]
  have h9 := jk _ rfl
  rw [h9] at h3
  cases hl : (r.bind (ar df)).bind (fun ts => aO one ck ts.length ts) with
  | none => rw [hl] at h3; exact h3
  | some p => rw [hl] at h3; exact h3
 ·subst e1
  obtain ⟨q, f1, e2⟩ := Option.bind_eq_some_iff.1 e2
  obtain ⟨⟨l2, r2⟩, f2, e2⟩ := Option.bind_eq_some_iff.1 e2
  obtain ⟨r3, f3, e2⟩ := Option.bind_eq_some_iff.1 e2
  cases e2
  have f4 : (some ts).bind (ar df) = some q := f1
  rcases hs with ⟨ts', cur, acc, h, g1, g2, g3, g4, g5, -, g6⟩ | ⟨g1, -, g2⟩
  ·rw [f4] at g1
   cases g1
   have g7 := g6 rfl
   rw [f2] at g7
   cases g7
   have := aQ f3
   have := aQ f1
   simp only at *
   exact ⟨h, by omega, (g3.keep (bv m3 au U0)).up U0 m3.size U0⟩
  ·rw [f4] at g2
   have g3 : aO one ck q.length q = none := g2
   rw [f2] at g3
   cases g3
theorem BR {one : bF} {n : Nat} (h : St A b w d r) (hn : ∀ ts, r = some ts -> ts.length <= n + 1) (hC : CA A b d n one) (hD : bC one) : Calls Tryz.prog 148 #[.pointer (some ⟨b, 0, none⟩)] w (AE 2 A b d w r (aP one)) := by
 have au := h.lt
 have HA := aa h.glt
 have HN := aa hn
 have HC := aa hC
 have HD := aa hD
 have aq : Hid (Below w.heap.size w (w.alloc (.cells #[] 142))) := (U4 w).alloc U0 _
 have H0 := aa (h.below aq.out)
 have HX : Hid ((w.alloc (.cells #[] 142)).heap[w.heap.size]? = some (.cells #[] 142 (0, 0))) := heap_alloc_new w _
 have HG : Hid (∀ ts, r.bind (ar df) = some ts -> A.g < w.heap.size /\ ts.length <= n) := fun ts e => by
  obtain ⟨ts0, rfl, e2⟩ := Option.bind_eq_some_iff.1 e
  have := aQ e2
  have := HN.out ts0 rfl
  exact ⟨HA.out ts0 rfl, by omega⟩
 clear h hn hC hD
 go_enter Tryz.func148, Tryz.ntmps148
 go_wp2_with fail
 refine (bQ df (by simp [bP]) (by decide) H0.out).mono ?_
 rintro e w1 ⟨x, rfl, h1, m1⟩
 have H1 := aa h1
 have M1 := aa m1
 clear h1 m1
 go_wp2_with fail
 refine (cj H1.out).mono ?_
 rintro e w2 ⟨rfl, h2, m2⟩
 have H2 := aa h2
 have M2 := aa (M1.out.trans m2)
 have X2 := aa (af HX.out M2.out (by omega))
 have Fo := ad X2.out
 clear h2 m2
 go_wp2
 go_loopw [3, 4] (fun t3 t4 wr => ∃ again, t4 = .bool again /\ Mv b w wr /\ JT A b d w (r.bind (ar df)) one again t3 wr) (fun _ t4 wr => Fj t4 b wr)
 case atStart =>
  refine ⟨true, rfl, (Mv.of aq.out).trans M2.out, ?_⟩
  have h9 := H2.out
  cases hr : r.bind (ar df) with
  | none =>
   rw [hr] at h9
   exact .inr ⟨h9, ⟨_, _, _, rfl⟩, rfl⟩
  | some ts =>
   rw [hr] at h9
   refine .inl ⟨ts, ts, [], 0, rfl, h9, RowT.empty X2.out U0 Fo, by omega, by simp, fun _ => ?_, fun e => by cases e⟩
   cases aO one ck ts.length ts with
   | none => rfl
   | some p => rfl
 case round =>
  obtain ⟨again, rfl, hmv, hrun⟩ := hrel
  have wG := aa hmv
  have J2 := hmv.size
  clear hmv
  rcases hrun with ⟨ts, cur, acc, hh, qI, vm, cF, hh1, hh2, IV, hfi⟩ | ⟨hsb, ⟨o, m, c, rfl⟩, tt⟩
  ·have uS := aa qI
   have qL := aa vm
   have dh := aa cF
   have Kj := aa hfi
   have FE := aa IV
   have x3 := vm.bad
   obtain ⟨LN, htn⟩ := HG.out ts qI
   have om : ts.length <= 100000 := by
    have h9 := H2.out
    rw [qI] at h9
    obtain ⟨-, h1, h2⟩ := Sr.ms h9
    omega
   obtain ⟨o1, c1, rfl, -⟩ := cF.form
   clear qI vm cF hfi IV
   cases again with
   | false =>
    have CQ : Hid (aO one ck ts.length ts = some (acc, cur)) := Kj.out rfl
    clear Kj FE
    go_wp2_with fail
    refine (bQ (r := some cur) dZ (by simp [bP]) (by decide) qL.out).mono ?_
    rintro e w3 ⟨x, rfl, h3, m3⟩
    have H3 := aa h3
    have M3 := aa m3
    clear h3 m3
    go_wp2_with fail
    refine (cj H3.out).mono ?_
    rintro e w4 ⟨rfl, h4, m4⟩
    have H4 := aa h4
    have M4 := aa (M3.out.trans m4)
    clear h4 m4
    go_wp2
    go_ret
    refine tI (st := some cur) (.inl ⟨ts, cur, acc, hh, uS.out, qL.out, dh.out, hh1, hh2, fun e => (by cases e), fun _ => CQ.out⟩) wG.out au (fun c e => ?_) H4.out M4.out
    rw [<- e, uS.out]
    show some cur = (aO one ck ts.length ts).map (·.2)
    rw [CQ.out]
    rfl
   | true =>
    have aC : Ends cur := qL.out.ends
    have dr := aa aC
    have wR := FE.out rfl
    rw [fe HD.out (by decide) aC] at wR
    have CR := aa wR
    clear aC wR
    go_wp2_with fail
    refine (HC.out wr (some cur) qL.out (fun ts' e => by cases e; omega)).mono ?_
    rintro e w3 ⟨cs, rfl, hF, h3, m3, g3⟩
    have HF := aa hF
    have M3 := aa m3
    have gy := m3.size
    have mP := aa (dh.out.keep (bv m3 au U0))
    cases hde : one cur with
    | none =>
     have H3 : Hid (Sb b w3) := by
      have h9 : St A b w3 d ((one cur).map (·.2)) := h3
      rw [hde] at h9
      exact h9
     have vg : Hid (aO one ck ts.length ts = none) := by
      have h9 := CR.out
      rw [hde] at h9
      exact h9
     obtain ⟨o2, n2, cp, o', n', c', w4, e4, m0, dI⟩ := uv (i := 2) oQ Tryz.underlying32 (by decide) (by decide) mP.out (Fa.one hF) gy
     cases e4
     obtain ⟨dS, dO1, dN1, dC1, dK, dT, dN, dO2, dN2, dC2, dO3, dN3, dC3, dO4, dN4, dC4, rfl⟩ := hF
     have wW := aa m0
     have jO := aa dI
     have qc := dI.size
     clear h3 m3 g3 m0 dI hde
     go_wp2_with (at_builtin; refine Lib.wpList_append_run _ rfl _ _ _ _ rfl _ _ rfl rfl _ _ wW.out ?_)
     refine (bQ (A := A) (d := d) (r := none) ck (by simp [bP]) (by decide) (St.keeps (A := A) (d := d) (r := none) H3.out jO.out au (fun _ e => by cases e))).mono ?_
     rintro e w5 ⟨x, rfl, h5, m5⟩
     rcases h5 with ⟨-, ts', e5, -⟩ | ⟨rfl, -, h5⟩
     ·cases e5
     have H5 := aa h5
     have M5 := aa m5
     clear h5 m5
     go_wp2
     go_roundw
     case rel => exact ⟨false, rfl, (gh jO.out U0 (wG.out.trans M3.out)).trans M5.out, .inr ⟨H5.out, ⟨_, _, _, rfl⟩, by rw [uS.out]; exact vg.out⟩⟩
     case measure => simp [Fj]
    | some p =>
     obtain ⟨t, c2⟩ := p
     have H3 : Hid (Sr A b w3 d c2) := by
      have h9 : St A b w3 d ((one cur).map (·.2)) := h3
      rw [hde] at h9
      exact h9
     obtain ⟨dV, aL⟩ := HD.out _ _ _ dr.out hde
     obtain ⟨h2, gg1, gg2⟩ := g3 cur t c2 rfl hde
     have rS : Hid (aO one ck ts.length ts = (if cg c2 ck then (aO one ck c2.tail.length c2.tail).map (fun q => (t :: q.1, q.2)) else some ([t], c2)).map (fun q => (acc ++ q.1, q.2))) := by
      have h9 := CR.out
      rw [hde] at h9
      exact h9
     have Lt := aa hde
     obtain ⟨o2, n2, cp, o', c', w4, e4, m0, hrow4, dI⟩ := oE (i := 2) oQ Tryz.underlying32 (by decide) (by decide) (mP.out.up U0 U0 (Nat.le_max_left hh h2)) (gg2.up U0 U0 (Nat.le_max_right hh h2)) (by omega) gy U0 (by omega)
     cases e4
     obtain ⟨dS, dO1, dN1, dC1, dK, dT, dN, dO2, dN2, dC2, dO3, dN3, dC3, dO4, dN4, dC4, rfl⟩ := hF
     have wW := aa m0
     have jO := aa dI
     have pZ := aa hrow4
     have qc := dI.size
     have Iv : Hid (Sr A b w4 d c2) := St.keeps (A := A) (d := d) (r := some c2) H3.out jO.out au (fun _ _ => LN)
     have Nf := aa (And.intro dV aL)
     have qo := aa gg1
     clear h3 m3 g3 m0 dI hde hrow4 gg2
     go_wp2_with (at_builtin; refine Lib.wpList_append_run _ rfl _ _ _ _ rfl _ _ rfl rfl _ _ wW.out ?_)
     refine (bQ (A := A) (d := d) (r := some c2) ck (by simp [bP]) (by decide) Iv.out).mono ?_
     rintro e w5 ⟨x, rfl, h5, m5⟩
     have M5 := aa m5
     have uY := aa ((pZ.out.keep (bv m5 au U0)).up U0 m5.size U0)
     have CB := aa ((gh jO.out U0 (wG.out.trans M3.out)).trans m5)
     clear m5
     rcases h5 with ⟨rfl, ts', e5, jm, h5⟩ | ⟨rfl, jm, h5⟩
     ·cases e5
      have H5 := aa h5
      have oj := aa jm
      have NX := (bG jm Nf.out.1 (by decide)).2
      clear h5 jm
      go_wp2
      go_roundw
      case rel =>
       refine ⟨true, rfl, CB.out, .inl ⟨ts, c2.tail, acc ++ [t], max hh h2, uS.out, H5.out, by simpa using uY.out, by have := qo.out; omega, by simp; omega, fun _ => ?_, fun e => by cases e⟩⟩
       rw [rS.out, if_pos oj.out]
       cases aO one ck c2.tail.length c2.tail with
       | none => rfl
       | some q => simp
      case measure =>
       show ms b w5 + 1 < ms b wr + 1
       have h9 := mo qL.out (nx := some c2.tail) H5.out (fun q e => by cases e; omega)
       omega
     ·have H5 := aa h5
      have oj := aa (jm c2 rfl)
      clear h5 jm
      go_wp2
      go_roundw
      case rel =>
       refine ⟨false, rfl, CB.out, .inl ⟨ts, c2, acc ++ [t], max hh h2, uS.out, H5.out, by simpa using uY.out, by have := qo.out; omega, by simp; omega, fun e => (by cases e), fun _ => ?_⟩⟩
       rw [rS.out, if_neg (by rw [oj.out]; decide)]
       rfl
      case measure => simp [Fj]
  ·have zd := aa hsb
   have vg := aa tt
   have x3 := hsb.bad
   clear hsb tt
   cases again
   all_goals
    go_wp2_with fail
    refine (bQ (A := A) (d := d) (r := none) dZ (by simp [bP]) (by decide) zd.out).mono ?_
    rintro e w3 ⟨x, rfl, h3, m3⟩
    have H3 := aa h3
    have M3 := aa m3
    clear h3 m3
    go_wp2_with fail
    refine (cj H3.out).mono ?_
    rintro e w4 ⟨rfl, h4, m4⟩
    have H4 := aa h4
    have M4 := aa (M3.out.trans m4)
    clear h4 m4
    go_wp2
    go_ret
    refine tI (st := none) (.inr ⟨zd.out, ⟨_, _, _, rfl⟩, vg.out⟩) wG.out au (fun c e => ?_) H4.out M4.out
    rw [<- e, vg.out]
    rfl
end
end Go.Proofs.YtfomndilhlgikajGreatDoor.Rd
