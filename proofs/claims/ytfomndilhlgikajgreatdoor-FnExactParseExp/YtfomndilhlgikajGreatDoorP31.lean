import Derived.Test.YtfomndilhlgikajGreatDoorP30
set_option maxHeartbeats 8000000
set_option maxRecDepth 100000
namespace Go.Proofs.YtfomndilhlgikajGreatDoor.Rd
open Go.ChangeShapes Go.WideShapes Go.ChangeAt Go.RowKit
section
variable {A : Arr} {b d : Nat} {w : World} {r : Option (List TokZ)}
def JN (A : Arr) (b d : Nat) (w : World) (r1 : Option (List TokZ)) (one : bF) (again : Bool) (v : Value) (wr : World) : Prop :=
 (∃ ts cur acc h, r1 = some ts /\ Sr A b wr d cur /\ RowT wr w.heap.size wr.heap.size h 1 v acc /\ h + cur.length <= ts.length /\ acc.length + cur.length <= ts.length /\ (again = true -> aO one ck ts.length ts = (aO one ck cur.length cur).map (fun q => (acc ++ q.1, q.2))) /\ (again = false -> aO one ck ts.length ts = some (acc, cur)))
 \/ (Sb b wr /\ (∃ o n c, v = .slice o n c) /\ (r1.bind fun ts => aO one ck ts.length ts) = none)
theorem ua {w2 w3 : World} {one : bF} {o : Option Addr} {n c : Nat} {st : Option (List TokZ)} (hs : JN A b d w (r.bind (ar df)) one false (.slice o n c) w2) (hmv : Mv b w w2) (au : b < w.heap.size) (jk : ∀ c, (r.bind (ar df)).bind (fun ts => aO one ck ts.length ts) = c -> st = c.map (·.2)) (h3 : St A b w3 d (st.bind (ar dZ))) (m3 : Mv b w2 w3) : AE 1 A b d w r (aP one) (.returned (.slice o n c)) w3 := by
 have hb : (r.bind fun ts => (aP one ts).map (·.2)) = ((r.bind (ar df)).bind (fun ts => aO one ck ts.length ts)).bind fun p => ar dZ p.2 := by
  cases r with
  | none => rfl
  | some ts =>
   show (aP one ts).map (·.2) = ((ar df ts).bind (fun ts => aO one ck ts.length ts)).bind fun p => ar dZ p.2
   unfold aP
   cases ar df ts with
   | none => rfl
   | some q =>
    show ((aO one ck q.length q).bind _).map _ = (aO one ck q.length q).bind _
    cases aO one ck q.length q with
    | none => rfl
    | some p =>
     show ((ar dZ p.2).bind _).map _ = ar dZ p.2
     cases ar dZ p.2 with
     | none => rfl
     | some u => rfl
 refine ⟨o, n, c, rfl, ?_, hmv.trans m3, fun ts l rest e1 e2 => ?_⟩
 ·show St A b w3 d (r.bind fun ts => (aP one ts).map (·.2))
  rw [hb]
  have h9 := jk _ rfl
  rw [h9] at h3
  cases hl : (r.bind (ar df)).bind (fun ts => aO one ck ts.length ts) with
  | none => rw [hl] at h3; exact h3
  | some p => rw [hl] at h3; exact h3
 ·subst e1
  obtain ⟨q, f1, e2⟩ := Option.bind_eq_some_iff.1 e2
  obtain ⟨⟨l2, r2⟩, f2, e2⟩ := Option.bind_eq_some_iff.1 e2
  obtain ⟨r3, f3, e2⟩ := Option.bind_eq_some_iff.1 e2
  cases e2
  have f4 : (some ts).bind (ar df) = some q := f1
  rcases hs with ⟨ts', cur, acc, h, g1, g2, g3, g4, g5, -, g6⟩ | ⟨g1, -, g2⟩
  ·rw [f4] at g1
   cases g1
   have g7 := g6 rfl
   rw [f2] at g7
   cases g7
   have := aQ f3
   have := aQ f1
   simp only at *
   exact ⟨h, by omega, (g3.keep (bv m3 au U0)).up U0 m3.size U0⟩
  ·rw [f4] at g2
   have g3 : aO one ck q.length q = none := g2
   rw [f2] at g3
   cases g3
theorem rz {one : bF} {n : Nat} (h : St A b w d r) (hn : ∀ ts, r = some ts -> ts.length <= n + 1) (hC : CD A b d n one) (hD : bC one) : Calls Tryz.prog 80 #[.pointer (some ⟨b, 0, none⟩)] w (AE 1 A b d w r (aP one)) := by
 have au := h.lt
 have HA := aa h.glt
 have HN := aa hn
 have HC := aa hC
 have HD := aa hD
 have aq : Hid (Below w.heap.size w (w.alloc (.cells #[] 54))) := (U4 w).alloc U0 _
 have H0 := aa (h.below aq.out)
 have HX : Hid ((w.alloc (.cells #[] 54)).heap[w.heap.size]? = some (.cells #[] 54 (0, 0))) := heap_alloc_new w _
 have HG : Hid (∀ ts, r.bind (ar df) = some ts -> A.g < w.heap.size /\ ts.length <= n) := fun ts e => by
  obtain ⟨ts0, rfl, e2⟩ := Option.bind_eq_some_iff.1 e
  have := aQ e2
  have := HN.out ts0 rfl
  exact ⟨HA.out ts0 rfl, by omega⟩
 clear h hn hC hD
 go_enter Tryz.func80, Tryz.ntmps80
 go_wp2_with fail
 refine (bQ df (by simp [bP]) (by decide) H0.out).mono ?_
 rintro e w1 ⟨x, rfl, h1, m1⟩
 have H1 := aa h1
 have M1 := aa m1
 clear h1 m1
 go_wp2_with fail
 refine (cj H1.out).mono ?_
 rintro e w2 ⟨rfl, h2, m2⟩
 have H2 := aa h2
 have M2 := aa (M1.out.trans m2)
 have X2 := aa (af HX.out M2.out (by omega))
 have Fo := ad X2.out
 clear h2 m2
 go_wp2
 go_loopw [3, 4] (fun t3 t4 wr => ∃ again, t4 = .bool again /\ Mv b w wr /\ JN A b d w (r.bind (ar df)) one again t3 wr) (fun _ t4 wr => Fj t4 b wr)
 case atStart =>
  refine ⟨true, rfl, (Mv.of aq.out).trans M2.out, ?_⟩
  have h9 := H2.out
  cases hr : r.bind (ar df) with
  | none =>
   rw [hr] at h9
   exact .inr ⟨h9, ⟨_, _, _, rfl⟩, rfl⟩
  | some ts =>
   rw [hr] at h9
   refine .inl ⟨ts, ts, [], 0, rfl, h9, RowT.empty X2.out U0 Fo, by omega, by simp, fun _ => ?_, fun e => by cases e⟩
   cases aO one ck ts.length ts with
   | none => rfl
   | some p => rfl
 case round =>
  obtain ⟨again, rfl, hmv, hrun⟩ := hrel
  have wG := aa hmv
  have J2 := hmv.size
  clear hmv
  rcases hrun with ⟨ts, cur, acc, hh, qI, vm, cF, hh1, hh2, IV, hfi⟩ | ⟨hsb, ⟨o, m, c, rfl⟩, tt⟩
  ·have uS := aa qI
   have qL := aa vm
   have dh := aa cF
   have Kj := aa hfi
   have FE := aa IV
   have x3 := vm.bad
   obtain ⟨LN, htn⟩ := HG.out ts qI
   have om : ts.length <= 100000 := by
    have h9 := H2.out
    rw [qI] at h9
    obtain ⟨-, h1, h2⟩ := Sr.ms h9
    omega
   obtain ⟨o1, c1, rfl, -⟩ := cF.form
   clear qI vm cF hfi IV
   cases again with
   | false =>
    have CQ : Hid (aO one ck ts.length ts = some (acc, cur)) := Kj.out rfl
    clear Kj FE
    go_wp2_with fail
    refine (bQ (r := some cur) dZ (by simp [bP]) (by decide) qL.out).mono ?_
    rintro e w3 ⟨x, rfl, h3, m3⟩
    have H3 := aa h3
    have M3 := aa m3
    clear h3 m3
    go_wp2_with fail
    refine (cj H3.out).mono ?_
    rintro e w4 ⟨rfl, h4, m4⟩
    have H4 := aa h4
    have M4 := aa (M3.out.trans m4)
    clear h4 m4
    go_wp2
    go_ret
    refine ua (st := some cur) (.inl ⟨ts, cur, acc, hh, uS.out, qL.out, dh.out, hh1, hh2, fun e => (by cases e), fun _ => CQ.out⟩) wG.out au (fun c e => ?_) H4.out M4.out
    rw [<- e, uS.out]
    show some cur = (aO one ck ts.length ts).map (·.2)
    rw [CQ.out]
    rfl
   | true =>
    have aC : Ends cur := qL.out.ends
    have dr := aa aC
    have wR := FE.out rfl
    rw [fe HD.out (by decide) aC] at wR
    have CR := aa wR
    clear aC wR
    go_wp2_with fail
    refine (HC.out wr (some cur) qL.out (fun ts' e => by cases e; omega)).mono ?_
    rintro e w3 ⟨cs, rfl, hF, h3, m3, g3⟩
    have HF := aa hF
    have M3 := aa m3
    have gy := m3.size
    have mP := aa (dh.out.keep (bv m3 au U0))
    cases hde : one cur with
    | none =>
     have H3 : Hid (Sb b w3) := by
      have h9 : St A b w3 d ((one cur).map (·.2)) := h3
      rw [hde] at h9
      exact h9
     have vg : Hid (aO one ck ts.length ts = none) := by
      have h9 := CR.out
      rw [hde] at h9
      exact h9
     obtain ⟨o2, n2, cp, o', n', c', w4, e4, m0, dI⟩ := uv (i := 1) pN Tryz.underlying23 (by decide) (by decide) mP.out (Fd.one hF) gy
     cases e4
     obtain ⟨dS, dO1, dN1, dC1, dK, dT, dN, dO2, dN2, dC2, dO3, dN3, dC3, dO4, dN4, dC4, dO5, dN5, dC5, rfl⟩ := hF
     have wW := aa m0
     have jO := aa dI
     have qc := dI.size
     clear h3 m3 g3 m0 dI hde
     go_wp2_with (at_builtin; refine Lib.wpList_append_run _ rfl _ _ _ _ rfl _ _ rfl rfl _ _ wW.out ?_)
     refine (bQ (A := A) (d := d) (r := none) ck (by simp [bP]) (by decide) (St.keeps (A := A) (d := d) (r := none) H3.out jO.out au (fun _ e => by cases e))).mono ?_
     rintro e w5 ⟨x, rfl, h5, m5⟩
     rcases h5 with ⟨-, ts', e5, -⟩ | ⟨rfl, -, h5⟩
     ·cases e5
     have H5 := aa h5
     have M5 := aa m5
     clear h5 m5
     go_wp2
     go_roundw
     case rel => exact ⟨false, rfl, (gh jO.out U0 (wG.out.trans M3.out)).trans M5.out, .inr ⟨H5.out, ⟨_, _, _, rfl⟩, by rw [uS.out]; exact vg.out⟩⟩
     case measure => simp [Fj]
    | some p =>
     obtain ⟨t, c2⟩ := p
     have H3 : Hid (Sr A b w3 d c2) := by
      have h9 : St A b w3 d ((one cur).map (·.2)) := h3
      rw [hde] at h9
      exact h9
     obtain ⟨dV, aL⟩ := HD.out _ _ _ dr.out hde
     obtain ⟨h2, gg1, gg2⟩ := g3 cur t c2 rfl hde
     have rS : Hid (aO one ck ts.length ts = (if cg c2 ck then (aO one ck c2.tail.length c2.tail).map (fun q => (t :: q.1, q.2)) else some ([t], c2)).map (fun q => (acc ++ q.1, q.2))) := by
      have h9 := CR.out
      rw [hde] at h9
      exact h9
     have Lt := aa hde
     obtain ⟨o2, n2, cp, o', c', w4, e4, m0, hrow4, dI⟩ := oE (i := 1) pN Tryz.underlying23 (by decide) (by decide) (mP.out.up U0 U0 (Nat.le_max_left hh h2)) (gg2.up U0 U0 (Nat.le_max_right hh h2)) (by omega) gy U0 (by omega)
     cases e4
     obtain ⟨dS, dO1, dN1, dC1, dK, dT, dN, dO2, dN2, dC2, dO3, dN3, dC3, dO4, dN4, dC4, dO5, dN5, dC5, rfl⟩ := hF
     have wW := aa m0
     have jO := aa dI
     have pZ := aa hrow4
     have qc := dI.size
     have Iv : Hid (Sr A b w4 d c2) := St.keeps (A := A) (d := d) (r := some c2) H3.out jO.out au (fun _ _ => LN)
     have Nf := aa (And.intro dV aL)
     have qo := aa gg1
     clear h3 m3 g3 m0 dI hde hrow4 gg2
     go_wp2_with (at_builtin; refine Lib.wpList_append_run _ rfl _ _ _ _ rfl _ _ rfl rfl _ _ wW.out ?_)
     refine (bQ (A := A) (d := d) (r := some c2) ck (by simp [bP]) (by decide) Iv.out).mono ?_
     rintro e w5 ⟨x, rfl, h5, m5⟩
     have M5 := aa m5
     have uY := aa ((pZ.out.keep (bv m5 au U0)).up U0 m5.size U0)
     have CB := aa ((gh jO.out U0 (wG.out.trans M3.out)).trans m5)
     clear m5
     rcases h5 with ⟨rfl, ts', e5, jm, h5⟩ | ⟨rfl, jm, h5⟩
     ·cases e5
      have H5 := aa h5
      have oj := aa jm
      have NX := (bG jm Nf.out.1 (by decide)).2
      clear h5 jm
      go_wp2
      go_roundw
      case rel =>
       refine ⟨true, rfl, CB.out, .inl ⟨ts, c2.tail, acc ++ [t], max hh h2, uS.out, H5.out, by simpa using uY.out, by have := qo.out; omega, by simp; omega, fun _ => ?_, fun e => by cases e⟩⟩
       rw [rS.out, if_pos oj.out]
       cases aO one ck c2.tail.length c2.tail with
       | none => rfl
       | some q => simp
      case measure =>
       show ms b w5 + 1 < ms b wr + 1
       have h9 := mo qL.out (nx := some c2.tail) H5.out (fun q e => by cases e; omega)
       omega
     ·have H5 := aa h5
      have oj := aa (jm c2 rfl)
      clear h5 jm
      go_wp2
      go_roundw
      case rel =>
       refine ⟨false, rfl, CB.out, .inl ⟨ts, c2, acc ++ [t], max hh h2, uS.out, H5.out, by simpa using uY.out, by have := qo.out; omega, by simp; omega, fun e => (by cases e), fun _ => ?_⟩⟩
       rw [rS.out, if_neg (by rw [oj.out]; decide)]
       rfl
      case measure => simp [Fj]
  ·have zd := aa hsb
   have vg := aa tt
   have x3 := hsb.bad
   clear hsb tt
   cases again
   all_goals
    go_wp2_with fail
    refine (bQ (A := A) (d := d) (r := none) dZ (by simp [bP]) (by decide) zd.out).mono ?_
    rintro e w3 ⟨x, rfl, h3, m3⟩
    have H3 := aa h3
    have M3 := aa m3
    clear h3 m3
    go_wp2_with fail
    refine (cj H3.out).mono ?_
    rintro e w4 ⟨rfl, h4, m4⟩
    have H4 := aa h4
    have M4 := aa (M3.out.trans m4)
    clear h4 m4
    go_wp2
    go_ret
    refine ua (st := none) (.inr ⟨zd.out, ⟨_, _, _, rfl⟩, vg.out⟩) wG.out au (fun c e => ?_) H4.out M4.out
    rw [<- e, vg.out]
    rfl
end
def AV (w : World) (g : Nat) (v0 v1 v2 v3 v4 v5 : Value) : World := (((((w.setCell ⟨g, 2, none⟩ v0).setCell ⟨g, 3, none⟩ v1).setCell ⟨g, 4, none⟩ v2).setCell ⟨g, 5, none⟩ v3).setCell ⟨g, 6, none⟩ v4).setCell ⟨g, 7, none⟩ v5
theorem ni (w : World) (g : Nat) (v0 v1 v2 v3 v4 v5 : Value) : Keeps (fun k => k ≠ g) w (AV w g v0 v1 v2 v3 v4 v5) := by
 unfold AV
 exact (((((ak w g 2 v0 (fun h => h rfl)).trans (ak _ g 3 v1 (fun h => h rfl))).trans (ak _ g 4 v2 (fun h => h rfl))).trans (ak _ g 5 v3 (fun h => h rfl))).trans (ak _ g 6 v4 (fun h => h rfl))).trans (ak _ g 7 v5 (fun h => h rfl))
theorem uA (w : World) (g : Nat) (v0 v1 v2 v3 v4 v5 : Value) : (AV w g v0 v1 v2 v3 v4 v5).heap.size = w.heap.size := by
 unfold AV
 simp
theorem DN {w : World} {g : Nat} {E : TypeId} {c0 c1 c2 c3 c4 c5 c6 c7 c8 : Value} (h : w.heap[g]? = some (.cells #[c0, c1, c2, c3, c4, c5, c6, c7, c8] E (0, 0))) (v0 v1 v2 v3 v4 v5 : Value) : (AV w g v0 v1 v2 v3 v4 v5).heap[g]? = some (.cells #[c0, c1, v0, v1, v2, v3, v4, v5, c8] E (0, 0)) := by
 have h0 : (w.setCell ⟨g, 2, none⟩ v0).heap[g]? = some (.cells #[c0, c1, v0, c3, c4, c5, c6, c7, c8] E (0, 0)) := ae (j := 2) v0 h
 have h1 : ((w.setCell ⟨g, 2, none⟩ v0).setCell ⟨g, 3, none⟩ v1).heap[g]? = some (.cells #[c0, c1, v0, v1, c4, c5, c6, c7, c8] E (0, 0)) := ae (j := 3) v1 h0
 have h2 : (((w.setCell ⟨g, 2, none⟩ v0).setCell ⟨g, 3, none⟩ v1).setCell ⟨g, 4, none⟩ v2).heap[g]? = some (.cells #[c0, c1, v0, v1, v2, c5, c6, c7, c8] E (0, 0)) := ae (j := 4) v2 h1
 have h3 : ((((w.setCell ⟨g, 2, none⟩ v0).setCell ⟨g, 3, none⟩ v1).setCell ⟨g, 4, none⟩ v2).setCell ⟨g, 5, none⟩ v3).heap[g]? = some (.cells #[c0, c1, v0, v1, v2, v3, c6, c7, c8] E (0, 0)) := ae (j := 5) v3 h2
 have h4 : (((((w.setCell ⟨g, 2, none⟩ v0).setCell ⟨g, 3, none⟩ v1).setCell ⟨g, 4, none⟩ v2).setCell ⟨g, 5, none⟩ v3).setCell ⟨g, 6, none⟩ v4).heap[g]? = some (.cells #[c0, c1, v0, v1, v2, v3, v4, c7, c8] E (0, 0)) := ae (j := 6) v4 h3
 have h5 : ((((((w.setCell ⟨g, 2, none⟩ v0).setCell ⟨g, 3, none⟩ v1).setCell ⟨g, 4, none⟩ v2).setCell ⟨g, 5, none⟩ v3).setCell ⟨g, 6, none⟩ v4).setCell ⟨g, 7, none⟩ v5).heap[g]? = some (.cells #[c0, c1, v0, v1, v2, v3, v4, v5, c8] E (0, 0)) := ae (j := 7) v5 h4
 exact h5
section
variable {A : Arr} {b d : Nat} {w : World} {r : Option (List TokZ)}
theorem yK (h : St A b w d r) (hk : qC r 2 = true) : Calls Tryz.prog 75 #[.pointer (some ⟨b, 0, none⟩)] w fun e w' => ∃ s, e = .returned (.string s) /\ St A b w' d (r.map List.tail) /\ Mv b w w' /\ ∀ ts, r = some ts -> s = jN ts := by
 have au := h.lt
 have H := aa h
 have HK := aa hk
 have N4 := ld
 clear h hk
 go_enter Tryz.func75, Tryz.ntmps75
 go_wp2_with fail
 refine (kX 2 H.out).mono ?_
 rintro e w1 ⟨rfl, h1, m1⟩
 rw [HK.out]
 have H1 := aa h1
 have M1 := aa m1
 clear h1 m1
 go_wp2_with fail
 refine (nh w1 b).mono ?_
 rintro e w2 ⟨rfl, rfl⟩
 go_wp2_with fail
 refine (iZ H1.out (fun ts e => by
  subst e
  exact (hQ (HK.out : isK ts 2 = true) (Sr.ends H1.out) (by decide)).1)).mono ?_
 rintro e w3 ⟨k, s, l, c, rfl, h3, m3, hs⟩
 have H3 := aa h3
 have M3 := aa (M1.out.trans m3)
 have HS := aa hs
 clear h3 m3 hs
 go_wp2
 go_ret
 exact ⟨s, rfl, H3.out, M3.out, HS.out⟩
def zA : Array Value := #[.string ⟨#[]⟩, .slice none 0 0, .int .i64 0, .string ⟨#[]⟩, .int .i64 0, .slice none 0 0, .slice none 0 0, .slice none 0 0]
theorem GM {V : World} {one : bF} {c0 c1 c2 c3 c4 c5 c6 c7 : Value} (au : b < w.heap.size) (hA : AG A w r) (hS : St A b V d (nxt r one)) (hM : Mv b w V) (hG : Got V (w.heap.size + 1) V.heap.size 2 r one [c0, c1, c2, c3, c4, c5, c6, c7]) (hF : Fa [c0, c1, c2, c3, c4, c5, c6, c7]) : ResK Fa 2 A b d w r one (.returned (.agg #[c0, c1, c2, c3, c4, c5, c6, c7])) (Dm V w.heap.size c0 c1 c2 c3 c4 c5 c6 c7) := by
 have hk := kU V w.heap.size c0 c1 c2 c3 c4 c5 c6 c7
 obtain ⟨h1, h2⟩ := pJ hM hS hk au (hA.nxt one)
 exact ⟨_, rfl, hF, h1, h2, hG.keep (fun b h1 h2 => hk.block b (by show b ≠ _; omega)) (by omega) (by rw [mx]; exact Nat.le_refl _)⟩
theorem DW {ex : bF} (r : Option (List TokZ)) : nxt r (ff ex) = nxt ((r.bind fun ts => (gv ts).map (·.2)).bind (ar eJ)) ex := by
 cases r with
 | none => rfl
 | some ts =>
  show (ff ex ts).map (·.2) = nxt (((gv ts).map (·.2)).bind (ar eJ)) ex
  unfold ff
  cases gv ts with
  | none => rfl
  | some p =>
   show ((ar eJ p.2).bind _).map _ = nxt (ar eJ p.2) ex
   cases ar eJ p.2 with
   | none => rfl
   | some q =>
    show ((ex q).bind _).map _ = (ex q).map _
    cases ex q with
    | none => rfl
    | some u => rfl
structure Pt (A : Arr) (b d : Nat) (w : World) (r : Option (List TokZ)) (W : World) : Prop where
 mv : Mv b w W
 st : St A b W d (r.bind fun ts => (gv ts).map (·.2))
 res : W.heap[w.heap.size]? = some (.cells zA 142 (0, 0))
 box : ∃ s o n c, W.heap[w.heap.size + 1]? = some (.cells #[.string s, .slice o n c, .int .i64 0, .string ⟨#[]⟩, .int .i64 0, .slice none 0 0, .slice none 0 0, .slice none 0 0] 142 (0, 0)) /\ ∀ ts s' ss rest, r = some ts -> gv ts = some ((s', ss), rest) -> s = s' /\ s.size <= 1500 /\ StrT W (w.heap.size + 2) W.heap.size (.slice o n c) ss
theorem DS {ex : bF} {n : Nat} (h : St A b w d r) (hn : ∀ ts, r = some ts -> ts.length <= n + 1) (hE : CE A b d n ex) (hD : bC ex) : Calls Tryz.prog 202 #[.pointer (some ⟨b, 0, none⟩)] w (ResK Fa 2 A b d w r (ff ex)) := by
 have au := h.lt
 have HA := aa h.glt
 have HN := aa hn
 have HE := aa hE
 have HD := aa hD
 have aq : Hid (Below w.heap.size w ((w.alloc (.cells zA 142)).alloc (.cells zA 142))) := ((U4 w).alloc U0 _).alloc (by simp) _
 have H0 := aa (h.below aq.out)
 have HX : Hid (((w.alloc (.cells zA 142)).alloc (.cells zA 142)).heap[w.heap.size]? = some (.cells zA 142 (0, 0))) := cT (heap_alloc_new w _)
 have hY : ((w.alloc (.cells zA 142)).alloc (.cells zA 142)).heap[w.heap.size + 1]? = some (.cells zA 142 (0, 0)) := by
  have h9 := heap_alloc_new (w.alloc (.cells zA 142)) (.cells zA 142)
  simpa using h9
 have HY := aa hY
 clear hY
 clear h hn hE hD
 go_enter Tryz.func202, Tryz.ntmps202
 go_wp2_with fail
 refine (kX 2 H0.out).mono ?_
 rintro e w1 ⟨rfl, h1, m1⟩
 have H1 := aa h1
 have M1 := aa m1
 have X1 := aa (af HX.out m1 (by omega))
 have Y1 := aa (af HY.out m1 (by omega))
 have nZ := ad X1.out
 have UJ := ad Y1.out
 clear h1 m1
 go_upto_if 6 with fail
 go_cut [] (fun W => Pt A b d w r W)
 case first =>
  cases hk : qC r 2 with
  | true =>
   obtain ⟨ts, rfl, Dt⟩ := kS hk
   have Um := aa Dt
   have HK := aa hk
   have aC : Ends ts := Sr.ends H1.out
   have Dw := aa (gP aC)
   clear hk Dt aC
   go_wp2_with fail
   refine (yK H1.out HK.out).mono ?_
   rintro e w2 ⟨s, rfl, h2, m2, hs⟩
   have es : s = jN ts := hs ts rfl
   subst es
   have H2 := aa h2
   have M2 := aa (M1.out.trans m2)
   have X2 := aa (af X1.out m2 (by omega))
   have y2 := af Y1.out m2 (by omega)
   have Y2 := aa y2
   obtain ⟨⟨v0, v1, v2, v3, v4, v5, v6, v7⟩, f0, f1, f2, f3, f4, f5, f6, f7⟩ := sP y2
   have wI := ad y2
   clear h2 m2 hs y2
   have aL : Keeps (fun k => k ≠ w.heap.size + 1) w2 (w2.setCell ⟨w.heap.size + 1, 0, none⟩ (.string (jN ts))) := ak w2 (w.heap.size + 1) 0 _ (fun h => h rfl)
   have LN := HA.out ts rfl
   have H3 := aa (H2.out.other aL (by omega) (fun _ _ => by omega))
   have M3 := aa (Keeps.mvo ((Mv.of aq.out).trans M2.out) aL (by omega))
   have X3 := aa ((aL.block w.heap.size (by show _ ≠ _; omega)).trans X2.out)
   have Y3 : Hid ((w2.setCell ⟨w.heap.size + 1, 0, none⟩ (.string (jN ts))).heap[w.heap.size + 1]? = some (.cells #[.string (jN ts), .slice none 0 0, .int .i64 0, .string ⟨#[]⟩, .int .i64 0, .slice none 0 0, .slice none 0 0, .slice none 0 0] 142 (0, 0))) := ae (j := 0) _ Y2.out
   clear aL
   go_wp2_with fail
   refine (uF H3.out).mono ?_
   rintro e w3 ⟨o, m, c, rfl, h3, m3, fE⟩
   have gy : w2.heap.size <= w3.heap.size := by simpa using m3.size
   have H4 := aa h3
   have M4 := aa (M3.out.trans m3)
   have X4 := aa (af X3.out m3 (by omega))
   have y4 := af Y3.out m3 (by omega)
   have Y4 := aa y4
   obtain ⟨⟨v0, v1, v2, v3, v4, v5, v6, v7⟩, f0, f1, f2, f3, f4, f5, f6, f7⟩ := sP y4
   have PW := ad y4
   have ed := aa (fE ts.tail rfl)
   clear h3 m3 fE y4
   go_wp2
   go_meet
   case rel =>
    have dI : Keeps (fun k => k ≠ w.heap.size + 1) w3 (w3.setCell ⟨w.heap.size + 1, 1, none⟩ (.slice o m c)) := ak w3 (w.heap.size + 1) 1 _ (fun h => h rfl)
    have Dv : gv ts = some ((jN ts, (aY ts.tail).1), (aY ts.tail).2) := by rw [gv, if_pos Um.out]
    refine ⟨Keeps.mvo M4.out dI (by omega), ?_, (dI.block w.heap.size (by show _ ≠ _; omega)).trans X4.out, ⟨_, _, _, _, ae (j := 1) _ Y4.out, fun ts' s' ss rest e1 e2 => ?_⟩⟩
    ·show St A b _ d ((gv ts).map (·.2))
     rw [Dv]
     exact H4.out.other dI (by omega) (fun _ _ => by omega)
    ·cases e1
     rw [Dv] at e2
     cases e2
     refine ⟨rfl, Dw.out, (ed.out.keep (fun k a1 a2 => dI.block k (by simp at a1; show _ ≠ _; omega))).up (by simp; omega) (by simp)⟩
  | false =>
   have HK := aa hk
   clear hk
   go_wp2_with fail
   refine (sk H1.out).mono ?_
   rintro e w2 ⟨s, rfl, h2, m2, hs⟩
   have H2 := aa h2
   have M2 := aa ((Mv.of aq.out).trans (M1.out.trans m2))
   have X2 := aa (af X1.out m2 (by omega))
   have y2 := af Y1.out m2 (by omega)
   have Y2 := aa y2
   obtain ⟨⟨v0, v1, v2, v3, v4, v5, v6, v7⟩, f0, f1, f2, f3, f4, f5, f6, f7⟩ := sP y2
   have wI := ad y2
   have HS := aa hs
   clear h2 m2 hs y2
   go_wp2
   go_meet
   case rel =>
    have dI : Keeps (fun k => k ≠ w.heap.size + 1) w2 (w2.setCell ⟨w.heap.size + 1, 1, none⟩ (.slice (some ⟨w2.heap.size, 0, none⟩) 1 1)) := ak w2 (w.heap.size + 1) 1 _ (fun h => h rfl)
    have Dv : ∀ ts, r = some ts -> gv ts = (eq ts).bind fun p => some ((sNil, [p.1]), p.2) := fun ts e => by
     subst e
     rw [gv, if_neg (by rw [show isK ts 2 = false from HK.out]; decide)]
    have fE : (r.bind fun ts => (gv ts).map (·.2)) = r.bind fun ts => (eq ts).map (·.2) := by
     cases r with
     | none => rfl
     | some ts =>
      show (gv ts).map (·.2) = (eq ts).map (·.2)
      rw [Dv ts rfl]
      cases eq ts with
      | none => rfl
      | some p => rfl
    have cI : (w2.setCell ⟨w.heap.size + 1, 1, none⟩ (.slice (some ⟨w2.heap.size, 0, none⟩) 1 1)).heap.size = w2.heap.size := by simp
    refine ⟨(Keeps.mvo M2.out dI (by omega)).trans (Mv.alloc b _ _), ?_, cT ((dI.block w.heap.size (by show _ ≠ _; omega)).trans X2.out), ⟨_, _, _, _, cT (ae (j := 1) _ Y2.out), fun ts' s' ss rest e1 e2 => ?_⟩⟩
    ·rw [fE]
     refine St.alloc (H2.out.other dI (by omega) (fun ts e => ?_)) _
     obtain ⟨ts0, e0, -⟩ := Option.bind_eq_some_iff.1 e
     have := HA.out ts0 e0
     omega
    ·rw [Dv ts' e1] at e2
     obtain ⟨p, e3, e4⟩ := Option.bind_eq_some_iff.1 e2
     cases e4
     have Tn : s = p.1 := HS.out ts' p e1 e3
     have aC : Ends ts' := by
      have h9 := H1.out
      rw [e1] at h9
      exact Sr.ends h9
     have Ij : p.1 = jN ts' := by
      unfold eq at e3
      split at e3
      ·cases e3; rfl
      ·cases e3
     have hz : p.1.size <= 1500 := by rw [Ij]; exact gP aC
     refine ⟨rfl, by decide, ?_⟩
     rw [<- Tn] at hz ⊢
     refine StrT.lit1 (by unfold maxLen; omega) ?_ (by omega) (by simp)
     have h9 := heap_alloc_new (w2.setCell ⟨w.heap.size + 1, 1, none⟩ (.slice (some ⟨w2.heap.size, 0, none⟩) 1 1)) (.cells #[.string s] 9)
     rw [cI] at h9
     exact h9
 case rest =>
  obtain ⟨pmv, pst, pres, pbox⟩ := hcut
  obtain ⟨s, o, m, c, pb, pt⟩ := pbox
  generalize wc = w2 at *
  have Ru := aa pmv
  have S9 := aa pst
  have Na := aa pres
  have PB := aa pb
  have PT := aa pt
  have wI := ad pb
  have ma : Hid (∀ ts2, ((r.bind fun ts => (gv ts).map (·.2)).bind (ar eJ)) = some ts2 -> ts2.length <= n) := fun ts2 e => by
   obtain ⟨q, e1, e2⟩ := Option.bind_eq_some_iff.1 e
   obtain ⟨ts, e3, e4⟩ := Option.bind_eq_some_iff.1 e1
   obtain ⟨⟨p, q'⟩, e5, e6⟩ := Option.map_eq_some_iff.1 e4
   cases e6
   have aC : Ends ts := by
    have h9 := H1.out
    rw [e3] at h9
    exact Sr.ends h9
   have h1 := (kK aC e5).2
   have h2 := aQ e2
   have h3 := HN.out ts e3
   simp only at h2
   omega
  clear pmv pst pres pb pt
  go_wp2_with fail
  refine (bQ eJ (by simp [bP]) (by decide) S9.out).mono ?_
  rintro e w3 ⟨x, rfl, h3, m3⟩
  have H3 := aa h3
  have M3 := aa m3
  clear h3 m3
  go_wp2_with fail
  refine (cj H3.out).mono ?_
  rintro e w4 ⟨rfl, h4, m4⟩
  have H4 := aa h4
  have M4 := aa (M3.out.trans m4)
  clear h4 m4
  go_wp2_with fail
  refine (HE.out w4 _ H4.out ma.out).mono ?_
  rintro e w5 ⟨cs, rfl, hFx, h5, m5, g5⟩
  have H5 := aa h5
  have M5 := aa (M4.out.trans m5)
  have G5 := aa g5
  have qc := M4.out.size
  have E2 := m5.size
  obtain ⟨i0, i1, i2, j1, k1, l1, j2, k2, l2, j3, k3, l3, rfl⟩ := hFx
  have y5 := af PB.out M5.out (by omega)
  have x5 := af Na.out M5.out (by omega)
  have Y5 := aa y5
  have X5 := aa x5
  obtain ⟨⟨v0, v1, v2, v3, v4, v5, v6, v7⟩, f0, f1, f2, f3, f4, f5, f6, f7⟩ := sP y5
  obtain ⟨⟨u0, u1, u2, u3, u4, u5, u6, u7⟩, d0, d1, d2, d3, d4, d5, d6, d7⟩ := sP x5
  have UD := ad y5
  clear h5 m5 g5 y5 x5
  go_wp2
  refine bodyPost_ret (v := .agg #[.string s, .slice o m c, .int .i64 i0, .string i1, .int .i64 i2, .slice j1 k1 l1, .slice j2 k2 l2, .slice j3 k3 l3]) ?_ rfl ?_
  ·exact results_cell_row rfl _ _ w.heap.size 142 _ (0, 0) _ rfl (sa (((ni w5 (w.heap.size + 1) (.int .i64 i0) (.string i1) (.int .i64 i2) (.slice j1 k1 l1) (.slice j2 k2 l2) (.slice j3 k3 l3)).block w.heap.size (by show _ ≠ _; omega)).trans X5.out) _ _ _ _ _ _ _ _) Tryz.underlying142 rfl (by kernel_rfl)
  ·have hk := ni w5 (w.heap.size + 1) (.int .i64 i0) (.string i1) (.int .i64 i2) (.slice j1 k1 l1) (.slice j2 k2 l2) (.slice j3 k3 l3)
   have cI := uA w5 (w.heap.size + 1) (.int .i64 i0) (.string i1) (.int .i64 i2) (.slice j1 k1 l1) (.slice j2 k2 l2) (.slice j3 k3 l3)
   refine GM au HA.out ?_ (Keeps.mvo (Ru.out.trans M5.out) hk (by omega)) (fun ts t rest e1 e2 => ?_) ⟨_, _, _, _, _, _, _, _, _, _, _, _, _, _, _, _, rfl⟩
   ·rw [DW]
    refine H5.out.other hk (by omega) (fun ts e => ?_)
    obtain ⟨ts3, e3, -⟩ := Option.bind_eq_some_iff.1 e
    obtain ⟨ts4, e4, -⟩ := Option.bind_eq_some_iff.1 e3
    obtain ⟨ts5, e5, -⟩ := Option.bind_eq_some_iff.1 e4
    have := HA.out ts5 e5
    omega
   ·subst e1
    obtain ⟨⟨⟨s', ss⟩, r1⟩, e3, e2⟩ := Option.bind_eq_some_iff.1 e2
    obtain ⟨r2, e4, e2⟩ := Option.bind_eq_some_iff.1 e2
    obtain ⟨⟨t3, r3⟩, e5, e2⟩ := Option.bind_eq_some_iff.1 e2
    cases e2
    obtain ⟨rfl, hss, fE⟩ := PT.out ts s' ss r1 rfl e3
    have e6 : (((some ts).bind fun ts => (gv ts).map (·.2)).bind (ar eJ)) = some r2 := by
     show (((gv ts).map (·.2)).bind (ar eJ)) = some r2
     rw [e3]
     exact e4
    obtain ⟨n1, kk1, kk2⟩ := G5.out r2 t3 r3 e6 e5
    have aC : Ends ts := Sr.ends H1.out
    have h1 := (kK aC e3).2
    have h2 := aQ e4
    have t1 : StrT (AV w5 (w.heap.size + 1) (.int .i64 i0) (.string i1) (.int .i64 i2) (.slice j1 k1 l1) (.slice j2 k2 l2) (.slice j3 k3 l3)) (w.heap.size + 1) w4.heap.size (.slice o m c) ss := ((fE.keep (bv M5.out (by omega) U0)).keep (fun k a1 a2 => hk.block k (by show _ ≠ _; omega))).up (by omega) qc
    have t2 : TreeT (AV w5 (w.heap.size + 1) (.int .i64 i0) (.string i1) (.int .i64 i2) (.slice j1 k1 l1) (.slice j2 k2 l2) (.slice j3 k3 l3)) w4.heap.size (AV w5 (w.heap.size + 1) (.int .i64 i0) (.string i1) (.int .i64 i2) (.slice j1 k1 l1) (.slice j2 k2 l2) (.slice j3 k3 l3)).heap.size n1 0 t3 [.int .i64 i0, .string i1, .int .i64 i2, .slice j1 k1 l1, .slice j2 k2 l2, .slice j3 k3 l3] := by
     rw [cI]
     exact kk2.keep (fun k a1 a2 => hk.block k (by show _ ≠ _; omega))
    refine ⟨n1 + 1, ?_, zS s (by unfold maxLen; omega) t1 t2 (by omega) (Nat.le_trans E2 (Nat.le_of_eq cI.symm))⟩
    simp only at kk1 h1 h2 ⊢
    omega
end
end Go.Proofs.YtfomndilhlgikajGreatDoor.Rd
