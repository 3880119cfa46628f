import Derived.Test.YtfomndilhlgikajGreatDoorP26
set_option maxHeartbeats 8000000
set_option maxRecDepth 100000
namespace Go.Proofs.YtfomndilhlgikajGreatDoor.Rd
open Go.ChangeShapes Go.WideShapes Go.ChangeAt Go.RowKit
theorem uk (w : World) (s t : ByteArray) (hs : s.size <= 1500) (ht : t.size <= 1500) : RowOf (fun k => k = w.heap.size) (w.alloc (.cells #[.string s, .string t] 9)) fy 1 (some ⟨w.heap.size, 0, none⟩) [s, t] := by
 have hr := Row.lit (w := w.alloc (.cells #[.string s, .string t] 9)) (E := 9) (sz := 1) (g := w.heap.size) [[.string s], [.string t]] (fun e he => by
  simp only [List.mem_cons, List.not_mem_nil, or_false] at he
  rcases he with rfl | rfl <;> rfl) (by simpa using heap_alloc_new w (.cells #[.string s, .string t] 9)) (by simp)
 have h1 : RowS (w.alloc (.cells #[.string s, .string t] 9)) qq 9 1 (.slice (some ⟨w.heap.size, 0, none⟩) 2 2) [s, t] [w.heap.size] := ⟨by simp, [[.string s], [.string t]], [[], []], hr, ⟨⟨rfl, by unfold maxLen; omega, rfl⟩, ⟨rfl, by unfold maxLen; omega, rfl⟩, trivial⟩, by simp [ei, Value.ownBlock]⟩
 obtain ⟨o, cap, e1, -, e2⟩ := h1.rowOf (K := fun k => k = w.heap.size) (R' := fy) (fun b hb => List.mem_singleton.1 hb) (fun _ _ _ _ h => ⟨h.1, h.2.1⟩)
 simp only [Value.slice.injEq] at e1
 rw [e1.1]
 exact e2
theorem yl (w : World) (s : ByteArray) (hs : s.size <= 1500) : RowOf (fun k => k = w.heap.size) (w.alloc (.cells #[.string s] 9)) fy 1 (some ⟨w.heap.size, 0, none⟩) [s] := by
 obtain ⟨bs, h1, h2⟩ := StrT.lit1 (w := w.alloc (.cells #[.string s] 9)) (s := w.heap.size) (u2 := w.heap.size + 1) (g := w.heap.size) (t := s) (by unfold maxLen; omega) (heap_alloc_new w _) U0 (Nat.lt_succ_self _)
 obtain ⟨o, cap, e1, -, e2⟩ := h1.rowOf (K := fun k => k = w.heap.size) (R' := fy) (fun b hb => by have := h2.2 b hb; omega) (fun _ _ _ _ h => ⟨h.1, h.2.1⟩)
 simp only [Value.slice.injEq] at e1
 rw [e1.1]
 exact e2
section
variable {b g d : Nat} {w : World} {ts : List TokZ}
theorem ResI.pass {w1 w2 : World} {one : bF} {c0 c1 c2 c3 c4 c5 : Value} {t : Tr} {q : List TokZ} {h : Nat} (au : b < w.heap.size) (ec : g < w.heap.size) (m1 : Mv b w w1) (hz : w.heap.size + 1 <= w1.heap.size) (m2 : Mv b w1 w2) (ho : one ts = some (t, q)) (hI : Ir b g w2 d q) (hh : h + q.length <= ts.length) (hT : TreeT w2 w1.heap.size w2.heap.size h 0 t [c0, c1, c2, c3, c4, c5]) (hF : Fx [c0, c1, c2, c3, c4, c5]) : ResI b g d w ts one (.returned (.agg #[c0, c1, c2, c3, c4, c5])) (jp w2 w.heap.size c0 c1 c2 c3 c4 c5) :=
 gG au ec ho (m1.trans m2) hI hh (hT.up hz U0 U0) hF
theorem Bz {ex : bF} {n : Nat} (hN : tQ) (h : Ir b g w d ts) (hn : ts.length <= n + 1) (hE : CI b g d n ex) (hD : bC ex) : Calls Tryz.prog 285 #[.pointer (some ⟨b, 0, none⟩)] w (ResI b g d w ts (mn ex)) := by
 have Py : ∀ (fn : Fn) (first cap : Array Value) (w : World), (Instr.makeFunc fn first cap).run Tryz.prog w = .ok (.func fn first cap) w := fun _ _ _ _ => rfl
 have au := h.lt
 have ec := h.glt
 have HP : Hid (∀ (w : World) (ts : List TokZ), Ir b g w d ts -> ts.length <= n + 1 -> Calls Tryz.prog 298 #[.pointer (some ⟨b, 0, none⟩)] w (ResI b g d w ts (dM ex))) := fun w ts h hn => Bx hN h hn hE hD
 have HD := aa hD
 have lJ : Below w.heap.size w ((w.alloc (.cells zE 34)).alloc (.cells #[.string eK] 9)) := ((U4 w).alloc U0 _).alloc (by simp) _
 have aq := aa lJ
 have H0 := aa (h.below lJ)
 have HX : Hid (((w.alloc (.cells zE 34)).alloc (.cells #[.string eK] 9)).heap[w.heap.size]? = some (.cells zE 34 (0, 0))) := cT (heap_alloc_new w _)
 have MY : ((w.alloc (.cells zE 34)).alloc (.cells #[.string eK] 9)).heap.size = w.heap.size + 1 + 1 := by simp
 have HR : Hid (RowOf (fun k => k = w.heap.size + 1) ((w.alloc (.cells zE 34)).alloc (.cells #[.string eK] 9)) fy 1 (some ⟨w.heap.size + 1, 0, none⟩) [eK]) := by
  have h9 := yl (w.alloc (.cells zE 34)) eK (by decide)
  rw [show (w.alloc (.cells zE 34)).heap.size = w.heap.size + 1 by simp] at h9
  exact h9
 clear h hE hN hD lJ
 have HC : Hid (Calls Tryz.prog 284 #[.pointer (some ⟨b, 0, none⟩), .func (.func 298) #[.pointer (some ⟨b, 0, none⟩)] #[], .slice (some ⟨w.heap.size + 1, 0, none⟩) 1 1] ((w.alloc (.cells zE 34)).alloc (.cells #[.string eK] 9)) (ResI b g d _ ts (mn ex))) := ui (ops := [eK]) H0.out hn HP.out (fV HD.out) (by decide) rfl (by simp) HR.out (by omega)
 go_enter Tryz.func285, Tryz.ntmps285
 go_wp2_with fail
 refine HC.out.mono ?_
 rintro e w1 ⟨m1, ⟨e1, c1, cs, hh, ho, rfl, hFx, h1, hh1, hT⟩ | ⟨ho, rfl⟩⟩
 ·have M1 := aa m1
  have H1 := aa h1
  have HT := aa hT
  have HO := aa ho
  have x1 := af HX.out m1 (by omega)
  have X1 := aa x1
  obtain ⟨i0, i1, i2, j1, k1, l1, j2, k2, l2, j3, k3, l3, rfl⟩ := hFx
  obtain ⟨⟨u0, u1, u2, u3, u4, u5⟩, f0, f1, f2, f3, f4, f5⟩ := aG x1
  have gC := ad x1
  clear m1 h1 hT ho x1
  go_wp2
  exact bodyPost_ret (v := .agg #[.int .i64 i0, .string i1, .int .i64 i2, .slice j1 k1 l1, .slice j2 k2 l2, .slice j3 k3 l3]) (results_cell_row rfl _ _ w.heap.size 34 _ (0, 0) _ rfl (aZ X1.out _ _ _ _ _ _) Tryz.underlying34 rfl (by kernel_rfl)) rfl (ResI.pass au ec (Mv.of aq.out) (by rw [MY]; omega) M1.out HO.out H1.out hh1 HT.out ⟨_, _, _, _, _, _, _, _, _, _, _, _, rfl⟩)
 ·have M1 := aa ((Mv.of aq.out).trans m1)
  have HO := aa ho
  clear m1 ho
  unfold ey
  go_wp2
  exact ⟨rfl, M1.out, .inr ⟨HO.out, rfl⟩⟩
theorem mt {ex : bF} {n : Nat} (hN : tQ) (h : Ir b g w d ts) (hn : ts.length <= n + 1) (hE : CI b g d n ex) (hD : bC ex) : Calls Tryz.prog 267 #[.pointer (some ⟨b, 0, none⟩)] w (ResI b g d w ts (gi ex)) := by
 have Py : ∀ (fn : Fn) (first cap : Array Value) (w : World), (Instr.makeFunc fn first cap).run Tryz.prog w = .ok (.func fn first cap) w := fun _ _ _ _ => rfl
 have au := h.lt
 have ec := h.glt
 have HP : Hid (∀ (w : World) (ts : List TokZ), Ir b g w d ts -> ts.length <= n + 1 -> Calls Tryz.prog 285 #[.pointer (some ⟨b, 0, none⟩)] w (ResI b g d w ts (mn ex))) := fun w ts h hn => Bz hN h hn hE hD
 have HD := aa hD
 have lJ : Below w.heap.size w ((w.alloc (.cells zE 34)).alloc (.cells #[.string eM, .string dg] 9)) := ((U4 w).alloc U0 _).alloc (by simp) _
 have aq := aa lJ
 have H0 := aa (h.below lJ)
 have HX : Hid (((w.alloc (.cells zE 34)).alloc (.cells #[.string eM, .string dg] 9)).heap[w.heap.size]? = some (.cells zE 34 (0, 0))) := cT (heap_alloc_new w _)
 have MY : ((w.alloc (.cells zE 34)).alloc (.cells #[.string eM, .string dg] 9)).heap.size = w.heap.size + 1 + 1 := by simp
 have HR : Hid (RowOf (fun k => k = w.heap.size + 1) ((w.alloc (.cells zE 34)).alloc (.cells #[.string eM, .string dg] 9)) fy 1 (some ⟨w.heap.size + 1, 0, none⟩) [eM, dg]) := by
  have h9 := uk (w.alloc (.cells zE 34)) eM dg (by decide) (by decide)
  rw [show (w.alloc (.cells zE 34)).heap.size = w.heap.size + 1 by simp] at h9
  exact h9
 clear h hE hN hD lJ
 have HC : Hid (Calls Tryz.prog 284 #[.pointer (some ⟨b, 0, none⟩), .func (.func 285) #[.pointer (some ⟨b, 0, none⟩)] #[], .slice (some ⟨w.heap.size + 1, 0, none⟩) 2 2] ((w.alloc (.cells zE 34)).alloc (.cells #[.string eM, .string dg] 9)) (ResI b g d _ ts (gi ex))) := uD (ops := [eM, dg]) H0.out hn HP.out (gV HD.out) (by decide) rfl (by simp) HR.out (by omega)
 go_enter Tryz.func267, Tryz.ntmps267
 go_wp2_with fail
 refine HC.out.mono ?_
 rintro e w1 ⟨m1, ⟨e1, c1, cs, hh, ho, rfl, hFx, h1, hh1, hT⟩ | ⟨ho, rfl⟩⟩
 ·have M1 := aa m1
  have H1 := aa h1
  have HT := aa hT
  have HO := aa ho
  have x1 := af HX.out m1 (by omega)
  have X1 := aa x1
  obtain ⟨i0, i1, i2, j1, k1, l1, j2, k2, l2, j3, k3, l3, rfl⟩ := hFx
  obtain ⟨⟨u0, u1, u2, u3, u4, u5⟩, f0, f1, f2, f3, f4, f5⟩ := aG x1
  have gC := ad x1
  clear m1 h1 hT ho x1
  go_wp2
  exact bodyPost_ret (v := .agg #[.int .i64 i0, .string i1, .int .i64 i2, .slice j1 k1 l1, .slice j2 k2 l2, .slice j3 k3 l3]) (results_cell_row rfl _ _ w.heap.size 34 _ (0, 0) _ rfl (aZ X1.out _ _ _ _ _ _) Tryz.underlying34 rfl (by kernel_rfl)) rfl (ResI.pass au ec (Mv.of aq.out) (by rw [MY]; omega) M1.out HO.out H1.out hh1 HT.out ⟨_, _, _, _, _, _, _, _, _, _, _, _, rfl⟩)
 ·have M1 := aa ((Mv.of aq.out).trans m1)
  have HO := aa ho
  clear m1 ho
  unfold ey
  go_wp2
  exact ⟨rfl, M1.out, .inr ⟨HO.out, rfl⟩⟩
end
section
variable {A : Arr} {b d : Nat} {w : World} {r : Option (List TokZ)}
theorem Sr.bad {ts : List TokZ} (h : Sr A b w d ts) : w.cell? ⟨b, 3, none⟩ = some (.bool false) := by
 obtain ⟨p, h0, -⟩ := h
 exact cell_of h0 3
theorem Sb.bad (h : Sb b w) : w.cell? ⟨b, 3, none⟩ = some (.bool true) := by
 obtain ⟨o, n, cap, p, d, h0⟩ := h
 exact cell_of h0 3
theorem mo {W W' : World} {c : List TokZ} {nx : Option (List TokZ)} (h : Sr A b W d c) (k : St A b W' d nx) (hn : ∀ q, nx = some q -> q.length < c.length) : ms b W' < ms b W := by
 obtain ⟨a1, a2, a3⟩ := h.ms
 cases nx with
 | none => rw [Sb.ms k]; omega
 | some q =>
  obtain ⟨b1, b2, b3⟩ := Sr.ms k
  have := hn q rfl
  omega
theorem xd {ex : bF} {n : Nat} (h : St A b w d r) (hn : ∀ ts, r = some ts -> ts.length <= n + 1) (hE : ∀ ts, r = some ts -> CE A b d n ex) (hD : bC ex) : Calls Tryz.prog 281 #[.pointer (some ⟨b, 0, none⟩)] w (ResE A b d w r (dM ex)) := by
 have au := h.lt
 have HA := aa h.glt
 have HN := aa hn
 have HE := aa hE
 have HD := aa hD
 have aq : Hid (Below w.heap.size w (w.alloc (.cells zE 34))) := (U4 w).alloc U0 _
 have H0 := aa (h.below aq.out)
 have HX : Hid ((w.alloc (.cells zE 34)).heap[w.heap.size]? = some (.cells zE 34 (0, 0))) := heap_alloc_new w _
 clear h hn hE hD
 go_enter Tryz.func281, Tryz.ntmps281
 go_wp2_with fail
 refine (tG H0.out HN.out HE.out).mono ?_
 rintro e w1 ⟨cs, rfl, hF, h1, m1, g1⟩
 have HL : Hid _ := Lp.start (af HX.out m1 (by omega)) hF h1 ((Mv.of aq.out).trans m1) (by simpa using g1)
 have iN := m1.size
 obtain ⟨a0, a1, a2, p1, q1, z1, p2, q2, z2, p3, q3, z3, rfl⟩ := hF
 clear h1 m1 g1
 go_wp2
 go_loopw [] (fun wr => ∃ cur cs, Lp A b d w (r.getD []).length w1.heap.size wr cur cs /\ r.bind (dM ex) = cur.bind (fun p => km (b9 ex) p.2.length p.1 p.2) /\ (r = none -> cur = none)) (fun wr => ms b wr)
 case atStart =>
  refine ⟨_, _, HL.out, ?_, fun e => by rw [e]; rfl⟩
  cases r with
  | none => rfl
  | some ts => rfl
 case round =>
  obtain ⟨cur, cs, hL, hq, mQ⟩ := hrel
  have mS := aa hL
  have HQ := aa hq
  have dG := hL.box
  have iQ := hL.res
  obtain ⟨a0, a1, a2, p1, q1, z1, p2, q2, z2, p3, q3, z3, rfl⟩ := hL.fx
  obtain ⟨⟨y0, y1, y2, y3, y4, y5⟩, y6, y7, y8, y9, zz, Cn⟩ := aG dG
  obtain ⟨⟨u0, u1, u2, u3, u4, u5⟩, f0, f1, f2, f3, f4, f5⟩ := aG iQ
  have ec := ad dG
  have Pj := ad iQ
  have oI := hL.gw
  cases cur with
  | none =>
   have x3 : wr.cell? ⟨b, 3, none⟩ = some (.bool true) := Sb.bad hL.st
   clear hL hq dG iQ
   go_wp2
   refine bodyPost_ret (v := .agg #[.int .i64 a0, .string a1, .int .i64 a2, .slice p1 q1 z1, .slice p2 q2 z2, .slice p3 q3 z3]) ?_ rfl ?_
   ·exact results_cell_row rfl _ _ w.heap.size 34 _ (0, 0) _ rfl (aZ mS.out.res _ _ _ _ _ _) Tryz.underlying34 rfl (by kernel_rfl)
   ·have hL := mS.out
    rw [show (none : Option (Tr × List TokZ)) = r.bind (dM ex) from HQ.out.symm] at hL
    exact hL.fin au HA.out
  | some p =>
   obtain ⟨e0, c0⟩ := p
   have vm : Sr A b wr d c0 := hL.st
   have x3 := vm.bad
   have qL := aa vm
   clear hL hq dG iQ vm
   go_wp2_with fail
   refine (vW (r := some c0) qL.out).mono ?_
   rintro e w2 ⟨rfl, m, rfl⟩
   have aX := br wr m
   have bV := aa (mS.out.below aX au)
   have NN := aa (qL.out.below aX)
   have Mt : Hid (ms b (wr.drewN m) = ms b wr) := rfl
   have gy : (wr.drewN m).heap.size = wr.heap.size := rfl
   generalize wr.drewN m = w2 at *
   clear aX x3 y0 y1 y2 y3 y4 y5 y6 y7 y8 y9 zz Cn u0 u1 u2 u3 u4 u5 f0 f1 f2 f3 f4 f5
   have aC : Ends c0 := qL.out.ends
   have cG := tK (dC HD.out) e0 aC
   cases lH : jF c0 with
   | false =>
    have Ca : oB (some c0) = false := lH
    rw [lH, if_neg (by decide)] at cG
    have ed := aa cG
    have dG := bV.out.box
    have iQ := bV.out.res
    obtain ⟨⟨y0, y1, y2, y3, y4, y5⟩, -⟩ := aG dG
    obtain ⟨⟨u0, u1, u2, u3, u4, u5⟩, f0, f1, f2, f3, f4, f5⟩ := aG iQ
    clear cG lH aC dG iQ
    rw [Ca]
    clear Ca
    go_wp2
    refine bodyPost_ret (v := .agg #[.int .i64 a0, .string a1, .int .i64 a2, .slice p1 q1 z1, .slice p2 q2 z2, .slice p3 q3 z3]) ?_ rfl ?_
    ·exact results_cell_row rfl _ _ w.heap.size 34 _ (0, 0) _ rfl (aZ bV.out.res _ _ _ _ _ _) Tryz.underlying34 rfl (by kernel_rfl)
    ·have hL := bV.out
     have hq : some (e0, c0) = r.bind (dM ex) := (HQ.out.trans ed.out).symm
     rw [hq] at hL
     exact hL.fin au HA.out
   | true =>
    have Ca : oB (some c0) = true := lH
    rw [lH, if_pos rfl] at cG
    have ed := aa cG
    have dr := aa aC
    rw [Ca]
    clear cG lH aC Ca
    obtain ⟨ts, rfl⟩ : ∃ ts, r = some ts := by
     cases r with
     | none => exact absurd (mQ rfl) (by simp)
     | some ts => exact ⟨ts, rfl⟩
    have wL : c0.length <= n + 1 := by
     obtain ⟨hh, h9, -⟩ := mS.out.tree e0 c0 rfl
     have := HN.out ts rfl
     simp only [Option.getD_some] at h9
     omega
    go_wp2_with fail
    refine (tG (r := some c0) NN.out (fun ts' e => by cases e; exact wL) (fun _ _ => HE.out ts rfl)).mono ?_
    rintro e w3 ⟨cx, rfl, hFx, h3, m3, g3⟩
    have H3 := aa h3
    have M3 := aa m3
    have G3 := aa g3
    have gB := aa hFx
    obtain ⟨i0, i1, i2, j1, k1, l1, j2, k2, l2, j3, k3, l3, rfl⟩ := hFx
    have qc := m3.size
    have dG := af bV.out.box m3 (by omega)
    obtain ⟨⟨y0, y1, y2, y3, y4, y5⟩, y6, y7, y8, y9, zz, Cn⟩ := aG dG
    have I0 := ad dG
    clear h3 m3 g3 dG
    go_wp2_with fail
    refine (BM (cf := [.int .i64 a0, .string a1, .int .i64 a2, .slice p1 q1 z1, .slice p2 q2 z2, .slice p3 q3 z3]) bV.out.fx gB.out _).mono ?_
    rintro e w4 ⟨g2, hg1, dj, rfl, gK, b4⟩
    have cm : Below w3.heap.size w3 (w3.alloc (.cells #[.int .i64 i0, .string i1, .int .i64 i2, .slice j1 k1 l1, .slice j2 k2 l2, .slice j3 k3 l3] 34)) := (U4 w3).alloc U0 _
    have ol : Below w3.heap.size w3 w4 := cm.trans (b4.mono cm.size)
    have M4 := aa (M3.out.trans (Mv.of ol))
    have fE : St A b w4 d ((b9 ex c0).map (·.2)) := St.below H3.out ol
    have tb : ∀ y c, b9 ex c0 = some (y, c) -> c.length < c0.length /\ ∃ h, h + c.length <= c0.length /\ TreeT w4 w2.heap.size w3.heap.size h 0 y [.int .i64 i0, .string i1, .int .i64 i2, .slice j1 k1 l1, .slice j2 k2 l2, .slice j3 k3 l3] := fun y c e => by
     obtain ⟨hh, h1, h2⟩ := G3.out c0 y c rfl e
     exact ⟨(dC HD.out _ _ _ dr.out e).2, hh, h1, h2.keep (aw ol U0)⟩
    have P7 : w3.heap.size <= g2 := by simp at hg1; omega
    have fW : Hid _ := bV.out.next 4 ⟨#[]⟩ (by decide) au (HA.out ts rfl) M4.out fE tb gK qc P7
    have dG := af bV.out.box M4.out (by omega)
    obtain ⟨⟨y0, y1, y2, y3, y4, y5⟩, y6, y7, y8, y9, zz, Cn⟩ := aG dG
    have EN := ad dG
    have xK := aa hg1
    have JX := aa dj
    clear hg1 dj gK b4 cm ol fE tb P7 dG
    go_wp2
    go_roundw
    case rel =>
     refine ⟨_, _, fW.out, ?_, fun e => by cases e⟩
     rw [HQ.out]
     show km (b9 ex) c0.length e0 c0 = _
     rw [ed.out]
     cases b9 ex c0 with
     | none => rfl
     | some p => rfl
    case measure =>
     refine mo qL.out fW.out.st fun q e => ?_
     cases L5 : b9 ex c0 with
     | none => rw [L5] at e; cases e
     | some p =>
      rw [L5] at e
      cases e
      exact (dC HD.out _ p.1 p.2 dr.out L5).2
end
section
variable {A : Arr} {b d : Nat} {w : World} {r : Option (List TokZ)}
theorem Lp.op {A : Arr} {b d : Nat} {w0 : World} {N g g2 : Nat} {W W2 W3 W4 : World} {e0 : Tr} {c0 : List TokZ} {one : bF} {cs cx : List Value} (s : ByteArray) (hs : s.size <= 1500) (qj : s ≠ ⟨#[]⟩) (au : b < w0.heap.size) (hA : A.g < w0.heap.size) (hD : bC one) (hE : Ends c0) (hi : cg c0 s = true)
 (h : Lp A b d w0 N g W (some (e0, c0)) cs) (m2 : Mv b W W2) (h3 : St A b W3 d (nxt (some c0.tail) one)) (m3 : Mv b W2 W3) (g3 : Got W3 W2.heap.size W3.heap.size 0 (some c0.tail) one cx) (hb : Below W3.heap.size W3 W4) (gK : W4.heap[g2]? = some (.cells (cs ++ cx).toArray 34 (0, 0))) (hg1 : W3.heap.size <= g2) :
 Lp A b d w0 N g (jp W4 g (.int .i64 9) (.string s) (.int .i64 0) (.slice (some ⟨g2, 0, none⟩) 2 2) (.slice none 0 0) (.slice none 0 0)) ((one c0.tail).map fun q => (qA (jN c0) e0 q.1, q.2)) [.int .i64 9, .string s, .int .i64 0, .slice (some ⟨g2, 0, none⟩) 2 2, .slice none 0 0, .slice none 0 0] /\ ∀ q, (((one c0.tail).map fun q => (qA (jN c0) e0 q.1, q.2)).map (·.2)) = some q -> q.length < c0.length := by
 obtain ⟨t1, t2⟩ := bG hi hE qj
 have fE : St A b W4 d ((one c0.tail).map (·.2)) := St.below h3 hb
 have iM := m2.size
 have gy := m3.size
 have tb : ∀ y c, one c0.tail = some (y, c) -> c.length < c0.length /\ ∃ h, h + c.length <= c0.length /\ TreeT W4 W.heap.size W3.heap.size h 0 y cx := fun y c e => by
  obtain ⟨hh, h1, h2⟩ := g3 c0.tail y c rfl e
  have := (hD _ _ _ t1 e).2
  exact ⟨by omega, hh, by omega, (h2.keep (aw hb U0)).up iM U0 U0⟩
 have MP : jN c0 = s := by
  obtain ⟨t, q, rfl, e⟩ := fl hi
  exact e
 have h9 := h.next 9 s hs au hA ((m2.trans m3).trans (Mv.of hb)) fE tb gK (by omega) hg1
 rw [MP]
 refine ⟨h9, fun q e => ?_⟩
 cases hq : one c0.tail with
 | none => rw [hq] at e; cases e
 | some p =>
  rw [hq] at e
  cases e
  exact (tb p.1 p.2 hq).1
theorem xw {ex : bF} {n : Nat} (h : St A b w d r) (hn : ∀ ts, r = some ts -> ts.length <= n + 1) (hE : ∀ ts, r = some ts -> CE A b d n ex) (hD : bC ex) : Calls Tryz.prog 264 #[.pointer (some ⟨b, 0, none⟩)] w (ResE A b d w r (mn ex)) := by
 have au := h.lt
 have HA := aa h.glt
 have HN := aa hn
 have HE := aa hE
 have HD := aa hD
 have aq : Hid (Below w.heap.size w (w.alloc (.cells zE 34))) := (U4 w).alloc U0 _
 have H0 := aa (h.below aq.out)
 have HX : Hid ((w.alloc (.cells zE 34)).heap[w.heap.size]? = some (.cells zE 34 (0, 0))) := heap_alloc_new w _
 clear h hn hE hD
 go_enter Tryz.func264, Tryz.ntmps264
 go_wp2_with fail
 refine (xd H0.out HN.out HE.out HD.out).mono ?_
 rintro e w1 ⟨cs, rfl, hF, h1, m1, g1⟩
 have HL : Hid _ := Lp.start (af HX.out m1 (by omega)) hF h1 ((Mv.of aq.out).trans m1) (by simpa using g1)
 have iN := m1.size
 obtain ⟨a0, a1, a2, p1, q1, z1, p2, q2, z2, p3, q3, z3, rfl⟩ := hF
 clear h1 m1 g1
 go_wp2
 go_loopw [] (fun wr => ∃ cur cs, Lp A b d w (r.getD []).length w1.heap.size wr cur cs /\ r.bind (mn ex) = cur.bind (fun p => cZ (dM ex) [eK] p.2.length p.1 p.2) /\ (r = none -> cur = none)) (fun wr => ms b wr)
 case atStart =>
  refine ⟨_, _, HL.out, ?_, fun e => by rw [e]; rfl⟩
  cases r with
  | none => rfl
  | some ts => rfl
 case round =>
  obtain ⟨cur, cs, hL, hq, mQ⟩ := hrel
  have mS := aa hL
  have HQ := aa hq
  have ec := ad hL.box
  have Pj := ad hL.res
  have oI := hL.gw
  clear hL hq
  go_wp2_with fail
  refine (bQ eK (by simp [bP]) (by decide) mS.out.st).mono ?_
  rintro e w2 ⟨x, rfl, h2, m2⟩
  have M2 := aa m2
  have iM := m2.size
  clear m2
  rcases h2 with ⟨rfl, c0, hc0, hs, h2⟩ | ⟨rfl, hs, h2⟩
  ·obtain ⟨⟨e0, c0'⟩, rfl, rfl⟩ := Option.map_eq_some_iff.1 hc0
   have HS := aa hs
   have H2 := aa h2
   obtain ⟨ts, rfl⟩ : ∃ ts, r = some ts := by
    cases r with
    | none => exact absurd (mQ rfl) (by simp)
    | some ts => exact ⟨ts, rfl⟩
   simp only at H2 HS
   have aC : Ends c0' := Sr.ends mS.out.st
   have dr := aa aC
   have wL : c0'.tail.length <= n + 1 := by
    obtain ⟨hh, h9, -⟩ := mS.out.tree e0 c0' rfl
    have := HN.out ts rfl
    simp only [Option.getD_some] at h9
    have h8 : c0'.tail.length <= c0'.length := by rw [List.length_tail]; omega
    omega
   have cG := gQ (fV HD.out) (ops := [eK]) (by decide) e0 aC
   rw [show [eK].any (cg c0') = true by simp [HS.out], if_pos rfl] at cG
   have ed := aa cG
   clear hs h2 hc0 aC cG
   go_wp2_with fail
   refine (xd (r := some c0'.tail) H2.out (fun ts' e => by cases e; exact wL) (fun _ _ => HE.out ts rfl) HD.out).mono ?_
   rintro e w3 ⟨cx, rfl, hFx, h3, m3, g3⟩
   have H3 := aa h3
   have M3 := aa m3
   have G3 := aa g3
   have gB := aa hFx
   have qK := aa mS.out.fx
   have dG := af mS.out.box (M2.out.trans m3) (by omega)
   obtain ⟨a0, a1, a2, p1, q1, z1, p2, q2, z2, p3, q3, z3, rfl⟩ := mS.out.fx
   obtain ⟨i0, i1, i2, j1, k1, l1, j2, k2, l2, j3, k3, l3, rfl⟩ := hFx
   have qc := m3.size
   obtain ⟨⟨y0, y1, y2, y3, y4, y5⟩, y6, y7, y8, y9, zz, Cn⟩ := aG dG
   have I0 := ad dG
   clear h3 m3 g3 dG
   go_wp2_with fail
   refine (se (cf := [.int .i64 a0, .string a1, .int .i64 a2, .slice p1 q1 z1, .slice p2 q2 z2, .slice p3 q3 z3]) eK qK.out gB.out _).mono ?_
   rintro e w4 ⟨g2, hg1, dj, rfl, gK, b4⟩
   have cm : Below w3.heap.size w3 (w3.alloc (.cells #[.int .i64 i0, .string i1, .int .i64 i2, .slice j1 k1 l1, .slice j2 k2 l2, .slice j3 k3 l3] 34)) := (U4 w3).alloc U0 _
   have ol : Below w3.heap.size w3 w4 := cm.trans (b4.mono cm.size)
   have fW : Hid _ := mS.out.op eK (by decide) (by decide) au (HA.out ts rfl) (fV HD.out) dr.out HS.out M2.out H3.out M3.out G3.out ol gK (by simp at hg1; omega)
   have dG := af mS.out.box ((M2.out.trans M3.out).trans (Mv.of ol)) (by omega)
   obtain ⟨⟨y0, y1, y2, y3, y4, y5⟩, y6, y7, y8, y9, zz, Cn⟩ := aG dG
   have EN := ad dG
   clear hg1 dj gK b4 cm ol dG
   go_wp2
   go_roundw
   case rel =>
    refine ⟨_, _, fW.out.1, ?_, fun e => by cases e⟩
    rw [HQ.out]
    show cZ (dM ex) [eK] c0'.length e0 c0' = _
    rw [ed.out]
    cases dM ex c0'.tail with
    | none => rfl
    | some p => rfl
   case measure => exact mo (mS.out.st : Sr A b wr d c0') fW.out.1.st fW.out.2
  ·have HS := aa hs
   have H2 := aa h2
   have bV := aa (mS.out.move M2.out au h2)
   have dG := bV.out.box
   have iQ := bV.out.res
   obtain ⟨a0, a1, a2, p1, q1, z1, p2, q2, z2, p3, q3, z3, rfl⟩ := bV.out.fx
   obtain ⟨⟨y0, y1, y2, y3, y4, y5⟩, -⟩ := aG dG
   obtain ⟨⟨u0, u1, u2, u3, u4, u5⟩, f0, f1, f2, f3, f4, f5⟩ := aG iQ
   have hq : r.bind (mn ex) = cur := by
    rw [HQ.out]
    cases cur with
    | none => rfl
    | some p =>
     obtain ⟨e0, c0⟩ := p
     have aC : Ends c0 := Sr.ends mS.out.st
     show cZ (dM ex) [eK] c0.length e0 c0 = _
     rw [gQ (fV HD.out) (by decide) e0 aC, show [eK].any (cg c0) = false by simp [HS.out c0 rfl], if_neg (by decide)]
   have Hu := aa hq
   clear hs h2 dG iQ hq
   go_wp2
   refine bodyPost_ret (v := .agg #[.int .i64 a0, .string a1, .int .i64 a2, .slice p1 q1 z1, .slice p2 q2 z2, .slice p3 q3 z3]) ?_ rfl ?_
   ·exact results_cell_row rfl _ _ w.heap.size 34 _ (0, 0) _ rfl (aZ bV.out.res _ _ _ _ _ _) Tryz.underlying34 rfl (by kernel_rfl)
   ·have hL := bV.out
    rw [<- Hu.out] at hL
    exact hL.fin au HA.out
end
end Go.Proofs.YtfomndilhlgikajGreatDoor.Rd
