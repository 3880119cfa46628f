import Derived.Test.YtfomndilhlgikajGreatDoorP27
set_option maxHeartbeats 8000000
set_option maxRecDepth 100000
namespace Go.Proofs.YtfomndilhlgikajGreatDoor.Rd
open Go.ChangeShapes Go.WideShapes Go.ChangeAt Go.RowKit
section
variable {A : Arr} {b d : Nat} {w : World} {r : Option (List TokZ)}
def Fj (v : Value) (b : Nat) (w : World) : Nat := match v with
 | .bool true => ms b w + 1
 | _ => 0
def sumOps : List ByteArray := [eM, dg]
theorem rM : ∀ s ∈ sumOps, s ≠ ⟨#[]⟩ := by decide
theorem xB {ex : bF} {n : Nat} (h : St A b w d r) (hn : ∀ ts, r = some ts -> ts.length <= n + 1) (hE : ∀ ts, r = some ts -> CE A b d n ex) (hD : bC ex) : Calls Tryz.prog 203 #[.pointer (some ⟨b, 0, none⟩)] w (ResE A b d w r (gi ex)) := by
 have au := h.lt
 have HA := aa h.glt
 have HN := aa hn
 have HE := aa hE
 have HD := aa hD
 have aq : Hid (Below w.heap.size w (w.alloc (.cells zE 34))) := (U4 w).alloc U0 _
 have H0 := aa (h.below aq.out)
 have HX : Hid ((w.alloc (.cells zE 34)).heap[w.heap.size]? = some (.cells zE 34 (0, 0))) := heap_alloc_new w _
 clear h hn hE hD
 go_enter Tryz.func203, Tryz.ntmps203
 go_wp2_with fail
 refine (xw H0.out HN.out HE.out HD.out).mono ?_
 rintro e w1 ⟨cs, rfl, hF, h1, m1, g1⟩
 have HL : Hid _ := Lp.start (af HX.out m1 (by omega)) hF h1 ((Mv.of aq.out).trans m1) (by simpa using g1)
 have iN := m1.size
 obtain ⟨a0, a1, a2, p1, q1, z1, p2, q2, z2, p3, q3, z3, rfl⟩ := hF
 clear h1 m1 g1
 go_wp2
 go_loopw [4] (fun t4 wr => ∃ again cur cs, t4 = .bool again /\ Lp A b d w (r.getD []).length w1.heap.size wr cur cs /\ r.bind (gi ex) = cur.bind (fun p => cZ (mn ex) sumOps p.2.length p.1 p.2) /\ (r = none -> cur = none) /\ (again = false -> r.bind (gi ex) = cur)) (fun t4 wr => Fj t4 b wr)
 case atStart =>
  refine ⟨true, _, _, rfl, HL.out, ?_, fun e => by rw [e]; rfl, fun e => by cases e⟩
  cases r with
  | none => rfl
  | some ts => rfl
 case round =>
  obtain ⟨again, cur, cs, rfl, hL, hq, mQ, hfn⟩ := hrel
  have mS := aa hL
  have HQ := aa hq
  have UZ := aa hfn
  have ec := ad hL.box
  have Pj := ad hL.res
  have oI := hL.gw
  by_cases hend : again = false \/ cur = none
  ·have QV : r.bind (gi ex) = cur := by
    rcases hend with e | e
    ·exact hfn e
    ·rw [hq, e]; rfl
   have Ro := aa QV
   have dG := mS.out.box
   have iQ := mS.out.res
   obtain ⟨a0, a1, a2, p1, q1, z1, p2, q2, z2, p3, q3, z3, rfl⟩ := mS.out.fx
   obtain ⟨⟨y0, y1, y2, y3, y4, y5⟩, -⟩ := aG dG
   obtain ⟨⟨u0, u1, u2, u3, u4, u5⟩, f0, f1, f2, f3, f4, f5⟩ := aG iQ
   have Kl : again = false \/ (again = true /\ wr.cell? ⟨b, 3, none⟩ = some (.bool true)) := by
    cases again with
    | false => exact .inl rfl
    | true =>
     rcases hend with e | e
     ·cases e
     ·subst e
      exact .inr ⟨rfl, Sb.bad mS.out.st⟩
   clear hL hq hfn QV dG iQ hend
   rcases Kl with rfl | ⟨rfl, x3⟩
   all_goals
    go_wp2
    refine bodyPost_ret (v := .agg #[.int .i64 a0, .string a1, .int .i64 a2, .slice p1 q1 z1, .slice p2 q2 z2, .slice p3 q3 z3]) ?_ rfl ?_
    ·exact results_cell_row rfl _ _ w.heap.size 34 _ (0, 0) _ rfl (aZ mS.out.res _ _ _ _ _ _) Tryz.underlying34 rfl (by kernel_rfl)
    ·have hL := mS.out
     rw [<- Ro.out] at hL
     exact hL.fin au HA.out
  ·have IV : again = true := by
    cases again with
    | false => exact absurd (.inl rfl) hend
    | true => rfl
   subst IV
   cases cur with
   | none => exact absurd (.inr rfl) hend
   | some p =>
   obtain ⟨e0, c0⟩ := p
   have vm : Sr A b wr d c0 := hL.st
   have x3 := vm.bad
   have qL := aa vm
   have dr := aa vm.ends
   obtain ⟨ts, rfl⟩ : ∃ ts, r = some ts := by
    cases r with
    | none => exact absurd (mQ rfl) (by simp)
    | some ts => exact ⟨ts, rfl⟩
   clear hL hq hfn hend vm mQ
   generalize wr = V at *
   have O3 : Hid (Below V.heap.size V (V.alloc (.cells #[.string eM, .string dg] 9))) := (U4 V).alloc U0 _
   have OU : Hid ((V.alloc (.cells #[.string eM, .string dg] 9)).heap[V.heap.size]? = some (.cells #[.string eM, .string dg] 9 (0, 0))) := heap_alloc_new V _
   go_wp2
   go_loopw [4, 20] (fun t4 t20 wr => ∃ (i : Nat) (again : Bool) (cur : Option (Tr × List TokZ)) (cs : List Value), i <= 2 /\ t20 = .int .i64 i /\ t4 = .bool again /\ Lp A b d w ts.length w1.heap.size wr cur cs /\ gi ex ts = cur.bind (fun p => cZ (mn ex) sumOps p.2.length p.1 p.2) /\ wr.heap[V.heap.size]? = some (.cells #[.string eM, .string dg] 9 (0, 0)) /\ ((again = false /\ cur = some (e0, c0) /\ (1 <= i -> cg c0 eM = false) /\ (2 <= i -> cg c0 dg = false)) \/ (again = true /\ ms b wr < ms b V))) (fun _ t20 _ => 2 - (intOf t20).toNat)
   case atStart =>
    exact ⟨0, false, some (e0, c0), cs, by omega, rfl, rfl, mS.out.below O3.out au, HQ.out, OU.out, .inl ⟨rfl, rfl, fun e => by omega, fun e => by omega⟩⟩
   case round =>
    obtain ⟨i, again, cur, cs', hi, rfl, rfl, hL, hq, hlit, Iw⟩ := hrel
    have bV := aa hL
    have Hu := aa hq
    have CS := aa hlit
    have Mo := aa Iw
    have I0 := ad hL.box
    have S4 := ad hlit
    by_cases Lf : i < 2
    ·have NU : ∃ s : ByteArray, wr.cell? ⟨V.heap.size, i, none⟩ = some (.string s) /\ s ∈ bP /\ s ≠ ⟨#[]⟩ /\ s.size <= 1500 /\ s ∈ sumOps /\ ((i = 0 /\ s = eM) \/ (i = 1 /\ s = dg)) := by
      match i, Lf with
      | 0, _ => exact ⟨eM, cell_of hlit 0, by simp [bP], by decide, by decide, by simp [sumOps], .inl ⟨rfl, rfl⟩⟩
      | 1, _ => exact ⟨dg, cell_of hlit 1, by simp [bP], by decide, by decide, by simp [sumOps], .inr ⟨rfl, rfl⟩⟩
     obtain ⟨s, hcell, gC, jr, eP, ip, jm⟩ := NU
     have eI := aa gC
     have mX := aa ip
     have oj := aa jm
     clear hL hq hlit Iw gC ip jm
     cases again with
     | true =>
      have Mt : Hid (ms b wr < ms b V) := by
       rcases Mo.out with ⟨e, -⟩ | ⟨-, e⟩
       ·cases e
       ·exact e
      go_wp2
      go_roundw
      case rel => exact ⟨i + 1, true, cur, cs', by omega, by go_num, rfl, bV.out, Hu.out, CS.out, .inr ⟨rfl, Mt.out⟩⟩
      case measure => simp [intOf]; omega
     | false =>
      have Pe : cur = some (e0, c0) /\ (1 <= i -> cg c0 eM = false) /\ (2 <= i -> cg c0 dg = false) := by
       rcases Mo.out with ⟨-, e⟩ | ⟨e, -⟩
       ·exact e
       ·cases e
      obtain ⟨rfl, hno1, -⟩ := Pe
      have vg := aa hno1
      clear hno1
      go_wp2_with fail
      refine (bQ s eI.out jr bV.out.st).mono ?_
      rintro e w2 ⟨x, rfl, h2, m2⟩
      have M2 := aa m2
      have iM := m2.size
      clear m2
      rcases h2 with ⟨rfl, c1, mZ, hs, h2⟩ | ⟨rfl, hs, h2⟩
      ·have qm : c1 = c0 := (Option.some.inj mZ).symm
       subst qm
       have HS := aa hs
       have H2 := aa h2
       have wL : c1.tail.length <= n + 1 := by
        obtain ⟨hh, h9, -⟩ := bV.out.tree e0 c1 rfl
        have := HN.out ts rfl
        have h8 : c1.tail.length <= c1.length := by rw [List.length_tail]; omega
        omega
       have cG := gQ (gV HD.out) rM e0 dr.out
       rw [show sumOps.any (cg c1) = true from List.any_eq_true.2 ⟨s, mX.out, HS.out⟩, if_pos rfl] at cG
       have ed := aa cG
       clear hs h2 mZ cG
       go_wp2_with fail
       refine (xw (r := some c1.tail) H2.out (fun ts' e => by cases e; exact wL) (fun _ _ => HE.out ts rfl) HD.out).mono ?_
       rintro e w3 ⟨cx, rfl, hFx, h3, m3, g3⟩
       have H3 := aa h3
       have M3 := aa m3
       have G3 := aa g3
       have gB := aa hFx
       have qK := aa bV.out.fx
       have dG := af bV.out.box (M2.out.trans m3) (by omega)
       obtain ⟨a0, a1, a2, p1, q1, z1, p2, q2, z2, p3, q3, z3, rfl⟩ := bV.out.fx
       obtain ⟨i0, i1, i2, j1, k1, l1, j2, k2, l2, j3, k3, l3, rfl⟩ := hFx
       have qc := m3.size
       obtain ⟨⟨y0, y1, y2, y3, y4, y5⟩, y6, y7, y8, y9, zz, Cn⟩ := aG dG
       have EN := ad dG
       clear h3 m3 g3 dG
       go_wp2_with fail
       refine (se (cf := [.int .i64 a0, .string a1, .int .i64 a2, .slice p1 q1 z1, .slice p2 q2 z2, .slice p3 q3 z3]) s qK.out gB.out _).mono ?_
       rintro e w4 ⟨g2, hg1, dj, rfl, gK, b4⟩
       have cm : Below w3.heap.size w3 (w3.alloc (.cells #[.int .i64 i0, .string i1, .int .i64 i2, .slice j1 k1 l1, .slice j2 k2 l2, .slice j3 k3 l3] 34)) := (U4 w3).alloc U0 _
       have ol : Below w3.heap.size w3 w4 := cm.trans (b4.mono cm.size)
       have fW : Hid _ := bV.out.op s eP jr au (HA.out ts rfl) (gV HD.out) dr.out HS.out M2.out H3.out M3.out G3.out ol gK (by simp at hg1; omega)
       have hM := (M2.out.trans M3.out).trans (Mv.of (b := b) ol)
       have dG := af bV.out.box hM (by omega)
       have uX := aa (af CS.out hM (by omega))
       obtain ⟨⟨y0, y1, y2, y3, y4, y5⟩, y6, y7, y8, y9, zz, Cn⟩ := aG dG
       have Uy := ad dG
       clear hg1 dj gK b4 cm ol dG hM
       go_wp2
       go_roundw
       case rel =>
        refine ⟨i + 1, true, _, _, by omega, by go_num, rfl, fW.out.1, ?_, ?_, .inr ⟨rfl, ?_⟩⟩
        ·rw [Hu.out]
         show cZ (mn ex) sumOps c1.length e0 c1 = _
         rw [ed.out]
         cases mn ex c1.tail with
         | none => rfl
         | some p => rfl
        ·exact ((cU w4 w1.heap.size _ _ _ _ _ _).block _ (by show _ ≠ _; omega)).trans uX.out
        ·exact mo qL.out fW.out.1.st fW.out.2
       case measure => simp [intOf]; omega
      ·have HS := aa hs
       have On := aa (bV.out.move M2.out au h2)
       have uX := aa (af CS.out M2.out (by omega))
       clear hs h2
       go_wp2
       go_roundw
       case rel =>
        refine ⟨i + 1, false, some (e0, c0), cs', by omega, by go_num, rfl, On.out, Hu.out, uX.out, .inl ⟨rfl, rfl, fun _ => ?_, fun h9 => ?_⟩⟩
        ·rcases oj.out with ⟨e, e2⟩ | ⟨e, e2⟩
         ·rw [<- e2]; exact HS.out c0 rfl
         ·exact vg.out (by omega)
        ·rcases oj.out with ⟨e, e2⟩ | ⟨e, e2⟩
         ·omega
         ·rw [<- e2]; exact HS.out c0 rfl
       case measure => simp [intOf]; omega
    ·have Pg : i = 2 := by omega
     subst Pg
     clear hL hq hlit Iw
     go_wp2
     go_roundw
     case rel =>
      refine ⟨again, cur, cs', rfl, bV.out, Hu.out, (fun e => by cases e), fun e => ?_⟩
      subst e
      rcases Mo.out with ⟨-, rfl, h1, h2⟩ | ⟨e, -⟩
      ·show gi ex ts = _
       rw [Hu.out]
       show cZ (mn ex) sumOps c0.length e0 c0 = _
       rw [gQ (gV HD.out) rM e0 dr.out, if_neg (by simp [sumOps, h1 (by omega), h2 (by omega)])]
      ·cases e
     case measure =>
      cases again with
      | false => simp [Fj]
      | true =>
       rcases Mo.out with ⟨e, -⟩ | ⟨-, e⟩
       ·cases e
       ·show ms b wr + 1 < ms b V + 1
        omega
end
section
variable {A : Arr} {b d : Nat} {w : World} {r : Option (List TokZ)}
def pj : List ByteArray := [iu, qh]
theorem AJ {ex : bF} {e0 : Tr} {c0 ts : List TokZ} (h : gi ex ts = some (e0, c0)) (h1 : cg c0 iu = false) (h2 : cg c0 qh = false) : fD ex ts = some (e0, c0) := by
 unfold fD
 rw [h]
 show (if cg c0 iu || cg c0 qh then _ else some (e0, c0)) = _
 rw [if_neg (by simp [h1, h2])]
theorem xn {ex : bF} {e0 : Tr} {c0 ts : List TokZ} {s : ByteArray} (h : gi ex ts = some (e0, c0)) (hs : s ∈ pj) (h1 : cg c0 s = true) : fD ex ts = (gi ex c0.tail).map fun q => (qA (jN c0) e0 q.1, q.2) := by
 unfold fD
 rw [h]
 show (if cg c0 iu || cg c0 qh then (gi ex c0.tail).bind fun q => some (qA (jN c0) e0 q.1, q.2) else some (e0, c0)) = _
 rw [if_pos (by
  simp only [pj, List.mem_cons, List.not_mem_nil, or_false] at hs
  rcases hs with rfl | rfl
  ·simp [h1]
  ·simp [h1])]
 cases gi ex c0.tail with
 | none => rfl
 | some q => rfl
theorem Ex {ex : bF} {n : Nat} (h : St A b w d r) (hn : ∀ ts, r = some ts -> ts.length <= n + 1) (hE : ∀ ts, r = some ts -> CE A b d n ex) (hD : bC ex) : Calls Tryz.prog 149 #[.pointer (some ⟨b, 0, none⟩)] w (ResE A b d w r (fD ex)) := by
 have au := h.lt
 have HA := aa h.glt
 have HN := aa hn
 have HE := aa hE
 have HD := aa hD
 have aq : Hid (Below w.heap.size w (w.alloc (.cells zE 34))) := (U4 w).alloc U0 _
 have H0 := aa (h.below aq.out)
 have HX : Hid ((w.alloc (.cells zE 34)).heap[w.heap.size]? = some (.cells zE 34 (0, 0))) := heap_alloc_new w _
 clear h hn hE hD
 go_enter Tryz.func149, Tryz.ntmps149
 go_wp2_with fail
 refine (xB H0.out HN.out HE.out HD.out).mono ?_
 rintro e w1 ⟨cs, rfl, hF, h1, m1, g1⟩
 have hL : Lp A b d w (r.getD []).length w1.heap.size _ _ _ := Lp.start (af HX.out m1 (by omega)) hF h1 ((Mv.of aq.out).trans m1) (by simpa using g1)
 have iN := m1.size
 obtain ⟨a0, a1, a2, p1, q1, z1, p2, q2, z2, p3, q3, z3, rfl⟩ := hF
 clear h1 m1 g1
 generalize hV : w1.alloc (.cells [Value.int .i64 a0, .string a1, .int .i64 a2, .slice p1 q1 z1, .slice p2 q2 z2, .slice p3 q3 z3].toArray 34) = V at hL
 have OA : w1.alloc (.cells #[.int .i64 a0, .string a1, .int .i64 a2, .slice p1 q1 z1, .slice p2 q2 z2, .slice p3 q3 z3] 34) = V := hV
 have FC : V.heap.size = w1.heap.size + 1 := by rw [<- hV]; simp
 have HL := aa hL
 have O3 : Hid (Below V.heap.size V (V.alloc (.cells #[.string iu, .string qh] 9))) := (U4 V).alloc U0 _
 have OU : Hid ((V.alloc (.cells #[.string iu, .string qh] 9)).heap[w1.heap.size + 1]? = some (.cells #[.string iu, .string qh] 9 (0, 0))) := by rw [<- FC]; exact heap_alloc_new V _
 clear hL hV
 go_wp2
 go_loopw [10] (fun t10 wr => ∃ (i : Nat) (cs : List Value), i <= 2 /\ t10 = .int .i64 i /\ Lp A b d w (r.getD []).length w1.heap.size wr (r.bind (gi ex)) cs /\ wr.heap[w1.heap.size + 1]? = some (.cells #[.string iu, .string qh] 9 (0, 0)) /\ ∀ e c, r.bind (gi ex) = some (e, c) -> (1 <= i -> cg c iu = false) /\ (2 <= i -> cg c qh = false)) (fun t10 _ => 2 - (intOf t10).toNat)
 case atStart => exact ⟨0, _, by omega, rfl, HL.out.below O3.out au, OU.out, fun e c _ => ⟨fun h => by omega, fun h => by omega⟩⟩
 case round =>
  obtain ⟨i, cs', hi, rfl, hL, hlit, tt⟩ := hrel
  have bV := aa hL
  have CS := aa hlit
  have vg := aa tt
  have I0 := ad hL.box
  have S4 := ad hlit
  have oI := hL.gw
  by_cases Lf : i < 2
  ·have NU : ∃ s : ByteArray, wr.cell? ⟨w1.heap.size + 1, i, none⟩ = some (.string s) /\ s ∈ bP /\ s ≠ ⟨#[]⟩ /\ s.size <= 1500 /\ s ∈ pj /\ ((i = 0 /\ s = iu) \/ (i = 1 /\ s = qh)) := by
    match i, Lf with
    | 0, _ => exact ⟨iu, cell_of hlit 0, by simp [bP], by decide, by decide, by simp [pj], .inl ⟨rfl, rfl⟩⟩
    | 1, _ => exact ⟨qh, cell_of hlit 1, by simp [bP], by decide, by decide, by simp [pj], .inr ⟨rfl, rfl⟩⟩
   obtain ⟨s, hcell, gC, jr, eP, ip, jm⟩ := NU
   have eI := aa gC
   have mX := aa ip
   have oj := aa jm
   clear hL hlit tt gC ip jm
   go_wp2_with fail
   refine (bQ s eI.out jr bV.out.st).mono ?_
   rintro e w2 ⟨x, rfl, h2, m2⟩
   have M2 := aa m2
   have iM := m2.size
   clear m2
   rcases h2 with ⟨rfl, c0, hc0, hs, h2⟩ | ⟨rfl, hs, h2⟩
   ·obtain ⟨⟨e0, c0'⟩, iQ, rfl⟩ := Option.map_eq_some_iff.1 hc0
    obtain ⟨ts, rfl, ou⟩ := Option.bind_eq_some_iff.1 iQ
    simp only at hs h2
    have zh := aa ou
    have HS := aa hs
    have aC : Ends c0' := by
     have h9 := bV.out.st
     rw [iQ] at h9
     exact Sr.ends h9
    have dr := aa aC
    have wL : c0'.tail.length <= n + 1 := by
     obtain ⟨hh, h9, -⟩ := bV.out.tree e0 c0' iQ
     have := HN.out ts rfl
     simp only [Option.getD_some] at h9
     have h8 : c0'.tail.length <= c0'.length := by rw [List.length_tail]; omega
     omega
    have HC : Hid (Calls Tryz.prog 203 #[.pointer (some ⟨b, 0, none⟩)] w2.drew (ResE A b d w2.drew (some c0'.tail) (gi ex))) := xB (r := some c0'.tail) (Sr.below h2 (U4 w2).drew) (fun ts' e => by cases e; exact wL) (fun _ _ => HE.out ts rfl) HD.out
    have TR := aa iQ
    have dG := af bV.out.box M2.out (by omega)
    have jV := aa dG
    have Ud := aa (af bV.out.res M2.out (by omega))
    have qK := aa bV.out.fx
    obtain ⟨a0, a1, a2, p1, q1, z1, p2, q2, z2, p3, q3, z3, rfl⟩ := bV.out.fx
    obtain ⟨⟨y0, y1, y2, y3, y4, y5⟩, -⟩ := aG dG
    clear hs h2 hc0 aC iQ ou dG
    have cA : ¬ w1.heap.size = b := by omega
    have bZ : ¬ w.heap.size = b := by omega
    go_upto_region 6 with fail
    go_region_with (first
     | (go_at_call 203; (with_reducible refine Calls.mono HC.out ?_); rintro e w3 ⟨cx, rfl, hFx, h3, m3, g3⟩; have gB := aa hFx; have H3 := aa h3; have M3 := aa ((Mv.drew b w2).trans m3); have G3 := aa g3; obtain ⟨i0, i1, i2, j1, k1, l1, j2, k2, l2, j3, k3, l3, rfl⟩ := hFx; have dE := af jV.out M3.out cA; have EN := ad dE; obtain ⟨⟨v0, v1, v2, v3, v4, v5⟩, -⟩ := aG dE; clear h3 m3 g3 dE)
     | (go_at_call 204; refine (se (cf := [.int .i64 a0, .string a1, .int .i64 a2, .slice p1 q1 z1, .slice p2 q2 z2, .slice p3 q3 z3]) s qK.out gB.out _).mono ?_; rintro e w4 ⟨g2, hg1, dj, rfl, gK, b4⟩; have B4 := aa b4; have G4 := aa gK; have EF := af Ud.out (M3.out.trans (Mv.of b4)) bZ; have Nc := aa EF; have Rz := ad EF; obtain ⟨⟨u0, u1, u2, u3, u4, u5⟩, f0, f1, f2, f3, f4, f5⟩ := aG EF; clear b4 gK EF))
    all_goals
     go_wp2
     refine bodyPost_ret (v := .agg #[.int .i64 9, .string s, .int .i64 0, .slice (some ⟨g2, 0, none⟩) 2 2, .slice none 0 0, .slice none 0 0]) ?_ rfl ?_
     ·exact results_cell_row rfl _ _ w.heap.size 34 _ (0, 0) _ rfl (aZ Nc.out _ _ _ _ _ _) Tryz.underlying34 rfl (by kernel_rfl)
     ·have PO := xn zh.out mX.out HS.out
      have KN : Mv b w2 w4 := M3.out.trans (Mv.of B4.out)
      refine fp au HA.out ?_ (bV.out.mv.trans (M2.out.trans KN)) (fun ts' t rest e1 e2 => ?_) ⟨_, _, _, _, _, _, _, _, _, _, _, _, rfl⟩
      ·have e9 : nxt (some ts) (fD ex) = nxt (some c0'.tail) (gi ex) := by
        show (fD ex ts).map (·.2) = (gi ex c0'.tail).map (·.2)
        rw [PO]
        cases gi ex c0'.tail with
        | none => rfl
        | some q => rfl
       rw [e9]
       exact St.below H3.out B4.out
      ·cases e1
       rw [PO] at e2
       obtain ⟨⟨y, c⟩, e3, e4⟩ := Option.map_eq_some_iff.1 e2
       cases e4
       obtain ⟨t1, t2⟩ := bG HS.out dr.out jr
       have bK := (gX HD.out _ _ _ t1 e3).2
       obtain ⟨n1, kk1, kk2⟩ := G3.out c0'.tail y c rfl e3
       obtain ⟨n0, kk3, kk4⟩ := bV.out.tree e0 c0' TR.out
       have gy : w2.heap.size <= w3.heap.size := M3.out.size
       have EE : 1 <= n0 := by
        cases n0 with
        | zero => obtain ⟨bs, hf, -⟩ := kk4; exact hf.elim
        | succ n => omega
       have MP : jN c0' = s := by
        obtain ⟨t, q, rfl, e⟩ := fl HS.out
        exact e
       have k5 : TreeT w4 (w.heap.size + 1) w2.heap.size (max n0 n1) 0 e0 [.int .i64 a0, .string a1, .int .i64 a2, .slice p1 q1 z1, .slice p2 q2 z2, .slice p3 q3 z3] := (kk4.tree.keep (bv (M2.out.trans KN) (by omega) U0)).up U0 iM (Nat.le_max_left _ _)
       have k6 : TreeT w4 w2.heap.size w3.heap.size (max n0 n1) 0 y [.int .i64 i0, .string i1, .int .i64 i2, .slice j1 k1 l1, .slice j2 k2 l2, .slice j3 k3 l3] := (kk2.keep (aw B4.out U0)).up U0 U0 (Nat.le_max_right _ _)
       have h9 := um 9 s (by unfold maxLen; omega) k5 k6 G4.out (by omega) gy hg1
       simp only [Option.getD_some] at kk3
       rw [MP]
       exact ⟨max n0 n1 + 1, by simp only at kk1 kk3 ⊢; omega, h9⟩
   ·have HS := aa hs
    have On := aa (bV.out.move M2.out au h2)
    have uX := aa (af CS.out M2.out (by omega))
    clear hs h2
    go_wp2
    go_roundw
    case rel =>
     refine ⟨i + 1, cs', by omega, by go_num, On.out, uX.out, fun e c h9 => ?_⟩
     have h8 := HS.out c (by rw [h9]; rfl)
     obtain ⟨k1, k2⟩ := vg.out e c h9
     refine ⟨fun _ => ?_, fun h7 => ?_⟩
     ·rcases oj.out with ⟨e, e2⟩ | ⟨e, e2⟩
      ·rw [<- e2]; exact h8
      ·exact k1 (by omega)
     ·rcases oj.out with ⟨e, e2⟩ | ⟨e, e2⟩
      ·omega
      ·rw [<- e2]; exact h8
    case measure => simp [intOf]; omega
  ·have Pg : i = 2 := by omega
   subst Pg
   have dG := bV.out.box
   have iQ := bV.out.res
   obtain ⟨a0, a1, a2, p1, q1, z1, p2, q2, z2, p3, q3, z3, rfl⟩ := bV.out.fx
   obtain ⟨⟨y0, y1, y2, y3, y4, y5⟩, -⟩ := aG dG
   obtain ⟨⟨u0, u1, u2, u3, u4, u5⟩, f0, f1, f2, f3, f4, f5⟩ := aG iQ
   have Pj := ad iQ
   clear hL hlit tt dG iQ
   go_wp2
   refine bodyPost_ret (v := .agg #[.int .i64 a0, .string a1, .int .i64 a2, .slice p1 q1 z1, .slice p2 q2 z2, .slice p3 q3 z3]) ?_ rfl ?_
   ·exact results_cell_row rfl _ _ w.heap.size 34 _ (0, 0) _ rfl (aZ bV.out.res _ _ _ _ _ _) Tryz.underlying34 rfl (by kernel_rfl)
   ·have hL := bV.out
    have hq : r.bind (gi ex) = r.bind (fD ex) := by
     cases r with
     | none => rfl
     | some ts =>
      show gi ex ts = fD ex ts
      cases hs : gi ex ts with
      | none => unfold fD; rw [hs]; rfl
      | some p =>
       obtain ⟨e0, c0⟩ := p
       obtain ⟨k1, k2⟩ := vg.out e0 c0 hs
       exact (AJ hs (k1 (by omega)) (k2 (by omega))).symm
    rw [hq] at hL
    exact hL.fin au HA.out
end
end Go.Proofs.YtfomndilhlgikajGreatDoor.Rd
