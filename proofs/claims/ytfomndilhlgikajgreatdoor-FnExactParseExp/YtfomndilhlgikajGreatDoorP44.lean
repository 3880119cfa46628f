import Derived.Test.YtfomndilhlgikajGreatDoorP43
set_option maxHeartbeats 8000000
set_option maxRecDepth 100000
namespace Go.Proofs.YtfomndilhlgikajGreatDoor
open Go.ChangeShapes Go.WideShapes Go.ChangeAt Go.RowKit
theorem Bw {h : Nat} (hP : pz h) (hD : Bu h) : DQ (h + 1) := by
 intro x cs w cb n d hr hc hn h0 h1
 obtain ⟨-, -, -, y, p0, g0, ce, p4, g4, hy, rfl, hs, hf1, DB, qs, hce, qe, qd⟩ := hr
 obtain ⟨p1, g1, p2, g2, p3, g3, rfl⟩ := cY qe
 simp only [List.cons_append, List.nil_append]
 have HP := aa hP
 have HD := aa hD
 have HC := aa hc
 have HS := aa hs
 have J5 := aa hf1
 have Ny := aa DB
 have QS := aa qs
 have QE := aa qe
 have QD := aa qd
 have Di : cb < w.heap.size := ad hc
 have JV : x.ds.length <= 9223372036854775807 := DB.1
 have vx : Hid ((bJ (h + 1)).de x d = ((mf x.s && eG x.ss) && ((bJ h).ex y (d + 1) && (decide (x.ds.length = 0) || cL (bJ h).de x.ds 6 (d + 1))))) := by
  show ((mf x.s && eG x.ss) && (bW (bJ h).ex x.l (d + 1) && _)) = _
  rw [hy]
  simp [bW]
 have zy : Hid ((aW (h + 1)).de x = (aW h).ex y + aB (aW h).de x.ds) := by
  show aB (aW h).ex x.l + _ = _
  rw [hy]
  simp [aB]
 clear hP hD hc hs hf1 DB qs qe qd hce hy
 have aF : Hid ((w.alloc (.cells #[.string x.s, .slice p0 x.ss.length g0, .int .i64 y.k, .string y.s, .int .i64 y.n, .slice p1 y.l.length g1, .slice p2 y.ds.length g2, .slice p3 y.al.length g3, .slice p4 x.ds.length g4] 54)).heap[w.heap.size]? = some (.cells #[.string x.s, .slice p0 x.ss.length g0, .int .i64 y.k, .string y.s, .int .i64 y.n, .slice p1 y.l.length g1, .slice p2 y.ds.length g2, .slice p3 y.al.length g3, .slice p4 x.ds.length g4] 54 (0, 0))) := heap_alloc_new w _
 have aq : Hid (Below w.heap.size w (w.alloc (.cells #[.string x.s, .slice p0 x.ss.length g0, .int .i64 y.k, .string y.s, .int .i64 y.n, .slice p1 y.l.length g1, .slice p2 y.ds.length g2, .slice p3 y.al.length g3, .slice p4 x.ds.length g4] 54))) := (U4 w).alloc U0 _
 cases vr : mf x.s
 ·have CY : Hid (fF x.s.data.toList = false) := vr
  have sX := aa vr
  clear vr
  go_enter Tryz.func144, Tryz.ntmps144
  go_wp2_with fail
  refine (dw _ _ HS.out).mono ?_
  rintro e w1 ⟨rfl, hb⟩
  rw [CY.out]
  have aR := aa (aq.out.trans (hb.mono aq.out.size))
  clear hb
  go_wp2
  go_ret
  exact ⟨n, ah (by rw [vx.out, sX.out]; rfl), HC.out.later aR.out, (fun hx => by rw [vx.out, sX.out] at hx; cases hx), Kp.of aR.out⟩
 have CY : Hid (fF x.s.data.toList = true) := vr
 have sX := aa vr
 clear vr
 cases hva : eG x.ss
 all_goals
  have EY := aa hva
  clear hva
  go_enter Tryz.func144, Tryz.ntmps144
  go_wp2_with fail
  refine (dw _ _ HS.out).mono ?_
  rintro e w1 ⟨rfl, hb⟩
  rw [CY.out]
  have aR := aa (aq.out.trans (hb.mono aq.out.size))
  have aK := aa ((hb.block w.heap.size (ad aF.out)).trans aF.out)
  clear hb
  have b1 := cell_of aK.out 1
  simp only [U7, U8, U9] at b1
  go_wp2_with fail
  refine (lP x.ss p0 g0 _ J5.out.1 J5.out.2 (QS.out.later aR.out fun _ _ h => h)).mono ?_
  rintro e w2 ⟨rfl, hb⟩
  rw [EY.out]
  have bD := aa (aR.out.trans (hb.mono aR.out.size))
  have gx := aa ((hb.block w.heap.size (ad aK.out)).trans aK.out)
  clear hb b1
 ·go_wp2
  go_ret
  exact ⟨n, ah (by rw [vx.out, EY.out]; simp), HC.out.later bD.out, (fun hx => by rw [vx.out, EY.out] at hx; simp at hx), Kp.of bD.out⟩
 ·have c2 := cell_of gx.out 2
  have c3 := cell_of gx.out 3
  have c4 := cell_of gx.out 4
  have c5 := cell_of gx.out 5
  have c6 := cell_of gx.out 6
  have c7 := cell_of gx.out 7
  simp only [U7, U8, U9] at c2 c3 c4 c5 c6 c7
  have qa : Hid (Below w2.heap.size w2 (w2.alloc (.cells #[.int .i64 y.k, .string y.s, .int .i64 y.n, .slice p1 y.l.length g1, .slice p2 y.ds.length g2, .slice p3 y.al.length g3] 34))) := (U4 w2).alloc U0 _
  have dc := aa (bD.out.trans (qa.out.mono bD.out.size))
  have jP := aa ((qa.out.block w.heap.size (ad gx.out)).trans gx.out)
  have dh : Hid (RowOf (iq cb) (w2.alloc (.cells #[.int .i64 y.k, .string y.s, .int .i64 y.n, .slice p1 y.l.length g1, .slice p2 y.ds.length g2, .slice p3 y.al.length g3] 34)) (reads (iq cb) (w2.alloc (.cells #[.int .i64 y.k, .string y.s, .int .i64 y.n, .slice p1 y.l.length g1, .slice p2 y.ds.length g2, .slice p3 y.al.length g3] 34)) h).ex 6 (some ⟨w2.heap.size, 0, none⟩) [y]) :=
   (lh ((ap dc.out h).1 _ _ QE.out)).row (heap_alloc_new w2 _) (by show w2.heap.size ≠ cb; have := bD.out.size; omega)
  go_wp2_with fail
  refine (HP.out [y] _ 1 _ cb n d dh.out (show 1 <= maxLen by decide) (HC.out.later dc.out) hn (by omega) (by omega)).mono ?_
  rintro e w3 ⟨n', rfl, mZ, jn, dV⟩
  rw [oV]
  have Dq : Hid (((bJ h).ex y (d + 1) && decide (n + (aW h).ex y <= 200)) = true -> n' = n + (aW h).ex y) := by
   intro hx
   rw [oV] at jn
   have := jn hx
   simpa [aB] using this
  have gJ := aa mZ
  have ez := aa ((Kp.of (cb := cb) dc.out).on dV)
  have mh := aa ((dV.block w.heap.size (ad jP.out) (by omega)).trans jP.out)
  clear mZ jn dV
  cases hg : ((bJ h).ex y (d + 1) && decide (n + (aW h).ex y <= 200))
  ·have HG := aa hg
   clear hg
   go_wp2
   go_ret
   have hf : ((bJ (h + 1)).de x d && decide (n + (aW (h + 1)).de x <= 200)) = false := by
    rw [vx.out, zy.out]
    have h2 := HG.out
    cases hq : (bJ h).ex y (d + 1)
    ·simp
    ·rw [hq, Bool.true_and] at h2
     have := of_decide_eq_false h2
     rw [decide_eq_false (show ¬ n + ((aW h).ex y + aB (aW h).de x.ds) <= 200 by omega), Bool.and_false]
   exact ⟨n', ah hf.symm, gJ.out, (fun hx => by rw [hf] at hx; cases hx), ez.out⟩
  ·have dj := hg
   rw [Bool.and_eq_true] at dj
   have iL := of_decide_eq_true dj.2
   have rX := tz dj.1
   have PQ := aa dj.1
   have HG := aa hg
   clear hg dj
   have ti := aa (Dq.out HG.out)
   have e8 := cell_of mh.out 8
   simp only [U7, U8, U9] at e8
   by_cases jj : x.ds.length = 0
   ·have IR : (x.ds.length == 0) = true := by simpa using jj
    have Nx : ((x.ds.length : Int) == 0) = true := by simpa using jj
    have CX := aa jj
    clear jj
    go_wp2
    go_ret
    have ht : ((bJ (h + 1)).de x d && decide (n + (aW (h + 1)).de x <= 200)) = true := by
     rw [vx.out, zy.out, sX.out, EY.out, PQ.out, decide_eq_true CX.out, List.length_eq_zero_iff.1 CX.out]
     simpa [aB] using iL
    refine ⟨n', ah ht.symm, gJ.out, fun _ => ?_, ez.out⟩
    rw [ti.out, zy.out, List.length_eq_zero_iff.1 CX.out]
    simp [aB]
   ·have IR : (x.ds.length == 0) = false := by simpa using jj
    have Nx : ((x.ds.length : Int) == 0) = false := by simpa using jj
    have CX := aa jj
    clear jj
    have Hv : n' <= 200 := by rw [ti.out]; exact iL
    have st := ez.out.stays
    go_wp2_with fail
    refine (HD.out x.ds p4 g4 _ cb n' 6 (d + 1) (QD.out.frame st (fun _ h => h) (bm st (fun _ h => h) h).2.1) Ny.out.1 gJ.out Hv (by omega) (by omega) (by omega) (by omega)).mono ?_
    rintro e w4 ⟨n'', rfl, qm, qF, aL⟩
    have EL := aa qF
    have eH := aa qm
    have fh := aa (ez.out.on aL)
    clear qF qm aL st
    go_wp2
    go_ret
    have ht : ((bJ (h + 1)).de x d && decide (n + (aW (h + 1)).de x <= 200)) = (cL (bJ h).de x.ds 6 (d + 1) && decide (n' + aB (aW h).de x.ds <= 200)) := by
     rw [vx.out, zy.out, sX.out, EY.out, PQ.out, decide_eq_false CX.out, ti.out, Nat.add_assoc]
     simp
    refine ⟨n'', ah ht.symm, eH.out, fun hx => ?_, fh.out⟩
    rw [ht] at hx
    rw [EL.out hx, zy.out, ti.out, Nat.add_assoc]
theorem Bm (W : World) (a : Value) (t : TypeId) : ∀ (j : Nat) (u : Value), [a][j]? = some u -> (W.alloc (.cells #[a] t)).cell? ((⟨W.heap.size, 0, none⟩ : Addr).add j) = some u := by
 intro j u hj
 match j, hj with
 | 0, hj => simp at hj; subst hj; simp [Addr.add]
 | j + 1, hj => simp at hj
theorem DM (s : ByteArray) : ∀ u ∈ [Value.string s], u.oneCell' = true := by
 intro u hu
 simp only [List.mem_cons, List.not_mem_nil, or_false] at hu
 subst hu
 rfl
theorem Eg {w : World} {base : Nat} {e : TypeId} {v : Value} {xs : List ByteArray} (h : w.ownsRow base e 1 v xs.length (xs.map Value.string)) (hs : ∀ s ∈ xs, s.size <= maxLen) : ∃ o cap, v = .slice o xs.length cap /\ xs.length <= maxLen /\ xs.length <= cap /\ RowOf fO w fy 1 o xs := by
 obtain ⟨hl, hc⟩ := h
 rcases hc with ⟨hv, h0⟩ | ⟨g, cap, cur, hv, hb, hg, hn, vc, cI, oq⟩
 ·have Da : xs = [] := List.length_eq_zero_iff.1 h0
  subst Da
  exact ⟨none, 0, hv, Nat.zero_le _, Nat.zero_le _, fun h => absurd rfl h⟩
 ·refine ⟨some ⟨g, 0, none⟩, cap, hv, by omega, hn, fun _ => ⟨g, 0, rfl, trivial, ad hg, fun i x hx => ?_⟩⟩
  refine ⟨[.string x], rfl, fun j u hu => ?_, rfl, hs x (List.mem_of_getElem? hx)⟩
  have hj : j = 0 := by
   have := (List.getElem?_eq_some_iff.1 hu).1
   simp at this
   exact this
  subst hj
  have rV : Value.string x = u := by simpa using hu
  subst rV
  have hi : i < xs.length := (List.getElem?_eq_some_iff.1 hx).1
  rw [Nat.zero_add, Nat.mul_one, Nat.add_zero]
  have E7 : cur.toList.take xs.length = xs.map Value.string := by rw [<- oq, Nat.mul_one]
  exact fN hg E7 i hi _ (by rw [List.getElem?_map, hx]; rfl)
theorem qY {h : Nat} (hD : DQ h) : Bu h := by
 intro xs o c w cb n m d hm hl hc hn zv vu h0 h1
 have HD := aa hD
 have HM := aa hm
 have HC := aa hc
 have Di : cb < w.heap.size := ad hc
 have iT : xs.length <= 9223372036854775807 := hl
 have Dw : Hid (∀ (i : Nat) (x : Tr), xs[i]? = some x -> x.s.size <= maxLen) := by
  intro i x hx
  have bU : xs ≠ [] := by intro e; rw [e] at hx; simp at hx
  obtain ⟨_, _, _, _, _, dF⟩ := hm bU
  obtain ⟨_, _, _, hrd⟩ := dF i x hx
  cases h with
  | zero => exact hrd.elim
  | succ h =>
   obtain ⟨-, -, -, y, p0, g0, ce, p4, g4, hy, -, hs, -⟩ := hrd
   exact hs
 have CY : Hid (∀ (x : Tr) (D : Int), (bJ h).de x D = true -> mf x.s = true) := by
  intro x D hx
  cases h with
  | zero => cases hx
  | succ h =>
   have h2 : ((mf x.s && eG x.ss) && _) = true := hx
   rw [Bool.and_eq_true, Bool.and_eq_true] at h2
   exact h2.1.1
 clear hD hm hc hl
 obtain ⟨i0, hi0, ll, iN, iM⟩ := info_parts tM
 cases gA : cz xs.length 1 m
 ·have EX : Hid (cL (bJ h).de xs m d = false) := by show cL _ _ _ _ = false; unfold cL; rw [gA]; rfl
  have Iw : (xs.length : Int) < 1 \/ (¬ (xs.length : Int) < 1 /\ m < (xs.length : Int)) := by
   unfold cz at gA
   simp at gA
   omega
  clear gA
  rcases Iw with ha | ⟨ha, hb⟩
  all_goals
   go_enter Tryz.func89, Tryz.ntmps89
   go_wp2
   go_ret
   exact ⟨n, ah (by rw [EX.out]; rfl), HC.out, (fun hx => by rw [EX.out] at hx; cases hx), Kp.refl _ _ _⟩
 have EX := aa gA
 have bS : ¬ (xs.length : Int) < 1 := by unfold cz at gA; simp at gA; omega
 have aX : ¬ m < (xs.length : Int) := by unfold cz at gA; simp at gA; omega
 have cm : xs.length <= 12 := by unfold cz at gA; simp at gA; omega
 clear gA
 go_enter Tryz.func89, Tryz.ntmps89
 go_wp2
 go_loopw [9, 24] (fun t9 t wr => ∃ (i : Nat), i <= xs.length /\ t = .int .i64 i /\ cQ (bJ h).de (aW h).de xs d n i = true /\ Ctr wr cb ((n + aB (aW h).de (xs.take i) : Nat) : Int) /\ wr.ownsRow w.heap.size 9 1 t9 i (((xs.map Tr.s).take i).map Value.string) /\ Kp w.heap.size cb w wr) (fun _ t _ => xs.length - (intOf t).toNat)
 case atStart => exact ⟨0, Nat.zero_le _, rfl, by simp [cQ, bW, aB, hn], by simpa [aB] using HC.out.later ((U4 w).alloc U0 _), ib w _ _, Kp.of ((U4 w).alloc U0 _)⟩
 case round =>
  obtain ⟨i, hi, rfl, hg, hcr, how, hkp⟩ := hrel
  have iL := nf hg
  have HG := aa hg
  have CT := aa hcr
  have zg := aa hkp
  have Js := aa how
  clear hg hcr hkp how
  by_cases au : i < xs.length
  ·have bU : xs ≠ [] := by intro e; rw [e] at au; simp at au
   obtain ⟨x, hx⟩ : ∃ x, xs[i]? = some x := ⟨xs[i], List.getElem?_eq_getElem au⟩
   have st := zg.out.stays
   obtain ⟨b, off, eo, bR, ay, dF⟩ := (HM.out.frame st (fun _ h => h) (bm st (fun _ h => h) h).2.1) bU
   subst eo
   obtain ⟨cs, bK, hkey, hrd⟩ := dF i x hx
   obtain ⟨y, p0, g0, p1, g1, p2, g2, p3, g3, p4, g4, rfl⟩ := xy hrd
   have q0 := hkey 0 _ rfl
   have q1 := hkey 1 _ rfl
   have q2 := hkey 2 _ rfl
   have q3 := hkey 3 _ rfl
   have q4 := hkey 4 _ rfl
   have q5 := hkey 5 _ rfl
   have q6 := hkey 6 _ rfl
   have q7 := hkey 7 _ rfl
   have q8 := hkey 8 _ rfl
   rw [Nat.add_zero] at q0
   have HX := aa hx
   have zu := aa hrd
   clear dF hx bU hkey bK hrd st
   have fX : (i : Int) < xs.length := by omega
   have vv : Hid (Below wr.heap.size wr (wr.alloc (.cells #[.string x.s, .slice p0 x.ss.length g0, .int .i64 y.k, .string y.s, .int .i64 y.n, .slice p1 y.l.length g1, .slice p2 y.ds.length g2, .slice p3 y.al.length g3, .slice p4 x.ds.length g4] 54))) := (U4 wr).alloc U0 _
   have aF : Hid ((wr.alloc (.cells #[.string x.s, .slice p0 x.ss.length g0, .int .i64 y.k, .string y.s, .int .i64 y.n, .slice p1 y.l.length g1, .slice p2 y.ds.length g2, .slice p3 y.al.length g3, .slice p4 x.ds.length g4] 54)).heap[wr.heap.size]? = some (.cells #[.string x.s, .slice p0 x.ss.length g0, .int .i64 y.k, .string y.s, .int .i64 y.n, .slice p1 y.l.length g1, .slice p2 y.ds.length g2, .slice p3 y.al.length g3, .slice p4 x.ds.length g4] 54 (0, 0))) := heap_alloc_new wr _
   have Ux : cb < wr.heap.size := ad CT.out
   go_wp2_with fail
   refine (HD.out x _ _ cb (n + aB (aW h).de (xs.take i)) d ((ap vv.out h).2.1 _ _ zu.out) (CT.out.later vv.out) iL (by omega) (by omega)).mono ?_
   rintro e w1 ⟨n', rfl, mZ, jn, dV⟩
   have Cx := iy HX.out HG.out
   rw [<- Cx]
   have Dq : Hid (cQ (bJ h).de (aW h).de xs d n (i + 1) = true -> n' = n + aB (aW h).de (xs.take i) + (aW h).de x) := by rw [Cx]; exact jn
   have gJ := aa mZ
   have ez := aa ((zg.out.then vv.out).on dV)
   have aK := aa ((dV.block wr.heap.size (ad aF.out) (by omega)).trans aF.out)
   have KO := aa (hJ Js.out (w' := w1) fun g hg => by
    have dj := cK Js.out g hg
    exact (dV.block g (Nat.lt_of_lt_of_le dj.1 vv.out.size) (by omega)).trans (vv.out.block g dj.1))
   clear mZ jn dV Cx
   cases hgg : cQ (bJ h).de (aW h).de xs d n (i + 1)
   ·have qo := aa hgg
    clear hgg
    go_wp2
    go_ret
    have hf : (cL (bJ h).de xs m d && decide (n + aB (aW h).de xs <= 200)) = false := by
     have h2 := dx qo.out
     unfold cD at h2
     unfold cL
     cases ha : bW (bJ h).de xs d
     ·simp
     ·rw [ha, Bool.true_and] at h2
      rw [h2, Bool.and_false]
    exact ⟨n', ah hf.symm, gJ.out, (fun hx => by rw [hf] at hx; cases hx), ez.out⟩
   ·have qo := aa hgg
    clear hgg
    have r0 := cell_of aK.out 0
    simp only [List.getElem?_toArray, List.getElem?_cons_zero] at r0
    go_wp2_with (at_builtin; refine wpList_append_own_at _ rfl (.tmp 33) (.tmp 36) 48 rfl w.heap.size 9 i0 _ 1 16 Tryz.underlying48 hi0 ll iN iM rfl (by decide) _ i (((xs.map Tr.s).take i).map Value.string) rfl (KO.out.alloc _) ⟨w1.heap.size, 0, none⟩ 1 1 [.string x.s] rfl rfl (Bm w1 _ _) (DM _) (by unfold maxLen; omega) (by omega) (by have := ez.out.size; simp; omega) ?_)
    intro v' w2 hown' hgrow B7 hloc
    have Mi : Hid (Below w1.heap.size w1 (w1.alloc (.cells #[.string x.s] 9))) := (U4 w1).alloc U0 _
    have cF : ∀ k, k < w.heap.size -> some k ≠ Value.ownBlock _ := fun k hk e => absurd (cK KO.out k e.symm).2 (by omega)
    have eH : Hid (Ctr w2 cb n') := (hgrow.block cb (Nat.lt_of_lt_of_le (ad gJ.out) Mi.out.size) (cF cb Di)).trans (gJ.out.later Mi.out)
    have fh : Hid (Kp w.heap.size cb w w2) := by
     refine ez.out.trans ((Kp.of (Mi.out.mono ez.out.size)).trans ?_)
     exact ⟨hgrow.os, hgrow.tape, hgrow.output, hgrow.size, fun k hk _ => hgrow.block k (Nat.lt_of_lt_of_le hk (Nat.le_trans ez.out.size Mi.out.size)) (cF k hk)⟩
    have OK := aa hown'
    clear hown' hgrow B7 hloc cF
    go_wp2
    refine ⟨⟨i + 1, by omega, by go_num, qo.out, ?_, ?_, fh.out⟩, by simp [intOf]; omega⟩
    ·have h2 := eH.out
     rw [Dq.out qo.out] at h2
     rw [fc _ _ _ _ HX.out, <- Nat.add_assoc]
     exact h2
    ·have h2 := OK.out
     have he : ((xs.map Tr.s).take (i + 1)).map Value.string = ((xs.map Tr.s).take i).map Value.string ++ [.string x.s] := by
      rw [List.take_add_one, List.getElem?_map, HX.out]
      simp
     have Jx : List.take i (List.map (Value.string ∘ Tr.s) xs) = List.map Value.string (List.take i (List.map Tr.s xs)) := by simp [List.map_take]
     rw [he, <- Jx]
     exact h2
  ·have jQ : i = xs.length := by omega
   have hG := HG.out
   rw [jQ, lX] at hG
   have cl : bW (bJ h).de xs d = true /\ decide (n + aB (aW h).de xs <= 200) = true := by
    unfold cD at hG
    rw [Bool.and_eq_true] at hG
    exact hG
   have jI := aa cl
   have hC := CT.out
   rw [jQ, List.take_length] at hC
   have qH := aa hC
   have hO := Js.out
   rw [jQ] at hO
   have bK : xs.length = (xs.map Tr.s).length := by rw [List.length_map]
   have oq : (xs.map Tr.s).take xs.length = xs.map Tr.s := by rw [bK, List.take_length]
   rw [oq] at hO
   have cI : ∀ s ∈ xs.map Tr.s, s.size <= maxLen := by
    intro s hs
    obtain ⟨y, hy, rfl⟩ := List.mem_map.1 hs
    obtain ⟨j, hj⟩ := List.mem_iff_getElem?.1 hy
    exact Dw.out j y hj
   rw [bK] at hO
   obtain ⟨oo, cap, hv, hml, hcp, cF⟩ := Eg hO cI
   rw [List.length_map] at hv
   subst hv
   have Tt := aa hml
   have Rp := aa hcp
   have dh := aa cF
   have fX : ¬ (i : Int) < xs.length := by omega
   clear hG cl hC hO cI cF oq jQ bK hml hcp
   go_wp2_with fail
   refine (qV (xs.map Tr.s) xs.length (List.length_map _) oo cap _ Tt.out Rp.out dh.out).mono ?_
   rintro e w1 ⟨rfl, CO⟩
   rw [CO]
   clear CO w1
   go_wp2
   go_ret
   have Qc : nG (xs.map Tr.s) = (cL (bJ h).de xs m d && decide (n + aB (aW h).de xs <= 200)) := by
    unfold cL
    rw [EX.out, jI.out.1, jI.out.2, Bool.true_and, Bool.true_and, Bool.and_true]
    unfold nG vQ
    symm
    apply uc
    intro j hj
    rw [List.length_map] at hj
    rw [xm (List.getElem?_eq_getElem hj)]
    have h2 := jI.out.1
    unfold bW at h2
    rw [List.all_eq_true] at h2
    exact CY.out _ _ (h2 _ (List.getElem_mem hj))
   exact ⟨_, ah Qc, qH.out, fun _ => rfl, zg.out⟩
end Go.Proofs.YtfomndilhlgikajGreatDoor
