import Derived.Test.YtfomndilhlgikajGreatDoorQ49
set_option maxHeartbeats 8000000
set_option maxRecDepth 100000
namespace Go.Proofs.YtfomndilhlgikajGreatDoor
open Go.RowKit
theorem SpecAt.facts {w : World} {K : Nat -> Prop} {g : Nat} {out : List TokZ} {st : List Int} {wait bad : Bool} (h : SpecAt w K g out st wait bad) :
 ∃ o0 n0 o1 n1, w.cell? ⟨g, 0, none⟩ = some (.slice o0 out.length n0) /\ w.cell? ⟨g, 1, none⟩ = some (.slice o1 st.length n1) /\ w.cell? ⟨g, 3, none⟩ = some (.bool bad) /\ w.ownsRow 0 122 4 (.slice o0 out.length n0) out.length (iH out) /\ ∀ k, (Value.slice o0 out.length n0).ownBlock = some k -> ¬ K k := by
 obtain ⟨vo, vs, hg, hm⟩ := h
 obtain ⟨o0, n0, rfl⟩ := dU hm.out
 obtain ⟨o1, n1, rfl⟩ := hm.none_top
 exact ⟨o0, n0, o1, n1, cell_of hg 0, cell_of hg 1, cell_of hg 3, hm.out, hm.ko⟩
theorem SpecAt.start (w : World) : SpecAt (w.alloc (.cells #[.slice none 0 0, .slice none 0 0, .bool true, .bool false] 169)) (· < w.heap.size) w.heap.size [] [] true false := by
 refine ⟨.slice none 0 0, .slice none 0 0, heap_alloc_new w _, ⟨World.ownsRow_nil _ _ _ _, World.ownsRow_nil _ _ _ _, ?_, ?_, Or.inl rfl, ?_, ?_, ?_, ?_, ?_⟩⟩
 ·intro h; cases h
 ·intro h; cases h
 ·show ¬ w.heap.size < w.heap.size
  omega
 ·intro k h; cases h
 ·intro k h; cases h
 ·intro k h
  show k < (w.alloc _).heap.size
  have h2 : k < w.heap.size := h
  simp
  omega
 ·simp
theorem nE {ts : List TokZ} {i : Nat} {t : TokZ} (h : ts[i]? = some t) (st : List Int) (out : List TokZ) (wait : Bool) (line : Int) : gO (ts.drop i) st out wait line = match fd st out wait t line with | none => none | some (a, b, c) => gO (ts.drop (i + 1)) a b c t.l := by
 have e : ts.drop i = t :: ts.drop (i + 1) := by
  obtain ⟨hi, rfl⟩ := List.getElem?_eq_some_iff.1 h
  exact List.drop_eq_getElem_cons hi
 rw [e]
 rfl
theorem pi {ts : List TokZ} {i : Nat} (h : ts.length <= i) (st : List Int) (out : List TokZ) (wait : Bool) (line : Int) : gO (ts.drop i) st out wait line = some (st, out) := by
 rw [List.drop_eq_nil_of_le h]
 rfl
def En (w : World) (K : Nat -> Prop) (g : Nat) (ts : List TokZ) (i : Nat) (line : Int) : Prop :=
 (∃ st out wait, SpecAt w K g out st wait false /\ out.length + st.length <= 6 * i /\ gO ts [] [] true 0 = gO (ts.drop i) st out wait line) ∨
 (∃ st out wait, SpecAt w K g out st wait true /\ gO ts [] [] true 0 = none)
theorem na {ts : List TokZ} (h : eB ts = none) : bB ts = [] /\ cS ts = false := by
 unfold bB cS
 rw [h]
 exact ⟨rfl, rfl⟩
theorem nv {ts out : List TokZ} (h : eB ts = some out) : bB ts = out /\ cS ts = true := by
 unfold bB cS
 rw [h]
 exact ⟨rfl, rfl⟩
theorem dD {ts : List TokZ} {w w1 : World} (h : eB ts = none) (hb : Below w.heap.size w w1) : ∃ v, Ending.returned (.tuple #[.slice (some ⟨w1.heap.size, 0, none⟩) 0 0, .bool false]) = .returned (.tuple #[v, .bool (cS ts)]) /\ (w1.alloc (.cells #[] 122)).ownsRow w.heap.size 122 4 v (bB ts).length (iH (bB ts)) /\ Below w.heap.size w (w1.alloc (.cells #[] 122)) := by
 obtain ⟨h1, h2⟩ := na h
 rw [h1, h2]
 refine ⟨_, rfl, gT (ib w1 _ 4) (fun k hk => ?_), hb.alloc hb.size _⟩
 have : w1.heap.size = k := Option.some.inj hk
 have := hb.size
 omega
theorem tY (ts : List TokZ) (Da : ts.length <= 1048576) (o : Option Addr) (b cap : Nat) (w : World) (hm : fq w o b 0 ts) :
 Calls Tryz.prog 72 #[.slice o ts.length cap] w fun e w' => ∃ v, e = .returned (.tuple #[v, .bool (cS ts)]) /\ w'.ownsRow w.heap.size 122 4 v (bB ts).length (iH (bB ts)) /\ Below w.heap.size w w' := by
 have HM := aa hm
 have kH := aa (SpecAt.start w)
 clear hm
 go_enter Tryz.func72, Tryz.ntmps72
 go_wp2
 go_loopw [5, 6] (fun t5 t6 wr => ∃ (i : Nat) (line : Int), i <= ts.length /\ t6 = .int .i64 i /\ t5 = .int .i64 line /\ En wr (· < w.heap.size) w.heap.size ts i line /\ Below w.heap.size w wr) (fun _ t6 _ => ts.length - (intOf t6).toNat)
 case atStart => exact ⟨0, 0, Nat.zero_le _, rfl, rfl, Or.inl ⟨[], [], true, kH.out, by simp, rfl⟩, (U4 w).alloc U0 _⟩
 case round =>
  obtain ⟨i, line, hi, rfl, rfl, hrun, cA⟩ := hrel
  have dH := aa cA
  clear cA
  rcases hrun with ⟨st, out, wait, hS, hn, hR⟩ | ⟨st, out, wait, hS, hR⟩
  ·have HS := aa hS
   have HR := aa hR
   obtain ⟨o0, n0, o1, n1, c0, c1, c3, hown, hko⟩ := hS.facts
   have Hq := aa hown
   have NJ := aa hko
   clear hS hR hown hko
   by_cases au : i < ts.length
   ·have bU : ts ≠ [] := by intro e; rw [e] at au; simp at au
    obtain ⟨t, ht⟩ : ∃ t, ts[i]? = some t := ⟨ts[i], List.getElem?_eq_getElem au⟩
    obtain ⟨eo, ay, dF⟩ := (dy HM.out dH.out) bU
    have Nr := (HM.out bU).2.1
    subst eo
    have hA := dF i t ht
    rw [Nat.zero_add] at hA
    obtain ⟨x0, x1, x2, x3⟩ := hA
    have Ml := aa (nE ht st out wait line)
    clear dF ht bU
    have fX : (i : Int) < ts.length := by omega
    go_wp2_with fail
    rw [aU]
    refine (vK t line HS.out (by omega)).mono ?_
    rintro e w1 ⟨rfl, ew, hk⟩
    have y2 := (hk.below.cell (p := ⟨b, i * 4 + 2, none⟩) Nr).trans x2
    have aR := aa (dH.out.trans hk.below)
    have N9 := aa ew
    clear ew hk x0 x1 x2 x3 c0 c1 c3
    go_wp2
    refine ⟨⟨i + 1, t.l, by omega, by go_num, rfl, ?_, aR.out⟩, by simp [intOf]; omega⟩
    have ew := N9.out
    have L9 := Ml.out
    cases hz : fd st out wait t line with
    | none =>
     rw [hz] at ew L9
     obtain ⟨s, o, wt, h⟩ := ew
     exact Or.inr ⟨s, o, wt, h, HR.out.trans L9⟩
    | some x =>
     obtain ⟨a, bb, c⟩ := x
     rw [hz] at ew L9
     have ou := nr hz
     exact Or.inl ⟨a, bb, c, ew, by omega, HR.out.trans L9⟩
   ·have HL : Hid (eB ts = lD (some (st, out))) := by
     show eB ts = _
     unfold eB
     rw [HR.out, pi (by omega)]
    cases st with
    | cons x r =>
     have HN : Hid (eB ts = none) := by
      show eB ts = none
      rw [HL.out]
      unfold lD
      simp only
      rw [if_neg (by rw [List.length_cons]; omega)]
     simp only [List.length_cons] at c1
     have hs : (0 : Int) < (r.length : Int) + 1 := by omega
     have Se : decide ((0 : Int) < (r.length : Int) + 1) = true := by simp [hs]
     go_wp2
     go_ret2
     exact dD HN.out dH.out
    | nil =>
     simp only [List.length_nil] at c1
     by_cases ho : 900 < out.length
     ·have HN : Hid (eB ts = none) := by
       show eB ts = none
       rw [HL.out]
       unfold lD
       simp only
       rw [if_neg (by omega)]
      have lq : (900 : Int) < out.length := by omega
      have zm : decide ((900 : Int) < out.length) = true := by simp [lq]
      have th : decide (900 < out.length) = true := by simp [ho]
      go_wp2
      go_ret2
      exact dD HN.out dH.out
     ·have HN : Hid (eB ts = some out) := by
       show eB ts = some out
       rw [HL.out]
       unfold lD
       simp only
       rw [if_pos ⟨rfl, by omega⟩]
      have lq : ¬ (900 : Int) < out.length := by omega
      have zm : decide ((900 : Int) < out.length) = false := by simp [lq]
      have th : decide (900 < out.length) = false := by simp [ho]
      go_wp2
      go_ret2
      obtain ⟨h1, h2⟩ := nv HN.out
      rw [h1, h2]
      exact ⟨_, rfl, gT Hq.out fun k hk => Nat.le_of_not_lt (NJ.out k hk), dH.out⟩
  ·have HN : Hid (eB ts = none) := by
    show eB ts = none
    unfold eB
    rw [hR]
    rfl
   obtain ⟨o0, n0, o1, n1, c0, c1, c3, -, -⟩ := hS.facts
   clear hS hR
   by_cases au : (i : Int) < ts.length
   all_goals
    go_wp2
    go_ret2
    exact dD HN.out dH.out
end Go.Proofs.YtfomndilhlgikajGreatDoor
namespace Go.Proofs.YtfomndilhlgikajGreatDoor.Rd
open Go.ChangeShapes Go.WideShapes Go.ChangeAt Go.RowKit
def eW (s : ByteArray) : Option (List TokZ) := if eh s = true then some (signs s) else none
theorem Ec (s : ByteArray) : ((cu s.data.toList).map rn).length <= 1000 := by
 cases h : dP s.data.toList with
 | false =>
  rw [yB _ h]
  simp
 | true =>
  obtain ⟨l, e, he, hg, h6, hs, hl⟩ := pw _ h
  rw [he, List.length_append]
  simp
  omega
section
variable {w : World}
theorem BN (s : ByteArray) (hs : s.size <= 1048576) : Calls Tryz.prog 26 #[.string s] w fun e w' => ∃ A b, e = .returned (.pointer (some ⟨b, 0, none⟩)) /\ w.heap.size <= b /\ St A b w' 0 ((eW s).bind (ar df)) /\ Below w.heap.size w w' := by
 have HL := aa (tH s w hs)
 go_enter Tryz.func26, Tryz.ntmps26
 go_wp2_with fail
 refine HL.out.mono ?_
 rintro e w1 ⟨v, rfl, how, bS⟩
 rw [xo, show (cu s.data.toList).length = ((cu s.data.toList).map rn).length by simp] at how
 obtain ⟨o, g1, cap, rfl, hta, -⟩ := kQ how
 have aR := aa bS
 have Jj := aa hta
 have bK := Ec s
 have vt : Hid (signs s = bB ((cu s.data.toList).map rn)) := rfl
 have dr : Hid (dP s.data.toList = true -> cS ((cu s.data.toList).map rn) = true -> Ends (signs s) /\ (signs s).length <= 900) := fun a b => jw a b
 have qJ : Hid (eh s = (dP s.data.toList && cS ((cu s.data.toList).map rn))) := rfl
 generalize (cu s.data.toList).map rn = ts at Jj bK vt dr qJ
 have J4 := aa (tY ts (by omega) o g1 cap w1 Jj.out)
 generalize dP s.data.toList = lx at dr qJ
 clear how hta bS HL
 go_wp2_with fail
 refine J4.out.mono ?_
 rintro e w3 ⟨v3, rfl, how3, cm⟩
 have dc := aa (aR.out.trans (cm.mono aR.out.size))
 obtain ⟨o3, g3, cap3, rfl, hta3, lK⟩ := kQ how3
 have IP := aa hta3
 have JX : Hid (bB ts ≠ [] -> w1.heap.size <= g3 /\ g3 < w3.heap.size) := fun bU => ⟨(cK how3 g3 (lK bU)).2, (cK how3 g3 (lK bU)).1⟩
 have gy := dc.out.size
 generalize hly : cS ts = ly at qJ dr
 clear how3 hta3 lK cm J4 hly
 have wF : ∀ c, Below w3.heap.size w3 (w3.alloc (.cells #[.slice o3 (bB ts).length cap3, .int .i64 0, .int .i64 0, .bool c] 62)) := fun c => (U4 w3).alloc U0 _
 have OX : ∀ c, (w3.alloc (.cells #[.slice o3 (bB ts).length cap3, .int .i64 0, .int .i64 0, .bool c] 62)).heap[w3.heap.size]? = some (.cells #[.slice o3 (bB ts).length cap3, .int .i64 0, .int .i64 0, .bool c] 62 (0, 0)) := fun c => heap_alloc_new w3 _
 have ed : Hid (St ⟨o3, g3, cap3, bB ts⟩ w3.heap.size (w3.alloc (.cells #[.slice o3 (bB ts).length cap3, .int .i64 0, .int .i64 0, .bool (!lx || !ly)] 62)) 0 (eW s)) := by
  cases hlx : lx && ly with
  | false =>
   have e1 : eW s = none := by unfold eW; rw [qJ.out, hlx]; rfl
   rw [e1]
   have e2 : (!lx || !ly) = true := by cases lx <;> cases ly <;> simp_all
   rw [e2]
   exact ⟨o3, _, cap3, 0, 0, OX true⟩
  | true =>
   rw [Bool.and_eq_true] at hlx
   obtain ⟨rfl, rfl⟩ := hlx
   have e1 : eW s = some (signs s) := by unfold eW; rw [qJ.out]; rfl
   rw [e1]
   obtain ⟨aC, Jm⟩ := dr.out rfl rfl
   rw [vt.out] at aC Jm ⊢
   have hg := JX.out aC.ne
   exact ⟨0, OX false, rfl, dy IP.out (wF false), (by show g3 ≠ w3.heap.size; omega), (by show (bB ts).length <= 2000; omega), aC⟩
 have KZ : Hid (Below w.heap.size w (w3.alloc (.cells #[.slice o3 (bB ts).length cap3, .int .i64 0, .int .i64 0, .bool (!lx || !ly)] 62))) := dc.out.trans ((wF _).mono gy)
 clear wF OX dr qJ vt IP JX Jj
 generalize (⟨o3, g3, cap3, bB ts⟩ : Arr) = A at ed
 generalize hN : (bB ts).length = N at ed KZ ⊢
 clear hN
 cases lx
 all_goals
  simp only [Bool.not_true, Bool.false_or, Bool.not_false, Bool.true_or] at ed KZ
  go_upto_region 4 with fail
  generalize w3.alloc _ = W at ed KZ ⊢
  go_wp2_with fail
  refine (bQ df (by simp [bP]) (by decide) ed.out).mono ?_
  rintro e w4 ⟨x, rfl, hlook, m4⟩
  have N7 := aa hlook
  have M4 := aa m4
  clear hlook m4
  go_wp2_with fail
  refine (cj N7.out).mono ?_
  rintro e w5 ⟨rfl, fE, m5⟩
  have oj := aa fE
  have tq := aa (KZ.out.trans ((M4.out.trans m5).below (s := w.heap.size) gy KZ.out.size))
  clear fE m5
  go_wp2
  go_ret
  exact ⟨A, w3.heap.size, rfl, gy, oj.out, tq.out⟩
def eg (r : Option (List TokZ)) : Bool := match r.bind (ar dZ) with
 | some ts => isK ts 6
 | none => false
theorem xR {A : Arr} {b d : Nat} {r : Option (List TokZ)} (h : St A b w d r) : Calls Tryz.prog 31 #[.pointer (some ⟨b, 0, none⟩)] w fun e w' => e = .returned (.bool (eg r)) /\ Mv b w w' := by
 have H0 := aa h
 clear h
 go_enter Tryz.func31, Tryz.ntmps31
 go_wp2_with fail
 refine (bQ dZ (by simp [bP]) (by decide) H0.out).mono ?_
 rintro e w4 ⟨x, rfl, hlook, m4⟩
 have N7 := aa hlook
 have M4 := aa m4
 clear hlook m4
 go_wp2_with fail
 refine (cj N7.out).mono ?_
 rintro e w5 ⟨rfl, fE, m5⟩
 have M5 := aa (M4.out.trans m5)
 have NR : Hid (eg r = match r.bind (ar dZ) with | some ts => isK ts 6 | none => false) := rfl
 clear m5
 generalize r.bind (ar dZ) = q at fE NR
 cases q with
 | none =>
  have jk : Sb b w5 := fE
  obtain ⟨o, n, cap, p, dd, h0⟩ := jk
  have x0 := cell_of h0 0
  have x1 := cell_of h0 1
  have x3 := cell_of h0 3
  simp only [U7, U8, U9] at x0 x1 x3
  have HE : Hid (eg r = false) := NR.out
  clear fE h0
  go_wp2
  go_quiet (fail)
  go_wp2
  go_ret
  exact ⟨by rw [HE.out]; rfl, M5.out.trans (Mv.of (br w5 _))⟩
 | some ts =>
  have jk : Sr A b w5 d ts := fE
  obtain ⟨p, t, q, rfl, h0, ho, hp, hl, ⟨t0, t1, t2, t3⟩, hd, h2, h3, h5⟩ := jk.head
  have au := jk.lt
  have zi : p + (q.length + 1) = A.all.length := by
   have := congrArg List.length hd
   rw [List.length_drop] at this
   omega
  have x0 := cell_of h0 0
  have x1 := cell_of h0 1
  have x3 := cell_of h0 3
  simp only [U7, U8, U9] at x0 x1 x3
  rw [ho] at x0
  have Kg : (p : Int) < A.all.length := by omega
  have Mn := h5.last
  have EW : eg r = isK (t :: q) 6 := NR.out
  have hw : IntKind.i64.wrap ((A.all.length : Int) - 1) = (A.all.length : Int) - 1 := by rw [IntKind.wrap_i64]; omega
  by_cases hq : q = []
  ·have fg : t.k = 6 := Mn.2 hq
   have HE : Hid (eg r = true) := by
    rw [EW]
    show decide _ = true
    simp [fg]
   have e1 : ((p : Int) == (A.all.length : Int) - 1) = true := by
    rw [beq_iff_eq]
    rw [hq] at zi
    simp at zi
    omega
   rw [fg] at t0
   generalize A.all.length = N at *
   generalize A.g = g at *
   clear fE jk h0 ho h2 h3 h5 hd t1 t2 t3 Mn EW zi hq fg
   go_wp2
   go_quiet (fail)
   go_wp2
   go_ret
   exact ⟨by rw [HE.out]; rfl, M5.out.trans (Mv.of (br w5 _))⟩
  ·have fg : ¬ t.k = 6 := fun h => hq (Mn.1 h)
   have HE : Hid (eg r = false) := by
    rw [EW]
    show decide _ = false
    simp [fg]
   have QF : 1 <= q.length := by
    cases q with
    | nil => exact absurd rfl hq
    | cons x y => simp
   have e1 : ((p : Int) == (A.all.length : Int) - 1) = false := by
    rw [beq_eq_false_iff_ne]
    omega
   have US : ¬ (p : Int) = (A.all.length : Int) - 1 := by simpa using e1
   generalize A.all.length = N at *
   generalize A.g = g at *
   clear fE jk h0 ho h2 h3 h5 hd t1 t2 t3 Mn EW zi hq fg QF
   go_wp2
   go_quiet (fail)
   go_wp2
   go_ret
   exact ⟨by rw [HE.out]; rfl, M5.out.trans (Mv.of (br w5 _))⟩
end
section
variable {A : Arr} {b d : Nat} {w : World} {r : Option (List TokZ)}
def zD : Array Value := #[.string ⟨#[]⟩, .slice none 0 0, .int .i64 0, .string ⟨#[]⟩, .int .i64 0, .slice none 0 0, .slice none 0 0, .slice none 0 0, .slice none 0 0]
theorem Ao {V : World} {one : bF} {c0 c1 c2 c3 c4 c5 c6 c7 c8 : Value} (au : b < w.heap.size) (hA : AG A w r) (hS : St A b V d (nxt r one)) (hM : Mv b w V) (hG : Got V (w.heap.size + 1) V.heap.size 1 r one [c0, c1, c2, c3, c4, c5, c6, c7, c8]) (hF : Fd [c0, c1, c2, c3, c4, c5, c6, c7, c8]) : ResK Fd 1 A b d w r one (.returned (.agg #[c0, c1, c2, c3, c4, c5, c6, c7, c8])) (Dl V w.heap.size c0 c1 c2 c3 c4 c5 c6 c7 c8) := by
 have hk := nt V w.heap.size c0 c1 c2 c3 c4 c5 c6 c7 c8
 obtain ⟨h1, h2⟩ := pJ hM hS hk au (hA.nxt one)
 exact ⟨_, rfl, hF, h1, h2, hG.keep (fun b h1 h2 => hk.block b (by show b ≠ _; omega)) (by omega) (by rw [pK]; exact Nat.le_refl _)⟩
def ix (r : Option (List TokZ)) : Option (List TokZ) := r.bind fun ts => (eZ 1 ts).map (·.2)
theorem xj {ex de : bF} (r : Option (List TokZ)) : nxt r (iW ex de) = oi (nxt (((ix r).map fun q => (aY q).2).bind (ar ox)) ex) (cC de) := by
 cases r with
 | none => rfl
 | some ts =>
  show (iW ex de ts).map (·.2) = oi (nxt ((((eZ 1 ts).map (·.2)).map fun q => (aY q).2).bind (ar ox)) ex) (cC de)
  unfold iW
  cases eZ 1 ts with
  | none => rfl
  | some p =>
   show ((ar ox (aY p.2).2).bind _).map _ = oi (nxt (ar ox (aY p.2).2) ex) (cC de)
   cases ar ox (aY p.2).2 with
   | none => rfl
   | some q =>
    show ((ex q).bind _).map _ = oi ((ex q).map _) (cC de)
    cases ex q with
    | none => rfl
    | some u =>
     show ((cC de u.2).bind _).map _ = (cC de u.2).map _
     cases cC de u.2 with
     | none => rfl
     | some x => rfl
theorem xb {V : World} {ex de : bF} {s : ByteArray} {vp vw : Value} {ce : List Value} {s0 u1 u2 : Nat} (hEN : ∀ ts, r = some ts -> Ends ts) (hS : ∀ ts p, r = some ts -> eZ 1 ts = some p -> s = p.1) (hstr : ∀ q, ix r = some q -> StrT V s0 u1 vp (aY q).1) (lk : Got V u1 u2 0 (((ix r).map fun q => (aY q).2).bind (ar ox)) ex ce) (hwh : GotL V u2 V.heap.size 1 (nxt (((ix r).map fun q => (aY q).2).bind (ar ox)) ex) (cC de) vw) (e1 : s0 <= u1) (e2 : u1 <= u2) (e3 : u2 <= V.heap.size) : Got V s0 V.heap.size 1 r (iW ex de) ([.string s, vp] ++ ce ++ [vw]) := fun ts t rest g1 g2 => by
 subst g1
 obtain ⟨⟨p, q1⟩, f1, g2⟩ := Option.bind_eq_some_iff.1 g2
 obtain ⟨r2, f2, g2⟩ := Option.bind_eq_some_iff.1 g2
 obtain ⟨⟨t3, r3⟩, f3, g2⟩ := Option.bind_eq_some_iff.1 g2
 obtain ⟨⟨ds, r4⟩, f4, g2⟩ := Option.bind_eq_some_iff.1 g2
 cases g2
 have vi : s = p := hS ts _ rfl f1
 subst vi
 have aC := hEN ts rfl
 have cI : s.size <= 1500 := by
  have : s = jN ts := by
   unfold eZ at f1
   split at f1
   ·cases f1; rfl
   ·cases f1
  rw [this]
  exact gP aC
 have h1 : ix (some ts) = some q1 := by
  show (eZ 1 ts).map (·.2) = some q1
  rw [f1]
  rfl
 have h2 : (((ix (some ts)).map fun q => (aY q).2).bind (ar ox)) = some r2 := by
  rw [h1]
  exact f2
 have h3 : nxt (((ix (some ts)).map fun q => (aY q).2).bind (ar ox)) ex = some r3 := by
  rw [h2]
  exact ie f3
 obtain ⟨n1, k1, k2⟩ := lk r2 t3 r3 h2 f3
 obtain ⟨n2, k3, k4⟩ := hwh r3 ds r4 h3 f4
 obtain ⟨a1, a2⟩ := jB (by decide) aC f1
 obtain ⟨b1, b2⟩ := fL _ a1
 have c1 := aQ f2
 refine ⟨max n1 n2 + 1, ?_, vP s (by unfold maxLen; omega) (hstr q1 h1) (k2.up U0 U0 (Nat.le_max_left _ _)) (k4.up U0 U0 (Nat.le_max_right _ _)) e1 e2 e3⟩
 simp only at *
 omega
theorem xe {ex de : bF} {n : Nat} (h : St A b w d r) (hn : ∀ ts, r = some ts -> ts.length <= n + 1) (hE : CE A b d n ex) (hC : ∀ ts, r = some ts -> CD A b d n de) (hD : bC ex) (hDD : bC de) : Calls Tryz.prog 29 #[.pointer (some ⟨b, 0, none⟩)] w (ResK Fd 1 A b d w r (iW ex de)) := by
 have au := h.lt
 have HA := aa h.glt
 have HN := aa hn
 have HE := aa hE
 have HC := aa hC
 have HD := aa hD
 have wJ := aa hDD
 have N4 := ld
 have aq : Hid (Below w.heap.size w (w.alloc (.cells zD 54))) := (U4 w).alloc U0 _
 have H0 := aa (h.below aq.out)
 have HX : Hid ((w.alloc (.cells zD 54)).heap[w.heap.size]? = some (.cells zD 54 (0, 0))) := heap_alloc_new w _
 have dr : Hid (∀ ts, r = some ts -> Ends ts) := fun ts e => by
  subst e
  exact Sr.ends h
 clear h hn hE hC hD hDD
 go_enter Tryz.func29, Tryz.ntmps29
 go_wp2_with fail
 refine (kX 1 H0.out).mono ?_
 rintro e w1 ⟨rfl, h1, m1⟩
 have H1 := aa h1
 have M1 := aa m1
 clear h1 m1
 go_wp2_with fail
 refine (rg H1.out).mono ?_
 rintro e w2 ⟨rfl, h2, m2⟩
 have H2 := aa h2
 have M2 := aa (M1.out.trans m2)
 clear h2 m2
 have Fw : ∀ ts, (r.bind fun ts => if qC r 1 = true then some ts else none) = some ts -> r = some ts /\ isK ts 1 = true := fun ts e => by
  cases r with
  | none => cases e
  | some ts0 =>
   have e2 : (if isK ts0 1 = true then some ts0 else none) = some ts := e
   split at e2
   ·rename_i hp
    cases e2
    exact ⟨rfl, hp⟩
   ·cases e2
 have Dz := aa Fw
 clear Fw
 go_wp2_with fail
 refine (iZ H2.out (fun ts e => by
  obtain ⟨e1, e2⟩ := Dz.out ts e
  exact (hQ e2 (dr.out ts e1) (by decide)).1)).mono ?_
 rintro e w3 ⟨k, s, l, c, rfl, h3, m3, hs⟩
 have H3 : Hid (St A b w3 d (ix r)) := by
  have e9 : (r.bind fun ts => if qC r 1 = true then some ts else none).map List.tail = ix r := by
   cases r with
   | none => rfl
   | some ts =>
    show (if isK ts 1 = true then some ts else none).map List.tail = (eZ 1 ts).map (·.2)
    unfold eZ
    split <;> rfl
  rw [e9] at h3
  exact h3
 have M3 := aa (M2.out.trans m3)
 have HS : Hid (∀ ts p, r = some ts -> eZ 1 ts = some p -> s = p.1) := fun ts p e1 e2 => by
  unfold eZ at e2
  split at e2
  ·rename_i hp
   cases e2
   refine hs ts ?_
   subst e1
   show (if isK ts 1 = true then some ts else none) = some ts
   rw [if_pos hp]
  ·cases e2
 clear h3 m3 hs
 go_wp2_with fail
 refine (uF H3.out).mono ?_
 rintro e w4 ⟨po, pn, pc, rfl, h4, m4, fE⟩
 have H4 := aa h4
 have M4 := aa (M3.out.trans m4)
 have ed := aa fE
 have X4 := aa (af HX.out M4.out (by omega))
 have CW := ad X4.out
 have gy := M3.out.size
 have qc := m4.size
 have me : Hid (Below w4.heap.size w4 (w4.alloc (.cells #[.string s, .slice po pn pc, .int .i64 0, .string ⟨#[]⟩, .int .i64 0, .slice none 0 0, .slice none 0 0, .slice none 0 0, .slice none 0 0] 54))) := (U4 w4).alloc U0 _
 have Y4 : Hid ((w4.alloc (.cells #[.string s, .slice po pn pc, .int .i64 0, .string ⟨#[]⟩, .int .i64 0, .slice none 0 0, .slice none 0 0, .slice none 0 0, .slice none 0 0] 54)).heap[w4.heap.size]? = some (.cells #[.string s, .slice po pn pc, .int .i64 0, .string ⟨#[]⟩, .int .i64 0, .slice none 0 0, .slice none 0 0, .slice none 0 0, .slice none 0 0] 54 (0, 0))) := heap_alloc_new w4 _
 clear h4 m4 fE
 go_wp2_with fail
 refine (bQ ox (by simp [bP]) (by decide) (H4.out.below me.out)).mono ?_
 rintro e w5 ⟨x, rfl, h5, m5⟩
 have H5 := aa h5
 have M5 := aa m5
 clear h5 m5
 go_wp2_with fail
 refine (cj H5.out).mono ?_
 rintro e w6 ⟨rfl, h6, m6⟩
 have H6 := aa h6
 have M6 := aa (M5.out.trans m6)
 have Y6 := aa (af Y4.out M6.out (by omega))
 clear h6 m6
 have ma : Hid (∀ ts2, (((ix r).map fun q => (aY q).2).bind (ar ox)) = some ts2 -> ts2.length <= n) := fun ts2 e => by
  obtain ⟨q, e1, e2⟩ := Option.bind_eq_some_iff.1 e
  obtain ⟨q2, e3, e4⟩ := Option.map_eq_some_iff.1 e1
  obtain ⟨ts, e5, e6⟩ := Option.bind_eq_some_iff.1 e3
  obtain ⟨⟨p, q'⟩, e7, e8⟩ := Option.map_eq_some_iff.1 e6
  cases e8
  cases e4
  obtain ⟨a1, a2⟩ := jB (by decide) (dr.out ts e5) e7
  obtain ⟨b1, b2⟩ := fL _ a1
  have h2 := aQ e2
  have h3 := HN.out ts e5
  simp only at *
  omega
 go_wp2_with fail
 refine (HE.out w6 _ H6.out ma.out).mono ?_
 rintro e w7 ⟨cs, rfl, hFx, h7, m7, g7⟩
 have H7 := aa h7
 have M7 := aa (M6.out.trans m7)
 have G7 := aa g7
 have sS := M6.out.size
 have Jc := m7.size
 obtain ⟨i0, i1, i2, j1, k1, l1, j2, k2, l2, j3, k3, l3, rfl⟩ := hFx
 have y7 := af Y4.out M7.out (by omega)
 have Y7 := aa y7
 obtain ⟨⟨v0, v1, v2, v3, v4, v5, v6, v7, v8⟩, f0, f1, f2, f3, f4, f5, f6, f7, f8⟩ := o8 y7
 have Lr := ad y7
 clear h7 m7 g7 y7
 have Po : w.heap.size + 1 <= w3.heap.size := by simpa using gy
 have Jp := ni w7 w4.heap.size (.int .i64 i0) (.string i1) (.int .i64 i2) (.slice j1 k1 l1) (.slice j2 k2 l2) (.slice j3 k3 l3)
 have NL := uA w7 w4.heap.size (.int .i64 i0) (.string i1) (.int .i64 i2) (.slice j1 k1 l1) (.slice j2 k2 l2) (.slice j3 k3 l3)
 have Y8 := aa (DN Y7.out (.int .i64 i0) (.string i1) (.int .i64 i2) (.slice j1 k1 l1) (.slice j2 k2 l2) (.slice j3 k3 l3))
 have Pp := aa ((Mv.of (b := b) me.out).trans M7.out)
 have X8 := aa ((Jp.block w.heap.size (by show _ ≠ _; omega)).trans (af X4.out Pp.out (by omega)))
 have M8 := aa (Keeps.mvo (((Mv.of aq.out).trans M4.out).trans Pp.out) Jp (by omega))
 have FE : Hid (AG A w (nxt (((ix r).map fun q => (aY q).2).bind (ar ox)) ex)) := fun ts e => by
  obtain ⟨ts3, e3, -⟩ := Option.bind_eq_some_iff.1 e
  obtain ⟨ts4, e4, -⟩ := Option.bind_eq_some_iff.1 e3
  obtain ⟨ts5, e5, -⟩ := Option.map_eq_some_iff.1 e4
  obtain ⟨ts6, e6, -⟩ := Option.bind_eq_some_iff.1 e5
  exact HA.out ts6 e6
 have H8 := aa (H7.out.other Jp (by omega) (fun ts e => by have := FE.out ts e; omega))
 have T8 : Hid (∀ q, ix r = some q -> StrT (AV w7 w4.heap.size (.int .i64 i0) (.string i1) (.int .i64 i2) (.slice j1 k1 l1) (.slice j2 k2 l2) (.slice j3 k3 l3)) (w.heap.size + 1) w4.heap.size (.slice po pn pc) (aY q).1) := fun q e =>
  (((ed.out q e).keep (bv Pp.out (by omega) U0)).keep (fun k a1 a2 => Jp.block k (by show _ ≠ _; omega))).up Po U0
 have G8 : Hid (Got (AV w7 w4.heap.size (.int .i64 i0) (.string i1) (.int .i64 i2) (.slice j1 k1 l1) (.slice j2 k2 l2) (.slice j3 k3 l3)) w6.heap.size w7.heap.size 0 _ ex _) := G7.out.keep (fun k a1 a2 => Jp.block k (by simp at sS; show _ ≠ _; omega)) U0 U0
 have Tv : w4.heap.size + 1 <= w6.heap.size := by simpa using sS
 have NG := ad X8.out
 clear Jp
 generalize hV8 : AV w7 w4.heap.size (.int .i64 i0) (.string i1) (.int .i64 i2) (.slice j1 k1 l1) (.slice j2 k2 l2) (.slice j3 k3 l3) = V8 at Y8 X8 M8 H8 T8 G8 NL NG
 have Qw : (((((w7.setCell ⟨w4.heap.size, 2, none⟩ (.int .i64 i0)).setCell ⟨w4.heap.size, 3, none⟩ (.string i1)).setCell ⟨w4.heap.size, 4, none⟩ (.int .i64 i2)).setCell ⟨w4.heap.size, 5, none⟩ (.slice j1 k1 l1)).setCell ⟨w4.heap.size, 6, none⟩ (.slice j2 k2 l2)).setCell ⟨w4.heap.size, 7, none⟩ (.slice j3 k3 l3) = V8 := hV8
 have Su := aa Qw
 clear hV8 Qw
 go_wp2_with fail
 rw [Su.out]
 refine (gl lQ (by simp [fs]) (by decide) H8.out).mono ?_
 rintro e w8 ⟨x, rfl, h8, m8⟩
 have M9 := aa m8
 have QT := m8.size
 have Y9 := aa (af Y8.out m8 (by omega))
 have X9 := aa (af X8.out m8 (by omega))
 clear m8
 rcases h8 with ⟨rfl, ts4, m0, hw4, h8⟩ | ⟨rfl, hw4, h8⟩
 ·have wW := aa m0
  have OO := aa hw4
  have O2 : ts4.tail.length <= n + 1 := by
   obtain ⟨q, e1, e2⟩ := Option.bind_eq_some_iff.1 m0
   obtain ⟨⟨t9, q9⟩, e3, e4⟩ := Option.map_eq_some_iff.1 e2
   cases e4
   have h1 := ma.out q e1
   have h2 : (t9, q9).2.tail.length <= (t9, q9).2.length := by rw [List.length_tail]; omega
   have h3 : q9.length <= q.length := by
    have h9 := H6.out
    rw [e1] at h9
    exact Nat.le_of_lt (HD.out _ _ _ (Sr.ends h9) e3).2
   simp only at h2 ⊢
   omega
  have H9 := aa h8
  have wU : Hid (CD A b d n de) := by
   obtain ⟨ts3, e3, -⟩ := Option.bind_eq_some_iff.1 m0
   obtain ⟨ts4, e4, -⟩ := Option.bind_eq_some_iff.1 e3
   obtain ⟨ts5, e5, -⟩ := Option.map_eq_some_iff.1 e4
   obtain ⟨ts6, e6, -⟩ := Option.bind_eq_some_iff.1 e5
   exact HC.out ts6 e6
  clear m0 hw4 h8
  go_wp2_with fail
  refine (rz (r := some ts4.tail) H9.out (fun ts' e => by cases e; exact O2) wU.out wJ.out).mono ?_
  rintro e w9 ⟨bo, bn, bc, rfl, h9, m9, g9⟩
  have OT := aa h9
  have Tz := aa m9
  have Up := aa g9
  have UR := m9.size
  have y9 := af Y9.out m9 (by omega)
  have x9 := af X9.out m9 (by omega)
  have QJ := aa y9
  have Ni := aa x9
  obtain ⟨⟨v0, v1, v2, v3, v4, v5, v6, v7, v8⟩, f0, f1, f2, f3, f4, f5, f6, f7, f8⟩ := o8 y9
  obtain ⟨⟨u0, u1, u2, u3, u4, u5, u6, u7, u8⟩, d0, d1, d2, d3, d4, d5, d6, d7, d8⟩ := o8 x9
  have Sc := ad y9
  clear h9 m9 g9 y9 x9
  go_wp2
  refine bodyPost_ret (v := .agg #[.string s, .slice po pn pc, .int .i64 i0, .string i1, .int .i64 i2, .slice j1 k1 l1, .slice j2 k2 l2, .slice j3 k3 l3, .slice bo bn bc]) ?_ rfl ?_
  ·exact results_cell_row rfl _ _ w.heap.size 54 _ (0, 0) _ rfl (r9 ((az (.slice bo bn bc) (by omega)).trans Ni.out) _ _ _ _ _ _ _ _ _) Tryz.underlying54 rfl (by kernel_rfl)
  ·have hk : Keeps (fun k => k ≠ w4.heap.size) w9 (w9.setCell ⟨w4.heap.size, 8, none⟩ (.slice bo bn bc)) := ak w9 w4.heap.size 8 _ (fun h => h rfl)
   have cI : (w9.setCell ⟨w4.heap.size, 8, none⟩ (.slice bo bn bc)).heap.size = w9.heap.size := by simp
   have zB : cC de ts4 = aP de ts4.tail := by rw [cC, if_pos OO.out]
   have I4 := M9.out.trans Tz.out
   refine Ao au HA.out ?_ (Keeps.mvo (M8.out.trans I4) hk (by omega)) ?_ ⟨_, _, _, _, _, _, _, _, _, _, _, _, _, _, _, _, _, _, _, rfl⟩
   ·rw [xj, wW.out]
    show St A b _ d ((cC de ts4).map (·.2))
    rw [zB]
    exact OT.out.other hk (by omega) (fun ts e => by have := FE.out ts4 wW.out; omega)
   ·refine xb (V := w9.setCell ⟨w4.heap.size, 8, none⟩ (.slice bo bn bc)) (ex := ex) (de := de) (s := s) (vp := .slice po pn pc) (vw := .slice bo bn bc) (ce := [.int .i64 i0, .string i1, .int .i64 i2, .slice j1 k1 l1, .slice j2 k2 l2, .slice j3 k3 l3]) (s0 := w.heap.size + 1) (u1 := w4.heap.size) (u2 := w7.heap.size) dr.out HS.out (fun q e => ?_) ?_ ?_ (by omega) (by omega) (by rw [cI]; omega)
    ·exact ((T8.out q e).keep (bv I4 (by omega) (by omega))).keep (fun k a1 a2 => hk.block k (by show _ ≠ _; omega))
    ·exact (G8.out.keep (bv I4 (by omega) (by omega)) U0 U0).keep (fun k a1 a2 => hk.block k (by show _ ≠ _; omega)) (by omega) U0
    ·intro ts l rest e1 e2
     rw [wW.out] at e1
     cases e1
     rw [zB] at e2
     obtain ⟨hh, q1, q2⟩ := Up.out ts4.tail l rest rfl e2
     have h9 : ts4.tail.length <= ts4.length := by rw [List.length_tail]; omega
     rw [cI]
     exact ⟨hh, by omega, (q2.keep (fun k a1 a2 => hk.block k (by show _ ≠ _; omega))).up (by omega) U0 U0⟩
 ·have OO := aa hw4
  have H9 := aa h8
  have y9 := Y9.out
  have x9 := X9.out
  obtain ⟨⟨v0, v1, v2, v3, v4, v5, v6, v7, v8⟩, f0, f1, f2, f3, f4, f5, f6, f7, f8⟩ := o8 y9
  obtain ⟨⟨u0, u1, u2, u3, u4, u5, u6, u7, u8⟩, d0, d1, d2, d3, d4, d5, d6, d7, d8⟩ := o8 x9
  have Sc := ad y9
  clear hw4 h8 y9 x9
  go_wp2
  refine bodyPost_ret (v := .agg #[.string s, .slice po pn pc, .int .i64 i0, .string i1, .int .i64 i2, .slice j1 k1 l1, .slice j2 k2 l2, .slice j3 k3 l3, .slice none 0 0]) ?_ rfl ?_
  ·exact results_cell_row rfl _ _ w.heap.size 54 _ (0, 0) _ rfl (r9 X9.out _ _ _ _ _ _ _ _ _) Tryz.underlying54 rfl (by kernel_rfl)
  ·have zB : ∀ ts, nxt (((ix r).map fun q => (aY q).2).bind (ar ox)) ex = some ts -> cC de ts = some ([], ts) := fun ts e => by rw [cC, if_neg (by rw [OO.out ts e]; decide)]
   refine Ao au HA.out ?_ (M8.out.trans M9.out) ?_ ⟨_, _, _, _, _, _, _, _, _, _, _, _, _, _, _, _, _, _, _, rfl⟩
   ·rw [xj]
    have h9 := H9.out
    cases m0 : nxt (((ix r).map fun q => (aY q).2).bind (ar ox)) ex with
    | none => rw [m0] at h9; exact h9
    | some ts =>
     rw [m0] at h9
     show St A b w8 d ((cC de ts).map (·.2))
     rw [zB ts m0]
     exact h9
   ·refine xb (V := w8) (ex := ex) (de := de) (s := s) (vp := .slice po pn pc) (vw := .slice none 0 0) (ce := [.int .i64 i0, .string i1, .int .i64 i2, .slice j1 k1 l1, .slice j2 k2 l2, .slice j3 k3 l3]) (s0 := w.heap.size + 1) (u1 := w4.heap.size) (u2 := w7.heap.size) dr.out HS.out (fun q e => ?_) ?_ ?_ (by omega) (by omega) (by omega)
    ·exact (T8.out q e).keep (bv M9.out (by omega) (by omega))
    ·exact G8.out.keep (bv M9.out (by omega) (by omega)) (by omega) U0
    ·intro ts l rest e1 e2
     rw [zB ts e1] at e2
     cases e2
     exact ⟨0, by omega, RowT.nil w8 _ _ 0 1⟩
end
end Go.Proofs.YtfomndilhlgikajGreatDoor.Rd
namespace Go.Proofs.YtfomndilhlgikajGreatDoor.Rd
open Go.ChangeShapes Go.WideShapes Go.ChangeAt Go.RowKit
section
variable {A : Arr} {b d : Nat} {w : World} {r : Option (List TokZ)}
theorem lb {w : World} {g : Nat} (hg : g < w.heap.size) (v0 v1 v2 v3 v4 v5 : Value) (o : Obj) : (jp w g v0 v1 v2 v3 v4 v5).alloc o = jp (w.alloc o) g v0 v1 v2 v3 v4 v5 := by
 unfold jp
 rw [World.setCell_alloc_past _ _ _ _ hg, World.setCell_alloc_past _ _ _ _ (by simpa using hg), World.setCell_alloc_past _ _ _ _ (by simpa using hg), World.setCell_alloc_past _ _ _ _ (by simpa using hg), World.setCell_alloc_past _ _ _ _ (by simpa using hg), World.setCell_alloc_past _ _ _ _ (by simpa using hg)]
theorem xp {ex de : bF} {ts : List TokZ} (h : cg ts lv = true) : aJ ex de ts = lM ex ts.tail := by rw [aJ, if_pos h]
theorem xI {ex de : bF} {ts : List TokZ} (h1 : cg ts lv = false) (h : cg ts lS = true) : aJ ex de ts = lT ex de ts.tail := by rw [aJ, if_neg (by rw [h1]; decide), if_pos h]
theorem sO {ex de : bF} {ts : List TokZ} (h1 : cg ts lv = false) (h2 : cg ts lS = false) (h : cg ts jb = true) : aJ ex de ts = ft ex ts.tail := by rw [aJ, if_neg (by rw [h1]; decide), if_neg (by rw [h2]; decide), if_pos h]
theorem xz {ex de : bF} {ts : List TokZ} (h1 : cg ts lv = false) (h2 : cg ts lS = false) (h3 : cg ts jb = false) (h : cg ts Am = true) : aJ ex de ts = mW ex ts.tail := by rw [aJ, if_neg (by rw [h1]; decide), if_neg (by rw [h2]; decide), if_neg (by rw [h3]; decide), if_pos h]
theorem D6 {ex de : bF} {ts : List TokZ} (h1 : cg ts lv = false) (h2 : cg ts lS = false) (h3 : cg ts jb = false) (h : cg ts Am = false) : aJ ex de ts = fD ex ts := by rw [aJ, if_neg (by rw [h1]; decide), if_neg (by rw [h2]; decide), if_neg (by rw [h3]; decide), if_neg (by rw [h]; decide)]
def Eb (r : Option (List TokZ)) : Option (List TokZ) := r.bind fun ts => (eq ts).map (·.2)
theorem D0 {ex : bF} (ts : List TokZ) : (lM ex ts).map (·.2) = nxt ((Eb (some ts)).bind (ar eJ)) ex := by
 show _ = nxt (((eq ts).map (·.2)).bind (ar eJ)) ex
 unfold lM
 cases eq ts with
 | none => rfl
 | some p =>
  show ((ar eJ p.2).bind _).map _ = nxt (ar eJ p.2) ex
  cases ar eJ p.2 with
  | none => rfl
  | some q =>
   show ((ex q).bind _).map _ = (ex q).map _
   cases ex q with
   | none => rfl
   | some u => rfl
theorem EA {ex de : bF} (ts : List TokZ) : (lT ex de ts).map (·.2) = nxt ((oi (some ts) (aP de)).bind (ar sK)) ex := by
 show _ = nxt (((aP de ts).map (·.2)).bind (ar sK)) ex
 unfold lT
 cases aP de ts with
 | none => rfl
 | some p =>
  show ((ar sK p.2).bind _).map _ = nxt (ar sK p.2) ex
  cases ar sK p.2 with
  | none => rfl
  | some q =>
   show ((ex q).bind _).map _ = (ex q).map _
   cases ex q with
   | none => rfl
   | some u => rfl
theorem uG {ex : bF} (ts : List TokZ) : (ft ex ts).map (·.2) = oi ((nxt (some ts) ex).bind (ar qt)) (aP (ff ex)) := by
 show _ = oi (((ex ts).map (·.2)).bind (ar qt)) (aP (ff ex))
 unfold ft
 cases ex ts with
 | none => rfl
 | some p =>
  show ((ar qt p.2).bind _).map _ = oi (ar qt p.2) (aP (ff ex))
  cases ar qt p.2 with
  | none => rfl
  | some q =>
   show ((aP (ff ex) q).bind _).map _ = (aP (ff ex) q).map _
   cases aP (ff ex) q with
   | none => rfl
   | some u => rfl
theorem GA {ex : bF} (ts : List TokZ) : (mW ex ts).map (·.2) = nxt ((nxt ((nxt (some ts) ex).bind (ar di)) ex).bind (ar dJ)) ex := by
 show _ = nxt ((nxt (((ex ts).map (·.2)).bind (ar di)) ex).bind (ar dJ)) ex
 unfold mW
 cases ex ts with
 | none => rfl
 | some p =>
  show ((ar di p.2).bind _).map _ = nxt ((nxt (ar di p.2) ex).bind (ar dJ)) ex
  cases ar di p.2 with
  | none => rfl
  | some q =>
   show ((ex q).bind _).map _ = nxt (((ex q).map (·.2)).bind (ar dJ)) ex
   cases ex q with
   | none => rfl
   | some u =>
    show ((ar dJ u.2).bind _).map _ = nxt (ar dJ u.2) ex
    cases ar dJ u.2 with
    | none => rfl
    | some x =>
     show ((ex x).bind _).map _ = (ex x).map _
     cases ex x with
     | none => rfl
     | some y => rfl
end
end Go.Proofs.YtfomndilhlgikajGreatDoor.Rd
namespace Go.Proofs.YtfomndilhlgikajGreatDoor.Rd
open Go.ChangeShapes Go.WideShapes Go.ChangeAt Go.RowKit
section
variable {A : Arr} {b d : Nat} {w : World} {r : Option (List TokZ)}
theorem JC {ex : bF} {n : Nat} (hE : CE A b d n ex) (hD : bC ex) : CA A b d (n + 1) (ff ex) := fun _ _ h hn => DS h hn hE hD
theorem xD (ts : List TokZ) : ts.tail.length <= ts.length := by rw [List.length_tail]; omega
theorem Ek {V : World} {ex de : bF} {ts : List TokZ} {s : ByteArray} {ce : List Value} {g s0 u : Nat} (hL : cg ts lv = true) (hE : Ends ts) (hS : ∀ p, eq ts.tail = some p -> s = p.1) (hG : Got V s0 u 0 ((Eb (some ts.tail)).bind (ar eJ)) ex ce) (hg : V.heap[g]? = some (.cells ce.toArray 34 (0, 0))) (h1 : u <= g) (h0 : s0 <= g) : Got V s0 V.heap.size 0 (some ts) (aJ ex de) [.int .i64 5, .string s, .int .i64 0, .slice (some ⟨g, 0, none⟩) 1 1, .slice none 0 0, .slice none 0 0] := fun ts' t rest e1 e2 => by
 cases e1
 rw [xp hL] at e2
 obtain ⟨⟨p, r1⟩, f1, e2⟩ := Option.bind_eq_some_iff.1 e2
 obtain ⟨r2, f2, e2⟩ := Option.bind_eq_some_iff.1 e2
 obtain ⟨⟨t3, r3⟩, f3, e2⟩ := Option.bind_eq_some_iff.1 e2
 cases e2
 have vi : s = p := hS _ f1
 subst vi
 obtain ⟨a1, a2⟩ := bG hL hE (by decide)
 obtain ⟨b1, b2⟩ := gZ a1 f1
 have c1 := aQ f2
 have cI : s.size <= 1500 := by
  have : s = jN ts.tail := by
   unfold eq at f1
   split at f1
   ·cases f1; rfl
   ·cases f1
  rw [this]
  exact gP a1
 have h2 : (Eb (some ts.tail)).bind (ar eJ) = some r2 := by
  show ((eq ts.tail).map (·.2)).bind (ar eJ) = some r2
  rw [f1]
  exact f2
 obtain ⟨n1, k1, k2⟩ := hG r2 t3 r3 h2 f3
 have au := ad hg
 have hr : RowT V s0 (g + 1) n1 0 (.slice (some ⟨g, 0, none⟩) 1 1) [t3] := RowT.lit1 k2 hg h1 (Nat.lt_succ_self _) h0
 refine ⟨n1 + 1, ?_, nC 5 s (by unfold maxLen; omega) 0 hr (RowT.nil V (g + 1) (g + 1) n1 1) (RowT.nil V (g + 1) V.heap.size n1 2) (by omega) U0 au⟩
 simp only at *
 omega
theorem Eo {V : World} {ex de : bF} {ts : List TokZ} {vd : Value} {ce : List Value} {g s0 u1 u : Nat} (hL1 : cg ts lv = false) (hL : cg ts lS = true) (hE : Ends ts) (hB : GotL V s0 u1 1 (some ts.tail) (aP de) vd) (hG : Got V u1 u 0 ((oi (some ts.tail) (aP de)).bind (ar sK)) ex ce) (hg : V.heap[g]? = some (.cells ce.toArray 34 (0, 0))) (h1 : u <= g) (h0 : s0 <= u1) (h01 : u1 <= u) : Got V s0 V.heap.size 0 (some ts) (aJ ex de) [.int .i64 6, .string ⟨#[]⟩, .int .i64 0, .slice (some ⟨g, 0, none⟩) 1 1, vd, .slice none 0 0] := fun ts' t rest e1 e2 => by
 cases e1
 rw [xI hL1 hL] at e2
 obtain ⟨⟨ds, r1⟩, f1, e2⟩ := Option.bind_eq_some_iff.1 e2
 obtain ⟨r2, f2, e2⟩ := Option.bind_eq_some_iff.1 e2
 obtain ⟨⟨t3, r3⟩, f3, e2⟩ := Option.bind_eq_some_iff.1 e2
 cases e2
 obtain ⟨a1, a2⟩ := bG hL hE (by decide)
 have c1 := aQ f2
 have h2 : (oi (some ts.tail) (aP de)).bind (ar sK) = some r2 := by
  show ((aP de ts.tail).map (·.2)).bind (ar sK) = some r2
  rw [f1]
  exact f2
 obtain ⟨n1, k1, k2⟩ := hG r2 t3 r3 h2 f3
 obtain ⟨n2, k3, k4⟩ := hB ts.tail ds r1 rfl f1
 have au := ad hg
 have hr : RowT V u1 (g + 1) n1 0 (.slice (some ⟨g, 0, none⟩) 1 1) [t3] := RowT.lit1 k2 hg h1 (Nat.lt_succ_self _) (by omega)
 refine ⟨max n1 n2 + 1, ?_, xE 6 ⟨#[]⟩ (by decide) 0 (k4.up U0 U0 (Nat.le_max_right _ _)) (hr.up U0 U0 (Nat.le_max_left _ _)) (RowT.nil V (g + 1) V.heap.size _ 2) h0 (by omega) au⟩
 simp only at *
 omega
theorem uj {V : World} {ex de : bF} {ts : List TokZ} {va : Value} {ce : List Value} {g s0 u1 u2 u3 : Nat} (hL1 : cg ts lv = false) (hL2 : cg ts lS = false) (hL : cg ts jb = true) (hE : Ends ts) (hX : Got V s0 u1 0 (some ts.tail) ex ce) (hA : GotL V u2 u3 2 ((nxt (some ts.tail) ex).bind (ar qt)) (aP (ff ex)) va) (hg : V.heap[g]? = some (.cells ce.toArray 34 (0, 0))) (h0 : s0 <= u1) (h1 : u1 <= g) (h2 : u1 <= u2) (h3 : u2 <= u3) (h4 : u3 <= V.heap.size) (h5 : g < u2 \/ u3 <= g) : Got V s0 V.heap.size 0 (some ts) (aJ ex de) [.int .i64 7, .string ⟨#[]⟩, .int .i64 0, .slice (some ⟨g, 0, none⟩) 1 1, .slice none 0 0, va] := fun ts' t rest e1 e2 => by
 cases e1
 rw [sO hL1 hL2 hL] at e2
 obtain ⟨⟨t1, r1⟩, f1, e2⟩ := Option.bind_eq_some_iff.1 e2
 obtain ⟨r2, f2, e2⟩ := Option.bind_eq_some_iff.1 e2
 obtain ⟨⟨al, r3⟩, f3, e2⟩ := Option.bind_eq_some_iff.1 e2
 cases e2
 obtain ⟨a1, a2⟩ := bG hL hE (by decide)
 have c1 := aQ f2
 have Du : (nxt (some ts.tail) ex).bind (ar qt) = some r2 := by
  rw [ie f1]
  exact f2
 obtain ⟨n1, k1, bx, k2, i2⟩ := hX ts.tail t1 r1 rfl f1
 obtain ⟨n2, k3, ba, k4, i4⟩ := hA r2 al r3 Du f3
 have au := ad hg
 have cF := Row.lit (w := V) (E := ls 0) (sz := ij 0) (g := g) [ce] (fun d hd => by rw [List.mem_singleton] at hd; rw [hd]; exact (ic k2).1) (by have h9 : V.heap[g]? = some (.cells ce.toArray (ls 0) (0, 0)) := hg; simpa using h9) (by simp)
 have hR : RowS V (sp V (max n1 n2) 0) (ls 0) (ij 0) (.slice (some ⟨g, 0, none⟩) 1 1) [t1] ([g] ++ bx) := ⟨by simp, [ce], [bx], cF, ⟨tU (Nat.le_max_left _ _) k2, trivial⟩, by simp [ei, Value.ownBlock]⟩
 have Tf : RowS V (sp V (max n1 n2) 2) (ls 2) (ij 2) va al ba := k4.frame (fun _ _ => rfl) fun _ _ _ _ k => tU (Nat.le_max_right _ _) k
 have hI : InR s0 V.heap.size ([g] ++ bx ++ [] ++ ba) := by
  rcases h5 with h5 | h5
  ·have q1 : InR s0 (g + 1) ([g] ++ bx) := InR.comm (i2.app (InR.one (Nat.le_refl g) (Nat.lt_succ_self g)) h1 (by omega) (by omega))
   rw [List.append_nil]
   exact (q1.app i4 h5 (by omega) (by omega)).wide U0 h4
  ·have q1 : InR s0 u3 (bx ++ ba) := i2.app i4 h2 (by omega) (by omega)
   have q2 := InR.comm (q1.app (InR.one (Nat.le_refl g) au) h5 (by omega) (by omega))
   rw [List.append_nil, List.append_assoc]
   exact q2
 refine ⟨max n1 n2 + 1, ?_, _, ⟨rfl, (show (⟨#[]⟩ : ByteArray).size <= maxLen by decide), _, _, _, [g] ++ bx, [], ba, rfl, rfl, hR, RowS.nil _ _ _ _, Tf⟩, hI⟩
 simp only at *
 omega
theorem FP {V : World} {ex de : bF} {ts : List TokZ} {ca cb cc : List Value} {g s0 u1 u2 u3 : Nat} (hL1 : cg ts lv = false) (hL2 : cg ts lS = false) (hL3 : cg ts jb = false) (hL : cg ts Am = true) (hE : Ends ts) (hA : Got V s0 u1 0 (some ts.tail) ex ca) (hB : Got V u1 u2 0 ((nxt (some ts.tail) ex).bind (ar di)) ex cb) (hC : Got V u2 u3 0 ((nxt ((nxt (some ts.tail) ex).bind (ar di)) ex).bind (ar dJ)) ex cc) (hg : V.heap[g]? = some (.cells (ca ++ cb ++ cc).toArray 34 (0, 0))) (h0 : s0 <= u1) (h1 : u1 <= u2) (h2 : u2 <= u3) (h3 : u3 <= g) : Got V s0 V.heap.size 0 (some ts) (aJ ex de) [.int .i64 8, .string ⟨#[]⟩, .int .i64 0, .slice (some ⟨g, 0, none⟩) 3 3, .slice none 0 0, .slice none 0 0] := fun ts' t rest e1 e2 => by
 cases e1
 rw [xz hL1 hL2 hL3 hL] at e2
 obtain ⟨⟨t1, r1⟩, f1, e2⟩ := Option.bind_eq_some_iff.1 e2
 obtain ⟨r2, f2, e2⟩ := Option.bind_eq_some_iff.1 e2
 obtain ⟨⟨t3, r3⟩, f3, e2⟩ := Option.bind_eq_some_iff.1 e2
 obtain ⟨r4, f4, e2⟩ := Option.bind_eq_some_iff.1 e2
 obtain ⟨⟨t5, r5⟩, f5, e2⟩ := Option.bind_eq_some_iff.1 e2
 cases e2
 obtain ⟨a1, a2⟩ := bG hL hE (by decide)
 have c1 := aQ f2
 have c2 := aQ f4
 have Du : (nxt (some ts.tail) ex).bind (ar di) = some r2 := by
  rw [ie f1]
  exact f2
 have m0 : (nxt ((nxt (some ts.tail) ex).bind (ar di)) ex).bind (ar dJ) = some r4 := by
  rw [Du, ie f3]
  exact f4
 obtain ⟨n1, k1, k2⟩ := hA ts.tail t1 r1 rfl f1
 obtain ⟨n2, k3, k4⟩ := hB r2 t3 r3 Du f3
 obtain ⟨n3, k5, k6⟩ := hC r4 t5 r5 m0 f5
 have au := ad hg
 have m1 : n1 <= max n1 (max n2 n3) := Nat.le_max_left _ _
 have m2 : n2 <= max n1 (max n2 n3) := Nat.le_trans (Nat.le_max_left _ _) (Nat.le_max_right _ _)
 have m3 : n3 <= max n1 (max n2 n3) := Nat.le_trans (Nat.le_max_right _ _) (Nat.le_max_right _ _)
 have hr : RowT V s0 (g + 1) (max n1 (max n2 n3)) 0 (.slice (some ⟨g, 0, none⟩) 3 3) [t1, t3, t5] := RowT.lit3 (k2.up U0 U0 m1) (k4.up U0 U0 m2) (k6.up U0 U0 m3) hg h0 h1 h2 h3 (Nat.lt_succ_self _)
 refine ⟨max n1 (max n2 n3) + 1, ?_, nC 8 ⟨#[]⟩ (by decide) 0 hr (RowT.nil V (g + 1) (g + 1) _ 1) (RowT.nil V (g + 1) V.heap.size _ 2) (by omega) U0 au⟩
 have io := (aQ f2)
 simp only at *
 omega
theorem kP {ex de : bF} {n : Nat} (h : St A b w d r) (hn : ∀ ts, r = some ts -> ts.length <= n + 1) (hE : ∀ ts, r = some ts -> CE A b d n ex) (hC : ∀ ts, r = some ts -> CD A b d n de) (hD : bC ex) (hDD : bC de) : Calls Tryz.prog 96 #[.pointer (some ⟨b, 0, none⟩)] w (ResE A b d w r (aJ ex de)) := by
 have au := h.lt
 have HA := aa h.glt
 have HN := aa hn
 have HE := aa hE
 have HC := aa hC
 have HD := aa hD
 have wJ := aa hDD
 have aq : Hid (Below w.heap.size w (w.alloc (.cells zE 34))) := (U4 w).alloc U0 _
 have H0 := aa (h.below aq.out)
 have HX : Hid ((w.alloc (.cells zE 34)).heap[w.heap.size]? = some (.cells zE 34 (0, 0))) := heap_alloc_new w _
 have dr : Hid (∀ ts, r = some ts -> Ends ts) := fun ts e => by
  subst e
  exact Sr.ends h
 clear h hn hE hC hD hDD
 go_enter Tryz.func96, Tryz.ntmps96
 go_wp2_with fail
 refine (bQ lv (by simp [bP]) (by decide) H0.out).mono ?_
 rintro e w1 ⟨x, rfl, h1, m1⟩
 have M1 := aa ((Mv.of aq.out).trans m1)
 have X1 := aa (af HX.out m1 (by omega))
 clear m1
 rcases h1 with ⟨rfl, ts, rfl, hs, h1⟩ | ⟨rfl, hs, h1⟩
 ·have HS := aa hs
  have H1 := aa h1
  have aC := dr.out ts rfl
  have ma : Hid (∀ ts2, (Eb (some ts.tail)).bind (ar eJ) = some ts2 -> ts2.length <= n) := fun ts2 e => by
   obtain ⟨q, e1, e2⟩ := Option.bind_eq_some_iff.1 e
   have e3 : (eq ts.tail).map (·.2) = some q := e1
   obtain ⟨⟨p, q'⟩, e5, e6⟩ := Option.map_eq_some_iff.1 e3
   cases e6
   have h1 := (gZ (bG hs aC (by decide)).1 e5).2
   have h2 := aQ e2
   have h3 := HN.out ts rfl
   have h4 := xD ts
   simp only at h2
   omega
  clear hs h1 aC
  go_wp2_with fail
  refine (sk (r := some ts.tail) H1.out).mono ?_
  rintro e w2 ⟨s, rfl, h2, m2, Ij⟩
  have H2 := aa h2
  have Tp := aa Ij
  have M2 := aa (M1.out.trans m2)
  have X2 := aa (af X1.out m2 (by omega))
  clear h2 m2 Ij
  go_wp2_with fail
  refine (bQ eJ (by simp [bP]) (by decide) H2.out).mono ?_
  rintro e w3 ⟨x, rfl, h3, m3⟩
  have H3 := aa h3
  have M3 := aa (M2.out.trans m3)
  have X3 := aa (af X2.out m3 (by omega))
  clear h3 m3
  go_wp2_with fail
  refine (cj H3.out).mono ?_
  rintro e w4 ⟨rfl, h4, m4⟩
  have H4 := aa h4
  have M4 := aa (M3.out.trans m4)
  have X4 := aa (af X3.out m4 (by omega))
  have CW := ad X4.out
  clear h4 m4
  go_wp2_with fail
  refine ((HE.out ts rfl) w4 _ H4.out ma.out).mono ?_
  rintro e w5 ⟨cs, rfl, hFx, h5, m5, g5⟩
  have H5 := aa h5
  have M5 := aa (M4.out.trans m5)
  have G5 := aa g5
  have E2 := m5.size
  have x5 := af X4.out m5 (by omega)
  have X5 := aa x5
  obtain ⟨i0, i1, i2, j1, k1, l1, j2, k2, l2, j3, k3, l3, rfl⟩ := hFx
  obtain ⟨⟨u0, u1, u2, u3, u4, u5⟩, d0, d1, d2, d3, d4, d5⟩ := aG x5
  have Ms := ad x5
  clear h5 m5 g5 x5
  go_wp2
  refine bodyPost_ret (v := .agg #[.int .i64 5, .string s, .int .i64 0, .slice (some ⟨w5.heap.size, 0, none⟩) 1 1, .slice none 0 0, .slice none 0 0]) ?_ rfl ?_
  ·exact results_cell_row rfl _ _ w.heap.size 34 _ (0, 0) _ rfl (cT (aZ X5.out _ _ _ _ _ _)) Tryz.underlying34 rfl (by kernel_rfl)
  ·have hb : Below w5.heap.size w5 (w5.alloc (.cells #[.int .i64 i0, .string i1, .int .i64 i2, .slice j1 k1 l1, .slice j2 k2 l2, .slice j3 k3 l3] 34)) := (U4 w5).alloc U0 _
   have e9 := lb Ms (.int .i64 5) (.string s) (.int .i64 0) (.slice (some ⟨w5.heap.size, 0, none⟩) 1 1) (.slice none 0 0) (.slice none 0 0) (.cells #[.int .i64 i0, .string i1, .int .i64 i2, .slice j1 k1 l1, .slice j2 k2 l2, .slice j3 k3 l3] 34)
   have ew := fp (r := some ts) (one := aJ ex de) au HA.out (V := w5.alloc (.cells #[.int .i64 i0, .string i1, .int .i64 i2, .slice j1 k1 l1, .slice j2 k2 l2, .slice j3 k3 l3] 34)) (by
    show St A b _ d ((aJ ex de ts).map (·.2))
    rw [xp HS.out, D0]
    exact H5.out.below hb) (M5.out.trans (Mv.of hb)) (Ek HS.out (dr.out ts rfl) (fun p e => Tp.out ts.tail p rfl e) (G5.out.keep (aw hb U0) (by omega) U0) (heap_alloc_new w5 _) U0 (by omega)) ⟨_, _, _, _, _, _, _, _, _, _, _, _, rfl⟩
   rw [<- e9] at ew
   exact ew
 have eI : Hid (∀ ts, r = some ts -> cg ts lv = false) := hs
 have H1 := aa h1
 clear hs h1
 go_wp2_with fail
 refine (gl lS (by simp [fs]) (by decide) H1.out).mono ?_
 rintro e w2 ⟨x, rfl, h2, m2⟩
 have M2 := aa (M1.out.trans m2)
 have X2 := aa (af X1.out m2 (by omega))
 clear m2
 rcases h2 with ⟨rfl, ts, rfl, hs, h2⟩ | ⟨rfl, hs, h2⟩
 ·have HS := aa hs
  have H2 := aa h2
  have tp := xD ts
  have mQ := HN.out ts rfl
  have mY := ad X2.out
  clear hs h2
  go_wp2_with fail
  refine (rz (r := some ts.tail) H2.out (fun ts' e => by cases e; omega) (HC.out ts rfl) wJ.out).mono ?_
  rintro e w3 ⟨bo, bn, bc, rfl, h3, m3, g3⟩
  have H3 := aa h3
  have M3 := aa (M2.out.trans m3)
  have G3 := aa g3
  have X3 := aa (af X2.out m3 (by omega))
  have gy := m3.size
  clear h3 m3 g3
  go_wp2_with fail
  refine (gl sK (by simp [fs]) (by decide) H3.out).mono ?_
  rintro e w4 ⟨x, rfl, h4, m4⟩
  have H4 := aa h4
  have oJ := aa m4
  clear h4 m4
  go_wp2_with fail
  refine (cj H4.out).mono ?_
  rintro e w5 ⟨rfl, h5, m5⟩
  have H5 := aa h5
  have KC := aa (oJ.out.trans m5)
  have X5 := aa (af X3.out KC.out (by omega))
  have E2 := KC.out.size
  have Ms := ad X5.out
  have ma : Hid (∀ ts2, (oi (some ts.tail) (aP de)).bind (ar sK) = some ts2 -> ts2.length <= n) := fun ts2 e => by
   obtain ⟨q, e1, e2⟩ := Option.bind_eq_some_iff.1 e
   have e3 : (aP de ts.tail).map (·.2) = some q := e1
   obtain ⟨⟨p, q'⟩, e5, e6⟩ := Option.map_eq_some_iff.1 e3
   cases e6
   have h1 := (gk wJ.out (bG HS.out (dr.out ts rfl) (by decide)).1 e5).2
   have h2 := aQ e2
   simp only at h2
   omega
  clear h5 m5
  go_wp2_with fail
  refine ((HE.out ts rfl) w5 _ H5.out ma.out).mono ?_
  rintro e w6 ⟨cs, rfl, hFx, h6, m6, g6⟩
  have H6 := aa h6
  have Qa := aa (KC.out.trans m6)
  have M6 := aa (M3.out.trans Qa.out)
  have G6 := aa g6
  have sS := m6.size
  have x6 := af X5.out m6 (by omega)
  have X6 := aa x6
  obtain ⟨i0, i1, i2, j1, k1, l1, j2, k2, l2, j3, k3, l3, rfl⟩ := hFx
  obtain ⟨⟨u0, u1, u2, u3, u4, u5⟩, d0, d1, d2, d3, d4, d5⟩ := aG x6
  have P8 := ad x6
  clear h6 m6 g6 x6
  go_wp2
  refine bodyPost_ret (v := .agg #[.int .i64 6, .string ⟨#[]⟩, .int .i64 0, .slice (some ⟨w6.heap.size, 0, none⟩) 1 1, .slice bo bn bc, .slice none 0 0]) ?_ rfl ?_
  ·exact results_cell_row rfl _ _ w.heap.size 34 _ (0, 0) _ rfl (cT (aZ X6.out _ _ _ _ _ _)) Tryz.underlying34 rfl (by kernel_rfl)
  ·have hb : Below w6.heap.size w6 (w6.alloc (.cells #[.int .i64 i0, .string i1, .int .i64 i2, .slice j1 k1 l1, .slice j2 k2 l2, .slice j3 k3 l3] 34)) := (U4 w6).alloc U0 _
   have e9 := lb P8 (.int .i64 6) (.string ⟨#[]⟩) (.int .i64 0) (.slice (some ⟨w6.heap.size, 0, none⟩) 1 1) (.slice bo bn bc) (.slice none 0 0) (.cells #[.int .i64 i0, .string i1, .int .i64 i2, .slice j1 k1 l1, .slice j2 k2 l2, .slice j3 k3 l3] 34)
   have ew := fp (r := some ts) (one := aJ ex de) au HA.out (V := w6.alloc (.cells #[.int .i64 i0, .string i1, .int .i64 i2, .slice j1 k1 l1, .slice j2 k2 l2, .slice j3 k3 l3] 34)) (by
    show St A b _ d ((aJ ex de ts).map (·.2))
    rw [xI (eI.out ts rfl) HS.out, EA]
    exact H6.out.below hb) (M6.out.trans (Mv.of hb)) (Eo (u1 := w3.heap.size) (eI.out ts rfl) HS.out (dr.out ts rfl) ((G3.out.keep (bv Qa.out (by omega) U0) (by omega) U0).keep (aw hb (by omega)) U0 U0) (G6.out.keep (aw hb U0) E2 U0) (heap_alloc_new w6 _) U0 (by omega) (by omega)) ⟨_, _, _, _, _, _, _, _, _, _, _, _, rfl⟩
   rw [<- e9] at ew
   exact ew
 have lm : Hid (∀ ts, r = some ts -> cg ts lS = false) := hs
 have H2 := aa h2
 clear hs h2
 go_wp2_with fail
 refine (gl jb (by simp [fs]) (by decide) H2.out).mono ?_
 rintro e w3 ⟨x, rfl, h3, m3⟩
 have M3 := aa (M2.out.trans m3)
 have X3 := aa (af X2.out m3 (by omega))
 clear m3
 rcases h3 with ⟨rfl, ts, rfl, hs, h3⟩ | ⟨rfl, hs, h3⟩
 ·have HS := aa hs
  have H3 := aa h3
  have mQ := HN.out ts rfl
  have om := (bG hs (dr.out ts rfl) (by decide)).2
  have NY := ad X3.out
  clear hs h3
  go_wp2_with fail
  refine ((HE.out ts rfl) w3 (some ts.tail) H3.out (fun ts' e => by cases e; omega)).mono ?_
  rintro e w4 ⟨cs, rfl, hFx, h4, m4, g4⟩
  have H4 := aa h4
  have M4 := aa (M3.out.trans m4)
  have G4 := aa g4
  have X4 := aa (af X3.out m4 (by omega))
  have qc := m4.size
  have CW := ad X4.out
  obtain ⟨i0, i1, i2, j1, k1, l1, j2, k2, l2, j3, k3, l3, rfl⟩ := hFx
  clear h4 m4 g4
  have me : Hid (Below w4.heap.size w4 (w4.alloc (.cells #[.int .i64 i0, .string i1, .int .i64 i2, .slice j1 k1 l1, .slice j2 k2 l2, .slice j3 k3 l3] 34))) := (U4 w4).alloc U0 _
  have Y4 : Hid ((w4.alloc (.cells #[.int .i64 i0, .string i1, .int .i64 i2, .slice j1 k1 l1, .slice j2 k2 l2, .slice j3 k3 l3] 34)).heap[w4.heap.size]? = some (.cells #[.int .i64 i0, .string i1, .int .i64 i2, .slice j1 k1 l1, .slice j2 k2 l2, .slice j3 k3 l3] 34 (0, 0))) := heap_alloc_new w4 _
  go_wp2_with fail
  refine (gl qt (by simp [fs]) (by decide) (H4.out.below me.out)).mono ?_
  rintro e w5 ⟨x, rfl, h5, m5⟩
  have H5 := aa h5
  have Th := aa ((Mv.of (b := b) me.out).trans m5)
  have Y5 := aa (af Y4.out m5 (by omega))
  clear h5 m5
  go_wp2_with fail
  refine (cj H5.out).mono ?_
  rintro e w6 ⟨rfl, h6, m6⟩
  have H6 := aa h6
  have Mb := aa (Th.out.trans m6)
  have y6 := af Y5.out m6 (by omega)
  have Y6 := aa y6
  have X6 := aa (af X4.out Mb.out (by omega))
  have sS := Mb.out.size
  have UA := ad y6
  obtain ⟨⟨v0, v1, v2, v3, v4, v5⟩, -⟩ := aG y6
  have ma : Hid (∀ ts2, (nxt (some ts.tail) ex).bind (ar qt) = some ts2 -> ts2.length <= n) := fun ts2 e => by
   obtain ⟨q, e1, e2⟩ := Option.bind_eq_some_iff.1 e
   have e3 : (ex ts.tail).map (·.2) = some q := e1
   obtain ⟨⟨p, q'⟩, e5, e6⟩ := Option.map_eq_some_iff.1 e3
   cases e6
   have h1 := (HD.out _ _ _ (bG HS.out (dr.out ts rfl) (by decide)).1 e5).2
   have h2 := aQ e2
   simp only at h2
   omega
  have eH : Hid (∀ W, Below w6.heap.size w6 W -> Calls Tryz.prog 148 #[.pointer (some ⟨b, 0, none⟩)] W (AE 2 A b d W ((nxt (some ts.tail) ex).bind (ar qt)) (aP (ff ex)))) := fun W hW => BR (H6.out.below hW) (fun ts' e => by have := ma.out ts' e; omega) (JC (HE.out ts rfl) HD.out) (nm HD.out)
  have aR : Hid (Below w6.heap.size w6 w6.drew) := (U4 w6).drew
  have bD : Hid (Below w6.heap.size w6 (w6.drew.alloc (.cells #[.int .i64 i0, .string i1, .int .i64 i2, .slice j1 k1 l1, .slice j2 k2 l2, .slice j3 k3 l3] 34))) := (U4 w6).drew.alloc U0 _
  have dc : Hid (Below w6.heap.size w6 (w6.alloc (.cells #[.int .i64 i0, .string i1, .int .i64 i2, .slice j1 k1 l1, .slice j2 k2 l2, .slice j3 k3 l3] 34)).drew) := ((U4 w6).alloc U0 _).drew
  have cA : ¬ w4.heap.size = b := by omega
  have bZ : ¬ w.heap.size = b := by omega
  clear h6 m6 y6
  go_upto_region 12 with fail
  go_region_with (first
   | (go_at_call 148; (with_reducible refine Calls.mono (eH.out _ (by first | exact aR.out | exact bD.out | exact dc.out)) ?_); rintro e w7 ⟨ao, an, ac, rfl, h7, m7, g7⟩; have H7 := aa h7; have M7 := aa m7; have G7 := aa g7; have MH := af X6.out ((Mv.of (b := b) (by first | exact aR.out | exact bD.out | exact dc.out)).trans m7) bZ; have X7 := aa MH; have R6 := ad MH; have Lr := af Y6.out ((Mv.of (b := b) (by first | exact aR.out | exact bD.out | exact dc.out)).trans m7) cA; have UO := ad Lr; obtain ⟨⟨z0, z1, z2, z3, z4, z5⟩, -⟩ := aG Lr; obtain ⟨⟨u0, u1, u2, u3, u4, u5⟩, d0, d1, d2, d3, d4, d5⟩ := aG MH; clear h7 m7 g7 MH Lr))
  all_goals
   first
   | (have Lh : Mv b w6.drew w7 := by with_reducible exact M7.out
      clear Lh
      go_wp2
      refine bodyPost_ret (v := .agg #[.int .i64 7, .string ⟨#[]⟩, .int .i64 0, .slice (some ⟨w7.heap.size, 0, none⟩) 1 1, .slice none 0 0, .slice ao an ac]) (results_cell_row rfl _ _ w.heap.size 34 _ (0, 0) _ rfl (cT (aZ X7.out _ _ _ _ _ _)) Tryz.underlying34 rfl (by kernel_rfl)) rfl ?_
      have hb : Below w7.heap.size w7 (w7.alloc (.cells #[.int .i64 i0, .string i1, .int .i64 i2, .slice j1 k1 l1, .slice j2 k2 l2, .slice j3 k3 l3] 34)) := (U4 w7).alloc U0 _
      have e9 := lb R6 (.int .i64 7) (.string ⟨#[]⟩) (.int .i64 0) (.slice (some ⟨w7.heap.size, 0, none⟩) 1 1) (.slice none 0 0) (.slice ao an ac) (.cells #[.int .i64 i0, .string i1, .int .i64 i2, .slice j1 k1 l1, .slice j2 k2 l2, .slice j3 k3 l3] 34)
      have BX : Mv b w4 w7 := (Mb.out.trans (Mv.drew b w6)).trans M7.out
      have Jc : w6.heap.size <= w7.heap.size := M7.out.size
      have ew := fp (r := some ts) (one := aJ ex de) au HA.out (V := w7.alloc (.cells #[.int .i64 i0, .string i1, .int .i64 i2, .slice j1 k1 l1, .slice j2 k2 l2, .slice j3 k3 l3] 34)) (by
       show St A b _ d ((aJ ex de ts).map (·.2))
       rw [sO (eI.out ts rfl) (lm.out ts rfl) HS.out, uG]
       exact H7.out.below hb) ((M4.out.trans BX).trans (Mv.of hb)) (uj (u1 := w4.heap.size) (u2 := w6.heap.size) (u3 := w7.heap.size) (eI.out ts rfl) (lm.out ts rfl) HS.out (dr.out ts rfl) ((G4.out.keep (bv BX (by omega) U0) (by omega) U0).keep (aw hb (by omega)) U0 U0) (G7.out.keep (aw hb U0) U0 U0) (heap_alloc_new w7 _) (by omega) (by omega) sS Jc (by simp) (.inr U0)) ⟨_, _, _, _, _, _, _, _, _, _, _, _, rfl⟩
      rw [<- e9] at ew
      exact ew)
   | (go_wp2
      refine bodyPost_ret (v := .agg #[.int .i64 7, .string ⟨#[]⟩, .int .i64 0, .slice (some ⟨w6.heap.size, 0, none⟩) 1 1, .slice none 0 0, .slice ao an ac]) (results_cell_row rfl _ _ w.heap.size 34 _ (0, 0) _ rfl (aZ X7.out _ _ _ _ _ _) Tryz.underlying34 rfl (by kernel_rfl)) rfl ?_
      have OW : Mv b w6 w7 := (Mv.of dc.out).trans M7.out
      have cF : w7.heap[w6.heap.size]? = some (.cells #[.int .i64 i0, .string i1, .int .i64 i2, .slice j1 k1 l1, .slice j2 k2 l2, .slice j3 k3 l3] 34 (0, 0)) := (M7.out.block w6.heap.size ⟨by show _ < (w6.alloc _).heap.size; simp, by omega⟩).trans (heap_alloc_new w6 _)
      have BX : Mv b w4 w7 := Mb.out.trans OW
      have Jc : w6.heap.size + 1 <= w7.heap.size := ad cF
      exact fp (r := some ts) (one := aJ ex de) au HA.out (V := w7) (by
       show St A b _ d ((aJ ex de ts).map (·.2))
       rw [sO (eI.out ts rfl) (lm.out ts rfl) HS.out, uG]
       exact H7.out) (M4.out.trans BX) (uj (u1 := w4.heap.size) (u2 := w6.heap.size + 1) (u3 := w7.heap.size) (eI.out ts rfl) (lm.out ts rfl) HS.out (dr.out ts rfl) (G4.out.keep (bv BX (by omega) U0) (by omega) U0) (G7.out.keep (fun _ _ _ => rfl) (by show _ <= (w6.alloc _).heap.size; simp) U0) cF (by omega) sS (by omega) Jc U0 (.inl (Nat.lt_succ_self _))) ⟨_, _, _, _, _, _, _, _, _, _, _, _, rfl⟩)
 have lr : Hid (∀ ts, r = some ts -> cg ts jb = false) := hs
 have H3 := aa h3
 clear hs h3
 go_wp2_with fail
 refine (gl Am (by simp [fs]) (by decide) H3.out).mono ?_
 rintro e w4 ⟨x, rfl, h4, m4⟩
 have M4 := aa (M3.out.trans m4)
 have X4 := aa (af X3.out m4 (by omega))
 clear m4
 rcases h4 with ⟨rfl, ts, rfl, hs, h4⟩ | ⟨rfl, hs, h4⟩
 ·have HS := aa hs
  have H4 := aa h4
  have mQ := HN.out ts rfl
  have om := (bG hs (dr.out ts rfl) (by decide)).2
  have CW := ad X4.out
  clear hs h4
  go_wp2_with fail
  refine ((HE.out ts rfl) w4 (some ts.tail) H4.out (fun ts' e => by cases e; omega)).mono ?_
  rintro e w5 ⟨cs, rfl, hFx, h5, m5, g5⟩
  have H5 := aa h5
  have M5 := aa (M4.out.trans m5)
  have G5 := aa g5
  have X5 := aa (af X4.out m5 (by omega))
  have E2 := m5.size
  have Ms := ad X5.out
  obtain ⟨i0, i1, i2, j1, k1, l1, j2, k2, l2, j3, k3, l3, rfl⟩ := hFx
  clear h5 m5 g5
  have tq : Hid (Below w5.heap.size w5 (w5.alloc (.cells #[.int .i64 i0, .string i1, .int .i64 i2, .slice j1 k1 l1, .slice j2 k2 l2, .slice j3 k3 l3] 34))) := (U4 w5).alloc U0 _
  have Y5 : Hid ((w5.alloc (.cells #[.int .i64 i0, .string i1, .int .i64 i2, .slice j1 k1 l1, .slice j2 k2 l2, .slice j3 k3 l3] 34)).heap[w5.heap.size]? = some (.cells #[.int .i64 i0, .string i1, .int .i64 i2, .slice j1 k1 l1, .slice j2 k2 l2, .slice j3 k3 l3] 34 (0, 0))) := heap_alloc_new w5 _
  go_wp2_with fail
  refine (gl di (by simp [fs]) (by decide) (H5.out.below tq.out)).mono ?_
  rintro e w6 ⟨x, rfl, h6, m6⟩
  have H6 := aa h6
  have O9 := aa m6
  clear h6 m6
  go_wp2_with fail
  refine (cj H6.out).mono ?_
  rintro e w7 ⟨rfl, h7, m7⟩
  have H7 := aa h7
  have Jio := aa (O9.out.trans m7)
  have Y7 := aa (af Y5.out Jio.out (by omega))
  have QU := aa ((Mv.of (b := b) tq.out).trans Jio.out)
  have Jc := QU.out.size
  have Lr := ad Y7.out
  have ma : Hid (∀ ts2, (nxt (some ts.tail) ex).bind (ar di) = some ts2 -> ts2.length <= n /\ Ends ts2) := fun ts2 e => by
   obtain ⟨q, e1, e2⟩ := Option.bind_eq_some_iff.1 e
   have e3 : (ex ts.tail).map (·.2) = some q := e1
   obtain ⟨⟨p, q'⟩, e5, e6⟩ := Option.map_eq_some_iff.1 e3
   cases e6
   obtain ⟨g1, h1⟩ := HD.out _ _ _ (bG HS.out (dr.out ts rfl) (by decide)).1 e5
   obtain ⟨g2, h2⟩ := cH (by decide) g1 e2
   (try simp only at h2)
   exact ⟨by omega, g2⟩
  clear h7 m7
  go_wp2_with fail
  refine ((HE.out ts rfl) w7 _ H7.out (fun ts2 e => (ma.out ts2 e).1)).mono ?_
  rintro e w8 ⟨cs, rfl, hFx, h8, m8, g8⟩
  have H8 := aa h8
  have Qy := aa (QU.out.trans m8)
  have G8 := aa g8
  have Y8 := aa (af Y7.out m8 (by omega))
  have QT := m8.size
  obtain ⟨i3, i4, i5, j4, k4, l4, j5, k5, l5, j6, k6, l6, rfl⟩ := hFx
  clear h8 m8 g8
  have Lz : Hid (Below w8.heap.size w8 (w8.alloc (.cells #[.int .i64 i3, .string i4, .int .i64 i5, .slice j4 k4 l4, .slice j5 k5 l5, .slice j6 k6 l6] 34))) := (U4 w8).alloc U0 _
  have Z8 : Hid ((w8.alloc (.cells #[.int .i64 i3, .string i4, .int .i64 i5, .slice j4 k4 l4, .slice j5 k5 l5, .slice j6 k6 l6] 34)).heap[w8.heap.size]? = some (.cells #[.int .i64 i3, .string i4, .int .i64 i5, .slice j4 k4 l4, .slice j5 k5 l5, .slice j6 k6 l6] 34 (0, 0))) := heap_alloc_new w8 _
  go_wp2_with fail
  refine (gl dJ (by simp [fs]) (by decide) (H8.out.below Lz.out)).mono ?_
  rintro e w9 ⟨x2, rfl, h9, m9⟩
  have H9 := aa h9
  have SV := aa m9
  clear h9 m9
  go_wp2_with fail
  refine (cj H9.out).mono ?_
  rintro e w10 ⟨rfl, wQ, m10⟩
  have OT := aa wQ
  have KF := aa (SV.out.trans m10)
  have EP := aa ((Mv.of (b := b) Lz.out).trans KF.out)
  have O4 := EP.out.size
  have Mg := af Z8.out KF.out (by omega)
  have zz := af Y8.out EP.out (by omega)
  have Rv := aa Mg
  have QJ := aa zz
  have Ni := aa (af X5.out (Qy.out.trans EP.out) (by omega))
  obtain ⟨⟨v0, v1, v2, v3, v4, v5⟩, -⟩ := aG zz
  obtain ⟨⟨q0, q1, q2, q3, q4, q5⟩, -⟩ := aG Mg
  have UT := ad Mg
  have UF := ad zz
  have zj : Hid (∀ ts2, (nxt ((nxt (some ts.tail) ex).bind (ar di)) ex).bind (ar dJ) = some ts2 -> ts2.length <= n) := fun ts2 e => by
   obtain ⟨q, e1, e2⟩ := Option.bind_eq_some_iff.1 e
   obtain ⟨ts3, e3, e4⟩ := Option.bind_eq_some_iff.1 e1
   obtain ⟨⟨p, q'⟩, e5, e6⟩ := Option.map_eq_some_iff.1 e4
   cases e6
   obtain ⟨a1, a2⟩ := ma.out ts3 e3
   obtain ⟨g1, h1⟩ := HD.out _ _ _ a2 e5
   have h2 := aQ e2
   simp only at h2
   omega
  have eH : Hid (Calls Tryz.prog 42 #[.pointer (some ⟨b, 0, none⟩)] w10.drew (ResE A b d w10.drew ((nxt ((nxt (some ts.tail) ex).bind (ar di)) ex).bind (ar dJ)) ex)) := (HE.out ts rfl) _ _ (OT.out.below (U4 w10).drew) zj.out
  have cA : ¬ w5.heap.size = b := by omega
  have bZ : ¬ w.heap.size = b := by omega
  have vj : ¬ w8.heap.size = b := by omega
  clear wQ m10 zz Mg
  go_upto_region 18 with fail
  go_region_with (go_at_call 42; (with_reducible refine Calls.mono eH.out ?_); rintro e w11 ⟨cs, rfl, hFx, Md, m11, g11⟩; have Ta := aa Md; have K5 := aa ((Mv.drew b w10).trans m11); have Sq := aa g11; obtain ⟨i6, i7, i8, j7, k7, l7, j8, k8, l8, j9, k9, l9, rfl⟩ := hFx; have EK := af Ni.out K5.out bZ; have Rq := aa EK; have MT := ad EK; have IB := af QJ.out K5.out cA; have Rn := ad IB; have E8 := af Rv.out K5.out vj; have Rk := ad E8; obtain ⟨⟨c0, c1, c2, c3, c4, c5⟩, -⟩ := aG IB; obtain ⟨⟨b0, b1, b2, b3, b4, b5⟩, -⟩ := aG E8; obtain ⟨⟨u0, u1, u2, u3, u4, u5⟩, d0, d1, d2, d3, d4, d5⟩ := aG EK; clear Md m11 g11 EK IB E8)
  all_goals
   go_wp2
   refine bodyPost_ret (v := .agg #[.int .i64 8, .string ⟨#[]⟩, .int .i64 0, .slice (some ⟨w11.heap.size, 0, none⟩) 3 3, .slice none 0 0, .slice none 0 0]) (results_cell_row rfl _ _ w.heap.size 34 _ (0, 0) _ rfl (cT (aZ Rq.out _ _ _ _ _ _)) Tryz.underlying34 rfl (by kernel_rfl)) rfl ?_
   have hb : Below w11.heap.size w11 (w11.alloc (.cells #[.int .i64 i0, .string i1, .int .i64 i2, .slice j1 k1 l1, .slice j2 k2 l2, .slice j3 k3 l3, .int .i64 i3, .string i4, .int .i64 i5, .slice j4 k4 l4, .slice j5 k5 l5, .slice j6 k6 l6, .int .i64 i6, .string i7, .int .i64 i8, .slice j7 k7 l7, .slice j8 k8 l8, .slice j9 k9 l9] 34)) := (U4 w11).alloc U0 _
   have e9 := lb MT (.int .i64 8) (.string ⟨#[]⟩) (.int .i64 0) (.slice (some ⟨w11.heap.size, 0, none⟩) 3 3) (.slice none 0 0) (.slice none 0 0) (.cells #[.int .i64 i0, .string i1, .int .i64 i2, .slice j1 k1 l1, .slice j2 k2 l2, .slice j3 k3 l3, .int .i64 i3, .string i4, .int .i64 i5, .slice j4 k4 l4, .slice j5 k5 l5, .slice j6 k6 l6, .int .i64 i6, .string i7, .int .i64 i8, .slice j7 k7 l7, .slice j8 k8 l8, .slice j9 k9 l9] 34)
   have PV : Mv b w8 w11 := EP.out.trans K5.out
   have LY : Mv b w5 w11 := Qy.out.trans PV
   have E8 : w10.heap.size <= w11.heap.size := K5.out.size
   have ew := fp (r := some ts) (one := aJ ex de) au HA.out (V := w11.alloc (.cells #[.int .i64 i0, .string i1, .int .i64 i2, .slice j1 k1 l1, .slice j2 k2 l2, .slice j3 k3 l3, .int .i64 i3, .string i4, .int .i64 i5, .slice j4 k4 l4, .slice j5 k5 l5, .slice j6 k6 l6, .int .i64 i6, .string i7, .int .i64 i8, .slice j7 k7 l7, .slice j8 k8 l8, .slice j9 k9 l9] 34)) (by
    show St A b _ d ((aJ ex de ts).map (·.2))
    rw [xz (eI.out ts rfl) (lm.out ts rfl) (lr.out ts rfl) HS.out, GA]
    exact Ta.out.below hb) ((M5.out.trans LY).trans (Mv.of hb)) (FP (u1 := w5.heap.size) (u2 := w8.heap.size) (u3 := w11.heap.size) (eI.out ts rfl) (lm.out ts rfl) (lr.out ts rfl) HS.out (dr.out ts rfl) ((G5.out.keep (bv LY (by omega) U0) (by omega) U0).keep (aw hb (by omega)) U0 U0) ((G8.out.keep (bv PV (by omega) U0) Jc U0).keep (aw hb (by omega)) U0 U0) (Sq.out.keep (aw hb U0) O4 U0) (heap_alloc_new w11 _) (by omega) (by omega) (by omega) U0) ⟨_, _, _, _, _, _, _, _, _, _, _, _, rfl⟩
   rw [<- e9] at ew
   exact ew
 have mX : Hid (∀ ts, r = some ts -> cg ts Am = false) := hs
 have H4 := aa h4
 have CW := ad X4.out
 clear hs h4
 go_wp2_with fail
 refine (Ex H4.out HN.out HE.out HD.out).mono ?_
 rintro e w5 ⟨cs, rfl, hFx, h5, m5, g5⟩
 have H5 := aa h5
 have M5 := aa (M4.out.trans m5)
 have G5 := aa g5
 have x5 := af X4.out m5 (by omega)
 have X5 := aa x5
 have E2 := m5.size
 obtain ⟨i0, i1, i2, j1, k1, l1, j2, k2, l2, j3, k3, l3, rfl⟩ := hFx
 obtain ⟨⟨u0, u1, u2, u3, u4, u5⟩, d0, d1, d2, d3, d4, d5⟩ := aG x5
 have Ms := ad x5
 clear h5 m5 g5 x5
 go_wp2
 refine bodyPost_ret (v := .agg #[.int .i64 i0, .string i1, .int .i64 i2, .slice j1 k1 l1, .slice j2 k2 l2, .slice j3 k3 l3]) ?_ rfl ?_
 ·exact results_cell_row rfl _ _ w.heap.size 34 _ (0, 0) _ rfl (aZ X5.out _ _ _ _ _ _) Tryz.underlying34 rfl (by kernel_rfl)
 ·have hw : ∀ ts, r = some ts -> aJ ex de ts = fD ex ts := fun ts e => D6 (eI.out ts e) (lm.out ts e) (lr.out ts e) (mX.out ts e)
  refine fp au HA.out ?_ M5.out (fun ts t rest e1 e2 => ?_) ⟨_, _, _, _, _, _, _, _, _, _, _, _, rfl⟩
  ·have e9 : nxt r (aJ ex de) = nxt r (fD ex) := by
    cases r with
    | none => rfl
    | some ts =>
     show (aJ ex de ts).map (·.2) = (fD ex ts).map (·.2)
     rw [hw ts rfl]
   rw [e9]
   exact H5.out
  ·rw [hw ts e1] at e2
   obtain ⟨n1, q1, q2⟩ := G5.out ts t rest e1 e2
   exact ⟨n1, q1, q2.up (by omega) U0 U0⟩
end
end Go.Proofs.YtfomndilhlgikajGreatDoor.Rd
namespace Go.Proofs.YtfomndilhlgikajGreatDoor.Rd
open Go.ChangeShapes Go.WideShapes Go.ChangeAt Go.RowKit
section
variable {A : Arr} {b d : Nat} {w : World} {r : Option (List TokZ)}
theorem Sr.deep {ts : List TokZ} (h : Sr A b w d ts) (d' : Nat) : Sr A b (w.setCell ⟨b, 2, none⟩ (.int .i64 d')) d' ts := by
 obtain ⟨p, h0, h1, h2, h3, h4⟩ := h
 refine ⟨p, ?_, h1, cw h2 (by simp) fun _ => az _ h3, h3, h4⟩
 have h9 := ae (j := 2) (Value.int .i64 d') h0
 simpa using h9
theorem Sr.cell2 {ts : List TokZ} (h : Sr A b w d ts) : w.cell? ⟨b, 2, none⟩ = some (.int .i64 d) /\ w.frozen? ⟨b, 2, none⟩ = false /\ w.frozen? ⟨b, 3, none⟩ = false /\ w.cell? ⟨b, 3, none⟩ = some (.bool false) := by
 obtain ⟨p, h0, -⟩ := h
 exact ⟨cell_of h0 2, aj h0 2, aj h0 3, cell_of h0 3⟩
theorem Sb.cell2 (h : Sb b w) : ∃ d, w.cell? ⟨b, 2, none⟩ = some (.int .i64 d) /\ w.frozen? ⟨b, 2, none⟩ = false /\ w.frozen? ⟨b, 3, none⟩ = false /\ w.cell? ⟨b, 3, none⟩ = some (.bool true) /\ ∀ q, Sb b (w.setCell ⟨b, 2, none⟩ (.int .i64 q)) := by
 obtain ⟨o, n, cap, p, d, h0⟩ := h
 exact ⟨d, cell_of h0 2, aj h0 2, aj h0 3, cell_of h0 3, fun q => Sb.deep h0⟩
def kq (ex de : bF) (d : Nat) : bF := fun ts => if d < 60 then aJ ex de ts else none
theorem mm {w2 : World} {v : Value} {one : bF} {c0 c1 c2 c3 c4 c5 : Value} (au : b < w.heap.size) (hA : AG A w r) (hX : w2.heap[w.heap.size]? = some (.cells zE 34 (0, 0))) (hM : Mv b w w2) (fE : St A b (w2.setCell ⟨b, 2, none⟩ v) d (nxt r one)) (hG : Got w2 (w.heap.size + 1) w2.heap.size 0 r one [c0, c1, c2, c3, c4, c5]) (hF : Fx [c0, c1, c2, c3, c4, c5]) (o : Obj) : ResE A b d w r one (.returned (.agg #[c0, c1, c2, c3, c4, c5])) ((jp (w2.setCell ⟨b, 2, none⟩ v) w.heap.size c0 c1 c2 c3 c4 c5).alloc o) /\ ((jp (w2.setCell ⟨b, 2, none⟩ v) w.heap.size c0 c1 c2 c3 c4 c5).alloc o).heap[w.heap.size]? = some (.cells #[c0, c1, c2, c3, c4, c5] 34 (0, 0)) := by
 have mY : (w2.setCell ⟨b, 2, none⟩ v).heap[w.heap.size]? = some (.cells zE 34 (0, 0)) := (az v (by omega)).trans hX
 have UB : Got (w2.setCell ⟨b, 2, none⟩ v) (w.heap.size + 1) (w2.setCell ⟨b, 2, none⟩ v).heap.size 0 r one [c0, c1, c2, c3, c4, c5] := hG.keep (fun k a1 a2 => az v (by omega)) U0 (by simp)
 exact ⟨(fp au hA fE (hM.trans (Mv.set b 2 _ _)) UB hF).alloc o, cT (aZ mY _ _ _ _ _ _)⟩
theorem xg (h : Sb b w) (ex de : bF) : Calls Tryz.prog 42 #[.pointer (some ⟨b, 0, none⟩)] w (ResE A b d w none (kq ex de d)) := by
 have au := h.lt
 have HA : Hid (AG A w none) := fun ts' e => by cases e
 have H := aa h
 obtain ⟨q0, x2, f2, f3, x3, ot⟩ := h.cell2
 have fW : Hid (nxt none (kq ex de d) = none) := rfl
 have bR : ¬ w.heap.size = b := by omega
 have IN : Hid (bC (fun _ => none)) := fun _ _ _ _ e => by cases e
 by_cases h60 : 60 < wrap64 (q0 + 1)
 ·have kH : Hid (Sb b (((w.setCell ⟨b, 2, none⟩ (.int .i64 (wrap64 (q0 + 1)))).setCell ⟨b, 3, none⟩ (.bool true)).alloc (.cells zE 34))) := by
   obtain ⟨o, n, cap, p, d', h0⟩ := ot (wrap64 (q0 + 1))
   exact Sb.below (Sb.set h0) ((U4 _).alloc U0 _)
  have M0 : Hid (Mv b w (((w.setCell ⟨b, 2, none⟩ (.int .i64 (wrap64 (q0 + 1)))).setCell ⟨b, 3, none⟩ (.bool true)).alloc (.cells zE 34))) := ((Mv.set b 2 _ _).trans (Mv.set b 3 _ _)).trans (Mv.alloc b _ _)
  have S0 : Hid ((((w.setCell ⟨b, 2, none⟩ (.int .i64 (wrap64 (q0 + 1)))).setCell ⟨b, 3, none⟩ (.bool true)).alloc (.cells zE 34)).heap.size = w.heap.size + 1) := aa (by simp)
  have X0 : Hid ((((w.setCell ⟨b, 2, none⟩ (.int .i64 (wrap64 (q0 + 1)))).setCell ⟨b, 3, none⟩ (.bool true)).alloc (.cells zE 34)).heap[w.heap.size]? = some (.cells zE 34 (0, 0))) := by
   have h9 := heap_alloc_new ((w.setCell ⟨b, 2, none⟩ (.int .i64 (wrap64 (q0 + 1)))).setCell ⟨b, 3, none⟩ (.bool true)) (.cells zE 34)
   have e9 : ((w.setCell ⟨b, 2, none⟩ (.int .i64 (wrap64 (q0 + 1)))).setCell ⟨b, 3, none⟩ (.bool true)).heap.size = w.heap.size := by simp
   rw [e9] at h9
   exact h9
  clear h ot
  go_enter Tryz.func42, Tryz.ntmps42
  go_wp2_with fail
  refine (kP (A := A) (d := d) (r := none) (ex := fun _ => none) (de := fun _ => none) (n := 0) kH.out (fun _ e => by cases e) (fun _ e => by cases e) (fun _ e => by cases e) IN.out IN.out).mono ?_
  rintro e w2 ⟨cs, rfl, hFx, h2, m2, g2⟩
  have M2 := aa (M0.out.trans m2)
  have X2 := aa (af X0.out m2 (by omega))
  have mY := ad X2.out
  have iM := m2.size
  have G2 : Hid (Got w2 (w.heap.size + 1) w2.heap.size 0 none (aJ (fun _ => none) (fun _ => none)) cs) := g2.keep (fun _ _ _ => rfl) (Nat.le_of_eq S0.out.symm) U0
  obtain ⟨i0, i1, i2, j1, k1, l1, j2, k2, l2, j3, k3, l3, rfl⟩ := hFx
  obtain ⟨⟨u0, u1, u2, u3, u4, u5⟩, d0, d1, d2, d3, d4, d5⟩ := aG X2.out
  have fX : b < w2.heap.size := by omega
  have H2 := aa h2
  clear h2 m2 g2
  have zd : Hid (Sb b w2) := H2.out
  obtain ⟨q, y2, yf, -, -, hq⟩ := Sb.cell2 zd.out
  have HQ := aa hq
  clear hq
  go_wp2
  obtain ⟨ew, hheap⟩ := mm (A := A) (d := d) (r := none) (one := kq ex de d) au HA.out X2.out M2.out (v := .int .i64 (wrap64 (q - 1))) (fW.out ▸ HQ.out _) (fun ts t rest e1 _ => by cases e1) ⟨_, _, _, _, _, _, _, _, _, _, _, _, rfl⟩ (.cells #[.int .i64 i0, .string i1, .int .i64 i2, .slice j1 k1 l1, .slice j2 k2 l2, .slice j3 k3 l3] 34)
  exact bodyPost_ret (v := .agg #[.int .i64 i0, .string i1, .int .i64 i2, .slice j1 k1 l1, .slice j2 k2 l2, .slice j3 k3 l3]) (results_cell_row rfl _ _ w.heap.size 34 _ (0, 0) _ rfl hheap Tryz.underlying34 rfl (by kernel_rfl)) rfl ew
 ·have kH : Hid (Sb b ((w.setCell ⟨b, 2, none⟩ (.int .i64 (wrap64 (q0 + 1)))).alloc (.cells zE 34))) := Sb.below (ot (wrap64 (q0 + 1))) ((U4 _).alloc U0 _)
  have M0 : Hid (Mv b w ((w.setCell ⟨b, 2, none⟩ (.int .i64 (wrap64 (q0 + 1)))).alloc (.cells zE 34))) := (Mv.set b 2 _ _).trans (Mv.alloc b _ _)
  have S0 : Hid (((w.setCell ⟨b, 2, none⟩ (.int .i64 (wrap64 (q0 + 1)))).alloc (.cells zE 34)).heap.size = w.heap.size + 1) := aa (by simp)
  have X0 : Hid (((w.setCell ⟨b, 2, none⟩ (.int .i64 (wrap64 (q0 + 1)))).alloc (.cells zE 34)).heap[w.heap.size]? = some (.cells zE 34 (0, 0))) := by
   have h9 := heap_alloc_new (w.setCell ⟨b, 2, none⟩ (.int .i64 (wrap64 (q0 + 1)))) (.cells zE 34)
   have e9 : (w.setCell ⟨b, 2, none⟩ (.int .i64 (wrap64 (q0 + 1)))).heap.size = w.heap.size := by simp
   rw [e9] at h9
   exact h9
  clear h ot
  go_enter Tryz.func42, Tryz.ntmps42
  go_wp2_with fail
  refine (kP (A := A) (d := d) (r := none) (ex := fun _ => none) (de := fun _ => none) (n := 0) kH.out (fun _ e => by cases e) (fun _ e => by cases e) (fun _ e => by cases e) IN.out IN.out).mono ?_
  rintro e w2 ⟨cs, rfl, hFx, h2, m2, g2⟩
  have M2 := aa (M0.out.trans m2)
  have X2 := aa (af X0.out m2 (by omega))
  have mY := ad X2.out
  have iM := m2.size
  have G2 : Hid (Got w2 (w.heap.size + 1) w2.heap.size 0 none (aJ (fun _ => none) (fun _ => none)) cs) := g2.keep (fun _ _ _ => rfl) (Nat.le_of_eq S0.out.symm) U0
  obtain ⟨i0, i1, i2, j1, k1, l1, j2, k2, l2, j3, k3, l3, rfl⟩ := hFx
  obtain ⟨⟨u0, u1, u2, u3, u4, u5⟩, d0, d1, d2, d3, d4, d5⟩ := aG X2.out
  have fX : b < w2.heap.size := by omega
  have H2 := aa h2
  clear h2 m2 g2
  have zd : Hid (Sb b w2) := H2.out
  obtain ⟨q, y2, yf, -, -, hq⟩ := Sb.cell2 zd.out
  have HQ := aa hq
  clear hq
  go_wp2
  obtain ⟨ew, hheap⟩ := mm (A := A) (d := d) (r := none) (one := kq ex de d) au HA.out X2.out M2.out (v := .int .i64 (wrap64 (q - 1))) (fW.out ▸ HQ.out _) (fun ts t rest e1 _ => by cases e1) ⟨_, _, _, _, _, _, _, _, _, _, _, _, rfl⟩ (.cells #[.int .i64 i0, .string i1, .int .i64 i2, .slice j1 k1 l1, .slice j2 k2 l2, .slice j3 k3 l3] 34)
  exact bodyPost_ret (v := .agg #[.int .i64 i0, .string i1, .int .i64 i2, .slice j1 k1 l1, .slice j2 k2 l2, .slice j3 k3 l3]) (results_cell_row rfl _ _ w.heap.size 34 _ (0, 0) _ rfl hheap Tryz.underlying34 rfl (by kernel_rfl)) rfl ew
theorem BB {ex de : bF} {n : Nat} {ts : List TokZ} (h : Sr A b w d ts) (hn : ts.length <= n + 1) (hd : d <= 60) (hE : d < 60 -> CE A b (d + 1) n ex) (hC : d < 60 -> CD A b (d + 1) n de) (hD : bC ex) (hDD : bC de) : Calls Tryz.prog 42 #[.pointer (some ⟨b, 0, none⟩)] w (ResE A b d w (some ts) (kq ex de d)) := by
 have au := h.lt
 have ec := h.glt
 have HA : Hid (AG A w (some ts)) := fun ts' e => by cases e; exact ec
 have HE := aa hE
 have HC := aa hC
 have HD := aa hD
 have wJ := aa hDD
 obtain ⟨x2, f2, f3, x3⟩ := h.cell2
 have bR : ¬ w.heap.size = b := by omega
 have Dx : Sr A b (w.setCell ⟨b, 2, none⟩ (.int .i64 ((d : Int) + 1))) (d + 1) ts := by
  have h9 := h.deep (d + 1)
  rwa [show (((d + 1 : Nat)) : Int) = (d : Int) + 1 by omega] at h9
 by_cases Fu : d < 60
 ·have kH : Hid (Sr A b ((w.setCell ⟨b, 2, none⟩ (.int .i64 ((d : Int) + 1))).alloc (.cells zE 34)) (d + 1) ts) := Dx.below ((U4 _).alloc U0 _)
  have M0 : Hid (Mv b w ((w.setCell ⟨b, 2, none⟩ (.int .i64 ((d : Int) + 1))).alloc (.cells zE 34))) := (Mv.set b 2 _ _).trans (Mv.alloc b _ _)
  have S0 : Hid (((w.setCell ⟨b, 2, none⟩ (.int .i64 ((d : Int) + 1))).alloc (.cells zE 34)).heap.size = w.heap.size + 1) := aa (by simp)
  have X0 : Hid (((w.setCell ⟨b, 2, none⟩ (.int .i64 ((d : Int) + 1))).alloc (.cells zE 34)).heap[w.heap.size]? = some (.cells zE 34 (0, 0))) := by
   have h9 := heap_alloc_new (w.setCell ⟨b, 2, none⟩ (.int .i64 ((d : Int) + 1))) (.cells zE 34)
   have e9 : (w.setCell ⟨b, 2, none⟩ (.int .i64 ((d : Int) + 1))).heap.size = w.heap.size := by simp
   rw [e9] at h9
   exact h9
  have L4 : ¬ ((d : Int) + 1 > 60) := by omega
  have CN : decide (60 < d + 1) = false := by simp; omega
  have Jr : Hid (kq ex de d ts = aJ ex de ts) := by
   show (if d < 60 then _ else _) = _
   rw [if_pos Fu]
  clear h hE hC hD hDD Dx
  go_enter Tryz.func42, Tryz.ntmps42
  go_wp2_with fail
  refine (kP (A := A) (d := d + 1) (r := some ts) (n := n) kH.out (fun _ e => by cases e; exact hn) (fun _ _ => HE.out Fu) (fun _ _ => HC.out Fu) HD.out wJ.out).mono ?_
  rintro e w2 ⟨cs, rfl, hFx, h2, m2, g2⟩
  have M2 := aa (M0.out.trans m2)
  have X2 := aa (af X0.out m2 (by omega))
  have mY := ad X2.out
  have iM := m2.size
  have G2 : Hid (Got w2 (w.heap.size + 1) w2.heap.size 0 (some ts) (aJ ex de) cs) := g2.keep (fun _ _ _ => rfl) (Nat.le_of_eq S0.out.symm) U0
  obtain ⟨i0, i1, i2, j1, k1, l1, j2, k2, l2, j3, k3, l3, rfl⟩ := hFx
  obtain ⟨⟨u0, u1, u2, u3, u4, u5⟩, d0, d1, d2, d3, d4, d5⟩ := aG X2.out
  have fX : b < w2.heap.size := by omega
  have H2 := aa h2
  clear h2 m2 g2
  have Qu : Hid (Got w2 (w.heap.size + 1) w2.heap.size 0 (some ts) (kq ex de d) [.int .i64 i0, .string i1, .int .i64 i2, .slice j1 k1 l1, .slice j2 k2 l2, .slice j3 k3 l3]) := fun ts' t rest e1 e2 => by
   cases e1
   rw [Jr.out] at e2
   exact G2.out ts t rest rfl e2
  cases zB : aJ ex de ts with
  | none =>
   have fW : Hid (nxt (some ts) (kq ex de d) = none) := by
    show (kq ex de d ts).map (·.2) = none
    rw [Jr.out, zB]
    rfl
   have zd : Hid (Sb b w2) := by
    have h9 : St A b w2 (d + 1) ((aJ ex de ts).map (·.2)) := H2.out
    rw [zB] at h9
    exact h9
   clear zB
   obtain ⟨q, y2, yf, -, -, hq⟩ := Sb.cell2 zd.out
   have HQ := aa hq
   clear hq
   go_wp2
   obtain ⟨ew, hheap⟩ := mm (A := A) (d := d) (r := some ts) (one := kq ex de d) au HA.out X2.out M2.out (v := .int .i64 (wrap64 (q - 1))) (fW.out ▸ HQ.out _) Qu.out ⟨_, _, _, _, _, _, _, _, _, _, _, _, rfl⟩ (.cells #[.int .i64 i0, .string i1, .int .i64 i2, .slice j1 k1 l1, .slice j2 k2 l2, .slice j3 k3 l3] 34)
   exact bodyPost_ret (v := .agg #[.int .i64 i0, .string i1, .int .i64 i2, .slice j1 k1 l1, .slice j2 k2 l2, .slice j3 k3 l3]) (results_cell_row rfl _ _ w.heap.size 34 _ (0, 0) _ rfl hheap Tryz.underlying34 rfl (by kernel_rfl)) rfl ew
  | some p =>
   have fW : Hid (nxt (some ts) (kq ex de d) = some p.2) := by
    show (kq ex de d ts).map (·.2) = some p.2
    rw [Jr.out, zB]
    rfl
   have O5 : Sr A b w2 (d + 1) p.2 := by
    have h9 : St A b w2 (d + 1) ((aJ ex de ts).map (·.2)) := H2.out
    rw [zB] at h9
    exact h9
   obtain ⟨y2, yf, -, -⟩ := O5.cell2
   have HQ : Hid (Sr A b (w2.setCell ⟨b, 2, none⟩ (.int .i64 (d : Int))) d p.2) := O5.deep d
   rw [show (((d + 1 : Nat)) : Int) = (d : Int) + 1 by omega] at y2
   clear zB O5
   go_wp2
   obtain ⟨ew, hheap⟩ := mm (A := A) (d := d) (r := some ts) (one := kq ex de d) au HA.out X2.out M2.out (v := .int .i64 (d : Int)) (by rw [fW.out]; exact HQ.out) Qu.out ⟨_, _, _, _, _, _, _, _, _, _, _, _, rfl⟩ (.cells #[.int .i64 i0, .string i1, .int .i64 i2, .slice j1 k1 l1, .slice j2 k2 l2, .slice j3 k3 l3] 34)
   exact bodyPost_ret (v := .agg #[.int .i64 i0, .string i1, .int .i64 i2, .slice j1 k1 l1, .slice j2 k2 l2, .slice j3 k3 l3]) (results_cell_row rfl _ _ w.heap.size 34 _ (0, 0) _ rfl hheap Tryz.underlying34 rfl (by kernel_rfl)) rfl ew
 ·have kH : Hid (Sb b (((w.setCell ⟨b, 2, none⟩ (.int .i64 ((d : Int) + 1))).setCell ⟨b, 3, none⟩ (.bool true)).alloc (.cells zE 34))) := by
   obtain ⟨p, h0, -⟩ := Dx
   exact Sb.below (Sb.set h0) ((U4 _).alloc U0 _)
  have Jr : Hid (kq ex de d ts = none) := by
   show (if d < 60 then _ else _) = _
   rw [if_neg Fu]
  have fW : Hid (nxt (some ts) (kq ex de d) = none) := by
   show (kq ex de d ts).map (·.2) = none
   rw [Jr.out]
   rfl
  have IN : Hid (bC (fun _ => none)) := fun _ _ _ _ e => by cases e
  have L4 : (d : Int) + 1 > 60 := by omega
  have CN : decide (60 < d + 1) = true := by simp; omega
  have M0 : Hid (Mv b w (((w.setCell ⟨b, 2, none⟩ (.int .i64 ((d : Int) + 1))).setCell ⟨b, 3, none⟩ (.bool true)).alloc (.cells zE 34))) := ((Mv.set b 2 _ _).trans (Mv.set b 3 _ _)).trans (Mv.alloc b _ _)
  have S0 : Hid ((((w.setCell ⟨b, 2, none⟩ (.int .i64 ((d : Int) + 1))).setCell ⟨b, 3, none⟩ (.bool true)).alloc (.cells zE 34)).heap.size = w.heap.size + 1) := aa (by simp)
  have X0 : Hid ((((w.setCell ⟨b, 2, none⟩ (.int .i64 ((d : Int) + 1))).setCell ⟨b, 3, none⟩ (.bool true)).alloc (.cells zE 34)).heap[w.heap.size]? = some (.cells zE 34 (0, 0))) := by
   have h9 := heap_alloc_new ((w.setCell ⟨b, 2, none⟩ (.int .i64 ((d : Int) + 1))).setCell ⟨b, 3, none⟩ (.bool true)) (.cells zE 34)
   have e9 : ((w.setCell ⟨b, 2, none⟩ (.int .i64 ((d : Int) + 1))).setCell ⟨b, 3, none⟩ (.bool true)).heap.size = w.heap.size := by simp
   rw [e9] at h9
   exact h9
  clear h hE hC hD hDD Dx
  go_enter Tryz.func42, Tryz.ntmps42
  go_wp2_with fail
  refine (kP (A := A) (d := d) (r := none) (ex := fun _ => none) (de := fun _ => none) (n := 0) kH.out (fun _ e => by cases e) (fun _ e => by cases e) (fun _ e => by cases e) IN.out IN.out).mono ?_
  rintro e w2 ⟨cs, rfl, hFx, h2, m2, g2⟩
  have M2 := aa (M0.out.trans m2)
  have X2 := aa (af X0.out m2 (by omega))
  have mY := ad X2.out
  have iM := m2.size
  have G2 : Hid (Got w2 (w.heap.size + 1) w2.heap.size 0 none (aJ (fun _ => none) (fun _ => none)) cs) := g2.keep (fun _ _ _ => rfl) (Nat.le_of_eq S0.out.symm) U0
  obtain ⟨i0, i1, i2, j1, k1, l1, j2, k2, l2, j3, k3, l3, rfl⟩ := hFx
  obtain ⟨⟨u0, u1, u2, u3, u4, u5⟩, d0, d1, d2, d3, d4, d5⟩ := aG X2.out
  have fX : b < w2.heap.size := by omega
  have H2 := aa h2
  clear h2 m2 g2
  have zd : Hid (Sb b w2) := H2.out
  obtain ⟨q, y2, yf, -, -, hq⟩ := Sb.cell2 zd.out
  have HQ := aa hq
  clear hq
  go_wp2
  obtain ⟨ew, hheap⟩ := mm (A := A) (d := d) (r := some ts) (one := kq ex de d) au HA.out X2.out M2.out (v := .int .i64 (wrap64 (q - 1))) (fW.out ▸ HQ.out _) (fun ts' t rest e1 e2 => by cases e1; rw [Jr.out] at e2; cases e2) ⟨_, _, _, _, _, _, _, _, _, _, _, _, rfl⟩ (.cells #[.int .i64 i0, .string i1, .int .i64 i2, .slice j1 k1 l1, .slice j2 k2 l2, .slice j3 k3 l3] 34)
  exact bodyPost_ret (v := .agg #[.int .i64 i0, .string i1, .int .i64 i2, .slice j1 k1 l1, .slice j2 k2 l2, .slice j3 k3 l3]) (results_cell_row rfl _ _ w.heap.size 34 _ (0, 0) _ rfl hheap Tryz.underlying34 rfl (by kernel_rfl)) rfl ew
end
theorem ResE.none {A : Arr} {b d : Nat} {w w' : World} {one one' : bF} {e : Ending} (h : ResE A b d w none one e w') : ResE A b d w none one' e w' := by
 obtain ⟨cs, h1, h2, h3, h4, -⟩ := h
 exact ⟨cs, h1, h2, h3, h4, fun ts t rest e1 _ => by cases e1⟩
theorem ResK.none {F : List Value -> Prop} {i : Nat} {A : Arr} {b d : Nat} {w w' : World} {one one' : bF} {e : Ending} (h : ResK F i A b d w none one e w') : ResK F i A b d w none one' e w' := by
 obtain ⟨cs, h1, h2, h3, h4, -⟩ := h
 exact ⟨cs, h1, h2, h3, h4, fun ts t rest e1 _ => by cases e1⟩
theorem GS (A : Arr) (b : Nat) : ∀ n, (∀ d, d <= 60 -> CE A b d n ((ps n).ex d)) /\ (∀ d, d <= 60 -> CD A b d n ((ps n).de d)) := by
 intro n
 induction n with
 | zero =>
  have h0 : ∀ d, CE A b d 0 ((ps 0).ex d) := fun d w r h hn => by
   cases r with
   | none => exact (xg h (fun _ => none) (fun _ => none)).mono fun e w' hr => ResE.none hr
   | some ts =>
    obtain ⟨t, q, rfl⟩ := (Sr.ends h).form
    have := hn _ rfl
    simp at this
  refine ⟨fun d _ => h0 d, fun d _ w r h hn => ?_⟩
  cases r with
  | none => exact (xe (n := 0) (de := (ps 0).de d) h (fun _ e => by cases e) (h0 d) (fun _ e => by cases e) ((f9 0).1 d) ((f9 0).2 d)).mono fun e w' hr => ResK.none hr
  | some ts =>
   obtain ⟨t, q, rfl⟩ := (Sr.ends h).form
   have := hn _ rfl
   simp at this
 | succ n ih =>
  obtain ⟨i1, i2⟩ := ih
  refine ⟨fun d hd w r h hn => ?_, fun d hd w r h hn => ?_⟩
  ·cases r with
   | none => exact (xg h (fun _ => none) (fun _ => none)).mono fun e w' hr => ResE.none hr
   | some ts => exact BB h (hn ts rfl) hd (fun h6 => i1 (d + 1) (by omega)) (fun h6 => i2 (d + 1) (by omega)) ((f9 n).1 _) ((f9 n).2 _)
  ·exact xe h hn (i1 d hd) (fun _ _ => i2 d hd) ((f9 n).1 d) ((f9 n).2 d)
def mp (s : ByteArray) : Option (Tr × List TokZ) := ((eW s).bind (ar df)).bind ((ps 900).ex 0)
theorem vH (s : ByteArray) : ch s = (mp s).bind fun p => if eg (some p.2) && vl p.1 then some p.1 else none := by
 unfold ch mp eW
 cases eh s with
 | false => rfl
 | true =>
  simp only [if_true]
  unfold onlyP
  show ((ar df (signs s)).bind _).bind _ = (((ar df (signs s))).bind _).bind _
  cases ar df (signs s) with
  | none => rfl
  | some r =>
   show (((ps 900).ex 0 r).bind _).bind _ = ((ps 900).ex 0 r).bind _
   cases (ps 900).ex 0 r with
   | none => rfl
   | some p =>
    show ((ar dZ p.2).bind _).bind _ = if eg (some p.2) && vl p.1 then some p.1 else none
    unfold eg
    show _ = if (match ar dZ p.2 with | some ts => isK ts 6 | none => false) && vl p.1 then some p.1 else none
    cases ar dZ p.2 with
    | none => rfl
    | some q => rfl
theorem AF (s : ByteArray) : nxt ((eW s).bind (ar df)) ((ps 900).ex 0) = (mp s).map Prod.snd := by
 unfold mp
 cases (eW s).bind (ar df) with
 | none => rfl
 | some r =>
  show nxt (some r) _ = (((ps 900).ex 0 r)).map Prod.snd
  exact rfl
theorem wa {s : ByteArray} {r : List TokZ} (h : (eW s).bind (ar df) = some r) : r.length <= 900 := by
 unfold eW at h
 split at h
 ·rename_i rZ
  unfold eh at rZ
  rw [Bool.and_eq_true] at rZ
  have h1 := (jw rZ.1 rZ.2).2
  have h2 := aQ (show ar df (signs s) = some r from h)
  omega
 ·cases h
section
variable {w : World}
theorem ug {s : ByteArray} {W : World} (hB : Below w.heap.size w W) (hP : ch s = none) : vL s w (.returned (.tuple #[.agg #[.int .i64 0, .string ⟨#[]⟩, .int .i64 0, .slice none 0 0, .slice none 0 0, .slice none 0 0], .bool false])) W := by
 have hs := hB.size
 refine ⟨[.int .i64 0, .string ⟨#[]⟩, .int .i64 0, .slice none 0 0, .slice none 0 0, .slice none 0 0], by rw [hP]; rfl, ⟨_, _, _, _, _, _, _, _, _, _, _, _, rfl⟩, ?_, hB⟩
 have e : tR s = rL := by unfold tR; rw [hP]; rfl
 rw [e]
 exact (kR W w.heap.size W.heap.size 0 sNil (by decide) 0 (by omega)).up U0 U0 (by omega)
theorem lC (s : ByteArray) (hs : s.size <= 1048576) : Calls Tryz.prog 12 #[.string s] w (vL s w) := by
 have B0 : Hid (Below w.heap.size w (w.alloc (.cells #[.int .i64 0, .string ⟨#[]⟩, .int .i64 0, .slice none 0 0, .slice none 0 0, .slice none 0 0] 34))) := (U4 w).alloc U0 _
 have X0 : Hid ((w.alloc (.cells #[.int .i64 0, .string ⟨#[]⟩, .int .i64 0, .slice none 0 0, .slice none 0 0, .slice none 0 0] 34)).heap[w.heap.size]? = some (.cells #[.int .i64 0, .string ⟨#[]⟩, .int .i64 0, .slice none 0 0, .slice none 0 0, .slice none 0 0] 34 (0, 0))) := heap_alloc_new w _
 have ll : (w.alloc (.cells #[.int .i64 0, .string ⟨#[]⟩, .int .i64 0, .slice none 0 0, .slice none 0 0, .slice none 0 0] 34)).heap.size = w.heap.size + 1 := by simp
 have PU := aa (BN (w := w.alloc (.cells #[.int .i64 0, .string ⟨#[]⟩, .int .i64 0, .slice none 0 0, .slice none 0 0, .slice none 0 0] 34)) s hs)
 have KQ := aa (vH s)
 have fW := aa (AF s)
 have ma : Hid (∀ r, (eW s).bind (ar df) = some r -> r.length <= 900) := fun r h => wa h
 have zu : Hid (mp s = ((eW s).bind (ar df)).bind ((ps 900).ex 0)) := rfl
 go_enter Tryz.func12, Tryz.ntmps12
 go_wp2_with fail
 refine PU.out.mono ?_
 rintro e w1 ⟨A, b, rfl, ay, fE, bS⟩
 have B1 := aa (B0.out.trans (bS.mono B0.out.size))
 have X1 := aa ((bS.block w.heap.size (ad X0.out)).trans X0.out)
 have eI := aa fE
 have vu := bS.size
 have aI := fE.lt
 generalize (eW s).bind (ar df) = r0 at eI ma zu fW
 have Uw := aa ((GS A b 900).1 0 (by omega) w1 r0 eI.out ma.out)
 clear fE bS PU
 go_wp2_with fail
 refine Uw.out.mono ?_
 rintro e w2 ⟨cs, rfl, hFx, jk, m2, hgot⟩
 have X2 := aa (af X1.out m2 (by omega))
 have B2 := aa (B1.out.trans (m2.below (s := w.heap.size) (by omega) (by omega)))
 have Ur := aa hgot
 have jo := m2.size
 have gB := aa hFx
 obtain ⟨i0, i1, i2, j1, k1, l1, j2, k2, l2, j3, k3, l3, rfl⟩ := hFx
 have BA : Hid (Below w2.heap.size w2 (w2.alloc (.cells #[.int .i64 i0, .string i1, .int .i64 i2, .slice j1 k1 l1, .slice j2 k2 l2, .slice j3 k3 l3] 34))) := (U4 w2).alloc U0 _
 have YA : Hid ((w2.alloc (.cells #[.int .i64 i0, .string i1, .int .i64 i2, .slice j1 k1 l1, .slice j2 k2 l2, .slice j3 k3 l3] 34)).heap[w2.heap.size]? = some (.cells #[.int .i64 i0, .string i1, .int .i64 i2, .slice j1 k1 l1, .slice j2 k2 l2, .slice j3 k3 l3] 34 (0, 0))) := heap_alloc_new w2 _
 have Fl := aa (jk.below BA.out)
 rw [fW.out] at Fl
 have zb := aa (xR Fl.out)
 have fX := jk.lt
 have mY := ad X2.out
 clear jk m2 hgot
 go_wp2_with fail
 refine zb.out.mono ?_
 rintro e w3 ⟨rfl, m3⟩
 have B3 := aa ((B2.out.trans (BA.out.mono B2.out.size)).trans (m3.below (s := w.heap.size) (by omega) (by have := BA.out.size; omega)))
 have X3 := aa (af (af X2.out (Mv.of (b := b) BA.out) (by omega)) m3 (by omega))
 have Y3 := aa (af YA.out m3 (by omega))
 have UL := BA.out.size
 have Mw := m3.size
 have fA : Hid (∀ k, w1.heap.size <= k -> k < w2.heap.size -> w3.heap[k]? = w2.heap[k]?) := fun k a1 a2 => (m3.block k ⟨by omega, by omega⟩).trans (BA.out.block k a2)
 cases sZ : eg ((mp s).map Prod.snd) with
 | false =>
  have HP : Hid (ch s = none) := by
   rw [KQ.out]
   cases hr : mp s with
   | none => exact rfl
   | some p =>
    rw [hr] at sZ
    have qm : eg (some p.2) = false := sZ
    show (if eg (some p.2) && vl p.1 then some p.1 else none) = none
    rw [qm]
    exact rfl
  clear m3 sZ
  have fg := cU w3 w.heap.size (.int .i64 0) (.string ⟨#[]⟩) (.int .i64 0) (.slice none 0 0) (.slice none 0 0) (.slice none 0 0)
  have A6 := aZ X3.out (.int .i64 0) (.string ⟨#[]⟩) (.int .i64 0) (.slice none 0 0) (.slice none 0 0) (.slice none 0 0)
  have x6 := X3.out
  obtain ⟨⟨u0, u1, u2, u3, u4, u5⟩, f0, f1, f2, f3, f4, f5⟩ := aG x6
  have Dp : w.heap.size < w3.heap.size := ad x6
  have Ib := aa A6
  have nX := aa fg
  clear x6 A6 fg
  go_wp2
  change bodyPost _ _ _ _ _ (jp w3 w.heap.size (.int .i64 0) (.string ⟨#[]⟩) (.int .i64 0) (.slice none 0 0) (.slice none 0 0) (.slice none 0 0))
  have A6 := Ib.out
  have fg := nX.out
  have sS := eL w3 w.heap.size (.int .i64 0) (.string ⟨#[]⟩) (.int .i64 0) (.slice none 0 0) (.slice none 0 0) (.slice none 0 0)
  generalize jp w3 w.heap.size (.int .i64 0) (.string ⟨#[]⟩) (.int .i64 0) (.slice none 0 0) (.slice none 0 0) (.slice none 0 0) = W6 at A6 fg sS ⊢
  have r0 := cell_of A6 0
  have r1 := cell_of A6 1
  have r2 := cell_of A6 2
  have r3 := cell_of A6 3
  have r4 := cell_of A6 4
  have r5 := cell_of A6 5
  simp only [U7, U8, U9] at r0 r1 r2 r3 r4 r5
  refine bodyPost_ret (v := .tuple #[.agg #[.int .i64 0, .string ⟨#[]⟩, .int .i64 0, .slice none 0 0, .slice none 0 0, .slice none 0 0], .bool false]) (by simp [results, Tryz.results12, go_sem, r0, r1, r2, r3, r4, r5]) rfl ?_
  exact ug (B3.out.trans ⟨fg.os, fg.tape, fg.output, fg.size, fun k hk => fg.block k (by show _ ≠ _; omega)⟩) HP.out
 | true =>
  obtain ⟨t2, q2, hr⟩ : ∃ t2 q2, mp s = some (t2, q2) := by
   cases hr : mp s with
   | none => rw [hr] at sZ; cases sZ
   | some p => exact ⟨p.1, p.2, rfl⟩
  have LL : Hid (ch s = if vl t2 then some t2 else none) := by
   rw [KQ.out, hr]
   rw [hr] at sZ
   have qm : eg (some q2) = true := sZ
   show (if eg (some q2) && vl t2 then some t2 else none) = _
   rw [qm]
   exact rfl
  obtain ⟨ts, Da, lk⟩ : ∃ ts, r0 = some ts /\ (ps 900).ex 0 ts = some (t2, q2) := by
   rw [zu.out] at hr
   cases Cd : r0 with
   | none => rw [Cd] at hr; cases hr
   | some ts => rw [Cd] at hr; exact ⟨ts, rfl, hr⟩
  obtain ⟨hh, hh2, hT⟩ := Ur.out ts t2 q2 Da lk
  have Jm := ma.out ts Da
  have T3 := aa ((hT.keep fA.out).up (h' := 900) (s' := w.heap.size + 1) (u' := w3.heap.size) (by omega) (by omega) (by omega))
  have eQ := qu (w := w3) (T3.out.reads (K := fO) fun _ _ _ => trivial)
  have jJ := aa eQ
  have Hn : Hid (vl t2 = ((bJ 900).ex t2 1 && decide ((aW 900).ex t2 <= 200))) := rfl
  generalize ((bJ 900).ex t2 1 && decide ((aW 900).ex t2 <= 200)) = bo at jJ Hn
  have y3 := Y3.out
  obtain ⟨⟨a0, a1, a2, a3, a4, a5⟩, -⟩ := aG y3
  clear m3 sZ hT eQ y3 hr
  go_wp2_with fail
  refine jJ.out.mono ?_
  rintro e w4 ⟨rfl, sT⟩
  have B4 := aa (B3.out.trans (sT.mono B3.out.size))
  have X4 := aa ((sT.block w.heap.size (ad X3.out)).trans X3.out)
  have Y4 := aa ((sT.block w2.heap.size (ad Y3.out)).trans Y3.out)
  have EJ := sT.size
  have T4 := aa ((T3.out.keep (aw sT U0)).up (s' := w.heap.size + 1) (u' := w4.heap.size) U0 EJ U0)
  clear sT jJ a0 a1 a2 a3 a4 a5
  cases bo with
  | false =>
   have HP : Hid (ch s = none) := by
    rw [LL.out, Hn.out]
    exact rfl
   have fg := cU w4 w.heap.size (.int .i64 0) (.string ⟨#[]⟩) (.int .i64 0) (.slice none 0 0) (.slice none 0 0) (.slice none 0 0)
   have A6 := aZ X4.out (.int .i64 0) (.string ⟨#[]⟩) (.int .i64 0) (.slice none 0 0) (.slice none 0 0) (.slice none 0 0)
   have x6 := X4.out
   obtain ⟨⟨u0, u1, u2, u3, u4, u5⟩, f0, f1, f2, f3, f4, f5⟩ := aG x6
   have Dp : w.heap.size < w4.heap.size := ad x6
   have Ib := aa A6
   have nX := aa fg
   clear x6 A6 fg
   go_wp2
   change bodyPost _ _ _ _ _ (jp w4 w.heap.size (.int .i64 0) (.string ⟨#[]⟩) (.int .i64 0) (.slice none 0 0) (.slice none 0 0) (.slice none 0 0))
   have A6 := Ib.out
   have fg := nX.out
   have sS := eL w4 w.heap.size (.int .i64 0) (.string ⟨#[]⟩) (.int .i64 0) (.slice none 0 0) (.slice none 0 0) (.slice none 0 0)
   generalize jp w4 w.heap.size (.int .i64 0) (.string ⟨#[]⟩) (.int .i64 0) (.slice none 0 0) (.slice none 0 0) (.slice none 0 0) = W6 at A6 fg sS ⊢
   have r0 := cell_of A6 0
   have r1 := cell_of A6 1
   have r2 := cell_of A6 2
   have r3 := cell_of A6 3
   have r4 := cell_of A6 4
   have r5 := cell_of A6 5
   simp only [U7, U8, U9] at r0 r1 r2 r3 r4 r5
   refine bodyPost_ret (v := .tuple #[.agg #[.int .i64 0, .string ⟨#[]⟩, .int .i64 0, .slice none 0 0, .slice none 0 0, .slice none 0 0], .bool false]) (by simp [results, Tryz.results12, go_sem, r0, r1, r2, r3, r4, r5]) rfl ?_
   exact ug (B4.out.trans ⟨fg.os, fg.tape, fg.output, fg.size, fun k hk => fg.block k (by show _ ≠ _; omega)⟩) HP.out
  | true =>
   have HP : Hid (ch s = some t2) := by
    rw [LL.out, Hn.out]
    exact rfl
   have y4 := Y4.out
   obtain ⟨⟨a0, a1, a2, a3, a4, a5⟩, -⟩ := aG y4
   clear y4
   have fg := cU w4 w.heap.size (.int .i64 i0) (.string i1) (.int .i64 i2) (.slice j1 k1 l1) (.slice j2 k2 l2) (.slice j3 k3 l3)
   have A6 := aZ X4.out (.int .i64 i0) (.string i1) (.int .i64 i2) (.slice j1 k1 l1) (.slice j2 k2 l2) (.slice j3 k3 l3)
   have x6 := X4.out
   obtain ⟨⟨u0, u1, u2, u3, u4, u5⟩, f0, f1, f2, f3, f4, f5⟩ := aG x6
   have Dp : w.heap.size < w4.heap.size := ad x6
   have Ib := aa A6
   have nX := aa fg
   clear x6 A6 fg
   go_wp2
   change bodyPost _ _ _ _ _ (jp w4 w.heap.size (.int .i64 i0) (.string i1) (.int .i64 i2) (.slice j1 k1 l1) (.slice j2 k2 l2) (.slice j3 k3 l3))
   have A6 := Ib.out
   have fg := nX.out
   have sS := eL w4 w.heap.size (.int .i64 i0) (.string i1) (.int .i64 i2) (.slice j1 k1 l1) (.slice j2 k2 l2) (.slice j3 k3 l3)
   generalize jp w4 w.heap.size (.int .i64 i0) (.string i1) (.int .i64 i2) (.slice j1 k1 l1) (.slice j2 k2 l2) (.slice j3 k3 l3) = W6 at A6 fg sS ⊢
   have r0 := cell_of A6 0
   have r1 := cell_of A6 1
   have r2 := cell_of A6 2
   have r3 := cell_of A6 3
   have r4 := cell_of A6 4
   have r5 := cell_of A6 5
   simp only [U7, U8, U9] at r0 r1 r2 r3 r4 r5
   refine bodyPost_ret (v := .tuple #[.agg #[.int .i64 i0, .string i1, .int .i64 i2, .slice j1 k1 l1, .slice j2 k2 l2, .slice j3 k3 l3], .bool true]) (by simp [results, Tryz.results12, go_sem, r0, r1, r2, r3, r4, r5]) rfl ?_
   refine ⟨[.int .i64 i0, .string i1, .int .i64 i2, .slice j1 k1 l1, .slice j2 k2 l2, .slice j3 k3 l3], by rw [HP.out]; rfl, gB.out, ?_, B4.out.trans ⟨fg.os, fg.tape, fg.output, fg.size, fun k hk => fg.block k (by show _ ≠ _; omega)⟩⟩
   have e : tR s = t2 := by unfold tR; rw [HP.out]; rfl
   rw [e, sS]
   exact (T4.out.keep fun k a1 a2 => fg.block k (by show _ ≠ _; omega)).up (by omega) U0 U0
end
end Go.Proofs.YtfomndilhlgikajGreatDoor.Rd
namespace Go.Proofs.YtfomndilhlgikajGreatDoor.Rd
open Go.ChangeShapes Go.WideShapes Go.ChangeAt Go.RowKit
set_option linter.unusedVariables false
def FJ (t : Tr) (bo : Bool) (w : World) (e : Ending) (w' : World) : Prop := ∃ cs, e = .returned (.tuple #[.agg cs.toArray, .bool bo]) /\ Fx cs /\ TreeT w' w.heap.size w'.heap.size 900 0 t cs /\ Below w.heap.size w w'
def xG (t : Tr) : Prop := ∀ (w : World) (a u : Nat) (cs : List Value), TreeT w a u 900 0 t cs -> Fx cs -> u <= w.heap.size -> ∃ (S : Nat -> Prop) (Hold : Nat -> World -> Prop), (∀ x, S x -> a <= x /\ x < u) ∧
 Calls Tryz.prog 15 #[.agg cs.toArray, .int .i64 1] w (fun e w' => ∃ r : Nat, e = .returned (.int .i64 ((r : Int) + 1)) /\ r <= 1600 /\ Hold r w' /\ Keeps (fun x => x < w.heap.size /\ ¬ S x) w w') ∧
 (∀ r w1, Hold r w1 -> (∀ x, S x -> x < w1.heap.size) -> r <= 1600 -> Calls Tryz.prog 16 #[.agg cs.toArray, .int .i64 1] w1 fun e w' => e = .returned (.int .i64 ((r : Int) + 1)) /\ Below w1.heap.size w1 w') ∧
 (∀ r w1 w2, Hold r w1 -> (∀ x, S x -> w2.heap[x]? = w1.heap[x]?) -> Hold r w2)
section
variable {w : World}
theorem xa (s : ByteArray) (t : Tr) (bo : Bool) (hs : s.size <= 1048576) (vi : ∀ w, Calls Tryz.prog 12 #[.string s] w (FJ t bo w)) (him : ∀ w, Calls Tryz.prog 13 #[.string s] w (FJ t bo w)) (EU : xG t) :
 Calls Tryz.prog 4 #[.string s] w (fun e w' => e = .returned (.bool true) /\ Below w.heap.size w w') := by
 have Ul := aa vi
 have Qv := aa him
 have NV := aa EU
 clear vi him EU
 go_enter Tryz.func4, Tryz.ntmps4
 go_wp2_with fail
 refine (Ul.out _).mono ?_
 rintro e w1 ⟨cs, rfl, hFx, hT, hb⟩
 obtain ⟨i0, i1, i2, j1, k1, l1, j2, k2, l2, j3, k3, l3, rfl⟩ := hFx
 have Jn : Below w1.heap.size w1 (w1.alloc (.cells #[.int .i64 i0, .string i1, .int .i64 i2, .slice j1 k1 l1, .slice j2 k2 l2, .slice j3 k3 l3] 34)) := (U4 w1).alloc U0 _
 have aK : Hid ((w1.alloc (.cells #[.int .i64 i0, .string i1, .int .i64 i2, .slice j1 k1 l1, .slice j2 k2 l2, .slice j3 k3 l3] 34)).heap[w1.heap.size]? = some (.cells #[.int .i64 i0, .string i1, .int .i64 i2, .slice j1 k1 l1, .slice j2 k2 l2, .slice j3 k3 l3] 34 (0, 0))) := heap_alloc_new w1 _
 have Me := aa (hT.keep fun b _ h2 => Jn.block b h2)
 have aR := aa (hb.trans (Jn.mono hb.size))
 have Jw : Hid (w1.heap.size < (w1.alloc (.cells #[.int .i64 i0, .string i1, .int .i64 i2, .slice j1 k1 l1, .slice j2 k2 l2, .slice j3 k3 l3] 34)).heap.size) := ad aK.out
 have wO := aa hb.size
 clear hT hb Jn
 go_wp2_with fail
 refine (Qv.out _).mono ?_
 rintro e w2 ⟨cs, rfl, hFx, hT, hb⟩
 generalize w1.alloc (.cells #[.int .i64 i0, .string i1, .int .i64 i2, .slice j1 k1 l1, .slice j2 k2 l2, .slice j3 k3 l3] 34) = V1 at aK Me aR Jw hT hb
 obtain ⟨a0, a1, a2, p1, q1, r1, p2, q2, r2, p3, q3, r3, rfl⟩ := hFx
 have Kn : Below w2.heap.size w2 (w2.alloc (.cells #[.int .i64 a0, .string a1, .int .i64 a2, .slice p1 q1 r1, .slice p2 q2 r2, .slice p3 q3 r3] 34)) := (U4 w2).alloc U0 _
 have zw : Hid ((w2.alloc (.cells #[.int .i64 a0, .string a1, .int .i64 a2, .slice p1 q1 r1, .slice p2 q2 r2, .slice p3 q3 r3] 34)).heap[w2.heap.size]? = some (.cells #[.int .i64 a0, .string a1, .int .i64 a2, .slice p1 q1 r1, .slice p2 q2 r2, .slice p3 q3 r3] 34 (0, 0))) := heap_alloc_new w2 _
 have hA : Below V1.heap.size V1 (w2.alloc (.cells #[.int .i64 a0, .string a1, .int .i64 a2, .slice p1 q1 r1, .slice p2 q2 r2, .slice p3 q3 r3] 34)) := hb.trans (Kn.mono hb.size)
 have gx := aa ((hA.block _ Jw.out).trans aK.out)
 have Iz := aa (Me.out.keep fun b _ h2 => hA.block b (Nat.lt_trans h2 Jw.out))
 have MZ := aa (hT.keep fun b _ h2 => Kn.block b h2)
 have bD := aa (aR.out.trans (hA.mono aR.out.size))
 have mS := aa hb.size
 have Qp : Hid (w2.heap.size < (w2.alloc (.cells #[.int .i64 a0, .string a1, .int .i64 a2, .slice p1 q1 r1, .slice p2 q2 r2, .slice p3 q3 r3] 34)).heap.size) := ad zw.out
 clear hT hb hA Kn
 obtain ⟨x0, x1, x2, x3, x4, x5⟩ := (aG gx.out).1
 obtain ⟨y0, y1, y2, y3, y4, y5⟩ := (aG zw.out).1
 have Ov : (bo != bo) = false := by simp
 go_wp2_with fail
 generalize w2.alloc (.cells #[.int .i64 a0, .string a1, .int .i64 a2, .slice p1 q1 r1, .slice p2 q2 r2, .slice p3 q3 r3] 34) = V2 at gx zw Iz MZ bD Qp x0 x1 x2 x3 x4 x5 y0 y1 y2 y3 y4 y5 ⊢
 refine ((Ah 900).1 t [.int .i64 a0, .string a1, .int .i64 a2, .slice p1 q1 r1, .slice p2 q2 r2, .slice p3 q3 r3] [.int .i64 i0, .string i1, .int .i64 i2, .slice j1 k1 l1, .slice j2 k2 l2, .slice j3 k3 l3] _ (MZ.out.reads fun _ _ _ => trivial) (Iz.out.reads fun _ _ _ => trivial)).mono ?_
 rintro e w3 ⟨rfl, hb⟩
 have jP := aa ((hb.block _ (ad gx.out)).trans gx.out)
 have Ji := aa ((hb.block _ (ad zw.out)).trans zw.out)
 have IP := aa (Iz.out.keep fun b _ h2 => hb.block b (Nat.lt_trans h2 (ad gx.out)))
 have TY := aa (MZ.out.keep fun b _ h2 => hb.block b (Nat.lt_trans h2 Qp.out))
 have dc := aa (bD.out.trans (hb.mono bD.out.size))
 clear x0 x1 x2 x3 x4 x5 y0 y1 y2 y3 y4 y5 hb
 obtain ⟨y0, y1, y2, y3, y4, y5⟩ := (aG Ji.out).1
 obtain ⟨S, Hold, hS, hm, hh, vf⟩ := NV.out w3 _ _ _ TY.out ⟨_, _, _, _, _, _, _, _, _, _, _, _, rfl⟩ (Nat.le_of_lt (ad Ji.out))
 have HS := aa hS
 have HM := aa hm
 have HH := aa hh
 have Fl := aa vf
 clear hS hm hh vf
 go_wp2_with fail
 refine HM.out.mono ?_
 rintro e w4 ⟨r, rfl, hr, hold, hk⟩
 have Qn := aa hold
 have qc := hk.size
 have mh := aa ((hk.block w1.heap.size ⟨ad jP.out, fun h => by have := (HS.out _ h).1; have := Jw.out; omega⟩).trans jP.out)
 have Kf := aa ((hk.block w2.heap.size ⟨ad Ji.out, fun h => by have := (HS.out _ h).2; omega⟩).trans Ji.out)
 have SG := aa (IP.out.keep fun b _ h2 => hk.block b ⟨Nat.lt_trans h2 (ad jP.out), fun h => by have := (HS.out _ h).1; have := Jw.out; omega⟩)
 have me : Hid (Below w.heap.size w w4) := dc.out.trans ⟨hk.os, hk.tape, hk.output, hk.size, fun k DC => hk.block k ⟨Nat.lt_of_lt_of_le DC dc.out.size, fun h => by have := (HS.out _ h).1; have := aR.out.size; omega⟩⟩
 clear y0 y1 y2 y3 y4 y5 hold hk HM
 obtain ⟨y0, y1, y2, y3, y4, y5⟩ := (aG Kf.out).1
 have OL := HH.out r w4 Qn.out (fun x hx => Nat.lt_trans (HS.out x hx).2 (ad Kf.out)) hr
 have Jk := aa OL
 clear OL
 have Cd : ¬ ((r : Int) + 1 < 0) := by omega
 have TA : ((r : Int) + 1 != (r : Int) + 1) = false := by simp
 go_wp2_with fail
 refine Jk.out.mono ?_
 rintro e w5 ⟨rfl, hb⟩
 have zx := aa (Fl.out r w4 w5 Qn.out fun x hx => hb.block x (Nat.lt_trans (HS.out x hx).2 (ad Kf.out)))
 have zc := aa ((hb.block _ (ad mh.out)).trans mh.out)
 have OM := aa ((hb.block _ (ad Kf.out)).trans Kf.out)
 have Ua := aa (SG.out.keep fun b _ h2 => hb.block b (Nat.lt_trans h2 (ad mh.out)))
 have tq := aa (me.out.trans (hb.mono me.out.size))
 clear y0 y1 y2 y3 y4 y5 hb Jk
 go_wp2_with fail
 refine (Qv.out _).mono ?_
 rintro e w6 ⟨cs, rfl, hFx, hT, hb⟩
 obtain ⟨b0, b1, b2, f1, g1, m1, f2, g2, m2, f3, g3, m3, rfl⟩ := hFx
 have Jh : Below w6.heap.size w6 (w6.alloc (.cells #[.int .i64 b0, .string b1, .int .i64 b2, .slice f1 g1 m1, .slice f2 g2 m2, .slice f3 g3 m3] 34)) := (U4 w6).alloc U0 _
 have QL : Hid ((w6.alloc (.cells #[.int .i64 b0, .string b1, .int .i64 b2, .slice f1 g1 m1, .slice f2 g2 m2, .slice f3 g3 m3] 34)).heap[w6.heap.size]? = some (.cells #[.int .i64 b0, .string b1, .int .i64 b2, .slice f1 g1 m1, .slice f2 g2 m2, .slice f3 g3 m3] 34 (0, 0))) := heap_alloc_new w6 _
 have hA : Below w5.heap.size w5 (w6.alloc (.cells #[.int .i64 b0, .string b1, .int .i64 b2, .slice f1 g1 m1, .slice f2 g2 m2, .slice f3 g3 m3] 34)) := hb.trans (Jh.mono hb.size)
 have Ik := aa ((hA.block _ (ad zc.out)).trans zc.out)
 have LW := aa ((hA.block _ (ad OM.out)).trans OM.out)
 have PF := aa (Ua.out.keep fun b _ h2 => hA.block b (Nat.lt_trans h2 (ad zc.out)))
 have Rb := aa (hT.keep fun b _ h2 => Jh.block b h2)
 have Jq := aa (tq.out.trans (hA.mono tq.out.size))
 have PA := aa (Fl.out r w5 _ zx.out fun x hx => hA.block x (Nat.lt_trans (HS.out x hx).2 (ad OM.out)))
 clear hT hb hA Jh
 obtain ⟨x0, x1, x2, x3, x4, x5⟩ := (aG Ik.out).1
 obtain ⟨y0, y1, y2, y3, y4, y5⟩ := (aG QL.out).1
 go_wp2_with fail
 generalize w6.alloc (.cells #[.int .i64 b0, .string b1, .int .i64 b2, .slice f1 g1 m1, .slice f2 g2 m2, .slice f3 g3 m3] 34) = V6 at Ik LW PF Rb Jq QL PA x0 x1 x2 x3 x4 x5 y0 y1 y2 y3 y4 y5 ⊢
 refine ((Ah 900).1 t [.int .i64 b0, .string b1, .int .i64 b2, .slice f1 g1 m1, .slice f2 g2 m2, .slice f3 g3 m3] [.int .i64 i0, .string i1, .int .i64 i2, .slice j1 k1 l1, .slice j2 k2 l2, .slice j3 k3 l3] _ (Rb.out.reads fun _ _ _ => trivial) (PF.out.reads fun _ _ _ => trivial)).mono ?_
 rintro e w7 ⟨rfl, hb⟩
 have Q5 := aa ((hb.block _ (ad LW.out)).trans LW.out)
 have QN := aa (Jq.out.trans (hb.mono Jq.out.size))
 have T0 := aa (Fl.out r V6 w7 PA.out fun x hx => hb.block x (Nat.lt_trans (HS.out x hx).2 (ad LW.out)))
 clear x0 x1 x2 x3 x4 x5 y0 y1 y2 y3 y4 y5 hb
 obtain ⟨y0, y1, y2, y3, y4, y5⟩ := (aG Q5.out).1
 have J3 := HH.out r w7 T0.out (fun x hx => Nat.lt_trans (HS.out x hx).2 (ad Q5.out)) hr
 have MG := aa J3
 clear J3
 go_wp2_with fail
 refine MG.out.mono ?_
 rintro e w8 ⟨rfl, hb⟩
 have Lz := aa (QN.out.trans (hb.mono QN.out.size))
 clear y0 y1 y2 y3 y4 y5 hb MG
 go_wp2
 go_ret
 exact ⟨rfl, Lz.out⟩
end
end Go.Proofs.YtfomndilhlgikajGreatDoor.Rd
namespace Go.Proofs.YtfomndilhlgikajGreatDoor.Mh
open Go.ChangeShapes Go.WideShapes Go.ChangeAt Go.RowKit
open Rd (RowS eF sp qq InR TreeT Row All3 ei tR ch vl rL vL lG lC Fx xG FJ xa)
set_option linter.unusedVariables false
theorem yA {w : World} {s : ByteArray} {cs : List Value} {bs : List Nat} (h3 : (eF w 900).ex (tR s) cs bs) : (lf 900).ex (tR s) <= 1600 := by
 cases hp : ch s with
 | none =>
  have e : tR s = rL := by unfold tR; rw [hp]; rfl
  rw [e]
  show 3 + 0 + 0 + 0 <= 1600
  omega
 | some t =>
  have e : tR s = t := by unfold tR; rw [hp]; rfl
  rw [e] at h3 ⊢
  have hk := Al hp
  unfold vl at hk
  rw [Bool.and_eq_true, decide_eq_true_eq] at hk
  have := (Ge 900).1 t cs bs 1 h3 hk.1
  have := hk.2
  omega
theorem AI (s : ByteArray) : xG (tR s) := by
 intro w a u cs hT hF hu
 obtain ⟨bs, h1, h2⟩ := hT
 have h3 : (eF w 900).ex (tR s) cs bs := h1
 have Tc := yA h3
 obtain ⟨e0, e1, v1, v2, v3, b1, b2, b3, rfl, rfl, r1, r2, r3⟩ := h3
 obtain ⟨n12, n3, n4⟩ := List.nodup_append.1 h2.1
 obtain ⟨n1, n2, n5⟩ := List.nodup_append.1 n12
 obtain ⟨i1, i2, i3⟩ := Ef (w := w) 899
 have q1 := RowS.sr (lf 899).ex r1 n1 i1
 have q2 := RowS.sr (lf 899).de r2 n2 i2
 have q3 := RowS.sr (lf 899).al r3 n3 i3
 have TG : 3 + (((tR s).l.map (lf 899).ex).sum) + (((tR s).ds.map (lf 899).de).sum) + (((tR s).al.map (lf 899).al).sum) <= 1600 := Tc
 have hw : ∀ x, (x ∈ b1 ++ b2 ++ b3) -> x < w.heap.size := fun x hx => Nat.lt_of_lt_of_le (h2.2 x hx).2 hu
 refine ⟨fun x => x ∈ b1 ++ b2 ++ b3, fun r w' => Hx w' (fun x => x ∈ b1 ++ b2 ++ b3) 899 v1 v2 v3 r, fun x hx => h2.2 x hx, ?_, ?_, ?_⟩
 ·refine (ux (S := fun x => x ∈ b1 ++ b2 ++ b3) _ _ _ w q1 q2 q3 (fun x hx => by simpa [or_assoc] using hx) (fun x h1 h2 => n5 x h1 x h2 rfl) (fun x h1 h2 => n4 x (List.mem_append_left _ h1) x h2 rfl) (fun x h1 h2 => n4 x (List.mem_append_right _ h1) x h2 rfl) hw (by omega)).mono ?_
  rintro e w' ⟨r, rfl, hr, hx, hk⟩
  exact ⟨r, rfl, by omega, hx, hk⟩
 ·intro r w1 hx CO hr
  exact uL _ _ _ w1 hx CO (by omega)
 ·intro r w1 w2 hx hh
  exact hx.same hh
theorem walk (s : ByteArray) (hs : s.size <= maxLen) (w : World) : Calls Tryz.prog 4 #[.string s] w (fun e w' => e = .returned (.bool true) /\ Below w.heap.size w w') := by
 by_cases hb : s.size <= 1048576
 ·exact xa s (tR s) (ch s).isSome hb (fun w => lC s hb) (fun w => lG s hs) (AI s)
 ·have SL : (1048576 : Int) < s.size := by omega
  have hm : s.size <= 9223372036854775807 := hs
  go_enter Tryz.func4, Tryz.ntmps4
  go_wp2
  go_ret
  exact ⟨rfl, Below.refl _ _⟩
end Go.Proofs.YtfomndilhlgikajGreatDoor.Mh
