import Derived.Test.YtfomndilhlgikajGreatDoorP16
set_option maxHeartbeats 8000000
set_option maxRecDepth 100000
namespace Go.Proofs.YtfomndilhlgikajGreatDoor.I
open Go.RowKit Go.Proofs.YtfomndilhlgikajGreatDoor
theorem nE {ts : List TokZ} {i : Nat} {t : TokZ} (h : ts[i]? = some t) (st : List Int) (out : List TokZ) (wait : Bool) (line : Int) : gO (ts.drop i) st out wait line = match fd st out wait t line with | none => none | some (a, b, c) => gO (ts.drop (i + 1)) a b c t.l := by
 have e : ts.drop i = t :: ts.drop (i + 1) := by
  obtain ⟨hi, rfl⟩ := List.getElem?_eq_some_iff.1 h
  exact List.drop_eq_getElem_cons hi
 rw [e]
 rfl
theorem pi {ts : List TokZ} {i : Nat} (h : ts.length <= i) (st : List Int) (out : List TokZ) (wait : Bool) (line : Int) : gO (ts.drop i) st out wait line = some (st, out) := by
 rw [List.drop_eq_nil_of_le h]
 rfl
theorem na {ts : List TokZ} (h : eB ts = none) : bB ts = [] /\ cS ts = false := by
 unfold bB cS
 rw [h]
 exact ⟨rfl, rfl⟩
theorem nv {ts out : List TokZ} (h : eB ts = some out) : bB ts = out /\ cS ts = true := by
 unfold bB cS
 rw [h]
 exact ⟨rfl, rfl⟩
theorem dD {ts : List TokZ} {w w1 : World} (h : eB ts = none) (hb : Below w.heap.size w w1) : ∃ v, Ending.returned (.tuple #[.slice (some ⟨w1.heap.size, 0, none⟩) 0 0, .bool false]) = .returned (.tuple #[v, .bool (cS ts)]) /\ (w1.alloc (.cells #[] 122)).ownsRow w.heap.size 122 4 v (bB ts).length (iH (bB ts)) /\ Below w.heap.size w (w1.alloc (.cells #[] 122)) := by
 obtain ⟨h1, h2⟩ := na h
 rw [h1, h2]
 refine ⟨_, rfl, gT (ib w1 _ 4) (fun k hk => ?_), hb.alloc hb.size _⟩
 have : w1.heap.size = k := Option.some.inj hk
 have := hb.size
 omega
theorem ImplAt.start (w : World) : ImplAt ((w.alloc (.cells #[] 122)).alloc (.cells #[.slice none 0 0, .bool true, .int .i64 0, .slice (some ⟨w.heap.size, 0, none⟩) 0 0] 235)) (· < w.heap.size) (w.heap.size + 1) [] [] true 0 := by
 have cI : (w.alloc (.cells #[] 122)).heap.size = w.heap.size + 1 := by simp
 have Ks := heap_alloc_new (w.alloc (.cells #[] 122)) (.cells #[.slice none 0 0, .bool true, .int .i64 0, .slice (some ⟨w.heap.size, 0, none⟩) 0 0] 235)
 rw [cI] at Ks
 refine ⟨.slice (some ⟨w.heap.size, 0, none⟩) 0 0, .slice none 0 0, Ks, ⟨?_, World.ownsRow_nil _ _ _ _, ?_, ?_, ?_, ?_, ?_, ?_, ?_, ?_⟩⟩
 ·exact gT ((ib w 122 4).alloc _) fun _ _ => Nat.zero_le _
 ·intro h
  have : w.heap.size = w.heap.size + 1 := Option.some.inj h
  omega
 ·intro h; cases h
 ·right; intro h; cases h
 ·show ¬ w.heap.size + 1 < w.heap.size
  omega
 ·intro k h
  have : w.heap.size = k := Option.some.inj h
  show ¬ k < w.heap.size
  omega
 ·intro k h; cases h
 ·intro k h
  have h2 : k < w.heap.size := h
  show k < ((w.alloc _).alloc _).heap.size
  simp
  omega
 ·show w.heap.size + 1 < ((w.alloc _).alloc _).heap.size
  simp
theorem implLay_any (ts : List TokZ) (Da : ts.length <= 1048576) (hss : ∀ t ∈ ts, t.s.size <= 1048576) (o : Option Addr) (b cap : Nat) (w : World) (hm : fq w o b 0 ts) :
 Calls Tryz.prog 134 #[.slice o ts.length cap] w fun e w' => ∃ v, e = .returned (.tuple #[v, .bool (cS ts)]) /\ w'.ownsRow w.heap.size 122 4 v (bB ts).length (iH (bB ts)) /\ Below w.heap.size w w' := by
 have HM := aa hm
 have Mc := aa hss
 have kH := aa (ImplAt.start w)
 clear hm hss
 go_enter Tryz.func134, Tryz.ntmps134
 go_wp2
 go_loopw [11] (fun t11 wr => ∃ (i : Nat) (line : Int) (st : List Int) (out : List TokZ) (wait : Bool), i <= ts.length /\ t11 = .int .i64 i /\ ImplAt wr (· < w.heap.size) (w.heap.size + 1) out st wait line /\ out.length + st.length <= 6 * i /\ out.length <= 900 /\ gO ts [] [] true 0 = gO (ts.drop i) st out wait line /\ Below w.heap.size w wr) (fun t11 _ => ts.length - (intOf t11).toNat)
 case atStart => exact ⟨0, 0, [], [], true, Nat.zero_le _, rfl, kH.out, by simp, by simp, rfl, ((U4 w).alloc U0 _).alloc (by simp) _⟩
 case round =>
  obtain ⟨i, line, st, out, wait, hi, rfl, hS, hn, h900, hR, cA⟩ := hrel
  have HS := aa hS
  have HR := aa hR
  have dH := aa cA
  have p9 := cA.size
  obtain ⟨o0, n0, o1, n1, c0, -, -, c3, hown, hko, -⟩ := ImplAt.facts hS
  have Hq := aa hown
  have NJ := aa hko
  clear hS hR cA hown hko
  by_cases au : i < ts.length
  ·have bU : ts ≠ [] := by intro e; rw [e] at au; simp at au
   obtain ⟨t, ht⟩ : ∃ t, ts[i]? = some t := ⟨ts[i], List.getElem?_eq_getElem au⟩
   obtain ⟨eo, ay, dF⟩ := (dy HM.out dH.out) bU
   subst eo
   have hA := dF i t ht
   rw [Nat.zero_add] at hA
   obtain ⟨x0, x1, x2, x3⟩ := hA
   have Ml := aa (nE ht st out wait line)
   have Oj := Mc.out t (List.mem_of_getElem? ht)
   clear dF ht bU
   have fX : (i : Int) < ts.length := by omega
   have Fl := aa (ImplAt.later HS.out ((U4 wr).alloc U0 (aN t)))
   have QA : Hid (Below w.heap.size w (wr.alloc (aN t))) := dH.out.alloc p9 _
   go_wp2_with fail
   rw [aU]
   refine (Br t Oj Fl.out (by omega)).mono ?_
   rintro e w1 (⟨a, bb, c, hz, rfl, gC, dV⟩ | ⟨hz, rfl, dV⟩)
   ·have ou := nr hz
    have Qr : Hid (gO ts [] [] true 0 = gO (ts.drop (i + 1)) a bb c t.l) := by
     show gO ts [] [] true 0 = _
     rw [HR.out, Ml.out, hz]
    obtain ⟨p0, q0, p1, q1, -, -, -, d3, -, -, -⟩ := ImplAt.facts gC
    have eI := aa gC
    have aR := aa (QA.out.trans dV.below)
    clear gC dV hz c0 c3
    by_cases hov : 900 < bb.length
    ·have HN : Hid (eB ts = none) := by
      show eB ts = none
      unfold eB
      rw [Qr.out]
      exact xN _ _ _ _ _ hov
     have lq : (900 : Int) < bb.length := by omega
     have zm : decide ((900 : Int) < bb.length) = true := by simp [lq]
     have th : decide (900 < bb.length) = true := by simp [hov]
     go_wp2
     go_ret2
     exact dD HN.out aR.out
    ·have lq : ¬ (900 : Int) < bb.length := by omega
     have zm : decide ((900 : Int) < bb.length) = false := by simp [lq]
     have th : decide (900 < bb.length) = false := by simp [hov]
     go_wp2
     refine ⟨⟨i + 1, t.l, a, bb, c, by omega, by go_num, eI.out, by omega, by omega, Qr.out, aR.out⟩, by simp [intOf]; omega⟩
   ·have HN : Hid (eB ts = none) := by
     show eB ts = none
     unfold eB
     rw [HR.out, Ml.out, hz]
     rfl
    have aR := aa (QA.out.trans dV.below)
    clear dV hz c0 c3
    go_wp2
    go_ret2
    exact dD HN.out aR.out
  ·have HL : Hid (eB ts = lD (some (st, out))) := by
    show eB ts = _
    unfold eB
    rw [HR.out, pi (by omega)]
   cases st with
   | cons x r =>
    have HN : Hid (eB ts = none) := by
     show eB ts = none
     rw [HL.out]
     unfold lD
     simp only
     rw [if_neg (by rw [List.length_cons]; omega)]
    simp only [List.length_cons] at c0
    have hs : (0 : Int) < (r.length : Int) + 1 := by omega
    have Se : decide ((0 : Int) < (r.length : Int) + 1) = true := by simp [hs]
    go_wp2
    go_ret2
    exact dD HN.out dH.out
   | nil =>
    simp only [List.length_nil] at c0
    have HN : Hid (eB ts = some out) := by
     show eB ts = some out
     rw [HL.out]
     unfold lD
     simp only
     rw [if_pos ⟨rfl, h900⟩]
    go_wp2
    go_ret2
    obtain ⟨h1, h2⟩ := nv HN.out
    rw [h1, h2]
    exact ⟨_, rfl, gT Hq.out fun k hk => Nat.le_of_not_lt (NJ.out k hk), dH.out⟩
end Go.Proofs.YtfomndilhlgikajGreatDoor.I
namespace Go.Proofs.YtfomndilhlgikajGreatDoor
open Go.ChangeShapes Go.WideShapes Go.ChangeAt Go.RowKit
theorem FromK.up {m n : Nat} (h : m <= n) : ∀ b, FromK n b -> FromK m b := fun _ hb => Nat.le_trans h hb
theorem Stays.less {K K' : Nat -> Prop} {w w' : World} (h : Stays K w w') (hk : ∀ b, K' b -> K b) : Stays K' w w' := ⟨h.size, fun b hb => h.block b (hk b hb)⟩
def yH (h : Nat) : Prop := ∀ (x : Tr) (ca cb : List Value) (w : World), (reads fO w h).ex x ca -> (reads fO w h).ex x cb -> Calls Tryz.prog 14 #[.agg ca.toArray, .agg cb.toArray] w fun e w' => e = .returned (.bool true) /\ Below w.heap.size w w'
def AO (h : Nat) : Prop := ∀ (x : Tr) (ca cb : List Value) (w : World), (reads fO w h).de x ca -> (reads fO w h).de x cb -> Calls Tryz.prog 25 #[.agg ca.toArray, .agg cb.toArray] w fun e w' => e = .returned (.bool true) /\ Below w.heap.size w w'
def DR (h : Nat) : Prop := ∀ (x : Tr) (ca cb : List Value) (w : World), (reads fO w h).al x ca -> (reads fO w h).al x cb -> Calls Tryz.prog 102 #[.agg ca.toArray, .agg cb.toArray] w fun e w' => e = .returned (.bool true) /\ Below w.heap.size w w'
theorem kh {K L : Nat -> Prop} (xs : List ByteArray) (hl : xs.length <= maxLen) (oa ob : Option Addr) (ca cb : Nat) (w : World) (ha : RowOf K w fy 1 oa xs) (hb : RowOf L w fy 1 ob xs) :
 Calls Tryz.prog 70 #[.slice oa xs.length ca, .slice ob xs.length cb] w fun e w' => e = .returned (.bool true) /\ Below w.heap.size w w' := by
 have HA := aa ha
 have HB := aa hb
 have iT : xs.length <= 9223372036854775807 := hl
 clear ha hb hl
 go_enter Tryz.func70, Tryz.ntmps70
 go_wp2
 go_loopw [5] (fun t wr => ∃ k : Nat, k <= xs.length /\ t = .int .i64 k /\ Below w.heap.size w wr) (fun t _ => xs.length - (intOf t).toNat)
 case atStart => exact ⟨0, Nat.zero_le _, rfl, Below.refl _ _⟩
 case round =>
  obtain ⟨i, hi, rfl, cA⟩ := hrel
  have dH := aa cA
  clear cA
  by_cases au : i < xs.length
  ·have bU : xs ≠ [] := by intro e; rw [e] at au; simp at au
   obtain ⟨x, hx⟩ : ∃ x, xs[i]? = some x := ⟨xs[i], List.getElem?_eq_getElem au⟩
   obtain ⟨ba, fa, ea, -, -, hA⟩ := (HA.out.later dH.out fun _ _ h => h) bU
   obtain ⟨bb, fb, eb, -, -, hB⟩ := (HB.out.later dH.out fun _ _ h => h) bU
   subst ea eb
   obtain ⟨_, -, hkA, rfl, -⟩ := hA i x hx
   obtain ⟨_, -, hkB, rfl, -⟩ := hB i x hx
   have a0 := hkA 0 _ rfl
   have b0 := hkB 0 _ rfl
   rw [Nat.mul_one, Nat.add_zero] at a0 b0
   clear hx hA hB bU hkA hkB
   have fX : (i : Int) < xs.length := by omega
   go_wp2
   go_region
   go_wp2
   go_roundw
   case rel => exact ⟨i + 1, by omega, by go_num, dH.out.trans ((U4 _).drew.mono dH.out.size)⟩
   case measure => simp [intOf]; omega
  ·go_wp2
   go_ret
   exact ⟨rfl, dH.out⟩
theorem ya {h : Nat} (hE : yH h) (xs : List Tr) (hl : xs.length <= maxLen) (oa ob : Option Addr) (ca cb : Nat) (w : World) (ha : RowOf fO w (reads fO w h).ex 6 oa xs) (hb : RowOf fO w (reads fO w h).ex 6 ob xs) :
 Calls Tryz.prog 47 #[.slice oa xs.length ca, .slice ob xs.length cb] w fun e w' => e = .returned (.bool true) /\ Below w.heap.size w w' := by
 have HA := aa ha
 have HB := aa hb
 have HE := aa hE
 have iT : xs.length <= 9223372036854775807 := hl
 clear ha hb hE hl
 go_enter Tryz.func47, Tryz.ntmps47
 go_wp2
 go_loopw [5] (fun t wr => ∃ k : Nat, k <= xs.length /\ t = .int .i64 k /\ Below w.heap.size w wr) (fun t _ => xs.length - (intOf t).toNat)
 case atStart => exact ⟨0, Nat.zero_le _, rfl, Below.refl _ _⟩
 case round =>
  obtain ⟨i, hi, rfl, cA⟩ := hrel
  have dH := aa cA
  clear cA
  by_cases au : i < xs.length
  ·have bU : xs ≠ [] := by intro e; rw [e] at au; simp at au
   obtain ⟨x, hx⟩ : ∃ x, xs[i]? = some x := ⟨xs[i], List.getElem?_eq_getElem au⟩
   obtain ⟨ba, fa, ea, -, -, hA⟩ := (HA.out.later dH.out (ap dH.out h).1) bU
   obtain ⟨bb, fb, eb, -, -, hB⟩ := (HB.out.later dH.out (ap dH.out h).1) bU
   subst ea eb
   obtain ⟨va, lA, hkA, rA⟩ := hA i x hx
   obtain ⟨vb, lB, hkB, rB⟩ := hB i x hx
   obtain ⟨v0, v1, v2, v3, v4, v5, rfl⟩ := six lA
   obtain ⟨u0, u1, u2, u3, u4, u5, rfl⟩ := six lB
   have a0 := hkA 0 v0 rfl
   have b0 := hkB 0 u0 rfl
   have a1 := hkA 1 v1 rfl
   have b1 := hkB 1 u1 rfl
   have a2 := hkA 2 v2 rfl
   have b2 := hkB 2 u2 rfl
   have a3 := hkA 3 v3 rfl
   have b3 := hkB 3 u3 rfl
   have a4 := hkA 4 v4 rfl
   have b4 := hkB 4 u4 rfl
   have a5 := hkA 5 v5 rfl
   have b5 := hkB 5 u5 rfl
   rw [Nat.add_zero] at a0 b0
   have RA := aa rA
   have RB := aa rB
   clear hx hA hB bU hkA hkB rA rB lA lB
   have fX : (i : Int) < xs.length := by omega
   go_wp2
   go_region_with ((go_at_call 14; refine (HE.out x [v0, v1, v2, v3, v4, v5] [u0, u1, u2, u3, u4, u5] _ ((ap (U4 _).drew h).1 _ _ RA.out) ((ap (U4 _).drew h).1 _ _ RB.out)).mono ?_; rintro e w1 ⟨rfl, bS⟩))
   all_goals
    have aR := aa bS
    clear bS
    go_wp2
    go_roundw
    case rel => exact ⟨i + 1, by omega, by go_num, dH.out.trans (((U4 _).drew.trans aR.out).mono dH.out.size)⟩
    case measure => simp [intOf]; omega
  ·go_wp2
   go_ret
   exact ⟨rfl, dH.out⟩
theorem ry {h : Nat} (hE : AO h) (xs : List Tr) (hl : xs.length <= maxLen) (oa ob : Option Addr) (ca cb : Nat) (w : World) (ha : RowOf fO w (reads fO w h).de 9 oa xs) (hb : RowOf fO w (reads fO w h).de 9 ob xs) :
 Calls Tryz.prog 37 #[.slice oa xs.length ca, .slice ob xs.length cb] w fun e w' => e = .returned (.bool true) /\ Below w.heap.size w w' := by
 have HA := aa ha
 have HB := aa hb
 have HE := aa hE
 have iT : xs.length <= 9223372036854775807 := hl
 clear ha hb hE hl
 go_enter Tryz.func37, Tryz.ntmps37
 go_wp2
 go_loopw [5] (fun t wr => ∃ k : Nat, k <= xs.length /\ t = .int .i64 k /\ Below w.heap.size w wr) (fun t _ => xs.length - (intOf t).toNat)
 case atStart => exact ⟨0, Nat.zero_le _, rfl, Below.refl _ _⟩
 case round =>
  obtain ⟨i, hi, rfl, cA⟩ := hrel
  have dH := aa cA
  clear cA
  by_cases au : i < xs.length
  ·have bU : xs ≠ [] := by intro e; rw [e] at au; simp at au
   obtain ⟨x, hx⟩ : ∃ x, xs[i]? = some x := ⟨xs[i], List.getElem?_eq_getElem au⟩
   obtain ⟨ba, fa, ea, -, -, hA⟩ := (HA.out.later dH.out (ap dH.out h).2.1) bU
   obtain ⟨bb, fb, eb, -, -, hB⟩ := (HB.out.later dH.out (ap dH.out h).2.1) bU
   subst ea eb
   obtain ⟨va, lA, hkA, rA⟩ := hA i x hx
   obtain ⟨vb, lB, hkB, rB⟩ := hB i x hx
   obtain ⟨v0, v1, v2, v3, v4, v5, v6, v7, v8, rfl⟩ := JI lA
   obtain ⟨u0, u1, u2, u3, u4, u5, u6, u7, u8, rfl⟩ := JI lB
   have a0 := hkA 0 v0 rfl
   have b0 := hkB 0 u0 rfl
   have a1 := hkA 1 v1 rfl
   have b1 := hkB 1 u1 rfl
   have a2 := hkA 2 v2 rfl
   have b2 := hkB 2 u2 rfl
   have a3 := hkA 3 v3 rfl
   have b3 := hkB 3 u3 rfl
   have a4 := hkA 4 v4 rfl
   have b4 := hkB 4 u4 rfl
   have a5 := hkA 5 v5 rfl
   have b5 := hkB 5 u5 rfl
   have a6 := hkA 6 v6 rfl
   have b6 := hkB 6 u6 rfl
   have a7 := hkA 7 v7 rfl
   have b7 := hkB 7 u7 rfl
   have a8 := hkA 8 v8 rfl
   have b8 := hkB 8 u8 rfl
   rw [Nat.add_zero] at a0 b0
   have RA := aa rA
   have RB := aa rB
   clear hx hA hB bU hkA hkB rA rB lA lB
   have fX : (i : Int) < xs.length := by omega
   go_wp2
   go_region_with ((go_at_call 25; refine (HE.out x [v0, v1, v2, v3, v4, v5, v6, v7, v8] [u0, u1, u2, u3, u4, u5, u6, u7, u8] _ ((ap (U4 _).drew h).2.1 _ _ RA.out) ((ap (U4 _).drew h).2.1 _ _ RB.out)).mono ?_; rintro e w1 ⟨rfl, bS⟩))
   all_goals
    have aR := aa bS
    clear bS
    go_wp2
    go_roundw
    case rel => exact ⟨i + 1, by omega, by go_num, dH.out.trans (((U4 _).drew.trans aR.out).mono dH.out.size)⟩
    case measure => simp [intOf]; omega
  ·go_wp2
   go_ret
   exact ⟨rfl, dH.out⟩
theorem yh {h : Nat} (hE : DR h) (xs : List Tr) (hl : xs.length <= maxLen) (oa ob : Option Addr) (ca cb : Nat) (w : World) (ha : RowOf fO w (reads fO w h).al 8 oa xs) (hb : RowOf fO w (reads fO w h).al 8 ob xs) :
 Calls Tryz.prog 48 #[.slice oa xs.length ca, .slice ob xs.length cb] w fun e w' => e = .returned (.bool true) /\ Below w.heap.size w w' := by
 have HA := aa ha
 have HB := aa hb
 have HE := aa hE
 have iT : xs.length <= 9223372036854775807 := hl
 clear ha hb hE hl
 go_enter Tryz.func48, Tryz.ntmps48
 go_wp2
 go_loopw [5] (fun t wr => ∃ k : Nat, k <= xs.length /\ t = .int .i64 k /\ Below w.heap.size w wr) (fun t _ => xs.length - (intOf t).toNat)
 case atStart => exact ⟨0, Nat.zero_le _, rfl, Below.refl _ _⟩
 case round =>
  obtain ⟨i, hi, rfl, cA⟩ := hrel
  have dH := aa cA
  clear cA
  by_cases au : i < xs.length
  ·have bU : xs ≠ [] := by intro e; rw [e] at au; simp at au
   obtain ⟨x, hx⟩ : ∃ x, xs[i]? = some x := ⟨xs[i], List.getElem?_eq_getElem au⟩
   obtain ⟨ba, fa, ea, -, -, hA⟩ := (HA.out.later dH.out (ap dH.out h).2.2) bU
   obtain ⟨bb, fb, eb, -, -, hB⟩ := (HB.out.later dH.out (ap dH.out h).2.2) bU
   subst ea eb
   obtain ⟨va, lA, hkA, rA⟩ := hA i x hx
   obtain ⟨vb, lB, hkB, rB⟩ := hB i x hx
   obtain ⟨v0, v1, v2, v3, v4, v5, v6, v7, rfl⟩ := BD lA
   obtain ⟨u0, u1, u2, u3, u4, u5, u6, u7, rfl⟩ := BD lB
   have a0 := hkA 0 v0 rfl
   have b0 := hkB 0 u0 rfl
   have a1 := hkA 1 v1 rfl
   have b1 := hkB 1 u1 rfl
   have a2 := hkA 2 v2 rfl
   have b2 := hkB 2 u2 rfl
   have a3 := hkA 3 v3 rfl
   have b3 := hkB 3 u3 rfl
   have a4 := hkA 4 v4 rfl
   have b4 := hkB 4 u4 rfl
   have a5 := hkA 5 v5 rfl
   have b5 := hkB 5 u5 rfl
   have a6 := hkA 6 v6 rfl
   have b6 := hkB 6 u6 rfl
   have a7 := hkA 7 v7 rfl
   have b7 := hkB 7 u7 rfl
   rw [Nat.add_zero] at a0 b0
   have RA := aa rA
   have RB := aa rB
   clear hx hA hB bU hkA hkB rA rB lA lB
   have fX : (i : Int) < xs.length := by omega
   go_wp2
   go_region_with ((go_at_call 102; refine (HE.out x [v0, v1, v2, v3, v4, v5, v6, v7] [u0, u1, u2, u3, u4, u5, u6, u7] _ ((ap (U4 _).drew h).2.2 _ _ RA.out) ((ap (U4 _).drew h).2.2 _ _ RB.out)).mono ?_; rintro e w1 ⟨rfl, bS⟩))
   all_goals
    have aR := aa bS
    clear bS
    go_wp2
    go_roundw
    case rel => exact ⟨i + 1, by omega, by go_num, dH.out.trans (((U4 _).drew.trans aR.out).mono dH.out.size)⟩
    case measure => simp [intOf]; omega
  ·go_wp2
   go_ret
   exact ⟨rfl, dH.out⟩
theorem wn {h : Nat} (i1 : yH h) (i2 : AO h) (i3 : DR h) : yH (h + 1) := by
 intro x ca cb w hra zq
 obtain ⟨-, o1, c1, o2, c2, o3, c3, rfl, hs, hl, hd, ha, q1, q2, q3⟩ := hra
 obtain ⟨-, p1, d1, p2, d2, p3, d3, rfl, -, -, -, -, r1, r2, r3⟩ := zq
 have I1 := aa i1
 have Q1 := aa q1
 have R1 := aa r1
 have I2 := aa i2
 have Q2 := aa q2
 have R2 := aa r2
 have I3 := aa i3
 have Q3 := aa q3
 have R3 := aa r3
 have rS := aa (And.intro hl.1 (And.intro hd.1 ha.1))
 clear i1 i2 i3 q1 q2 q3 r1 r2 r3 hs hl hd ha
 have aF : Hid (((w.alloc (.cells #[.int .i64 x.k, .string x.s, .int .i64 x.n, .slice o1 x.l.length c1, .slice o2 x.ds.length c2, .slice o3 x.al.length c3] 34)).alloc (.cells #[.int .i64 x.k, .string x.s, .int .i64 x.n, .slice p1 x.l.length d1, .slice p2 x.ds.length d2, .slice p3 x.al.length d3] 34)).heap[w.heap.size]? = some (.cells #[.int .i64 x.k, .string x.s, .int .i64 x.n, .slice o1 x.l.length c1, .slice o2 x.ds.length c2, .slice o3 x.al.length c3] 34 (0, 0))) := (Below.heap_alloc _ _ _ (by simp)).trans (heap_alloc_new w _)
 have Kc : Hid (((w.alloc (.cells #[.int .i64 x.k, .string x.s, .int .i64 x.n, .slice o1 x.l.length c1, .slice o2 x.ds.length c2, .slice o3 x.al.length c3] 34)).alloc (.cells #[.int .i64 x.k, .string x.s, .int .i64 x.n, .slice p1 x.l.length d1, .slice p2 x.ds.length d2, .slice p3 x.al.length d3] 34)).heap[w.heap.size + 1]? = some (.cells #[.int .i64 x.k, .string x.s, .int .i64 x.n, .slice p1 x.l.length d1, .slice p2 x.ds.length d2, .slice p3 x.al.length d3] 34 (0, 0))) := heap_alloc2_new w _ _
 have aq : Hid (Below w.heap.size w ((w.alloc (.cells #[.int .i64 x.k, .string x.s, .int .i64 x.n, .slice o1 x.l.length c1, .slice o2 x.ds.length c2, .slice o3 x.al.length c3] 34)).alloc (.cells #[.int .i64 x.k, .string x.s, .int .i64 x.n, .slice p1 x.l.length d1, .slice p2 x.ds.length d2, .slice p3 x.al.length d3] 34))) := ((U4 w).alloc U0 _).alloc (by simp) _
 have ll : w.heap.size + 2 <= ((w.alloc (.cells #[.int .i64 x.k, .string x.s, .int .i64 x.n, .slice o1 x.l.length c1, .slice o2 x.ds.length c2, .slice o3 x.al.length c3] 34)).alloc (.cells #[.int .i64 x.k, .string x.s, .int .i64 x.n, .slice p1 x.l.length d1, .slice p2 x.ds.length d2, .slice p3 x.al.length d3] 34)).heap.size := by simp
 go_enter Tryz.func14, Tryz.ntmps14
 go_wp2_with fail
 refine (ya I1.out x.l rS.out.1 o1 p1 c1 d1 _ (Q1.out.later aq.out (ap aq.out h).1) (R1.out.later aq.out (ap aq.out h).1)).mono ?_
 rintro e w1 ⟨rfl, hb⟩
 have aR := aa (aq.out.trans (hb.mono aq.out.size))
 have aK := aa ((hb.block w.heap.size (by omega)).trans aF.out)
 have rY := aa ((hb.block (w.heap.size + 1) (by omega)).trans Kc.out)
 have iN : w.heap.size + 2 <= w1.heap.size := Nat.le_trans ll hb.size
 clear hb
 have B6 := cell_of aK.out 4
 have Dk := cell_of rY.out 4
 have Ck := cell_of aK.out 5
 have BS := cell_of rY.out 5
 simp only [U7, U8, U9] at B6 Dk Ck BS
 go_wp2_with fail
 refine (ry I2.out x.ds rS.out.2.1 o2 p2 c2 d2 _ (Q2.out.later aR.out (ap aR.out h).2.1) (R2.out.later aR.out (ap aR.out h).2.1)).mono ?_
 rintro e w2 ⟨rfl, hb⟩
 have bD := aa (aR.out.trans (hb.mono aR.out.size))
 have gx := aa ((hb.block w.heap.size (by omega)).trans aK.out)
 have zw := aa ((hb.block (w.heap.size + 1) (by omega)).trans rY.out)
 have iM : w.heap.size + 2 <= w2.heap.size := Nat.le_trans iN hb.size
 clear hb
 have Ot := cell_of gx.out 5
 have MQ := cell_of zw.out 5
 simp only [U7, U8, U9] at Ot MQ
 go_wp2_with fail
 refine (yh I3.out x.al rS.out.2.2 o3 p3 c3 d3 _ (Q3.out.later bD.out (ap bD.out h).2.2) (R3.out.later bD.out (ap bD.out h).2.2)).mono ?_
 rintro e w3 ⟨rfl, hb⟩
 have dc := aa (bD.out.trans (hb.mono bD.out.size))
 have jP := aa ((hb.block w.heap.size (by omega)).trans gx.out)
 have Ji := aa ((hb.block (w.heap.size + 1) (by omega)).trans zw.out)
 have gy : w.heap.size + 2 <= w3.heap.size := Nat.le_trans iM hb.size
 clear hb
 go_wp2
 go_ret
 exact ⟨rfl, dc.out⟩
theorem vG {h : Nat} (i1 : yH h) (i2 : AO h) : AO (h + 1) := by
 intro x ca cb w hra zq
 obtain ⟨-, -, -, y, o1, c1, ce, o2, c2, hy, rfl, hs, hl, hd, q1, hce, q2, q3⟩ := hra
 obtain ⟨-, -, -, y2, p1, d1, cf, p2, d2, wI, rfl, -, -, -, r1, hcf, r2, r3⟩ := zq
 have Oc : y = y2 := by rw [hy] at wI; simpa using wI
 subst Oc
 obtain ⟨co0, co1, co2, co3, co4, co5, rfl⟩ := six hce
 obtain ⟨dp0, dp1, dp2, dp3, dp4, dp5, rfl⟩ := six hcf
 simp only [List.cons_append, List.nil_append]
 have I1 := aa i1
 have Q1 := aa q1
 have R1 := aa r1
 have Q2 := aa q2
 have R2 := aa r2
 have rS := aa (And.intro hl.1 hd.1)
 have I2 := aa i2
 have Q3 := aa q3
 have R3 := aa r3
 clear i1 q1 r1 q2 r2 hy wI hce hcf hs hl i2 q3 r3 hd
 have aF : Hid (((w.alloc (.cells #[.string x.s, .slice o1 x.ss.length c1, co0, co1, co2, co3, co4, co5, .slice o2 x.ds.length c2] 54)).alloc (.cells #[.string x.s, .slice p1 x.ss.length d1, dp0, dp1, dp2, dp3, dp4, dp5, .slice p2 x.ds.length d2] 54)).heap[w.heap.size]? = some (.cells #[.string x.s, .slice o1 x.ss.length c1, co0, co1, co2, co3, co4, co5, .slice o2 x.ds.length c2] 54 (0, 0))) := (Below.heap_alloc _ _ _ (by simp)).trans (heap_alloc_new w _)
 have Kc : Hid (((w.alloc (.cells #[.string x.s, .slice o1 x.ss.length c1, co0, co1, co2, co3, co4, co5, .slice o2 x.ds.length c2] 54)).alloc (.cells #[.string x.s, .slice p1 x.ss.length d1, dp0, dp1, dp2, dp3, dp4, dp5, .slice p2 x.ds.length d2] 54)).heap[w.heap.size + 1]? = some (.cells #[.string x.s, .slice p1 x.ss.length d1, dp0, dp1, dp2, dp3, dp4, dp5, .slice p2 x.ds.length d2] 54 (0, 0))) := heap_alloc2_new w _ _
 have aq : Hid (Below w.heap.size w ((w.alloc (.cells #[.string x.s, .slice o1 x.ss.length c1, co0, co1, co2, co3, co4, co5, .slice o2 x.ds.length c2] 54)).alloc (.cells #[.string x.s, .slice p1 x.ss.length d1, dp0, dp1, dp2, dp3, dp4, dp5, .slice p2 x.ds.length d2] 54))) := ((U4 w).alloc U0 _).alloc (by simp) _
 have ll : w.heap.size + 2 <= ((w.alloc (.cells #[.string x.s, .slice o1 x.ss.length c1, co0, co1, co2, co3, co4, co5, .slice o2 x.ds.length c2] 54)).alloc (.cells #[.string x.s, .slice p1 x.ss.length d1, dp0, dp1, dp2, dp3, dp4, dp5, .slice p2 x.ds.length d2] 54)).heap.size := by simp
 go_enter Tryz.func25, Tryz.ntmps25
 go_wp2_with fail
 refine (kh x.ss rS.out.1 o1 p1 c1 d1 _ (Q1.out.later aq.out fun _ _ h => h) (R1.out.later aq.out fun _ _ h => h)).mono ?_
 rintro e w1 ⟨rfl, hb⟩
 have aR := aa (aq.out.trans (hb.mono aq.out.size))
 have aK := aa ((hb.block w.heap.size (by omega)).trans aF.out)
 have rY := aa ((hb.block (w.heap.size + 1) (by omega)).trans Kc.out)
 have iN : w.heap.size + 2 <= w1.heap.size := Nat.le_trans ll hb.size
 clear hb
 have Hy := cell_of aK.out 2
 have Hk := cell_of rY.out 2
 have IJ := cell_of aK.out 3
 have Im := cell_of rY.out 3
 have B6 := cell_of aK.out 4
 have Dk := cell_of rY.out 4
 have Ck := cell_of aK.out 5
 have BS := cell_of rY.out 5
 have Ht := cell_of aK.out 6
 have Hr := cell_of rY.out 6
 have IG := cell_of aK.out 7
 have IY := cell_of rY.out 7
 have Nq := cell_of aK.out 8
 have Oe := cell_of rY.out 8
 simp only [U7, U8, U9] at Hy Hk IJ Im B6 Dk Ck BS Ht Hr IG IY Nq Oe
 go_wp2_with fail
 refine (I1.out y _ _ _ ((ap aR.out h).1 _ _ Q2.out) ((ap aR.out h).1 _ _ R2.out)).mono ?_
 rintro e w2 ⟨rfl, hb⟩
 have bD := aa (aR.out.trans (hb.mono aR.out.size))
 have gx := aa ((hb.block w.heap.size (by omega)).trans aK.out)
 have zw := aa ((hb.block (w.heap.size + 1) (by omega)).trans rY.out)
 have iM : w.heap.size + 2 <= w2.heap.size := Nat.le_trans iN hb.size
 clear hb
 have O1 := cell_of gx.out 8
 have O6 := cell_of zw.out 8
 simp only [U7, U8, U9] at O1 O6
 go_wp2_with fail
 refine (ry I2.out x.ds rS.out.2 o2 p2 c2 d2 _ (Q3.out.later bD.out (ap bD.out h).2.1) (R3.out.later bD.out (ap bD.out h).2.1)).mono ?_
 rintro e w3 ⟨rfl, hb⟩
 have dc := aa (bD.out.trans (hb.mono bD.out.size))
 have jP := aa ((hb.block w.heap.size (by omega)).trans gx.out)
 have Ji := aa ((hb.block (w.heap.size + 1) (by omega)).trans zw.out)
 have gy : w.heap.size + 2 <= w3.heap.size := Nat.le_trans iM hb.size
 clear hb
 go_wp2
 go_ret
 exact ⟨rfl, dc.out⟩
theorem vX {h : Nat} (i1 : yH h) : DR (h + 1) := by
 intro x ca cb w hra zq
 obtain ⟨-, -, -, -, y, o1, c1, ce, hy, rfl, hs, hl, q1, hce, q2⟩ := hra
 obtain ⟨-, -, -, -, y2, p1, d1, cf, wI, rfl, -, -, r1, hcf, r2⟩ := zq
 have Oc : y = y2 := by rw [hy] at wI; simpa using wI
 subst Oc
 obtain ⟨co0, co1, co2, co3, co4, co5, rfl⟩ := six hce
 obtain ⟨dp0, dp1, dp2, dp3, dp4, dp5, rfl⟩ := six hcf
 simp only [List.cons_append, List.nil_append]
 have I1 := aa i1
 have Q1 := aa q1
 have R1 := aa r1
 have Q2 := aa q2
 have R2 := aa r2
 have rS := aa (And.intro hl.1 trivial)
 clear i1 q1 r1 q2 r2 hy wI hce hcf hs hl
 have aF : Hid (((w.alloc (.cells #[.string x.s, .slice o1 x.ss.length c1, co0, co1, co2, co3, co4, co5] 142)).alloc (.cells #[.string x.s, .slice p1 x.ss.length d1, dp0, dp1, dp2, dp3, dp4, dp5] 142)).heap[w.heap.size]? = some (.cells #[.string x.s, .slice o1 x.ss.length c1, co0, co1, co2, co3, co4, co5] 142 (0, 0))) := (Below.heap_alloc _ _ _ (by simp)).trans (heap_alloc_new w _)
 have Kc : Hid (((w.alloc (.cells #[.string x.s, .slice o1 x.ss.length c1, co0, co1, co2, co3, co4, co5] 142)).alloc (.cells #[.string x.s, .slice p1 x.ss.length d1, dp0, dp1, dp2, dp3, dp4, dp5] 142)).heap[w.heap.size + 1]? = some (.cells #[.string x.s, .slice p1 x.ss.length d1, dp0, dp1, dp2, dp3, dp4, dp5] 142 (0, 0))) := heap_alloc2_new w _ _
 have aq : Hid (Below w.heap.size w ((w.alloc (.cells #[.string x.s, .slice o1 x.ss.length c1, co0, co1, co2, co3, co4, co5] 142)).alloc (.cells #[.string x.s, .slice p1 x.ss.length d1, dp0, dp1, dp2, dp3, dp4, dp5] 142))) := ((U4 w).alloc U0 _).alloc (by simp) _
 have ll : w.heap.size + 2 <= ((w.alloc (.cells #[.string x.s, .slice o1 x.ss.length c1, co0, co1, co2, co3, co4, co5] 142)).alloc (.cells #[.string x.s, .slice p1 x.ss.length d1, dp0, dp1, dp2, dp3, dp4, dp5] 142)).heap.size := by simp
 go_enter Tryz.func102, Tryz.ntmps102
 go_wp2_with fail
 refine (kh x.ss rS.out.1 o1 p1 c1 d1 _ (Q1.out.later aq.out fun _ _ h => h) (R1.out.later aq.out fun _ _ h => h)).mono ?_
 rintro e w1 ⟨rfl, hb⟩
 have aR := aa (aq.out.trans (hb.mono aq.out.size))
 have aK := aa ((hb.block w.heap.size (by omega)).trans aF.out)
 have rY := aa ((hb.block (w.heap.size + 1) (by omega)).trans Kc.out)
 have iN : w.heap.size + 2 <= w1.heap.size := Nat.le_trans ll hb.size
 clear hb
 have Hy := cell_of aK.out 2
 have Hk := cell_of rY.out 2
 have IJ := cell_of aK.out 3
 have Im := cell_of rY.out 3
 have B6 := cell_of aK.out 4
 have Dk := cell_of rY.out 4
 have Ck := cell_of aK.out 5
 have BS := cell_of rY.out 5
 have Ht := cell_of aK.out 6
 have Hr := cell_of rY.out 6
 have IG := cell_of aK.out 7
 have IY := cell_of rY.out 7
 simp only [U7, U8, U9] at Hy Hk IJ Im B6 Dk Ck BS Ht Hr IG IY
 go_wp2_with fail
 refine (I1.out y _ _ _ ((ap aR.out h).1 _ _ Q2.out) ((ap aR.out h).1 _ _ R2.out)).mono ?_
 rintro e w2 ⟨rfl, hb⟩
 have bD := aa (aR.out.trans (hb.mono aR.out.size))
 have gx := aa ((hb.block w.heap.size (by omega)).trans aK.out)
 have zw := aa ((hb.block (w.heap.size + 1) (by omega)).trans rY.out)
 have iM : w.heap.size + 2 <= w2.heap.size := Nat.le_trans iN hb.size
 clear hb
 go_wp2
 go_ret
 exact ⟨rfl, bD.out⟩
theorem Ah (h : Nat) : yH h /\ AO h /\ DR h := by
 induction h with
 | zero => exact ⟨fun _ _ _ _ hr => hr.elim, fun _ _ _ _ hr => hr.elim, fun _ _ _ _ hr => hr.elim⟩
 | succ h ih => exact ⟨wn ih.1 ih.2.1 ih.2.2, vG ih.1 ih.2.1, vX ih.1⟩
end Go.Proofs.YtfomndilhlgikajGreatDoor
