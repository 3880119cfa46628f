/- The program's spreadDec. -/
import Derived.Test.YtlaeenfeajkcfalGreatSD
namespace Go.Proofs.YtlaeenfeajkcfalGreat.Fr
open Go.ChangeShapes Go.WideShapes Go.ChangeAt Go.RowKit Go.Proofs.YtlaeenfeajkcfalGreat.Nm
set_option linter.unusedVariables false

set_option maxHeartbeats 2000000 in
set_option maxRecDepth 100000 in
theorem spreadDec_any {K KP KS : Nat → Prop} {w : World} {n : Nat} {ks : List (Bool × Addr)} {G : Log} {h : Nat} (hN : Net KP KS w n ks G) (d : Tr) (cs : List Value) (a : Addr) (ha : a.spot = none) (hca : CellsA w a cs) (hcl : cs.length = 9) (hr : (reads K w (h + 1)).de d cs) (hab : K a.block) (hK : ∀ b, K b → KP b) (f : Nat)
    (hss : d.ss.length ≤ 10000000) (hds : d.ds.length ≤ 10000000) (hL : G.length + d.ds.length + 1 ≤ 40000000) (hk : ks.length + d.ds.length + 1 ≤ 40000000) :
    ∃ o2, (∃ c2, cs[8]? = some (.slice o2 d.ds.length c2)) ∧ Calls Tryz.prog 100 #[.pointer (some ⟨n, 0, none⟩), .int .i64 (f : Int), .pointer (some a)] w fun e w' => ∃ new D, e = .returned (.tuple #[]) ∧ Net KP KS w' n (ks ++ new) (G ++ D) ∧ D.length = 1 + d.ds.length ∧ LedBy (ks ++ new) f (((true, ⟨a.block, a.off + 2, none⟩), d.ss ++ d.ds.map Tr.s) :: (rowA o2 9 0 d.ds.length).map fun a => ((false, a), d.ss ++ d.ds.map Tr.s)) D ∧ new.Sublist ((true, ⟨a.block, a.off + 2, none⟩) :: (rowA o2 9 0 d.ds.length).map fun a => (false, a)) ∧ (true, ⟨a.block, a.off + 2, none⟩) ∈ ks ++ new ∧ (∀ b ∈ rowA o2 9 0 d.ds.length, (false, b) ∈ ks ++ new) ∧ Keeps KS w w' := by
  obtain ⟨ab, ao, asp⟩ := a
  simp only at ha
  subst ha
  obtain ⟨d0, d1, d2, e, o1, c1, ce, o2, c2, e0, e1, e2, e3, e4, r1, e5, r2, r3⟩ := hr
  obtain ⟨a0, a1, a2, a3, a4, a5, rfl⟩ := six e5
  subst e1
  refine ⟨o2, ⟨c2, rfl⟩, ?_⟩
  have q1 : w.cell? ⟨ab, ao + 1, none⟩ = some (.slice o1 d.ss.length c1) := hca 1 _ rfl
  have q8 : w.cell? ⟨ab, ao + 8, none⟩ = some (.slice o2 d.ds.length c2) := hca 8 _ rfl
  have hal : ab < w.heap.size := World.block_lt_of_cell? w _ q1
  have HLAT : Hid (∀ W, Below w.heap.size w W → RowOf (fun _ => True) W strR 1 o1 d.ss ∧ RowOf K W (reads K W h).de 9 o2 d.ds) := fun W hW =>
    ⟨r1.frame (Stays.of hW) (fun _ _ => trivial) (fun _ _ h => h), r3.later hW fun _ _ hh => (reads_later hW h).2.1 _ _ hh⟩
  have HC : Hid (∀ W, Below w.heap.size w W → W.cell? ⟨ab, ao + 1, none⟩ = some (.slice o1 d.ss.length c1) ∧ W.cell? ⟨ab, ao + 8, none⟩ = some (.slice o2 d.ds.length c2)) := fun W hW =>
    ⟨(hW.cell (p := ⟨ab, _, none⟩) hal).trans q1, (hW.cell (p := ⟨ab, _, none⟩) hal).trans q8⟩
  have HNM : Hid (∀ W, Below w.heap.size w W → Calls Tryz.prog 37 #[.slice o2 d.ds.length c2] W (NmP d.ds W)) := fun W hW => names_any d.ds o2 c2 W (HLAT.out W hW).2 hds
  have HN := hide hN
  have hkslt : ∀ b, KS b → b < w.heap.size := by obtain ⟨_, _, _, _, _, _, h9⟩ := hN; exact h9.kslt
  have hkpks : ∀ b, KP b → KS b := by obtain ⟨_, _, _, _, _, _, h9⟩ := hN; exact fun b hb => (h9.plain b hb).1
  have HKS := hide hkslt
  have HKP := hide hkpks
  have HKK := hide hK
  have HAB := hide hab
  have HR3 := hide r3
  obtain ⟨V, hV⟩ : ∃ V, w.alloc (.cells #[.int .i64 0, .slice none 0 0] 178) = V := ⟨_, rfl⟩
  have HBV : Hid (Below w.heap.size w V) := by rw [← hV]; exact (Below.refl _ w).alloc (Nat.le_refl _) _
  have HXV : Hid (V.heap[w.heap.size]? = some (.cells #[.int .i64 0, .slice none 0 0] 178 (0, 0))) := by rw [← hV]; exact heap_alloc_new w _
  obtain ⟨v1, v8⟩ := HC.out V HBV.out
  have HNMa := hide (HNM.out w.drew (Below.refl _ w).drew)
  have HNMb := hide (HNM.out V.drew HBV.out.drew)
  clear hN hca hcl hab hK d0 d1 d2 e2 e3 e4 r1 r2 r3 e5 hkslt hkpks
  go_enter Tryz.func100, Tryz.ntmps100
  go_upto_region 0 with fail
  go_cut [6] (fun t6 W => ∃ g ob l cb, t6 = .pointer (some ⟨g, 0, none⟩) ∧ w.heap.size ≤ g ∧ W.heap[g]? = some (.cells #[.int .i64 f, .slice ob l.length cb] 178 (0, 0)) ∧ RelB w W ob l (d.ss ++ d.ds.map Tr.s))
  case first =>
    go_region_with (first
      | (go_at_call 37; first
          | ((with_reducible refine Calls.mono HNMa.out ?_); rintro ee w1 ⟨v, l, rfl, hn1, hl1, hle, hb1⟩; obtain ⟨oN, cN, rfl, -, hrN⟩ := hn1.rowOf; have HB1 : Hid (Below w.heap.size w w1) := (Below.refl _ w).drew.trans hb1; obtain ⟨p1, p8⟩ := HC.out w1 HB1.out; obtain ⟨s1, s8⟩ := HC.out (w1.alloc (.cells #[.int .i64 0, .slice none 0 0] 178)) (HB1.out.alloc HB1.out.size _); rw [hl1]; have HSA : Hid (∀ W b, Below w1.heap.size w1 W → W.heap[b]? = some (.cells #[.slice o1 d.ss.length c1, .slice oN d.ds.length cN] 38 (0, 0)) → Calls Tryz.prog 124 #[.slice (some ⟨b, 0, none⟩) 2 2] W (SrtP w1.heap.size (d.ss ++ d.ds.map Tr.s) W)) := (fun W b hW hg => by rw [← hl1] at hg; rw [← hle]; exact sorted2_any hW.size hg (by omega) (by omega) (HLAT.out W (HB1.out.trans (hW.mono HB1.out.size))).1 (hrN.frame (Stays.of hW) (fun _ _ => trivial) (fun _ _ h => h))); have HS1 := hide (HSA.out (w1.alloc (.cells #[.slice o1 d.ss.length c1, .slice oN d.ds.length cN] 38)) w1.heap.size ((Below.refl _ w1).alloc (Nat.le_refl _) _) (heap_alloc_new w1 _)); have HS2 := hide (HSA.out ((w1.alloc (.cells #[.int .i64 0, .slice none 0 0] 178)).alloc (.cells #[.slice o1 d.ss.length c1, .slice oN d.ds.length cN] 38)) (w1.heap.size + 1) (((Below.refl _ w1).alloc (Nat.le_refl _) _).alloc (by simp) _) (heap_alloc2_new w1 _ _)); have HS3 := hide (HSA.out ((w1.alloc (.cells #[.slice o1 d.ss.length c1, .slice oN d.ds.length cN] 38)).alloc (.cells #[.int .i64 0, .slice none 0 0] 178)) w1.heap.size (((Below.refl _ w1).alloc (Nat.le_refl _) _).alloc (by simp) _) ((heap_alloc_old _ _ (by simp)).trans (heap_alloc_new w1 _))); clear hn1 hb1 hrN hle HSA)
          | ((with_reducible refine Calls.mono HNMb.out ?_); rintro ee w1 ⟨v, l, rfl, hn1, hl1, hle, hb1⟩; obtain ⟨oN, cN, rfl, -, hrN⟩ := hn1.rowOf; have HB1 : Hid (Below w.heap.size w w1) := (HBV.out.drew.trans (hb1.mono HBV.out.size)); obtain ⟨p1, p8⟩ := HC.out w1 HB1.out; rw [hl1]; have HX1 := hide ((hb1.block w.heap.size (heap_lt HXV.out)).trans HXV.out); have HSA : Hid (∀ W b, Below w1.heap.size w1 W → W.heap[b]? = some (.cells #[.slice o1 d.ss.length c1, .slice oN d.ds.length cN] 38 (0, 0)) → Calls Tryz.prog 124 #[.slice (some ⟨b, 0, none⟩) 2 2] W (SrtP w1.heap.size (d.ss ++ d.ds.map Tr.s) W)) := (fun W b hW hg => by rw [← hl1] at hg; rw [← hle]; exact sorted2_any hW.size hg (by omega) (by omega) (HLAT.out W (HB1.out.trans (hW.mono HB1.out.size))).1 (hrN.frame (Stays.of hW) (fun _ _ => trivial) (fun _ _ h => h))); have HS1 := hide (HSA.out (w1.alloc (.cells #[.slice o1 d.ss.length c1, .slice oN d.ds.length cN] 38)) w1.heap.size ((Below.refl _ w1).alloc (Nat.le_refl _) _) (heap_alloc_new w1 _)); have HS2 := hide (HSA.out ((w1.alloc (.cells #[.int .i64 0, .slice none 0 0] 178)).alloc (.cells #[.slice o1 d.ss.length c1, .slice oN d.ds.length cN] 38)) (w1.heap.size + 1) (((Below.refl _ w1).alloc (Nat.le_refl _) _).alloc (by simp) _) (heap_alloc2_new w1 _ _)); have HS3 := hide (HSA.out ((w1.alloc (.cells #[.slice o1 d.ss.length c1, .slice oN d.ds.length cN] 38)).alloc (.cells #[.int .i64 0, .slice none 0 0] 178)) w1.heap.size (((Below.refl _ w1).alloc (Nat.le_refl _) _).alloc (by simp) _) ((heap_alloc_old _ _ (by simp)).trans (heap_alloc_new w1 _))); clear hn1 hb1 hrN hle HSA))
      | (go_at_call 124; first
          | ((with_reducible refine Calls.mono HS1.out ?_); rintro ee w2 ⟨o', c', l', rfl, hbr, hge, hsm, hb2⟩; have HX2 := hide ((hb2.block w.heap.size (by have := heap_lt HX1.out; rw [size1]; omega)).trans ((heap_alloc_old _ _ (heap_lt HX1.out)).trans HX1.out)); have HB2 : Hid (Below w.heap.size w w2) := (HB1.out.trans ((((Below.refl _ w1).alloc (Nat.le_refl _) _).trans (hb2.mono (by rw [size1]; omega))).mono HB1.out.size)); have y0 := cell_of HX2.out 0; have y1 := cell_of HX2.out 1; have f0 := frozen_of HX2.out 0; have f1 := frozen_of HX2.out 1; simp only [List.getElem?_toArray, List.getElem?_cons_succ, List.getElem?_cons_zero] at y0 y1; have HREL : Hid (∃ g ob l cb, Value.pointer (some ⟨w.heap.size, 0, none⟩) = .pointer (some ⟨g, 0, none⟩) ∧ w.heap.size ≤ g ∧ ((w2.setCell ⟨w.heap.size, 0, none⟩ (.int .i64 f)).setCell ⟨w.heap.size, 1, none⟩ (.slice o' l'.length c')).heap[g]? = some (.cells #[.int .i64 f, .slice ob l.length cb] 178 (0, 0)) ∧ RelB w ((w2.setCell ⟨w.heap.size, 0, none⟩ (.int .i64 f)).setCell ⟨w.heap.size, 1, none⟩ (.slice o' l'.length c')) ob l (d.ss ++ d.ds.map Tr.s)) := ⟨w.heap.size, o', l', c', rfl, (show w.heap.size ≤ w.heap.size by have := HB1.out.size; omega), set2 _ _ _ HX2.out, bind_set (t := 178) (heap_set_same _ HX2.out) (by decide) _ (bind_set HX2.out (by decide) _ hbr), (fun b hb => Nat.le_trans HB1.out.size (hge b hb)), hsm, (HB2.out.setCell (show w.heap.size ≤ w.heap.size by have := HB1.out.size; omega) _).setCell (show w.heap.size ≤ w.heap.size by have := HB1.out.size; omega) _⟩; clear hb2 hbr hge hsm)
          | ((with_reducible refine Calls.mono HS1.out ?_); rintro ee w2 ⟨o', c', l', rfl, hbr, hge, hsm, hb2⟩; have HB2 : Hid (Below w.heap.size w w2) := (HB1.out.trans ((((Below.refl _ w1).alloc (Nat.le_refl _) _).trans (hb2.mono (by rw [size1]; omega))).mono HB1.out.size)); have HREL : Hid (∃ g ob l cb, Value.pointer (some ⟨w2.heap.size, 0, none⟩) = .pointer (some ⟨g, 0, none⟩) ∧ w.heap.size ≤ g ∧ (w2.alloc (.cells #[.int .i64 f, .slice o' l'.length c'] 178)).heap[g]? = some (.cells #[.int .i64 f, .slice ob l.length cb] 178 (0, 0)) ∧ RelB w (w2.alloc (.cells #[.int .i64 f, .slice o' l'.length c'] 178)) ob l (d.ss ++ d.ds.map Tr.s)) := ⟨w2.heap.size, o', l', c', rfl, HB2.out.size, heap_alloc_new w2 _, hbr.later ((Below.refl _ w2).alloc (Nat.le_refl _) _), (fun b hb => Nat.le_trans HB1.out.size (hge b hb)), hsm, HB2.out.alloc HB2.out.size _⟩; clear hb2 hbr hge hsm)
          | ((with_reducible refine Calls.mono HS2.out ?_); rintro ee w2 ⟨o', c', l', rfl, hbr, hge, hsm, hb2⟩; have HX2 := hide ((hb2.block w1.heap.size (by rw [size2]; omega)).trans ((heap_alloc_old _ _ (by simp)).trans (heap_alloc_new w1 _))); have HB2 : Hid (Below w.heap.size w w2) := (HB1.out.trans (((((Below.refl _ w1).alloc (Nat.le_refl _) _).alloc (by simp) _).trans (hb2.mono (by rw [size2]; omega))).mono HB1.out.size)); have y0 := cell_of HX2.out 0; have y1 := cell_of HX2.out 1; have f0 := frozen_of HX2.out 0; have f1 := frozen_of HX2.out 1; simp only [List.getElem?_toArray, List.getElem?_cons_succ, List.getElem?_cons_zero] at y0 y1; have HREL : Hid (∃ g ob l cb, Value.pointer (some ⟨w1.heap.size, 0, none⟩) = .pointer (some ⟨g, 0, none⟩) ∧ w.heap.size ≤ g ∧ ((w2.setCell ⟨w1.heap.size, 0, none⟩ (.int .i64 f)).setCell ⟨w1.heap.size, 1, none⟩ (.slice o' l'.length c')).heap[g]? = some (.cells #[.int .i64 f, .slice ob l.length cb] 178 (0, 0)) ∧ RelB w ((w2.setCell ⟨w1.heap.size, 0, none⟩ (.int .i64 f)).setCell ⟨w1.heap.size, 1, none⟩ (.slice o' l'.length c')) ob l (d.ss ++ d.ds.map Tr.s)) := ⟨w1.heap.size, o', l', c', rfl, (show w.heap.size ≤ w1.heap.size by have := HB1.out.size; omega), set2 _ _ _ HX2.out, bind_set (t := 178) (heap_set_same _ HX2.out) (by decide) _ (bind_set HX2.out (by decide) _ hbr), (fun b hb => Nat.le_trans HB1.out.size (hge b hb)), hsm, (HB2.out.setCell (show w.heap.size ≤ w1.heap.size by have := HB1.out.size; omega) _).setCell (show w.heap.size ≤ w1.heap.size by have := HB1.out.size; omega) _⟩; clear hb2 hbr hge hsm)
          | ((with_reducible refine Calls.mono HS3.out ?_); rintro ee w2 ⟨o', c', l', rfl, hbr, hge, hsm, hb2⟩; have HX2 := hide ((hb2.block (w1.heap.size + 1) (by rw [size2]; omega)).trans (heap_alloc2_new w1 _ _)); have HB2 : Hid (Below w.heap.size w w2) := (HB1.out.trans (((((Below.refl _ w1).alloc (Nat.le_refl _) _).alloc (by simp) _).trans (hb2.mono (by rw [size2]; omega))).mono HB1.out.size)); have y0 := cell_of HX2.out 0; have y1 := cell_of HX2.out 1; have f0 := frozen_of HX2.out 0; have f1 := frozen_of HX2.out 1; simp only [List.getElem?_toArray, List.getElem?_cons_succ, List.getElem?_cons_zero] at y0 y1; have HREL : Hid (∃ g ob l cb, Value.pointer (some ⟨w1.heap.size + 1, 0, none⟩) = .pointer (some ⟨g, 0, none⟩) ∧ w.heap.size ≤ g ∧ ((w2.setCell ⟨w1.heap.size + 1, 0, none⟩ (.int .i64 f)).setCell ⟨w1.heap.size + 1, 1, none⟩ (.slice o' l'.length c')).heap[g]? = some (.cells #[.int .i64 f, .slice ob l.length cb] 178 (0, 0)) ∧ RelB w ((w2.setCell ⟨w1.heap.size + 1, 0, none⟩ (.int .i64 f)).setCell ⟨w1.heap.size + 1, 1, none⟩ (.slice o' l'.length c')) ob l (d.ss ++ d.ds.map Tr.s)) := ⟨w1.heap.size + 1, o', l', c', rfl, (show w.heap.size ≤ w1.heap.size + 1 by have := HB1.out.size; omega), set2 _ _ _ HX2.out, bind_set (t := 178) (heap_set_same _ HX2.out) (by decide) _ (bind_set HX2.out (by decide) _ hbr), (fun b hb => Nat.le_trans HB1.out.size (hge b hb)), hsm, (HB2.out.setCell (show w.heap.size ≤ w1.heap.size + 1 by have := HB1.out.size; omega) _).setCell (show w.heap.size ≤ w1.heap.size + 1 by have := HB1.out.size; omega) _⟩; clear hb2 hbr hge hsm)))
    all_goals
      go_wp2_with fail
      go_meet
      case rel => exact HREL.out
  case rest =>
    obtain ⟨g, ob, B, cb, rfl, hgl, hgx, hbr, hge, hsm, hb⟩ := hcut
    generalize wc = W1 at hgx hb hbr ⊢
    have hz := hb.size
    have hglt := heap_lt hgx
    have hst : Stays K w W1 := Stays.of hb
    have b0 := cell_of hgx 0
    have b1 := cell_of hgx 1
    simp only [List.getElem?_toArray, List.getElem?_cons_succ, List.getElem?_cons_zero] at b0 b1
    obtain ⟨w8a, w8⟩ := HC.out W1 hb
    have HM := hide (HN.out.more hb)
    obtain ⟨KS2, HK2⟩ : ∃ KS2 : Nat → Prop, Hid ((fun k => KS k ∨ (w.heap.size ≤ k ∧ k < W1.heap.size)) = KS2) := ⟨_, rfl⟩
    rw [HK2.out] at HM
    have HKI : Hid (∀ b, KS b → KS2 b) := by rw [← HK2.out]; exact fun b hb => .inl hb
    have HKO : Hid (KS2 g) := by rw [← HK2.out]; exact .inr ⟨hgl, hglt⟩
    have HKA : Hid (KS2 ab) := HKI.out ab (HKP.out ab (HKK.out ab HAB.out))
    have hBK : BindK KS2 W1 ob B := by
      rcases hbr with e | ⟨b, off, cur, e1, e2, e3⟩
      · exact .inl e
      · exact .inr ⟨b, off, cur, e1, by rw [← HK2.out]; exact .inr ⟨hge b ⟨off, e1⟩, heap_lt e2⟩, e2, e3⟩
    have HBK := hide hBK
    have HSM := hide hsm
    have HL1 := hide (leadToExp_any (HM.out.later (Below.refl _ W1).drew) (by omega) (by omega) ⟨ab, ao + 2, none⟩ (HKK.out ab HAB.out) f ob B cb (hBK.kept (fun _ h => h) (fun b _ _ => rfl)))
    have HKW : Hid (Keeps KS w W1) := keeps_of hb HKS.out
    have HST : Hid (Stays K w W1) := hst
    have HGX := hide hgx
    clear hgx hb hst hbr hge hsm hBK q1 q8 v1 v8 HNMa HNMb HXV HBV hV w8a
    go_upto_region 1 with fail
    go_cut [] (fun W => ∃ new i, Net KP KS2 W n (ks ++ new) (G ++ [(i, f, B)]) ∧ (new = [] ∨ new = [(true, ⟨ab, ao + 2, none⟩)]) ∧ (ks ++ new)[i]? = some (true, ⟨ab, ao + 2, none⟩) ∧ Keeps KS2 W1 W)
    case first =>
      go_region_with (go_at_call 125; (with_reducible refine Calls.mono HL1.out ?_); rintro e w1 ⟨nw, iw, rfl, hN1, hnew, hidx, hkp⟩; have HN1 := hide hN1; have HNEW := hide hnew; have HIDX := hide hidx; have HKP1 := hide hkp; clear hN1 hnew hidx hkp)
      all_goals
        go_wp2_with fail
        go_meet
        case rel => exact ⟨nw, iw, HN1.out, HNEW.out, HIDX.out, (keeps_drw _ W1).trans HKP1.out⟩
    case rest =>
      obtain ⟨new, i1, hN2, hsub2, hmem2, hkp2⟩ := hcut
      generalize wc = W2 at hN2 hkp2 ⊢
      have hgx2 := (hkp2.block g HKO.out).trans HGX.out
      have e0 := cell_of hgx2 0
      have e1 := cell_of hgx2 1
      simp only [List.getElem?_toArray, List.getElem?_cons_succ, List.getElem?_cons_zero] at e0 e1
      have w9 := (World.cell?_of_block (a := ⟨ab, ao + 8, none⟩) (hkp2.block ab HKA.out)).trans w8
      have hst2 : Stays K w W2.drew := ⟨Nat.le_trans HST.out.size hkp2.size, fun b hb hl => (hkp2.block b (HKI.out b (HKP.out b (HKK.out b hb)))).trans (HST.out.block b hb hl)⟩
      have hnl : new.length ≤ 1 := by
        rcases hsub2 with rfl | rfl
        · simp
        · simp
      have HLD := hide (leadToDecs_any (hN2.later (Below.refl _ W2).drew) d.ds o2 c2 (HR3.out.frame hst2 (fun _ h => h) (R' := fun _ _ => True) fun _ _ _ => trivial) (by rw [List.length_append, List.length_singleton]; omega) (by rw [List.length_append]; omega) HKK.out f ob B (d.ss ++ d.ds.map Tr.s) cb (HBK.out.kept (fun _ h => h) (fun b hb _ => hkp2.block b hb)) HSM.out)
      have HN2 := hide hN2
      have HSUB2 := hide hsub2
      have HMEM2 := hide hmem2
      have HKR2 := hide hkp2
      clear hN2 hsub2 hmem2 hkp2 hgx2 hst2 b0 b1 w8
      go_upto_region 2 with fail
      go_region_with (go_at_call 126; (with_reducible refine Calls.mono HLD.out ?_); rintro e w1 ⟨nw, D, rfl, hN1, hDl, hled, hnew, hidx, hkp⟩; have HN1 := hide hN1; have HLED := hide hled; have HNEW := hide hnew; have HIDX := hide hidx; have HKP1 := hide hkp; clear hN1 hnew hidx hkp hled)
      all_goals
        go_end0
        refine ⟨new ++ nw, (i1, f, B) :: D, rfl, ?_, by rw [List.length_cons, hDl]; omega, ?_, ?_, ?_, fun b hb => ?_, ?_⟩
        · have h9 := HN1.out.less HKI.out HKP.out
          rw [List.append_assoc, List.append_assoc] at h9
          exact h9
        · rw [← List.append_assoc]
          exact ((LedBy.one HMEM2.out HSM.out).more (new := nw)).app HLED.out
        · have h9 : new.Sublist [(true, ⟨ab, ao + 2, none⟩)] := by
            rcases HSUB2.out with h | h
            · rw [h]; exact List.nil_sublist _
            · rw [h]; exact List.Sublist.refl _
          exact h9.append HNEW.out
        · rw [← List.append_assoc]
          exact List.mem_append_left _ (List.mem_of_getElem? HMEM2.out)
        · rw [← List.append_assoc]
          exact HIDX.out b hb
        · exact HKW.out.trans ((HKR2.out.trans ((keeps_drw _ W2).trans HKP1.out)).mono HKI.out)
end Go.Proofs.YtlaeenfeajkcfalGreat.Fr
