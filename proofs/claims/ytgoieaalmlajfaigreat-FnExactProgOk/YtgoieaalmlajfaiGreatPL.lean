/- The program's check of datas. -/
import Derived.Test.YtgoieaalmlajfaiGreatPK
namespace Go.Proofs.YtgoieaalmlajfaiGreat
open Go.ChangeShapes Go.WideShapes Go.ChangeAt Go.RowKit

/-- Two rows of one's own that share nothing. -/
structure TwoO (w : World) (base : Nat) (e : TypeId) (v u : Value) (n m : Nat) (xs ys : List Value) : Prop where
  a : w.ownsRow base e 1 v n xs
  b : w.ownsRow base e 1 u m ys
  ne : ∀ g, v.ownBlock = some g → u.ownBlock ≠ some g
theorem TwoO.later {w w' : World} {base : Nat} {e : TypeId} {v u : Value} {n m : Nat} {xs ys : List Value} (h : TwoO w base e v u n m xs ys) (hb : Below w.heap.size w w') : TwoO w' base e v u n m xs ys :=
  ⟨owns_block h.a fun g hg => hb.block g (owns_lt h.a g hg).1, owns_block h.b fun g hg => hb.block g (owns_lt h.b g hg).1, h.ne⟩
theorem TwoO.swap {w : World} {base : Nat} {e : TypeId} {v u : Value} {n m : Nat} {xs ys : List Value} (h : TwoO w base e v u n m xs ys) : TwoO w base e u v m n ys xs :=
  ⟨h.b, h.a, fun g h1 h2 => h.ne g h2 h1⟩
theorem TwoO.put {w w1 w2 : World} {base : Nat} {e : TypeId} {v u v' : Value} {n n' m : Nat} {xs xs' ys : List Value} (h : TwoO w base e v u n m xs ys) (hb : Below w.heap.size w w1) (ho : w2.ownsRow base e 1 v' n' xs') (hg : w1.grownBy w2 v.ownBlock) (hloc : v'.ownBlock = v.ownBlock ∨ v'.ownBlock = some w1.heap.size) : TwoO w2 base e v' u n' m xs' ys := by
  have h1 := h.later hb
  refine ⟨ho, owns_block h1.b fun g hgu => hg.block g (owns_lt h1.b g hgu).1 (fun he => h.ne g he.symm hgu), fun g hv hu => ?_⟩
  rcases hloc with hl | hl
  · exact h.ne g (hl ▸ hv) hu
  · have e1 : w1.heap.size = g := Option.some.inj (hl.symm.trans hv)
    have := (owns_lt h1.b g hu).1
    omega
theorem below_grown {base : Nat} {w w1 w2 : World} {v : Value} (hb : Below base w w1) (hg : w1.grownBy w2 v.ownBlock) (hv : ∀ g, v.ownBlock = some g → base ≤ g) (hs : base ≤ w1.heap.size) : Below base w w2 :=
  hb.trans ⟨hg.os, hg.tape, hg.output, hg.size, fun k hk => hg.block k (by omega) (fun e => absurd (hv k e.symm) (by omega))⟩
theorem strs_snoc {l : List Tr} {i : Nat} {d : Tr} (h : l[i]? = some d) : ((l.take (i + 1)).map Tr.s).map Value.string = ((l.take i).map Tr.s).map Value.string ++ [.string d.s] := by
  rw [names_take h, List.map_append]
  rfl

theorem cell2_at (W : World) (A : Obj) (a : Value) (t : TypeId) : ∀ (j : Nat) (u : Value), [a][j]? = some u → ((W.alloc A).alloc (.cells #[a] t)).cell? ((⟨W.heap.size + 1, 0, none⟩ : Addr).add j) = some u := by
  intro j u hj
  have h := cell1_at (W.alloc A) a t j u hj
  have e : (W.alloc A).heap.size = W.heap.size + 1 := by simp
  rw [e] at h
  exact h

set_option maxHeartbeats 2000000 in
set_option maxRecDepth 100000 in
theorem datasOk_any {h : Nat} (xs : List Tr) (o : Option Addr) (c : Nat) (w : World) (hl : xs.length ≤ maxLen) (hN : (consL xs).length ≤ 1048576) (hm : RowOf AllK w (daR AllK w h) 2 o xs) :
    Calls Tryz.prog 15 #[.slice o xs.length c] w fun e w' => e = .returned (.bool (datasB h xs)) ∧ Below w.heap.size w w' := by
  have HM := hide hm
  have HNN := hide hN
  have hl2 : xs.length ≤ 9223372036854775807 := hl
  have HSZ : Hid ((∀ s ∈ xs.map Tr.s, s.size ≤ maxLen) ∧ (∀ s ∈ consL xs, s.size ≤ maxLen)) := by
    refine ⟨fun s hs => ?_, fun s hs => ?_⟩
    · obtain ⟨y, hy, rfl⟩ := List.mem_map.1 hs
      obtain ⟨j, hj⟩ := List.mem_iff_getElem?.1 hy
      have hne : xs ≠ [] := by intro e; rw [e] at hj; simp at hj
      obtain ⟨_, _, _, _, _, hcs⟩ := hm hne
      obtain ⟨_, _, _, -, -, -, -, -, _, _, _, hs9, _⟩ := hcs j y hj
      exact hs9
    · unfold consL at hs
      obtain ⟨y, hy, hs⟩ := List.mem_flatMap.1 hs
      obtain ⟨z, hz, rfl⟩ := List.mem_map.1 hs
      obtain ⟨j, hj⟩ := List.mem_iff_getElem?.1 hy
      obtain ⟨j2, hj2⟩ := List.mem_iff_getElem?.1 hz
      have hne : xs ≠ [] := by intro e; rw [e] at hj; simp at hj
      obtain ⟨_, _, _, _, _, hcs⟩ := hm hne
      obtain ⟨_, _, _, -, -, -, -, -, _, _, _, _, _, hrow⟩ := hcs j y hj
      have hne2 : y.l ≠ [] := by intro e; rw [e] at hj2; simp at hj2
      obtain ⟨_, _, _, _, _, hcs2⟩ := hrow hne2
      obtain ⟨_, _, _, -, -, -, -, -, _, _, _, hs9, _⟩ := hcs2 j2 z hj2
      exact hs9
  clear hm hl hN
  obtain ⟨i0, hi0, hz0, hz1, hz2⟩ := info_parts info_string
  by_cases h5 : 5 < (xs.length : Int)
  · go_enter Tryz.func15, Tryz.ntmps15
    go_wp2
    go_ret
    exact ⟨ret_bool (by unfold datasB; rw [decide_eq_false (by omega)]; rfl), Below.refl _ _⟩
  have hx5 : xs.length ≤ 5 := by omega
  go_enter Tryz.func15, Tryz.ntmps15
  go_wp2
  go_loopw [3, 4, 16] (fun t3 t4 t wr => ∃ i : Nat, i ≤ xs.length ∧ t = .int .i64 i ∧ (xs.take i).all (data1 h) = true ∧ TwoO wr w.heap.size 9 t3 t4 i (consL (xs.take i)).length (((xs.take i).map Tr.s).map Value.string) ((consL (xs.take i)).map Value.string) ∧ Below w.heap.size w wr) (fun _ _ t _ => xs.length - (intOf t).toNat)
  case atStart =>
    refine ⟨0, Nat.zero_le _, rfl, rfl, ⟨?_, ?_, ?_⟩, ((Below.refl _ w).alloc (Nat.le_refl _) _).alloc (by simp) _⟩
    · exact owns_block (owns_empty w _ _) fun g hg => by
        have hg2 := owns_lt (owns_empty w 9 1) g hg
        exact Below.heap_alloc _ _ _ hg2.1
    · exact ⟨rfl, Or.inr ⟨w.heap.size + 1, 0, #[], rfl, Nat.le_add_right _ _, heap_alloc2_new w _ _, Nat.le_refl _, Nat.zero_le _, rfl, rfl⟩⟩
    · intro g h1 h2
      have e1 : w.heap.size = g := Option.some.inj h1
      have e2 : w.heap.size + 1 = g := by simpa using Option.some.inj h2
      omega
  case round =>
    obtain ⟨i, hi, rfl, hal, htwo, hbw⟩ := hrel
    have HAL := hide hal
    have HTW := hide htwo
    have HBW := hide hbw
    clear hal htwo hbw
    by_cases hlt : i < xs.length
    · have hne : xs ≠ [] := by intro e; rw [e] at hlt; simp at hlt
      obtain ⟨x, hx⟩ : ∃ x, xs[i]? = some x := ⟨xs[i], List.getElem?_eq_getElem hlt⟩
      obtain ⟨b, off, eo, -, hbl, hcs⟩ := HM.out hne
      subst eo
      obtain ⟨cs, hlen, hkey, hrd⟩ := hcs i x hx
      obtain ⟨-, -, -, -, -, ot, ct, rfl, hsc, hfc, hrc⟩ := hrd
      have q0 := (HBW.out.cell (p := ⟨b, off + i * 2 + 0, none⟩) hbl).trans (hkey 0 _ rfl)
      have q1 := (HBW.out.cell (p := ⟨b, off + i * 2 + 1, none⟩) hbl).trans (hkey 1 _ rfl)
      rw [Nat.add_zero] at q0
      have HX := hide hx
      have HSC := hide hsc
      have HFC := hide hfc
      have hd2 : x.l.length ≤ 9223372036854775807 := hfc.1
      have hcl := consL_len hx
      have hNN : (consL xs).length ≤ 1048576 := HNN.out
      have HA1 : Hid (Below wr.heap.size wr (wr.alloc (.cells #[.string x.s, .slice ot x.l.length ct] 61))) := (Below.refl _ wr).alloc (Nat.le_refl _) _
      have HX1 : Hid ((wr.alloc (.cells #[.string x.s, .slice ot x.l.length ct] 61)).heap[wr.heap.size]? = some (.cells #[.string x.s, .slice ot x.l.length ct] 61 (0, 0))) := heap_alloc_new wr _
      have HRC := hide hrc
      have HTW1 := hide (HTW.out.later HA1.out)
      have HB1 := hide (HBW.out.trans (HA1.out.mono HBW.out.size))
      have hsz1 : w.heap.size ≤ wr.heap.size := HBW.out.size
      clear hcs hx hne hkey hlen hsc hfc hrc
      have hlt2 : (i : Int) < xs.length := by omega
      cases ho : ownB x.s
      · have HO := hide ho
        clear ho
        go_wp2_with fail
        refine (ownGreat_any _ _ HSC.out).mono ?_
        rintro e w1 ⟨rfl, hb⟩
        rw [HO.out]
        have HB2 := hide (HB1.out.trans (hb.mono HB1.out.size))
        clear hb
        go_wp2
        go_ret
        refine ⟨ret_bool ?_, HB2.out⟩
        unfold datasB
        rw [all_false (k := i + 1) (by rw [all_next HX.out HAL.out, data1, HO.out]; rfl), Bool.false_and, Bool.and_false]
      have HO := hide ho
      clear ho
      cases ha : consB h x.l
      all_goals
        have HAB := hide ha
        clear ha
        go_wp2_with fail
        refine (ownGreat_any _ _ HSC.out).mono ?_
        rintro e w1 ⟨rfl, hb⟩
        rw [HO.out]
        have HB2 := hide (HB1.out.trans (hb.mono HB1.out.size))
        have HX2 := hide ((hb.block wr.heap.size (heap_lt HX1.out)).trans HX1.out)
        have HTW2 := hide (HTW1.out.later hb)
        clear hb
        have y1 := cell_of HX2.out 1
        simp only [List.getElem?_toArray, List.getElem?_cons_succ, List.getElem?_cons_zero] at y1
        go_wp2_with fail
        refine (consOk_any x.l ot ct _ HFC.out.1 (HRC.out.later HB2.out (coR_later HB2.out h))).mono ?_
        rintro e w2 ⟨rfl, hb⟩
        rw [HAB.out]
        have HB3 := hide (HB2.out.trans (hb.mono HB2.out.size))
        have HX3 := hide ((hb.block wr.heap.size (heap_lt HX2.out)).trans HX2.out)
        have HTW3 := hide (HTW2.out.later hb)
        clear hb y1
      · go_wp2
        go_ret
        refine ⟨ret_bool ?_, HB3.out⟩
        unfold datasB
        rw [all_false (k := i + 1) (by rw [all_next HX.out HAL.out, data1, HO.out, HAB.out]; rfl), Bool.false_and, Bool.and_false]
      · have y0 := cell_of HX3.out 0
        have y1 := cell_of HX3.out 1
        simp only [List.getElem?_toArray, List.getElem?_cons_succ, List.getElem?_cons_zero] at y0 y1
        have hsz3 : w.heap.size ≤ w2.heap.size := HB3.out.size
        have hlen1 : (consL (xs.take i)).length + x.l.length ≤ 1048576 := by omega
        generalize hL1 : ((xs.take i).map Tr.s).map Value.string = L1 at HTW3
        generalize hL2 : (consL (xs.take i)).map Value.string = L2 at HTW3
        generalize hM : (consL (xs.take i)).length = M at HTW3 hlen1
        have HL1 := hide hL1
        have HL2 := hide hL2
        have HMM := hide hM
        have hbt : ∀ g, u3.ownBlock = some g → g < wr.heap.size := fun g hg => (owns_lt HTW.out.a g hg).1
        have HBTT := hide hbt
        clear hL1 hL2 hM hbt q0 q1 hcl hNN
        go_wp2_with (at_builtin; refine wpList_append_own_at _ rfl (.tmp 30) (.tmp 33) 52 rfl w.heap.size 9 i0 _ 1 16 Tryz.underlying52 hi0 hz0 hz1 hz2 rfl (by decide) _ i L1 rfl (HTW3.out.a.alloc _) ⟨w2.heap.size, 0, none⟩ 1 1 [.string x.s] rfl rfl (cell1_at w2 _ _) (str_one _) (by unfold maxLen; omega) (by omega) (by simp; omega) ?_)
        intro v' w3 hown' hgrow hnil hloc
        have hba : Below w2.heap.size w2 (w2.alloc (.cells #[.string x.s] 9)) := (Below.refl _ w2).alloc (Nat.le_refl _) _
        have HTW4 : Hid (TwoO w3 w.heap.size 9 v' u4 (i + 1) M (L1 ++ [.string x.s]) L2) := HTW3.out.put hba hown' hgrow (by simpa using hloc)
        have HB4 : Hid (Below w.heap.size w w3) := below_grown (HB3.out.trans (hba.mono HB3.out.size)) hgrow (fun g hg => (owns_lt HTW.out.a g hg).2) (by simp; omega)
        have HX4 : Hid (w3.heap[wr.heap.size]? = some (.cells #[.string x.s, .slice ot x.l.length ct] 61 (0, 0))) := (hgrow.block wr.heap.size (Nat.lt_of_lt_of_le (heap_lt HX3.out) hba.size) (fun e => absurd (HBTT.out _ e.symm) (by omega))).trans ((hba.block _ (heap_lt HX3.out)).trans HX3.out)
        clear hown' hgrow hnil hloc hba y0 y1
        have y1 := cell_of HX4.out 1
        simp only [List.getElem?_toArray, List.getElem?_cons_succ, List.getElem?_cons_zero] at y1
        go_wp2
        clear y1
        go_loopw [4, 38] (fun t4 t38 wq => ∃ k : Nat, k ≤ x.l.length ∧ t38 = .int .i64 k ∧ TwoO wq w.heap.size 9 v' t4 (i + 1) (M + k) (L1 ++ [.string x.s]) (L2 ++ ((x.l.take k).map Tr.s).map Value.string) ∧ Below w.heap.size w wq) (fun _ t38 _ => x.l.length - (intOf t38).toNat)
        case atStart =>
          refine ⟨0, Nat.zero_le _, rfl, ?_, HB4.out⟩
          have h9 := HTW4.out
          simpa using h9
        case round =>
          obtain ⟨k, hk, rfl, htwo, hbq⟩ := hrel
          have HTK := hide htwo
          have HBQ := hide hbq
          have hsq : w.heap.size ≤ wr.heap.size := hbq.size
          clear htwo hbq
          by_cases hlk : k < x.l.length
          · have hne : x.l ≠ [] := by intro e; rw [e] at hlk; simp at hlk
            obtain ⟨z, hz⟩ : ∃ z, x.l[k]? = some z := ⟨x.l[k], List.getElem?_eq_getElem hlk⟩
            obtain ⟨b2, off2, eo, -, hbl2, hcs⟩ := HRC.out hne
            subst eo
            obtain ⟨cs, hlen, hkey, hrd⟩ := hcs k z hz
            obtain ⟨oz, cz, rfl⟩ := co_form hrd
            have u0 := (HBQ.out.cell (p := ⟨b2, off2 + k * 2 + 0, none⟩) hbl2).trans (hkey 0 _ rfl)
            have u1 := (HBQ.out.cell (p := ⟨b2, off2 + k * 2 + 1, none⟩) hbl2).trans (hkey 1 _ rfl)
            rw [Nat.add_zero] at u0
            have HZ := hide hz
            clear hcs hz hne hkey hlen hrd
            have hlk2 : (k : Int) < x.l.length := by omega
            have hTK2 := HTK.out
            generalize hL3 : L2 ++ ((x.l.take k).map Tr.s).map Value.string = L3 at hTK2
            have HL3 := hide hL3
            have HTK2 := hide hTK2
            clear hL3 hTK2
            go_wp2_with (at_builtin; refine wpList_append_own_at _ rfl (.tmp 42) (.tmp 45) 52 rfl w.heap.size 9 i0 _ 1 16 Tryz.underlying52 hi0 hz0 hz1 hz2 rfl (by decide) _ (M + k) L3 rfl ((HTK2.out.b.alloc _).alloc _) ⟨wr.heap.size + 1, 0, none⟩ 1 1 [.string z.s] rfl rfl (cell2_at wr _ _ _) (str_one _) (by unfold maxLen; omega) (by omega) (by simp; omega) ?_)
            intro v'' w4 hown' hgrow hnil hloc
            have hba : Below wr.heap.size wr ((wr.alloc (.cells #[.string z.s, .slice oz z.l.length cz] 64)).alloc (.cells #[.string z.s] 9)) := ((Below.refl _ wr).alloc (Nat.le_refl _) _).alloc (by simp) _
            have HTK4 : Hid (TwoO w4 w.heap.size 9 v' v'' (i + 1) (M + k + 1) (L1 ++ [.string x.s]) (L3 ++ [.string z.s])) := (HTK2.out.swap.put hba hown' hgrow (by simpa using hloc)).swap
            have HBQ4 : Hid (Below w.heap.size w w4) := below_grown (HBQ.out.trans (hba.mono HBQ.out.size)) hgrow (fun g hg => (owns_lt HTK.out.b g hg).2) (by simp; omega)
            clear hown' hgrow hnil hloc hba
            go_wp2
            refine ⟨⟨k + 1, by omega, by go_num, ?_, HBQ4.out⟩, by simp [intOf]; omega⟩
            have h9 := HTK4.out
            rw [← HL3.out, List.append_assoc, ← strs_snoc HZ.out] at h9
            exact h9
          · go_wp2
            refine ⟨⟨i + 1, by omega, by go_num, by rw [all_next HX.out HAL.out, data1, HO.out, HAB.out]; rfl, ?_, HBQ.out⟩, by simp [intOf]; omega⟩
            have h9 := HTK.out
            have hkx : k = x.l.length := by omega
            rw [hkx, List.take_length, ← HL1.out, ← HL2.out, ← HMM.out, ← strs_snoc HX.out, ← List.map_append, ← consL_take HX.out] at h9
            have h8 : (consL (xs.take i)).length + x.l.length = (consL (xs.take (i + 1))).length := by rw [consL_take HX.out, List.length_append, List.length_map]
            rw [h8] at h9
            exact h9
    · have hie : i = xs.length := by omega
      have hT := HTW.out
      rw [hie, List.take_length] at hT
      have hA := HAL.out
      rw [hie, List.take_length] at hA
      have hlen : xs.length = (xs.map Tr.s).length := by rw [List.length_map]
      have hTa := hT.a
      have hTb := hT.b
      rw [hlen] at hTa
      obtain ⟨oo, cap, hv, hml, hcp, hrow⟩ := strs_of hTa HSZ.out.1
      obtain ⟨o2, cap2, hv2, hml2, hcp2, hrow2⟩ := strs_of hTb HSZ.out.2
      rw [List.length_map] at hv
      subst hv hv2
      have HML := hide hml
      have HCP := hide hcp
      have HROW := hide hrow
      have HML2 := hide hml2
      have HCP2 := hide hcp2
      have HROW2 := hide hrow2
      have HDB : Hid (datasB h xs = (noTwoB (xs.map Tr.s) && noTwoB (consL xs))) := by
        show datasB h xs = _
        unfold datasB
        rw [decide_eq_true hx5, hA]
        rfl
      have hlt2 : ¬ (i : Int) < xs.length := by omega
      clear hT hA hTa hTb hlen hml hcp hrow hml2 hcp2 hrow2 hie
      cases hn1 : noTwoB (xs.map Tr.s)
      all_goals
        have HN1 := hide hn1
        clear hn1
        go_wp2_with fail
        refine (noTwo_any (xs.map Tr.s) xs.length (List.length_map _) oo cap _ HML.out HCP.out HROW.out).mono ?_
        rintro e w1 ⟨rfl, hw1⟩
        rw [hw1, HN1.out]
        clear hw1 w1
      · go_wp2
        go_ret
        exact ⟨ret_bool (by rw [HDB.out, HN1.out]; rfl), HBW.out⟩
      · go_wp2_with fail
        refine (noTwo_any (consL xs) (consL xs).length rfl o2 cap2 _ HML2.out HCP2.out HROW2.out).mono ?_
        rintro e w1 ⟨rfl, hw1⟩
        rw [hw1]
        clear hw1 w1
        go_wp2
        go_ret
        exact ⟨ret_bool (by rw [HDB.out, HN1.out]; rfl), HBW.out⟩
end Go.Proofs.YtgoieaalmlajfaiGreat
