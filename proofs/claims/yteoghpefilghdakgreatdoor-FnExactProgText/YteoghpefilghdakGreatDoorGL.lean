/- Made of PL, PM. -/
import Derived.Test.YteoghpefilghdakGreatDoorPK
namespace Go.Proofs.YteoghpefilghdakGreatDoor
open Go.ChangeShapes Go.WideShapes Go.ChangeAt Go.RowKit

/-- Two rows of one's own that share nothing. -/
structure TwoO (w : World) (base : Nat) (e : TypeId) (v u : Value) (n m : Nat) (xs ys : List Value) : Prop where
  a : w.ownsRow base e 1 v n xs
  b : w.ownsRow base e 1 u m ys
  ne : ∀ g, v.ownBlock = some g → u.ownBlock ≠ some g
theorem TwoO.later {w w' : World} {base : Nat} {e : TypeId} {v u : Value} {n m : Nat} {xs ys : List Value} (h : TwoO w base e v u n m xs ys) (hb : Below w.heap.size w w') : TwoO w' base e v u n m xs ys :=
  ⟨owns_block h.a fun g hg => hb.block g (owns_lt h.a g hg).1, owns_block h.b fun g hg => hb.block g (owns_lt h.b g hg).1, h.ne⟩
theorem TwoO.swap {w : World} {base : Nat} {e : TypeId} {v u : Value} {n m : Nat} {xs ys : List Value} (h : TwoO w base e v u n m xs ys) : TwoO w base e u v m n ys xs :=
  ⟨h.b, h.a, fun g h1 h2 => h.ne g h2 h1⟩
theorem TwoO.put {w w1 w2 : World} {base : Nat} {e : TypeId} {v u v' : Value} {n n' m : Nat} {xs xs' ys : List Value} (h : TwoO w base e v u n m xs ys) (hb : Below w.heap.size w w1) (ho : w2.ownsRow base e 1 v' n' xs') (hg : w1.grownBy w2 v.ownBlock) (hloc : v'.ownBlock = v.ownBlock ∨ v'.ownBlock = some w1.heap.size) : TwoO w2 base e v' u n' m xs' ys := by
  have h1 := h.later hb
  refine ⟨ho, owns_block h1.b fun g hgu => hg.block g (owns_lt h1.b g hgu).1 (fun he => h.ne g he.symm hgu), fun g hv hu => ?_⟩
  rcases hloc with hl | hl
  · exact h.ne g (hl ▸ hv) hu
  · have e1 : w1.heap.size = g := Option.some.inj (hl.symm.trans hv)
    have := (owns_lt h1.b g hu).1
    omega
theorem below_grown {base : Nat} {w w1 w2 : World} {v : Value} (hb : Below base w w1) (hg : w1.grownBy w2 v.ownBlock) (hv : ∀ g, v.ownBlock = some g → base ≤ g) (hs : base ≤ w1.heap.size) : Below base w w2 :=
  hb.trans ⟨hg.os, hg.tape, hg.output, hg.size, fun k hk => hg.block k (by omega) (fun e => absurd (hv k e.symm) (by omega))⟩
theorem strs_snoc {l : List Tr} {i : Nat} {d : Tr} (h : l[i]? = some d) : ((l.take (i + 1)).map Tr.s).map Value.string = ((l.take i).map Tr.s).map Value.string ++ [.string d.s] := by
  rw [names_take h, List.map_append]
  rfl

theorem cell2_at (W : World) (A : Obj) (a : Value) (t : TypeId) : ∀ (j : Nat) (u : Value), [a][j]? = some u → ((W.alloc A).alloc (.cells #[a] t)).cell? ((⟨W.heap.size + 1, 0, none⟩ : Addr).add j) = some u := by
  intro j u hj
  have h := cell1_at (W.alloc A) a t j u hj
  have e : (W.alloc A).heap.size = W.heap.size + 1 := by simp
  rw [e] at h
  exact h

set_option maxHeartbeats 2000000 in
set_option maxRecDepth 100000 in
theorem datasOk_any {h : Nat} (xs : List Tr) (o : Option Addr) (c : Nat) (w : World) (hl : xs.length ≤ maxLen) (hN : (consL xs).length ≤ 1048576) (hm : RowOf AllK w (daR AllK w h) 2 o xs) :
    Calls Tryz.prog 34 #[.slice o xs.length c] w fun e w' => e = .returned (.bool (datasB h xs)) ∧ Below w.heap.size w w' := by
  have HM := hide hm
  have HNN := hide hN
  have hl2 : xs.length ≤ 9223372036854775807 := hl
  have HSZ : Hid ((∀ s ∈ xs.map Tr.s, s.size ≤ maxLen) ∧ (∀ s ∈ consL xs, s.size ≤ maxLen)) := by
    refine ⟨fun s hs => ?_, fun s hs => ?_⟩
    · obtain ⟨y, hy, rfl⟩ := List.mem_map.1 hs
      obtain ⟨j, hj⟩ := List.mem_iff_getElem?.1 hy
      have hne : xs ≠ [] := by intro e; rw [e] at hj; simp at hj
      obtain ⟨_, _, _, _, _, hcs⟩ := hm hne
      obtain ⟨_, _, _, -, -, -, -, -, _, _, _, hs9, _⟩ := hcs j y hj
      exact hs9
    · unfold consL at hs
      obtain ⟨y, hy, hs⟩ := List.mem_flatMap.1 hs
      obtain ⟨z, hz, rfl⟩ := List.mem_map.1 hs
      obtain ⟨j, hj⟩ := List.mem_iff_getElem?.1 hy
      obtain ⟨j2, hj2⟩ := List.mem_iff_getElem?.1 hz
      have hne : xs ≠ [] := by intro e; rw [e] at hj; simp at hj
      obtain ⟨_, _, _, _, _, hcs⟩ := hm hne
      obtain ⟨_, _, _, -, -, -, -, -, _, _, _, _, _, hrow⟩ := hcs j y hj
      have hne2 : y.l ≠ [] := by intro e; rw [e] at hj2; simp at hj2
      obtain ⟨_, _, _, _, _, hcs2⟩ := hrow hne2
      obtain ⟨_, _, _, -, -, -, -, -, _, _, _, hs9, _⟩ := hcs2 j2 z hj2
      exact hs9
  clear hm hl hN
  obtain ⟨i0, hi0, hz0, hz1, hz2⟩ := info_parts info_string
  by_cases h5 : 5 < (xs.length : Int)
  · go_enter Tryz.func34, Tryz.ntmps34
    go_wp2
    go_ret
    exact ⟨ret_bool (by unfold datasB; rw [decide_eq_false (by omega)]; rfl), Below.refl _ _⟩
  have hx5 : xs.length ≤ 5 := by omega
  go_enter Tryz.func34, Tryz.ntmps34
  go_wp2
  go_loopw [3, 4, 16] (fun t3 t4 t wr => ∃ i : Nat, i ≤ xs.length ∧ t = .int .i64 i ∧ (xs.take i).all (data1 h) = true ∧ TwoO wr w.heap.size 9 t3 t4 i (consL (xs.take i)).length (((xs.take i).map Tr.s).map Value.string) ((consL (xs.take i)).map Value.string) ∧ Below w.heap.size w wr) (fun _ _ t _ => xs.length - (intOf t).toNat)
  case atStart =>
    refine ⟨0, Nat.zero_le _, rfl, rfl, ⟨?_, ?_, ?_⟩, ((Below.refl _ w).alloc (Nat.le_refl _) _).alloc (by simp) _⟩
    · exact owns_block (owns_empty w _ _) fun g hg => by
        have hg2 := owns_lt (owns_empty w 9 1) g hg
        exact Below.heap_alloc _ _ _ hg2.1
    · exact ⟨rfl, Or.inr ⟨w.heap.size + 1, 0, #[], rfl, Nat.le_add_right _ _, heap_alloc2_new w _ _, Nat.le_refl _, Nat.zero_le _, rfl, rfl⟩⟩
    · intro g h1 h2
      have e1 : w.heap.size = g := Option.some.inj h1
      have e2 : w.heap.size + 1 = g := by simpa using Option.some.inj h2
      omega
  case round =>
    obtain ⟨i, hi, rfl, hal, htwo, hbw⟩ := hrel
    have HAL := hide hal
    have HTW := hide htwo
    have HBW := hide hbw
    clear hal htwo hbw
    by_cases hlt : i < xs.length
    · have hne : xs ≠ [] := by intro e; rw [e] at hlt; simp at hlt
      obtain ⟨x, hx⟩ : ∃ x, xs[i]? = some x := ⟨xs[i], List.getElem?_eq_getElem hlt⟩
      obtain ⟨b, off, eo, -, hbl, hcs⟩ := HM.out hne
      subst eo
      obtain ⟨cs, hlen, hkey, hrd⟩ := hcs i x hx
      obtain ⟨-, -, -, -, -, ot, ct, rfl, hsc, hfc, hrc⟩ := hrd
      have q0 := (HBW.out.cell (p := ⟨b, off + i * 2 + 0, none⟩) hbl).trans (hkey 0 _ rfl)
      have q1 := (HBW.out.cell (p := ⟨b, off + i * 2 + 1, none⟩) hbl).trans (hkey 1 _ rfl)
      rw [Nat.add_zero] at q0
      have HX := hide hx
      have HSC := hide hsc
      have HFC := hide hfc
      have hd2 : x.l.length ≤ 9223372036854775807 := hfc.1
      have hcl := consL_len hx
      have hNN : (consL xs).length ≤ 1048576 := HNN.out
      have HA1 : Hid (Below wr.heap.size wr (wr.alloc (.cells #[.string x.s, .slice ot x.l.length ct] 41))) := (Below.refl _ wr).alloc (Nat.le_refl _) _
      have HX1 : Hid ((wr.alloc (.cells #[.string x.s, .slice ot x.l.length ct] 41)).heap[wr.heap.size]? = some (.cells #[.string x.s, .slice ot x.l.length ct] 41 (0, 0))) := heap_alloc_new wr _
      have HRC := hide hrc
      have HTW1 := hide (HTW.out.later HA1.out)
      have HB1 := hide (HBW.out.trans (HA1.out.mono HBW.out.size))
      have hsz1 : w.heap.size ≤ wr.heap.size := HBW.out.size
      clear hcs hx hne hkey hlen hsc hfc hrc
      have hlt2 : (i : Int) < xs.length := by omega
      cases ho : ownB x.s
      · have HO := hide ho
        clear ho
        go_wp2_with fail
        refine (ownGreat_any _ _ HSC.out).mono ?_
        rintro e w1 ⟨rfl, hb⟩
        rw [HO.out]
        have HB2 := hide (HB1.out.trans (hb.mono HB1.out.size))
        clear hb
        go_wp2
        go_ret
        refine ⟨ret_bool ?_, HB2.out⟩
        unfold datasB
        rw [all_false (k := i + 1) (by rw [all_next HX.out HAL.out, data1, HO.out]; rfl), Bool.false_and, Bool.and_false]
      have HO := hide ho
      clear ho
      cases ha : consB h x.l
      all_goals
        have HAB := hide ha
        clear ha
        go_wp2_with fail
        refine (ownGreat_any _ _ HSC.out).mono ?_
        rintro e w1 ⟨rfl, hb⟩
        rw [HO.out]
        have HB2 := hide (HB1.out.trans (hb.mono HB1.out.size))
        have HX2 := hide ((hb.block wr.heap.size (heap_lt HX1.out)).trans HX1.out)
        have HTW2 := hide (HTW1.out.later hb)
        clear hb
        have y1 := cell_of HX2.out 1
        simp only [List.getElem?_toArray, List.getElem?_cons_succ, List.getElem?_cons_zero] at y1
        go_wp2_with fail
        refine (consOk_any x.l ot ct _ HFC.out.1 (HRC.out.later HB2.out (coR_later HB2.out h))).mono ?_
        rintro e w2 ⟨rfl, hb⟩
        rw [HAB.out]
        have HB3 := hide (HB2.out.trans (hb.mono HB2.out.size))
        have HX3 := hide ((hb.block wr.heap.size (heap_lt HX2.out)).trans HX2.out)
        have HTW3 := hide (HTW2.out.later hb)
        clear hb y1
      · go_wp2
        go_ret
        refine ⟨ret_bool ?_, HB3.out⟩
        unfold datasB
        rw [all_false (k := i + 1) (by rw [all_next HX.out HAL.out, data1, HO.out, HAB.out]; rfl), Bool.false_and, Bool.and_false]
      · have y0 := cell_of HX3.out 0
        have y1 := cell_of HX3.out 1
        simp only [List.getElem?_toArray, List.getElem?_cons_succ, List.getElem?_cons_zero] at y0 y1
        have hsz3 : w.heap.size ≤ w2.heap.size := HB3.out.size
        have hlen1 : (consL (xs.take i)).length + x.l.length ≤ 1048576 := by omega
        generalize hL1 : ((xs.take i).map Tr.s).map Value.string = L1 at HTW3
        generalize hL2 : (consL (xs.take i)).map Value.string = L2 at HTW3
        generalize hM : (consL (xs.take i)).length = M at HTW3 hlen1
        have HL1 := hide hL1
        have HL2 := hide hL2
        have HMM := hide hM
        have hbt : ∀ g, u3.ownBlock = some g → g < wr.heap.size := fun g hg => (owns_lt HTW.out.a g hg).1
        have HBTT := hide hbt
        clear hL1 hL2 hM hbt q0 q1 hcl hNN
        go_wp2_with (at_builtin; refine wpList_append_own_at _ rfl (.tmp 30) (.tmp 33) 43 rfl w.heap.size 9 i0 _ 1 16 Tryz.underlying43 hi0 hz0 hz1 hz2 rfl (by decide) _ i L1 rfl (HTW3.out.a.alloc _) ⟨w2.heap.size, 0, none⟩ 1 1 [.string x.s] rfl rfl (cell1_at w2 _ _) (str_one _) (by unfold maxLen; omega) (by omega) (by simp; omega) ?_)
        intro v' w3 hown' hgrow hnil hloc
        have hba : Below w2.heap.size w2 (w2.alloc (.cells #[.string x.s] 9)) := (Below.refl _ w2).alloc (Nat.le_refl _) _
        have HTW4 : Hid (TwoO w3 w.heap.size 9 v' u4 (i + 1) M (L1 ++ [.string x.s]) L2) := HTW3.out.put hba hown' hgrow (by simpa using hloc)
        have HB4 : Hid (Below w.heap.size w w3) := below_grown (HB3.out.trans (hba.mono HB3.out.size)) hgrow (fun g hg => (owns_lt HTW.out.a g hg).2) (by simp; omega)
        have HX4 : Hid (w3.heap[wr.heap.size]? = some (.cells #[.string x.s, .slice ot x.l.length ct] 41 (0, 0))) := (hgrow.block wr.heap.size (Nat.lt_of_lt_of_le (heap_lt HX3.out) hba.size) (fun e => absurd (HBTT.out _ e.symm) (by omega))).trans ((hba.block _ (heap_lt HX3.out)).trans HX3.out)
        clear hown' hgrow hnil hloc hba y0 y1
        have y1 := cell_of HX4.out 1
        simp only [List.getElem?_toArray, List.getElem?_cons_succ, List.getElem?_cons_zero] at y1
        go_wp2
        clear y1
        go_loopw [4, 38] (fun t4 t38 wq => ∃ k : Nat, k ≤ x.l.length ∧ t38 = .int .i64 k ∧ TwoO wq w.heap.size 9 v' t4 (i + 1) (M + k) (L1 ++ [.string x.s]) (L2 ++ ((x.l.take k).map Tr.s).map Value.string) ∧ Below w.heap.size w wq) (fun _ t38 _ => x.l.length - (intOf t38).toNat)
        case atStart =>
          refine ⟨0, Nat.zero_le _, rfl, ?_, HB4.out⟩
          have h9 := HTW4.out
          simpa using h9
        case round =>
          obtain ⟨k, hk, rfl, htwo, hbq⟩ := hrel
          have HTK := hide htwo
          have HBQ := hide hbq
          have hsq : w.heap.size ≤ wr.heap.size := hbq.size
          clear htwo hbq
          by_cases hlk : k < x.l.length
          · have hne : x.l ≠ [] := by intro e; rw [e] at hlk; simp at hlk
            obtain ⟨z, hz⟩ : ∃ z, x.l[k]? = some z := ⟨x.l[k], List.getElem?_eq_getElem hlk⟩
            obtain ⟨b2, off2, eo, -, hbl2, hcs⟩ := HRC.out hne
            subst eo
            obtain ⟨cs, hlen, hkey, hrd⟩ := hcs k z hz
            obtain ⟨oz, cz, rfl⟩ := co_form hrd
            have u0 := (HBQ.out.cell (p := ⟨b2, off2 + k * 2 + 0, none⟩) hbl2).trans (hkey 0 _ rfl)
            have u1 := (HBQ.out.cell (p := ⟨b2, off2 + k * 2 + 1, none⟩) hbl2).trans (hkey 1 _ rfl)
            rw [Nat.add_zero] at u0
            have HZ := hide hz
            clear hcs hz hne hkey hlen hrd
            have hlk2 : (k : Int) < x.l.length := by omega
            have hTK2 := HTK.out
            generalize hL3 : L2 ++ ((x.l.take k).map Tr.s).map Value.string = L3 at hTK2
            have HL3 := hide hL3
            have HTK2 := hide hTK2
            clear hL3 hTK2
            go_wp2_with (at_builtin; refine wpList_append_own_at _ rfl (.tmp 42) (.tmp 45) 43 rfl w.heap.size 9 i0 _ 1 16 Tryz.underlying43 hi0 hz0 hz1 hz2 rfl (by decide) _ (M + k) L3 rfl ((HTK2.out.b.alloc _).alloc _) ⟨wr.heap.size + 1, 0, none⟩ 1 1 [.string z.s] rfl rfl (cell2_at wr _ _ _) (str_one _) (by unfold maxLen; omega) (by omega) (by simp; omega) ?_)
            intro v'' w4 hown' hgrow hnil hloc
            have hba : Below wr.heap.size wr ((wr.alloc (.cells #[.string z.s, .slice oz z.l.length cz] 79)).alloc (.cells #[.string z.s] 9)) := ((Below.refl _ wr).alloc (Nat.le_refl _) _).alloc (by simp) _
            have HTK4 : Hid (TwoO w4 w.heap.size 9 v' v'' (i + 1) (M + k + 1) (L1 ++ [.string x.s]) (L3 ++ [.string z.s])) := (HTK2.out.swap.put hba hown' hgrow (by simpa using hloc)).swap
            have HBQ4 : Hid (Below w.heap.size w w4) := below_grown (HBQ.out.trans (hba.mono HBQ.out.size)) hgrow (fun g hg => (owns_lt HTK.out.b g hg).2) (by simp; omega)
            clear hown' hgrow hnil hloc hba
            go_wp2
            refine ⟨⟨k + 1, by omega, by go_num, ?_, HBQ4.out⟩, by simp [intOf]; omega⟩
            have h9 := HTK4.out
            rw [← HL3.out, List.append_assoc, ← strs_snoc HZ.out] at h9
            exact h9
          · go_wp2
            refine ⟨⟨i + 1, by omega, by go_num, by rw [all_next HX.out HAL.out, data1, HO.out, HAB.out]; rfl, ?_, HBQ.out⟩, by simp [intOf]; omega⟩
            have h9 := HTK.out
            have hkx : k = x.l.length := by omega
            rw [hkx, List.take_length, ← HL1.out, ← HL2.out, ← HMM.out, ← strs_snoc HX.out, ← List.map_append, ← consL_take HX.out] at h9
            have h8 : (consL (xs.take i)).length + x.l.length = (consL (xs.take (i + 1))).length := by rw [consL_take HX.out, List.length_append, List.length_map]
            rw [h8] at h9
            exact h9
    · have hie : i = xs.length := by omega
      have hT := HTW.out
      rw [hie, List.take_length] at hT
      have hA := HAL.out
      rw [hie, List.take_length] at hA
      have hlen : xs.length = (xs.map Tr.s).length := by rw [List.length_map]
      have hTa := hT.a
      have hTb := hT.b
      rw [hlen] at hTa
      obtain ⟨oo, cap, hv, hml, hcp, hrow⟩ := strs_of hTa HSZ.out.1
      obtain ⟨o2, cap2, hv2, hml2, hcp2, hrow2⟩ := strs_of hTb HSZ.out.2
      rw [List.length_map] at hv
      subst hv hv2
      have HML := hide hml
      have HCP := hide hcp
      have HROW := hide hrow
      have HML2 := hide hml2
      have HCP2 := hide hcp2
      have HROW2 := hide hrow2
      have HDB : Hid (datasB h xs = (noTwoB (xs.map Tr.s) && noTwoB (consL xs))) := by
        show datasB h xs = _
        unfold datasB
        rw [decide_eq_true hx5, hA]
        rfl
      have hlt2 : ¬ (i : Int) < xs.length := by omega
      clear hT hA hTa hTb hlen hml hcp hrow hml2 hcp2 hrow2 hie
      cases hn1 : noTwoB (xs.map Tr.s)
      all_goals
        have HN1 := hide hn1
        clear hn1
        go_wp2_with fail
        refine (noTwo_any (xs.map Tr.s) xs.length (List.length_map _) oo cap _ HML.out HCP.out HROW.out).mono ?_
        rintro e w1 ⟨rfl, hw1⟩
        rw [hw1, HN1.out]
        clear hw1 w1
      · go_wp2
        go_ret
        exact ⟨ret_bool (by rw [HDB.out, HN1.out]; rfl), HBW.out⟩
      · go_wp2_with fail
        refine (noTwo_any (consL xs) (consL xs).length rfl o2 cap2 _ HML2.out HCP2.out HROW2.out).mono ?_
        rintro e w1 ⟨rfl, hw1⟩
        rw [hw1]
        clear hw1 w1
        go_wp2
        go_ret
        exact ⟨ret_bool (by rw [HDB.out, HN1.out]; rfl), HBW.out⟩
end Go.Proofs.YteoghpefilghdakGreatDoor
namespace Go.Proofs.YteoghpefilghdakGreatDoor

theorem gr_notU {s : ByteArray} (h : grB s = true) : isU s = false := by
  cases hu : isU s with
  | false => rfl
  | true =>
    have e : s.data.toList = [95] := by rw [← toList_data]; exact eq_of_beq hu
    unfold grB at h
    rw [e] at h
    revert h
    decide
theorem own_notU {s : ByteArray} (h : ownB s = true) : isU s = false := by
  unfold ownB at h
  rw [Bool.and_eq_true] at h
  exact gr_notU h.1
theorem noDup_noTwo2 (l : List ByteArray) (n : Nat) (h : ∀ i, i < n → isU (atZ l i) = false) : noDupTo l n = noTwoTo l n := by
  induction n with
  | zero => rfl
  | succ n ih =>
    show (noDupTo l n && _) = (noTwoTo l n && _)
    rw [ih fun i hi => h i (by omega), h n (by omega)]
    rfl
theorem noDupTo_iff (l : List ByteArray) (n : Nat) : noDupTo l n = true ↔ ∀ i, i < n → alikeB (l.take i) (atZ l i) = false := by
  induction n with
  | zero => exact ⟨fun _ i hi => by omega, fun _ => rfl⟩
  | succ n ih =>
    show (noDupTo l n && !alikeB (l.take n) (atZ l n)) = true ↔ _
    rw [Bool.and_eq_true, ih]
    constructor
    · rintro ⟨h1, h2⟩ i hi
      by_cases he : i = n
      · subst he
        cases hb : alikeB (l.take i) (atZ l i) with
        | false => rfl
        | true => rw [hb] at h2; cases h2
      · exact h1 i (by omega)
    · intro h
      exact ⟨fun i hi => h i (by omega), by rw [h n (by omega)]; rfl⟩
theorem atZ_get {l : List ByteArray} {i : Nat} (h : i < l.length) : atZ l i = l[i] := by
  unfold atZ
  rw [List.getD_eq_getElem?_getD, List.getElem?_eq_getElem h]
  rfl
theorem noDup_pair (l : List ByteArray) : noDupB l = true ↔ l.Pairwise (fun a b => a.toList ≠ b.toList) := by
  unfold noDupB
  rw [noDupTo_iff, List.pairwise_iff_getElem]
  constructor
  · intro h i j hi hj hij he
    have h1 := h j hj
    unfold alikeB at h1
    rw [atZ_get hj] at h1
    have h2 : ((l.take j).any fun t => t.toList == l[j].toList) = true := by
      rw [List.any_eq_true]
      refine ⟨l[i], ?_, by rw [he]; exact beq_self_eq_true _⟩
      rw [List.mem_iff_getElem?]
      exact ⟨i, by rw [List.getElem?_take, if_pos hij, List.getElem?_eq_getElem hi]⟩
    rw [h1] at h2
    cases h2
  · intro h i hi
    unfold alikeB
    rw [atZ_get hi, List.any_eq_false]
    intro t ht he
    obtain ⟨j, hj⟩ := List.mem_iff_getElem?.1 ht
    have hji : j < i := by
      have := (List.getElem?_eq_some_iff.1 hj).1
      rw [List.length_take] at this
      omega
    rw [List.getElem?_take, if_pos hji] at hj
    obtain ⟨hjl, hjt⟩ := List.getElem?_eq_some_iff.1 hj
    refine h j i hjl hi hji ?_
    rw [hjt]
    exact eq_of_beq he
theorem cntS_cons (t : ByteArray) (r : List ByteArray) (s : ByteArray) : cntS (t :: r) s = cntS r s + cond (t.toList == s.toList) 1 0 := by
  unfold cntS
  rw [List.countP_cons]
  cases (t.toList == s.toList) <;> rfl
theorem cntS_pos {r : List ByteArray} {s b : ByteArray} (hb : b ∈ r) (he : b.toList = s.toList) : 0 < cntS r s := by
  unfold cntS
  rw [List.countP_pos_iff]
  exact ⟨b, hb, by rw [he]; exact beq_self_eq_true _⟩
theorem cntS_zero {r : List ByteArray} {s : ByteArray} (h : ∀ b ∈ r, b.toList ≠ s.toList) : cntS r s = 0 := by
  unfold cntS
  rw [List.countP_eq_zero]
  intro b hb he
  exact h b hb (eq_of_beq he)
theorem pair_cnt (l : List ByteArray) : l.Pairwise (fun a b => a.toList ≠ b.toList) ↔ ∀ s ∈ l, cntS l s = 1 := by
  induction l with
  | nil => exact ⟨(fun _ s hs => by cases hs), fun _ => List.Pairwise.nil⟩
  | cons x r ih =>
    rw [List.pairwise_cons, ih]
    constructor
    · rintro ⟨h1, h2⟩ s hs
      rw [cntS_cons]
      rcases List.mem_cons.1 hs with rfl | hs
      · rw [beq_self_eq_true, cntS_zero (fun b hb => (h1 b hb).symm)]
        rfl
      · have hne : (x.toList == s.toList) = false := by
          rw [beq_eq_false_iff_ne]
          exact h1 s hs
        rw [hne, h2 s hs]
        rfl
    · intro h
      have h1 : ∀ b ∈ r, x.toList ≠ b.toList := by
        intro b hb he
        have h9 := h x (List.mem_cons_self ..)
        rw [cntS_cons, beq_self_eq_true] at h9
        have := cntS_pos hb he.symm
        simp at h9
        omega
      refine ⟨h1, fun s hs => ?_⟩
      have h9 := h s (List.mem_cons_of_mem _ hs)
      have hne : (x.toList == s.toList) = false := by
        rw [beq_eq_false_iff_ne]
        exact h1 s hs
      rw [cntS_cons, hne] at h9
      simpa using h9
theorem datasTo_iff (h : Nat) (l : List Tr) (n : Nat) : datasTo h l n = true ↔ ∀ i d, i < n → l[i]? = some d → dataB h l i d = true := by
  induction n with
  | zero => exact ⟨fun _ i d hi => by omega, fun _ => rfl⟩
  | succ n ih =>
    show (datasTo h l n && (match l[n]? with | some d => dataB h l n d | none => true)) = true ↔ _
    rw [Bool.and_eq_true, ih]
    constructor
    · rintro ⟨h1, h2⟩ i d hi hd
      by_cases he : i = n
      · subst he
        rw [hd] at h2
        exact h2
      · exact h1 i d (by omega) hd
    · intro h9
      refine ⟨fun i d hi hd => h9 i d (by omega) hd, ?_⟩
      cases hd : l[n]? with
      | none => rfl
      | some d => exact h9 n d (by omega) hd
theorem con_parts (h : Nat) (ds : List Tr) (c : Tr) : conB h ds c = (con1 h c && decide (cntS (consL ds) c.s = 1)) := by
  unfold conB con1 argsB
  cases ownB c.s <;> cases decide (c.l.length ≤ 4) <;> cases decide (cntS (consL ds) c.s = 1) <;> cases c.l.all (argB h) <;> rfl
theorem mem_consL {l : List Tr} {s : ByteArray} : s ∈ consL l ↔ ∃ d ∈ l, ∃ c ∈ d.l, c.s = s := by
  unfold consL
  rw [List.mem_flatMap]
  constructor
  · rintro ⟨d, hd, hs⟩
    obtain ⟨c, hc, e⟩ := List.mem_map.1 hs
    exact ⟨d, hd, c, hc, e⟩
  · rintro ⟨d, hd, c, hc, e⟩
    exact ⟨d, hd, List.mem_map.2 ⟨c, hc, e⟩⟩
theorem alike_names {l : List Tr} {i : Nat} {d : Tr} (hd : l[i]? = some d) : alikeB ((l.map Tr.s).take i) (atZ (l.map Tr.s) i) = alikeB ((l.take i).map Tr.s) d.s := by
  have hi : i < (l.map Tr.s).length := by rw [List.length_map]; exact (List.getElem?_eq_some_iff.1 hd).1
  rw [atZ_get hi, List.map_take, List.getElem_map]
  congr 1
  rw [(List.getElem?_eq_some_iff.1 hd).2]
theorem datas_same (h : Nat) (l : List Tr) : datasTo h l l.length = (l.all (data1 h) && (noTwoB (l.map Tr.s) && noTwoB (consL l))) := by
  have names : (∀ d ∈ l, ownB d.s = true) → noTwoB (l.map Tr.s) = noDupB (l.map Tr.s) := by
    intro ho
    symm
    refine noDup_noTwo2 _ _ fun i hi => ?_
    rw [atZ_get hi]
    obtain ⟨d, hd, e⟩ := List.mem_map.1 (List.getElem_mem hi)
    rw [← e]
    exact own_notU (ho d hd)
  have cons : (∀ d ∈ l, ∀ c ∈ d.l, ownB c.s = true) → noTwoB (consL l) = noDupB (consL l) := by
    intro ho
    symm
    refine noDup_noTwo2 _ _ fun i hi => ?_
    rw [atZ_get hi]
    obtain ⟨d, hd, c, hc, e⟩ := mem_consL.1 (List.getElem_mem hi)
    rw [← e]
    exact own_notU (ho d hd c hc)
  rw [Bool.eq_iff_iff, datasTo_iff]
  constructor
  · intro H
    have key : ∀ i d, l[i]? = some d → alikeB ((l.take i).map Tr.s) d.s = false ∧ (∀ c ∈ d.l, con1 h c = true ∧ cntS (consL l) c.s = 1) ∧ ownB d.s = true ∧ inB d.l.length 1 5 = true := by
      intro i d hd
      have h1 := H i d (List.getElem?_eq_some_iff.1 hd).1 hd
      unfold dataB at h1
      rw [Bool.and_eq_true, Bool.and_eq_true, Bool.and_eq_true] at h1
      obtain ⟨a1, a2, a3, a4⟩ := h1
      refine ⟨?_, fun c hc => ?_, a3, a4⟩
      · cases hb : alikeB ((l.take i).map Tr.s) d.s with
        | false => rfl
        | true => rw [hb] at a1; cases a1
      · rw [List.all_eq_true] at a2
        have h2 := a2 c hc
        rw [con_parts, Bool.and_eq_true] at h2
        exact ⟨h2.1, of_decide_eq_true h2.2⟩
    have keym : ∀ d ∈ l, (∀ c ∈ d.l, con1 h c = true ∧ cntS (consL l) c.s = 1) ∧ ownB d.s = true ∧ inB d.l.length 1 5 = true := by
      intro d hd
      obtain ⟨i, hi⟩ := List.mem_iff_getElem?.1 hd
      exact (key i d hi).2
    have ow : ∀ d ∈ l, ∀ c ∈ d.l, ownB c.s = true := by
      intro d hd c hc
      have h2 := ((keym d hd).1 c hc).1
      unfold con1 at h2
      rw [Bool.and_eq_true] at h2
      exact h2.1
    rw [Bool.and_eq_true, Bool.and_eq_true, names fun d hd => (keym d hd).2.1, cons ow]
    refine ⟨?_, ?_, ?_⟩
    · rw [List.all_eq_true]
      intro d hd
      obtain ⟨k1, k2, k3⟩ := keym d hd
      unfold data1 consB
      rw [k2, k3]
      show d.l.all (con1 h) = true
      rw [List.all_eq_true]
      exact fun c hc => (k1 c hc).1
    · unfold noDupB
      rw [noDupTo_iff]
      intro i hi
      have hi2 : i < l.length := by rw [List.length_map] at hi; exact hi
      rw [alike_names (List.getElem?_eq_getElem hi2)]
      exact (key i _ (List.getElem?_eq_getElem hi2)).1
    · rw [noDup_pair, pair_cnt]
      intro s hs
      obtain ⟨d, hd, c, hc, e⟩ := mem_consL.1 hs
      rw [← e]
      exact ((keym d hd).1 c hc).2
  · intro H
    rw [Bool.and_eq_true, Bool.and_eq_true] at H
    obtain ⟨a1, a2, a3⟩ := H
    rw [List.all_eq_true] at a1
    have keym : ∀ d ∈ l, ownB d.s = true ∧ inB d.l.length 1 5 = true ∧ ∀ c ∈ d.l, con1 h c = true := by
      intro d hd
      have h1 := a1 d hd
      unfold data1 consB at h1
      rw [Bool.and_eq_true, Bool.and_eq_true, List.all_eq_true] at h1
      exact h1
    have ow : ∀ d ∈ l, ∀ c ∈ d.l, ownB c.s = true := by
      intro d hd c hc
      have h2 := (keym d hd).2.2 c hc
      unfold con1 at h2
      rw [Bool.and_eq_true] at h2
      exact h2.1
    rw [names fun d hd => (keym d hd).1] at a2
    rw [cons ow, noDup_pair, pair_cnt] at a3
    unfold noDupB at a2
    rw [noDupTo_iff] at a2
    intro i d hi hd
    have hm : d ∈ l := List.mem_of_getElem? hd
    obtain ⟨k1, k2, k3⟩ := keym d hm
    unfold dataB
    have h9 := a2 i (by rw [List.length_map]; exact hi)
    rw [alike_names hd] at h9
    rw [h9, k1, k2]
    show (d.l.all (conB h l) && true) = true
    rw [Bool.and_true, List.all_eq_true]
    intro c hc
    rw [con_parts, k3 c hc, decide_eq_true (a3 c.s (mem_consL.2 ⟨d, hm, c, hc, rfl⟩))]
    rfl
theorem prog_same (h : Nat) (x : Tr) : progB h x = (datasB h x.l && (decsB (okz h).de x.ds 12 0 && decide (sumZ (cnt h).de x.ds ≤ 200))) := by
  unfold progB datasB
  rw [datas_same]
  generalize x.l.all (data1 h) = a
  generalize noTwoB (x.l.map Tr.s) = b
  generalize noTwoB (consL x.l) = c
  generalize decide (x.l.length ≤ 5) = e
  generalize (decsB (okz h).de x.ds 12 0 && decide (sumZ (cnt h).de x.ds ≤ 200)) = f
  cases a <;> cases b <;> cases c <;> cases e <;> cases f <;> rfl
end Go.Proofs.YteoghpefilghdakGreatDoor
