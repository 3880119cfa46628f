/- The program's slices.EqualFunc at datas. -/
import Derived.Test.YtegcebeaelpjhajHY
namespace Go.Proofs.Ytegcebeaelpjhaj
open Go.ChangeShapes Go.WideShapes Go.ChangeAt Go.RowKit

set_option maxHeartbeats 2000000 in
set_option maxRecDepth 100000 in
theorem eqDatas_any {W : World} {K KP : Nat → Prop} {F : Prop} {g h : Nat} (hKP : ∀ b, KP b → K b) (hp : ∀ b, KP b → PlainAt W ⟨b, 0, none⟩) (w : World) (ls ks : Nat → List (Addr × Addr)) (hk : Keeps K W w) (hh : HeldMem TT w K g ls ks) (xs ys : List Tr) (o p : Option Addr) (c d : Nat)
    (hx : RowOf KP W (daR KP W h) 2 o xs) (hy : RowOf KP W (daR KP W h) 2 p ys) (hlx : xs.length ≤ maxLen) (hly : ys.length ≤ maxLen) (hn : (ls 3).length + (xs.map (wdn h)).sum ≤ 4000000) :
    Calls Try.prog 27 #[.slice o xs.length c, .slice p ys.length d, .func (.func 28) #[.pointer (some ⟨g, 0, none⟩)] #[]] w fun e w' => ∃ b, e = .returned (.bool b) ∧ Keeps K W w' ∧ (b = false → xs ≠ ys) ∧
      (b = true → ∃ ls' ks', HeldMem TT w' K g ls' ks' ∧ (∀ j, j < 4 → ∀ q ∈ ks j, q ∈ ks' j) ∧ (ls' 3).length ≤ (ls 3).length + (xs.map (wdn h)).sum ∧ ((F → xs = ys) → Grown W KP F ls ks ls' ks' (xs.map (wdn h)).sum) ∧ xs.length = ys.length ∧ ∀ (k : Nat) (a b : Tr), xs[k]? = some a → ys[k]? = some b → DatOk W KP ks' a b) := by
  have HKPP := hide hKP
  have HP := hide hp
  have HK := hide hk
  have HH := hide hh
  have HX := hide hx
  have HY := hide hy
  have ml1 : xs.length ≤ 9223372036854775807 := hlx
  have ml2 : ys.length ≤ 9223372036854775807 := hly
  clear hKP hp hk hh hx hy hlx hly
  by_cases hl : xs.length = ys.length
  case neg =>
    have hl1 : ((xs.length : Int) != (ys.length : Int)) = true := by simp; omega
    have hl2 : (xs.length != ys.length) = true := by simpa using hl
    have HL := hide hl
    clear hl
    go_enter Try.func27, Try.ntmps27
    go_wp2
    go_ret
    exact ⟨false, rfl, HK.out, (fun _ e => HL.out (by rw [e])), fun h => (by cases h)⟩
  have hl1 : ((xs.length : Int) != (ys.length : Int)) = false := by simp; omega
  have hl2 : (xs.length != ys.length) = false := by simpa using hl
  have hle1 : xs.length ≤ ys.length := by omega
  have HL := hide hl
  clear hl
  go_enter Try.func27, Try.ntmps27
  go_wp2
  clear hl1 hl2
  go_loopw [17] (fun t17 wr => ∃ (i : Nat) (ls' ks' : Nat → List (Addr × Addr)), i ≤ xs.length ∧ t17 = .int .i64 i ∧ HeldMem TT wr K g ls' ks' ∧ Keeps K W wr ∧ (∀ j, j < 4 → ∀ q ∈ ks j, q ∈ ks' j) ∧ (ls' 3).length ≤ (ls 3).length + ((xs.take i).map (wdn h)).sum ∧ ((F → xs = ys) → Grown W KP F ls ks ls' ks' ((xs.take i).map (wdn h)).sum) ∧ (∀ (k : Nat) (a b : Tr), k < i → xs[k]? = some a → ys[k]? = some b → DatOk W KP ks' a b)) (fun t17 _ => xs.length - (intOf t17).toNat)
  case atStart => exact ⟨0, ls, ks, Nat.zero_le _, rfl, HH.out, HK.out, fun _ _ _ h => h, by simp, fun _ => Grown.refl ls ks, fun k _ _ hk => absurd hk (Nat.not_lt_zero k)⟩
  case round =>
    obtain ⟨i, ls1, ks1, hi, rfl, hh1, hk1, hks, hle, hgr, hok⟩ := hrel
    have HKS := hide hks
    clear hks
    have HH1 := hide hh1
    have HK1 := hide hk1
    have HGR := hide hgr
    have HOK := hide hok
    clear hh1 hk1 hgr hok
    by_cases hlt : i < xs.length
    · have hne : xs ≠ [] := by intro e; rw [e] at hlt; simp at hlt
      have hne2 : ys ≠ [] := by intro e; rw [e] at hle1; simp at hle1; rw [hle1] at hlt; simp at hlt
      obtain ⟨x, hx⟩ : ∃ x, xs[i]? = some x := ⟨xs[i], List.getElem?_eq_getElem hlt⟩
      obtain ⟨y, hy⟩ : ∃ y, ys[i]? = some y := ⟨ys[i]'(by omega), List.getElem?_eq_getElem _⟩
      obtain ⟨ba, fa, ea, ka, -, hA⟩ := HX.out hne
      obtain ⟨bb, fb, eb, kb, -, hB⟩ := HY.out hne2
      subst ea eb
      obtain ⟨va, lA, hkA, rA⟩ := hA i x hx
      obtain ⟨vb, lB, hkB, rB⟩ := hB i y hy
      obtain ⟨ox, cx, rfl⟩ := da_form rA
      obtain ⟨oy, cy, rfl⟩ := da_form rB
      have z0 := (World.cell?_of_block (a := ⟨ba, fa + i * 2 + 0, none⟩) (HK1.out.block ba (HKPP.out _ ka))).trans (hkA 0 _ rfl)
      have z1 := (World.cell?_of_block (a := ⟨ba, fa + i * 2 + 1, none⟩) (HK1.out.block ba (HKPP.out _ ka))).trans (hkA 1 _ rfl)
      have y0 := (World.cell?_of_block (a := ⟨bb, fb + i * 2 + 0, none⟩) (HK1.out.block bb (HKPP.out _ kb))).trans (hkB 0 _ rfl)
      have y1 := (World.cell?_of_block (a := ⟨bb, fb + i * 2 + 1, none⟩) (HK1.out.block bb (HKPP.out _ kb))).trans (hkB 1 _ rfl)
      rw [Nat.add_zero] at z0 y0
      have bla : ba < wr.heap.size := held_kw HH1.out ba (HKPP.out _ ka)
      have blb : bb < wr.heap.size := held_kw HH1.out bb (HKPP.out _ kb)
      have hsum : ((xs.take i).map (wdn h)).sum + wdn h x ≤ (xs.map (wdn h)).sum := by
        have e1 : xs = xs.take (i + 1) ++ xs.drop (i + 1) := (List.take_append_drop _ _).symm
        have e2 : (xs.map (wdn h)).sum = ((xs.take (i + 1)).map (wdn h)).sum + ((xs.drop (i + 1)).map (wdn h)).sum := by conv => lhs; rw [e1, List.map_append, List.sum_append]
        rw [e2, List.take_add_one, hx, List.map_append, List.sum_append]
        simp
      have RA := hide rA
      have RB := hide rB
      have HXI := hide hx
      have HYI := hide hy
      have hbA : Below wr.heap.size wr ((wr.alloc (.cells #[.string x.s, .slice ox x.l.length cx] 62)).alloc (.cells #[.string y.s, .slice oy y.l.length cy] 62)) := ((Below.refl _ wr).alloc (Nat.le_refl _) _).alloc (by simp) _
      have HH2 := hide (HH1.out.later hbA)
      have HK2 := hide (HK1.out.trans (keeps_of hbA (held_kw HH1.out)))
      clear hx hy hA hB hne hne2 hkA hkB rA rB lA lB hbA
      have hlt2 : (i : Int) < xs.length := by omega
      have hlt3 : (i : Int) < ys.length := by omega
      go_wp2_with fail
      refine (look_datas (F := F) (ca := [.string x.s, .slice ox x.l.length cx]) (cb := [.string y.s, .slice oy y.l.length cy]) HKPP.out HK2.out HP.out HH2.out RA.out RB.out (by omega)).mono ?_
      rintro e w1 ⟨b, rfl, hk3, hfa, htr⟩
      cases b
      · have HF := hide (hfa rfl)
        have HK3 := hide hk3
        clear hfa htr hk3
        go_wp2
        go_ret
        refine ⟨false, rfl, HK3.out, (fun _ e => HF.out ?_), fun h => (by cases h)⟩
        have h1 := HXI.out
        rw [e, HYI.out] at h1
        exact (Option.some.inj h1).symm
      · obtain ⟨ls2, ks2, hh3, hin, hl2, hg2, hc2⟩ := htr rfl
        have HH3 := hide hh3
        have HK3 := hide hk3
        have HG2 := hide hg2
        have HC2 := hide hc2
        have HIN := hide hin
        have hss : ((xs.take (i + 1)).map (wdn h)).sum = ((xs.take i).map (wdn h)).sum + wdn h x := by
          rw [List.take_add_one, HXI.out, List.map_append, List.sum_append]
          simp
        have HSS := hide hss
        clear hfa htr hk3 hh3 hg2 hc2 hin hss
        go_wp2
        go_roundw
        case measure => simp [intOf]; omega
        case rel =>
          refine ⟨i + 1, ls2, ks2, by omega, by go_num, HH3.out, HK3.out, fun j hj q hq => HIN.out j hj q (HKS.out j hj q hq), ?_, fun hF => ?_, fun k a b hk ha hb => ?_⟩
          · rw [HSS.out]
            omega
          · rw [HSS.out]
            refine (HGR.out hF).trans (HG2.out fun f => ?_)
            have h1 := HXI.out
            rw [hF f, HYI.out] at h1
            exact (Option.some.inj h1).symm
          · by_cases hki : k = i
            · subst hki
              rw [HXI.out] at ha
              rw [HYI.out] at hb
              cases ha
              cases hb
              exact HC2.out
            · exact (HOK.out k a b (by omega) ha hb).more HIN.out
    · go_wp2
      go_ret
      have he : i = xs.length := by omega
      refine ⟨true, rfl, HK1.out, (fun h => by cases h), fun _ => ⟨ls1, ks1, HH1.out, HKS.out, ?_, fun hF => ?_, HL.out, fun k a b ha hb => HOK.out k a b (by rw [he]; exact (List.getElem?_eq_some_iff.1 ha).1) ha hb⟩⟩
      · rw [he, List.take_length] at hle
        exact hle
      · have h9 := HGR.out hF
        rw [he, List.take_length] at h9
        exact h9
end Go.Proofs.Ytegcebeaelpjhaj
