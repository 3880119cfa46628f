/- Made of ZXNc, ZXO. -/
import Derived.Test.YtgeckgdmkjddpaaQ19
namespace Go.Proofs.Ytgeckgdmkjddpaa.Cp
open Go.ChangeShapes Go.WideShapes Go.ChangeAt Go.RowKit Go.Proofs.Ytgeckgdmkjddpaa.Vo Go.Proofs.Ytgeckgdmkjddpaa.Rd Go.Proofs.Ytgeckgdmkjddpaa.Br
set_option linter.unusedVariables false

/-- What the rounds over the rows hold. -/
def LA2 (K : Nat → Prop) (w0 : World) (C M : Nat) (G : World → List Nat → Prop) (n0 l0 : Nat) (I J : List Pe) (n : Nat) (s : Value × World) : Prop := ∃ (E D A : List Pe) (N : List Ne) (X : List Nat), s.1 = .int .i64 (A.length : Int) ∧ Mem K w0 C M E D A N X s.2 ∧ Owe s.2 G (X ++ N.map Ne.g) ((E ++ D ++ A).map Pe.pd) ∧ n = wtP E + wtP D + wtP A + N.length ∧ n ≤ n0 ∧ (n < n0 ∨ (A.length = l0 ∧ E = I ∧ D = J))
/-- What the rounds over a row's elements hold. -/
def RI2 (K : Nat → Prop) (w0 : World) (C M : Nat) (p : Pe) (css0 : List (List Value)) (E D A0 : List Pe) (N : List Ne) (X : List Nat) (W : World) (i : Nat) (wr : World) : Prop := ∃ (arr : Array Value) (css : List (List Value)) (FE FD FA : List Pe) (FN : List Ne) (Y : List Nat), wr.heap[p.g]? = some (.cells arr 54 (0, 0)) ∧ arr.size = p.xs.length * 8 ∧ (∀ (j : Nat) c (q : Nat) u, i ≤ j → css0[j]? = some c → c[q]? = some u → arr[j * 8 + q]? = some u) ∧ css.length = i ∧ (∀ c ∈ css, c.length = 8) ∧ (∀ (j : Nat) c (q : Nat) u, css[j]? = some c → c[q]? = some u → arr[j * 8 + q]? = some u) ∧ Mem K w0 C M (E ++ FE) (D ++ FD) (A0 ++ FA) (N ++ FN) (Y ++ X) wr ∧ Owe wr (Isr 2 ((p.xs.take i).map (tgt 2 p.h)) css) (Y ++ FN.map Ne.g) ((FE ++ FD ++ FA).map Pe.pd) ∧ wtP (FE ++ FD ++ FA) + FN.length ≤ ((p.xs.take i).map (wtI p.h 2)).sum ∧ Keeps (fun b => b < w0.heap.size ∨ (b ∈ X ∧ b ≠ p.g)) W wr

set_option maxHeartbeats 8000000 in
set_option maxRecDepth 100000 in
theorem all_2 {K : Nat → Prop} {w0 w : World} {C M : Nat} {E D A : List Pe} {N : List Ne} {X : List Nat} {G : World → List Nat → Prop} (hm : Mem K w0 C M E D A N X w) (ho : Owe w G (X ++ N.map Ne.g) ((E ++ D ++ A).map Pe.pd)) (hb : wtP E + wtP D + wtP A + N.length ≤ 1048577) :
    Calls Try.prog 58 #[.pointer (some ⟨C, 4, none⟩), .func (.func 59) #[.pointer (some ⟨C, 0, none⟩)] #[]] w fun r w' => r = .returned (.tuple #[]) ∧ ∃ (E1 D1 : List Pe) (N1 : List Ne) (X1 : List Nat), Mem K w0 C M E1 D1 [] N1 X1 w' ∧ Owe w' G (X1 ++ N1.map Ne.g) ((E1 ++ D1 ++ []).map Pe.pd) ∧ wtP E1 + wtP D1 + N1.length ≤ wtP E + wtP D + wtP A + N.length ∧ (wtP E1 + wtP D1 + N1.length < wtP E + wtP D + wtP A + N.length ∨ (A = [] ∧ E1 = E ∧ D1 = D)) := by
  obtain ⟨n0, hn0⟩ : ∃ n0, wtP E + wtP D + wtP A + N.length = n0 := ⟨_, rfl⟩
  obtain ⟨l0, hl0⟩ : ∃ l0, A.length = l0 := ⟨_, rfl⟩
  obtain ⟨I0, hI0⟩ : ∃ I0 : List Pe, I0 = E := ⟨_, rfl⟩
  obtain ⟨J0, hJ0⟩ : ∃ J0 : List Pe, J0 = D := ⟨_, rfl⟩
  have HI0 := hide hI0
  have HJ0 := hide hJ0
  obtain ⟨mu, hmu⟩ := least_at (LA2 K w0 C M G n0 l0 I0 J0)
  obtain ⟨vE, vD, vA, vN, hmv⟩ := hm
  obtain ⟨ov, cv, ev, -⟩ := hmv.rA.form
  rw [List.length_map, hl0] at ev
  have z0 : w.cell? ⟨C, 4, none⟩ = some vA := (cell_of hmv.box 4).trans rfl
  rw [ev] at z0
  have HST : Hid (LA2 K w0 C M G n0 l0 I0 J0 n0 (.int .i64 (l0 : Int), w)) := ⟨E, D, A, N, X, by rw [hl0], ⟨vE, vD, vA, vN, hmv⟩, ho, hn0.symm, Nat.le_refl _, .inr ⟨hl0, hI0.symm, hJ0.symm⟩⟩
  have HMU := hide hmu
  have HL0 : Hid (l0 = A.length) := hl0.symm
  rw [hn0] at hb ⊢
  clear hmv ho hmu ev hn0 hl0 hI0 hJ0
  go_enter Try.func58, Try.ntmps58
  go_wp2
  clear z0
  go_loopw [4] (fun t4 wr => ∃ n, LA2 K w0 C M G n0 l0 I0 J0 n (t4, wr)) (fun t4 wr => mu (t4, wr))
  case atStart => exact ⟨n0, HST.out⟩
  case round =>
    obtain ⟨n1, i1⟩ := hrel
    obtain ⟨⟨E, D, A, N, X, ht4, hm, ho, hn, hnn, hls⟩, hle⟩ := HMU.out (u4, wr) n1 i1
    dsimp only at ht4 hm ho
    generalize hmm : mu (u4, wr) = n at hn hnn hls hle
    have HMM := hide hmm
    clear hmm i1
    subst ht4
    rcases List.eq_nil_or_concat A with hnil | ⟨A0, p, hcat⟩
    · subst hnil
      have HM := hide hm
      have HO := hide ho
      have HN := hide hn
      have HLS := hide hls
      have hnn2 := hnn
      clear hm ho hn hls
      go_wp2
      go_end0
      refine ⟨rfl, E, D, N, X, HM.out, HO.out, ?_, ?_⟩
      · have h9 := HN.out
        have e9 : wtP [] = 0 := rfl
        omega
      · have h9 := HN.out
        have e9 : wtP [] = 0 := rfl
        rcases HLS.out with h8 | ⟨h8, h6, h7⟩
        · exact .inl (by omega)
        · have h5 := HL0.out
          exact .inr ⟨List.length_eq_zero_iff.1 (by rw [← h5, ← h8]; rfl), h6.trans HI0.out, h7.trans HJ0.out⟩
    · rw [List.concat_eq_append] at hcat
      subst hcat
      obtain ⟨vE, vD, vA, vN, hmv⟩ := hm
      have hrow := hmv.rA
      rw [List.map_append, List.map_cons, List.map_nil] at hrow
      obtain ⟨gl, cap, ev, hcp, hcm, ⟨curl, hgl⟩, hlast, hpop⟩ := Row.last hrow
      rw [List.length_map] at ev hcp hlast hpop
      obtain ⟨hpi, hpne, hpl, css0, hpg, hcl0, hcz0, hsrc0⟩ := hmv.pA p (by simp)
      have hpwt : p.wt = lw (wtI p.h 2) p.xs := by unfold Pe.wt; rw [hpi]
      rw [hpi] at hpg hcz0
      have hsrc : ∀ (j : Nat) x, p.xs[j]? = some x → ∃ cs, css0[j]? = some cs ∧ rdI K w0 p.h 2 x cs := fun j x hx => by
        have h9 := hsrc0 j x hx
        rw [hpi] at h9
        exact h9
      have hpd : p.pd = ⟨2, .slice (some ⟨p.g, 0, none⟩) p.xs.length p.xs.length, p.xs.map (tgt 2 p.h)⟩ := by
        unfold Pe.pd Pe.v
        rw [hpi]
      have z0 : wr.cell? ⟨C, 4, none⟩ = some vA := (cell_of hmv.box 4).trans rfl
      rw [ev] at z0
      have l0 : wr.cell? ⟨gl, A0.length * 2, none⟩ = some (.slice (some ⟨p.g, 0, none⟩) p.xs.length p.xs.length) := hlast 0 _ rfl
      have l1 : wr.cell? ⟨gl, A0.length * 2 + 1, none⟩ = some (.bool false) := hlast 1 _ rfl
      obtain ⟨b5, hb5⟩ : ∃ b5, wr.heap.size = b5 := ⟨_, rfl⟩
      obtain ⟨W2, hW2⟩ : ∃ W, wr.alloc (.cells #[.slice (some ⟨p.g, 0, none⟩) p.xs.length p.xs.length, .bool false] 159) = W := ⟨_, rfl⟩
      have hb2 : Below wr.heap.size wr W2 := by rw [← hW2]; exact (Below.refl _ wr).alloc (Nat.le_refl _) _
      have hx2 : W2.heap[b5]? = some (.cells #[.slice (some ⟨p.g, 0, none⟩) p.xs.length p.xs.length, .bool false] 159 (0, 0)) := by rw [← hb5, ← hW2]; exact heap_alloc_new wr _
      have hst : W2.setCell ⟨b5, 1, none⟩ (.bool false) = W2 := set_self hx2 rfl
      have hb5n : b5 ∉ blks C M vE vD vA vN E D (A0 ++ [p]) N X := fun h9 => by
        have := (hmv.apart.2 _ h9).2
        omega
      have hmw := (hmv.below hb2).add hb5n (by have := hmv.old.size; omega) (heap_lt hx2)
      have hpk := pop_2 (v' := .slice (some ⟨gl, 0, none⟩) A0.length cap) hmw (hpop.frame fun b hb9 => hb2.block b (by
        have h9 : b = gl := List.mem_singleton.1 hb9
        rw [h9]
        exact heap_lt hgl)) (by rw [ev]; rfl)
      obtain ⟨W3, hW3⟩ : ∃ W, W2.setCell ⟨C, 4, none⟩ (.slice (some ⟨gl, 0, none⟩) A0.length cap) = W := ⟨_, rfl⟩
      rw [hW3] at hpk
      have hpgC : p.g ≠ C := fun e9 => by
        have h9 := hmv.apart.1
        unfold blks at h9
        refine (List.nodup_cons.1 h9).1 ?_
        rw [← e9]
        simp
      have hpgb : p.g ≠ b5 := fun e9 => hb5n (by rw [← e9]; simp [blks])
      have hpg3 : W3.heap[p.g]? = some (.cells css0.flatten.toArray (tyK 2) (0, 0)) := (hpk.2.block p.g hpgC).trans ((hb2.block p.g (heap_lt hpg)).trans hpg)
      have hx3 : W3.heap[b5]? = some (.cells #[.slice (some ⟨p.g, 0, none⟩) p.xs.length p.xs.length, .bool false] 159 (0, 0)) := (hpk.2.block b5 fun e9 => hb5n (by rw [e9]; simp [blks])).trans hx2
      have hz2 : W2.cell? ⟨C, 4, none⟩ = some (.slice (some ⟨gl, 0, none⟩) (A0.length + 1) cap) := (hb2.cell (p := ⟨C, 4, none⟩) (heap_lt hmv.box)).trans z0
      have hzf : W2.frozen? ⟨C, 4, none⟩ = false := frozen_of ((hb2.block C (heap_lt hmv.box)).trans hmv.box) 4
      have y0 : W3.cell? ⟨b5, 0, none⟩ = some (.slice (some ⟨p.g, 0, none⟩) p.xs.length p.xs.length) := (cell_of hx3 0).trans rfl
      have y1 : W3.cell? ⟨b5, 1, none⟩ = some (.bool false) := (cell_of hx3 1).trans rfl
      have x0 : W2.cell? ⟨b5, 0, none⟩ = some (.slice (some ⟨p.g, 0, none⟩) p.xs.length p.xs.length) := (cell_of hx2 0).trans rfl
      have x1 : W2.cell? ⟨b5, 1, none⟩ = some (.bool false) := (cell_of hx2 1).trans rfl
      have xf : W2.frozen? ⟨b5, 1, none⟩ = false := frozen_of hx2 1
      have hlen : (A0 ++ [p]).length = A0.length + 1 := by simp
      rw [hlen] at HMM ⊢
      obtain ⟨m4, hm4⟩ : ∃ m : Int, ((A0.length + 1 : Nat) : Int) = m := ⟨_, rfl⟩
      rw [hm4] at HMM ⊢
      have hm4p : (0 : Int) < m4 := by omega
      have hwrap : IntKind.i64.wrap (m4 - 1) = A0.length := by
        have h9 : A0.length ≤ 2000000 := by
          have h8 := wtP_len (K := K) (A0 ++ [p]) fun q hq => (hmv.pA q hq).2.1
          rw [List.length_append] at h8
          simp only [List.length_cons, List.length_nil] at h8
          omega
        rw [IntKind.wrap_i64]; omega
      have hc1 : ((A0.length + 1 : Nat) : Int) ≤ cap := by omega
      have hc2 : cap ≤ 9223372036854775807 := hcm
      have HMW : Hid (Mem K w0 C M E D A0 N (p.g :: b5 :: X) W3) := ⟨_, _, _, _, hpk.1⟩
      have HMV := hide hmv
      have HOO := hide ho
      have HN := hide hn
      have HSRC := hide hsrc
      have HPG := hide hpg3
      have HX3 := hide hx3
      have HPD := hide hpd
      have HCZ := hide hcz0
      have HB2 := hide hb2
      have HPK := hide hpk.2
      clear hm4
      clear hmv ho hn hls hrow hlast hpop hsrc0 hsrc hpg hpg3 hx3 hpk hmw hx2 hgl hb2 hpd hcz0 ev hb5n
      have HR0 : Hid (RI2 K w0 C M p css0 E D A0 N (p.g :: b5 :: X) W3 0 W3) := by
        refine ⟨_, [], [], [], [], [], [], HPG.out, ?_, fun j c q u _ hc hq => ?_, rfl, fun c hc => (by cases hc), fun j c q u hc => (by simp at hc), ?_, owe_rows0 2, Nat.zero_le _, Keeps.refl _ _⟩
        · have h9 := flat_len css0 HCZ.out
          simp only [List.size_toArray]
          rw [h9, hcl0]
          rfl
        · rw [show css0.flatten.toArray[j * 8 + q]? = css0.flatten[j * 8 + q]? by simp]
          exact flat_get css0 HCZ.out j c q u hc hq
        · simp only [List.append_nil, List.nil_append]
          exact HMW.out
      have hpl2 : p.xs.length ≤ 9223372036854775807 := by omega
      go_wp2
      clear x0 x1 xf hz2 hzf hst hW2 l0 l1 hwrap
      go_loopw [40] (fun t40 wi => ∃ i : Nat, i ≤ p.xs.length ∧ t40 = .int .i64 i ∧ RI2 K w0 C M p css0 E D A0 N (p.g :: b5 :: X) W3 i wi) (fun t40 _ => p.xs.length - (intOf t40).toNat)
      case atStart => exact ⟨0, Nat.zero_le _, rfl, HR0.out⟩
      case round =>
        obtain ⟨i, hi, rfl, hri⟩ := hrel
        have HRI := hide hri
        clear hri
        have hq := HRI.out
        obtain ⟨arr, css, FE, FD, FA, FN, Y, hga, hsa, hsrcA, hcl, hcz, hca, hmI, hoI, hwI, hkI⟩ := hq
        have hsumA := take_le (wtI p.h 2) p.xs i
        have hnn3 : wtP A0 + p.wt + wtP E + wtP D + N.length = n := by
          have h9 := HN.out
          have e9 : wtP (A0 ++ [p]) = wtP A0 + p.wt := by rw [wtP_app]; unfold wtP; simp
          omega
        have hpw2 : p.wt = p.xs.length + (p.xs.map (wtI p.h 2)).sum := hpwt
        have hFs : wtP (FE ++ FD ++ FA) = wtP FE + wtP FD + wtP FA := by rw [wtP_app, wtP_app]
        have hne1 : 1 ≤ p.xs.length := List.length_pos_iff.2 hpne
        have hLE : E.length + FE.length ≤ 2000000 := by
          obtain ⟨_, _, _, _, h8⟩ := hmI
          have h7 := wtP_len (K := K) (E ++ FE) fun q hq => (h8.pE q hq).2.1
          rw [List.length_append, wtP_app] at h7
          omega
        have hLD : D.length + FD.length ≤ 2000000 := by
          obtain ⟨_, _, _, _, h8⟩ := hmI
          have h7 := wtP_len (K := K) (D ++ FD) fun q hq => (h8.pD q hq).2.1
          rw [List.length_append, wtP_app] at h7
          omega
        have hLA : A0.length + FA.length ≤ 2000000 := by
          obtain ⟨_, _, _, _, h8⟩ := hmI
          have h7 := wtP_len (K := K) (A0 ++ FA) fun q hq => (h8.pA q hq).2.1
          rw [List.length_append, wtP_app] at h7
          omega
        by_cases hlt : i < p.xs.length
        · obtain ⟨x, hx⟩ : ∃ x, p.xs[i]? = some x := ⟨p.xs[i], List.getElem?_eq_getElem hlt⟩
          obtain ⟨cs, hcs, hrd⟩ := HSRC.out i x hx
          have hsumx := take_sum (wtI p.h 2) p.xs i x hx
          have hsumy := take_le (wtI p.h 2) p.xs (i + 1)
          have hx5 : wr.heap[b5]? = some (.cells #[.slice (some ⟨p.g, 0, none⟩) p.xs.length p.xs.length, .bool false] 159 (0, 0)) := (hkI.block b5 (.inr ⟨by simp, fun e9 => hpgb e9.symm⟩)).trans HX3.out
          have w0c : wr.cell? ⟨b5, 0, none⟩ = some (.slice (some ⟨p.g, 0, none⟩) p.xs.length p.xs.length) := (cell_of hx5 0).trans rfl
          have w1c : wr.cell? ⟨b5, 1, none⟩ = some (.bool false) := (cell_of hx5 1).trans rfl
          have s0 := kpt_cell (K := fun b => b = b5) rfl w0c
          have s1 := kpt_cell (K := fun b => b = b5) rfl w1c
          have hne0 : Nonempty (KptW (fun b => b = b5) wr) := kpt_nonempty _ _
          have HEL := hide (elt_2 (w := wr.drewN 1) (hmI.drewN 1) (g := p.g) (p := i * 8) (by simp) hga p.h x cs hrd (HCZ.out cs (List.mem_of_getElem? hcs)) (fun j u hj => hsrcA i cs j u (Nat.le_refl _) hcs hj) (by omega) (by rw [List.length_append]; omega) (by rw [List.length_append]; omega) (by rw [List.length_append]; omega) (by rw [List.length_append]; omega))
          have HX := hide hx
          have HALL := hide (And.intro hga (And.intro hsa (And.intro hsrcA (And.intro hcl (And.intro hcz (And.intro hca (And.intro hmI (And.intro hoI (And.intro hwI hkI)))))))))
          have hlt2 : (i : Int) < p.xs.length := by omega
          have hge : (0 : Int) ≤ (i : Int) := by omega
          clear hga hsa hsrcA hcl hcz hca hmI hoI hkI hx hcs hrd hx5 w0c w1c y0 y1 z0
          go_upto_region 8 with fail
          refine wp_region_last (S := fun w' => ∃ q : KptW (fun b => b = b5) wr, w' = q.w) [] ([0, 1, 2, 3, 4, 5, 6], 7) 9 (by kernel_rfl) (by kernel_rfl) (by kernel_rfl) (by kernel_rfl) ⟨⟨_, kpt_drew _ wr 1⟩, rfl⟩ ?_
          simp only [wpSchL, pickO, consO, List.getElem?_toArray, List.getElem?_cons_succ, List.getElem?_cons_zero]
          repeat (first | go_big_quiet_skip | (go_big_quiet_want; go_big_quiet_op; go_big_quiet_on))
          refine wpQuiet_nil ?_
          go_wp2_with fail
          refine HEL.out.mono ?_
          rintro r w2 ⟨rfl, Y', cs', arr', FE', FD', FA', FN', hl', hm', hg', ha', hb', hs', hk', ho', hw'⟩
          have HR1 : Hid (RI2 K w0 C M p css0 E D A0 N (p.g :: b5 :: X) W3 (i + 1) w2) := by
            obtain ⟨hga, hsa, hsrcA, hcl, hcz, hca, hmI, hoI, hwI, hkI⟩ := HALL.out
            have hndx := hmI.x_nodup
            have hgY : p.g ∉ Y := fun h9 => (List.nodup_append.1 hndx).2.2 p.g h9 p.g (by simp) rfl
            have hz9 : lenK 2 = 8 := rfl
            rw [hz9] at hl'
            have hmN : Mem K w0 C M (E ++ (FE ++ FE')) (D ++ (FD ++ FD')) (A0 ++ (FA ++ FA')) (N ++ (FN ++ FN')) ((Y' ++ Y) ++ (p.g :: b5 :: X)) w2 := by simpa only [List.append_assoc] using hm'
            have hoH : Owe w2 (Isr 2 ((p.xs.take i).map (tgt 2 p.h)) css) (Y ++ FN.map Ne.g) ((FE ++ FD ++ FA).map Pe.pd) := hoI.held (K := K) (w0 := w0) (C := C) (M := M) (C' := C) (M' := M) (E := []) (D := []) (A := []) (E' := []) (D' := []) (A' := []) (N' := []) (X' := []) (fun q hq => hmI.ne q (List.mem_append_right _ hq)) (fun q hq => hmN.ne q (by simp [hq])) (fun b hb => hk'.block b (.inr ⟨List.mem_append_left _ hb, fun e9 => hgY (e9 ▸ hb)⟩))
            have hoN := (owe_rows hoH ho').perm (P' := ((FE ++ FE') ++ (FD ++ FD') ++ (FA ++ FA')).map Pe.pd) (D' := (Y' ++ Y) ++ (FN ++ FN').map Ne.g) (by rw [← List.map_append]; exact (perm6 FE FD FA FE' FD' FA').map _) (by rw [List.map_append (l₁ := FN)]; exact perm_yy Y (FN.map Ne.g) Y' (FN'.map Ne.g))
            have hts : (p.xs.take i).map (tgt 2 p.h) ++ [tgt 2 p.h x] = (p.xs.take (i + 1)).map (tgt 2 p.h) := by
              rw [List.take_add_one, HX.out]
              simp
            rw [hts] at hoN
            refine ⟨arr', css ++ [cs'], FE ++ FE', FD ++ FD', FA ++ FA', FN ++ FN', Y' ++ Y, hg', hs'.trans hsa, fun j c q u hj hc hq => ?_, by rw [List.length_append, hcl]; rfl, fun c hc => ?_, fun j c q u hc hq => ?_, hmN, ?_, ?_, hkI.trans ⟨hk'.os, hk'.tape, hk'.output, hk'.size, fun b hb => hk'.block b (hb.imp id fun h9 => ⟨List.mem_append_right _ h9.1, h9.2⟩)⟩⟩
            · rw [hb' (j * 8 + q) (.inr (by rw [hz9]; omega))]
              exact hsrcA j c q u (by omega) hc hq
            · rcases List.mem_append.1 hc with hc | hc
              · exact hcz c hc
              · rw [List.mem_singleton.1 hc]
                exact hl'
            · by_cases hji : j < css.length
              · rw [List.getElem?_append_left hji] at hc
                have hq6 : q < 8 := by
                  have h9 := (List.getElem?_eq_some_iff.1 hq).1
                  rw [hcz c (List.mem_of_getElem? hc)] at h9
                  exact h9
                rw [hb' (j * 8 + q) (.inl (by omega))]
                exact hca j c q u hc hq
              · have hj0 : j = i := by
                  have h9 := (List.getElem?_eq_some_iff.1 hc).1
                  rw [List.length_append] at h9
                  simp only [List.length_cons, List.length_nil] at h9
                  omega
                subst hj0
                rw [List.getElem?_append_right (by omega), hcl, Nat.sub_self] at hc
                have hcc : cs' = c := by simpa using hc
                subst hcc
                exact ha' q u hq
            · exact hoN
            · simp only [wtP_app, List.length_append] at hw' hwI ⊢
              omega
          clear hm' hg' ha' hb' hs' hk' ho' hw' hl' HEL s0 s1 hne0
          go_wp2
          go_roundw
          case rel => exact ⟨i + 1, by omega, by go_num, HR1.out⟩
          case measure => simp [intOf]; omega
        · obtain rfl : i = p.xs.length := by omega
          rw [List.take_length] at hoI hwI
          have harr := arr_flat (sz := 8) (by decide) (by rw [hsa, hcl]) hcz hca
          rw [harr] at hga
          have hclose := owe_close (i := 2) (g := p.g) hoI hga (by rw [List.length_map]; omega)
          rw [List.length_map] at hclose
          have hclo2 : Owe wr (fun w' bs => Was w' p.pd bs) (p.g :: (Y ++ FN.map Ne.g)) ((FE ++ FD ++ FA).map Pe.pd) := by
            rw [HPD.out]
            exact hclose
          have hndb := HMV.out.apart.1
          have hXne : ∀ b ∈ X, b ≠ C ∧ b ≠ p.g := fun b hb9 => by
            have h9 := hndb
            rw [blks_split] at h9
            have h8 := (List.nodup_append.1 h9).2.2
            exact ⟨fun e9 => h8 C (by simp [blks]) b hb9 e9.symm, fun e9 => h8 p.g (by simp [blks]) b hb9 e9.symm⟩
          have hG := HOO.out.held (w' := wr) (K := K) (w0 := w0) (C := C) (M := M) (C' := C) (M' := M) (E := []) (D := []) (A := []) (E' := []) (D' := []) (A' := []) (N' := []) (X' := []) HMV.out.pN (fun q hq => hmI.ne q (List.mem_append_left _ hq)) (fun b hb9 => by
            have hbl := (HMV.out.apart.2 b (by rw [blks_split]; exact List.mem_append_right _ hb9)).2
            exact (hkI.block b (.inr ⟨by simp [hb9], (hXne b hb9).2⟩)).trans ((HPK.out.block b (hXne b hb9).1).trans (HB2.out.block b hbl)))
          have hpp : ((E ++ D ++ (A0 ++ [p])).map Pe.pd).Perm (p.pd :: ((E ++ D ++ A0).map Pe.pd)) := by
            rw [← List.map_cons]
            refine List.Perm.map _ ?_
            simpa only [List.append_assoc, List.cons_append, List.nil_append, List.append_nil] using (List.perm_middle (a := p) (l₁ := E ++ D ++ A0) (l₂ := []))
          have hS := (hG.perm hpp (List.Perm.refl _)).step hclo2
          have hF := hS.perm (P' := ((E ++ FE) ++ (D ++ FD) ++ (A0 ++ FA)).map Pe.pd) (D' := (Y ++ (p.g :: X)) ++ (N ++ FN).map Ne.g) (by
            rw [← List.map_append]
            exact (List.perm_append_comm.trans (perm6 E D A0 FE FD FA)).map _) (by
            rw [List.map_append (l₁ := N)]
            exact perm_xx X (N.map Ne.g) p.g Y (FN.map Ne.g))
          have hmF := (hmI.perm (X' := b5 :: (Y ++ (p.g :: X))) (List.perm_iff_count.2 fun b => by
            simp only [List.count_append, List.count_cons]
            omega)).drop
          obtain ⟨n5, hn5⟩ : ∃ n5, wtP (E ++ FE) + wtP (D ++ FD) + wtP (A0 ++ FA) + (N ++ FN).length = n5 := ⟨_, rfl⟩
          have hn5l : n5 < n := by
            have h9 := hn5
            simp only [wtP_app, List.length_append] at h9
            omega
          obtain ⟨o6, n6, c6, hz6, hn6⟩ : ∃ o n c, wr.cell? ⟨C, 4, none⟩ = some (.slice o n c) ∧ n = (A0 ++ FA).length := by
            obtain ⟨uE, uD, uA, uN, h8⟩ := hmF
            obtain ⟨o, cc, e9, -⟩ := h8.rA.form
            rw [List.length_map] at e9
            exact ⟨o, _, cc, by rw [← e9]; exact (cell_of h8.box 4).trans rfl, rfl⟩
          have HIN : Hid (LA2 K w0 C M G n0 l0 I0 J0 n5 (.int .i64 (n6 : Int), wr)) := ⟨_, _, _, _, _, by rw [hn6], hmF, hF, hn5.symm, by omega, .inl (by omega)⟩
          clear hga hsa hsrcA hcl hcz hca hmI hoI hwI hkI hclose hclo2 hndb hXne hG hpp hS hF hmF harr hn6 y0 y1
          go_wp2
          go_roundw
          case rel => exact ⟨n5, HIN.out⟩
          case measure =>
            have h9 := (HMU.out (.int .i64 (n6 : Int), wr) n5 HIN.out).2
            rw [HMM.out]
            exact Nat.lt_of_le_of_lt h9 hn5l
end Go.Proofs.Ytgeckgdmkjddpaa.Cp
namespace Go.Proofs.Ytgeckgdmkjddpaa.Cp
open Go.ChangeShapes Go.WideShapes Go.ChangeAt Go.RowKit Go.Proofs.Ytgeckgdmkjddpaa.Vo Go.Proofs.Ytgeckgdmkjddpaa.Rd Go.Proofs.Ytgeckgdmkjddpaa.Br
set_option linter.unusedVariables false

set_option maxHeartbeats 4000000 in
set_option maxRecDepth 100000 in
theorem name_any {K : Nat → Prop} {w0 w : World} {C M : Nat} {E D A : List Pe} {N : List Ne} {X : List Nat} (hm : Mem K w0 C M E D A N X w) {g p : Nat} (hg : g ∈ X) {arr : Array Value} {T : TypeId} (hbk : w.heap[g]? = some (.cells arr T (0, 0))) (s : ByteArray) (hat : arr[p]? = some (.string s)) (hs : s.size ≤ 1048576) :
    Calls Try.prog 61 #[.pointer (some ⟨C, 0, none⟩), .pointer (some ⟨g, p, none⟩), .bool false] w fun r w' => r = .returned (.tuple #[]) ∧ Mem K w0 C M E D A N X w' ∧ Keeps (KX w0 X) w w' := by
  obtain ⟨⟨a, b, c, d, hbox⟩, htx, hXC, hMC, hC0, hM0⟩ := hm.ptrs
  obtain ⟨hgC, hgM⟩ := hXC g hg
  have HM := hide hm
  have HXC := hide hXC
  have HBK := hide hbk
  have HBOX := hide hbox
  have HTX := hide htx
  have HAT := hide hat
  have b1 := cell_of hbk p
  rw [hat] at b1
  have t8 : w.cell? ⟨C, 8, none⟩ = some (.map (some M)) := (cell_of hbox 8).trans rfl
  have s1 := kpt_cell (K := fun b => b = C ∨ b = g) (.inr rfl) b1
  have s8 := kpt_cell (K := fun b => b = C ∨ b = g) (.inl rfl) t8
  have hne0 : Nonempty (KptW (fun b => b = C ∨ b = g) w) := kpt_nonempty _ _
  clear b1 t8 hbk hbox htx hm hXC hat
  go_enter Try.func61, Try.ntmps61
  go_upto_region 0 with fail
  refine wp_region_last (S := fun w' => ∃ q : KptW (fun b => b = C ∨ b = g) w, w' = q.w) [([0, 1, 2, 3, 4, 5, 6, 7], 8)] ([9], 10) 12 (by kernel_rfl) (by kernel_rfl) (by kernel_rfl) (by kernel_rfl) ⟨⟨_, kpt_drew _ w 1⟩, rfl⟩ ?_
  simp only [wpSchL, pickO, consO, List.getElem?_toArray, List.getElem?_cons_succ, List.getElem?_cons_zero]
  repeat (first | go_big_quiet_skip | (go_big_quiet_want; go_big_quiet_op; go_big_quiet_on))
  refine wpQuiet_nil ?_
  go_wp2_with fail
  refine (of_any M s (w.drewN 1) hs (HTX.out.keep rfl)).mono ?_
  rintro e U ⟨rfl, htU, hvU⟩
  have hmU := (HM.out.drewN 1).texts htU hvU
  have hgU : U.heap[g]? = some (.cells arr T (0, 0)) := (hvU.block g ⟨heap_lt HBK.out, hgM⟩).trans HBK.out
  have hKU : Keeps (fun b => b = C ∨ b = g) w U := ⟨hvU.os, hvU.tape, hvU.output, hvU.size, fun b hb => by
    rcases hb with rfl | rfl
    · exact hvU.block b ⟨heap_lt HBOX.out, fun e => hMC e.symm⟩
    · exact hvU.block b ⟨heap_lt HBK.out, hgM⟩⟩
  have HXU : Hid (Keeps (KX w0 X) w U) := ⟨hvU.os, hvU.tape, hvU.output, hvU.size, fun b hb => by
    rcases hb with hb | hb
    · exact hvU.block b ⟨by have := HM.out.size; show b < w.heap.size; omega, by omega⟩
    · exact hvU.block b ⟨(HM.out.x_lt hb).2, (HXC.out b hb).2⟩⟩
  go_wp2
  refine ⟨⟨⟨U, hKU⟩, rfl⟩, ?_⟩
  repeat (first | go_big_quiet_skip | (go_big_quiet_want; go_big_quiet_op; go_big_quiet_on))
  refine wpQuiet_nil ?_
  have hst := set_self hgU HAT.out
  have u1 := cell_of hgU p
  rw [HAT.out] at u1
  have fu := frozen_of hgU p
  have HMU := hide hmU.1
  clear htU hvU hKU hmU hgU s1 s8 hne0
  go_wp2
  go_end0
  exact ⟨rfl, HMU.out, HXU.out⟩

/-- What the rounds over the rows hold. -/
def LN (K : Nat → Prop) (w0 : World) (C M : Nat) (G : World → List Nat → Prop) (E D A : List Pe) (P : List Pd) (s : Value × World) : Prop := ∃ (N : List Ne) (X : List Nat), s.1 = .int .i64 (N.length : Int) ∧ Mem K w0 C M E D A N X s.2 ∧ Owe s.2 G (X ++ N.map Ne.g) P
set_option maxHeartbeats 8000000 in
set_option maxRecDepth 100000 in
theorem all_3 {K : Nat → Prop} {w0 w : World} {C M : Nat} {E D A : List Pe} {N : List Ne} {X : List Nat} {G : World → List Nat → Prop} {P : List Pd} (hm : Mem K w0 C M E D A N X w) (ho : Owe w G (X ++ N.map Ne.g) P) (hb : N.length ≤ 1048577) :
    Calls Try.prog 60 #[.pointer (some ⟨C, 6, none⟩), .func (.func 61) #[.pointer (some ⟨C, 0, none⟩)] #[]] w fun r w' => r = .returned (.tuple #[]) ∧ ∃ (X1 : List Nat), Mem K w0 C M E D A [] X1 w' ∧ Owe w' G X1 P := by
  obtain ⟨l0, hl0⟩ : ∃ l0, N.length = l0 := ⟨_, rfl⟩
  obtain ⟨vE, vD, vA, vN, hmv⟩ := hm
  obtain ⟨ov, cv, ev, -⟩ := hmv.rN.form
  rw [List.length_map, hl0] at ev
  have z0 : w.cell? ⟨C, 6, none⟩ = some vN := (cell_of hmv.box 6).trans rfl
  rw [ev] at z0
  have HST : Hid (LN K w0 C M G E D A P (.int .i64 (l0 : Int), w)) := ⟨N, X, by rw [hl0], ⟨vE, vD, vA, vN, hmv⟩, ho⟩
  rw [hl0] at hb
  clear hmv ho ev hl0
  go_enter Try.func60, Try.ntmps60
  go_wp2
  clear z0
  go_loopw [4] (fun t4 wr => ∃ n : Nat, t4 = .int .i64 (n : Int) ∧ n ≤ l0 ∧ LN K w0 C M G E D A P (t4, wr)) (fun t4 wr => (intOf t4).toNat)
  case atStart => exact ⟨l0, rfl, Nat.le_refl _, HST.out⟩
  case round =>
    obtain ⟨n1, ht4, hnl, N, X, ht5, hm, ho⟩ := hrel
    dsimp only at ht5 hm ho
    subst ht4
    have hnN : N.length = n1 := by
      injection ht5 with _ h9
      omega
    clear ht5
    rcases List.eq_nil_or_concat N with hnil | ⟨N0, p, hcat⟩
    · subst hnil
      have hn0 : n1 = 0 := hnN.symm
      subst hn0
      have HM := hide hm
      have HO := hide ho
      clear hm ho
      go_wp2
      go_end0
      exact ⟨rfl, X, HM.out, by have h9 := HO.out; rw [List.map_nil, List.append_nil] at h9; exact h9⟩
    · rw [List.concat_eq_append] at hcat
      subst hcat
      obtain ⟨w5, hw5⟩ : ∃ w5, wr = w5 := ⟨_, rfl⟩
      obtain ⟨vE, vD, vA, vN, hmv⟩ := hm
      have hrow := hmv.rN
      rw [List.map_append, List.map_cons, List.map_nil] at hrow
      obtain ⟨gl, cap, ev, hcp, hcm, ⟨curl, hgl⟩, hlast, hpop⟩ := Row.last hrow
      rw [List.length_map] at ev hcp hlast hpop
      obtain ⟨hpne, hpl, hps, hpg⟩ := hmv.pN p (by simp)
      have z0 : wr.cell? ⟨C, 6, none⟩ = some vN := (cell_of hmv.box 6).trans rfl
      rw [ev] at z0
      have l0c : wr.cell? ⟨gl, N0.length * 2, none⟩ = some (.slice (some ⟨p.g, 0, none⟩) p.ss.length p.ss.length) := hlast 0 _ rfl
      have l1c : wr.cell? ⟨gl, N0.length * 2 + 1, none⟩ = some (.bool false) := hlast 1 _ rfl
      obtain ⟨b5, hb5⟩ : ∃ b5, wr.heap.size = b5 := ⟨_, rfl⟩
      obtain ⟨W2, hW2⟩ : ∃ W, wr.alloc (.cells #[.slice (some ⟨p.g, 0, none⟩) p.ss.length p.ss.length, .bool false] 164) = W := ⟨_, rfl⟩
      have hb2 : Below wr.heap.size wr W2 := by rw [← hW2]; exact (Below.refl _ wr).alloc (Nat.le_refl _) _
      have hx2 : W2.heap[b5]? = some (.cells #[.slice (some ⟨p.g, 0, none⟩) p.ss.length p.ss.length, .bool false] 164 (0, 0)) := by rw [← hb5, ← hW2]; exact heap_alloc_new wr _
      have hst : W2.setCell ⟨b5, 1, none⟩ (.bool false) = W2 := set_self hx2 rfl
      have hb5n : b5 ∉ blks C M vE vD vA vN E D A (N0 ++ [p]) X := fun h9 => by
        have := (hmv.apart.2 _ h9).2
        omega
      have hmw := (hmv.below hb2).add hb5n (by have := hmv.old.size; omega) (heap_lt hx2)
      have hpk := pop_3 (v' := .slice (some ⟨gl, 0, none⟩) N0.length cap) hmw (hpop.frame fun b hb9 => hb2.block b (by
        have h9 : b = gl := List.mem_singleton.1 hb9
        rw [h9]
        exact heap_lt hgl)) (by rw [ev]; rfl)
      obtain ⟨W3, hW3⟩ : ∃ W, W2.setCell ⟨C, 6, none⟩ (.slice (some ⟨gl, 0, none⟩) N0.length cap) = W := ⟨_, rfl⟩
      rw [hW3] at hpk
      have hpgC : p.g ≠ C := fun e9 => by
        have h9 := hmv.apart.1
        unfold blks at h9
        refine (List.nodup_cons.1 h9).1 ?_
        rw [← e9]
        simp
      have hpgb : p.g ≠ b5 := fun e9 => hb5n (by rw [← e9]; simp [blks])
      have hpg3 : W3.heap[p.g]? = some (.cells (p.ss.map Value.string).toArray 9 (0, 0)) := (hpk.2.block p.g hpgC).trans ((hb2.block p.g (heap_lt hpg)).trans hpg)
      have hx3 : W3.heap[b5]? = some (.cells #[.slice (some ⟨p.g, 0, none⟩) p.ss.length p.ss.length, .bool false] 164 (0, 0)) := (hpk.2.block b5 fun e9 => hb5n (by rw [e9]; simp [blks])).trans hx2
      have hz2 : W2.cell? ⟨C, 6, none⟩ = some (.slice (some ⟨gl, 0, none⟩) (N0.length + 1) cap) := (hb2.cell (p := ⟨C, 6, none⟩) (heap_lt hmv.box)).trans z0
      have hzf : W2.frozen? ⟨C, 6, none⟩ = false := frozen_of ((hb2.block C (heap_lt hmv.box)).trans hmv.box) 6
      have y0 : W3.cell? ⟨b5, 0, none⟩ = some (.slice (some ⟨p.g, 0, none⟩) p.ss.length p.ss.length) := (cell_of hx3 0).trans rfl
      have y1 : W3.cell? ⟨b5, 1, none⟩ = some (.bool false) := (cell_of hx3 1).trans rfl
      have x0 : W2.cell? ⟨b5, 0, none⟩ = some (.slice (some ⟨p.g, 0, none⟩) p.ss.length p.ss.length) := (cell_of hx2 0).trans rfl
      have x1 : W2.cell? ⟨b5, 1, none⟩ = some (.bool false) := (cell_of hx2 1).trans rfl
      have xf : W2.frozen? ⟨b5, 1, none⟩ = false := frozen_of hx2 1
      have hlen : n1 = N0.length + 1 := by rw [← hnN]; simp
      obtain ⟨m4, hm4⟩ : ∃ m : Int, (n1 : Int) = m := ⟨_, rfl⟩
      rw [hm4]
      have hm4p : (0 : Int) < m4 := by omega
      have hwrap : IntKind.i64.wrap (m4 - 1) = N0.length := by rw [IntKind.wrap_i64]; omega
      have hc1 : ((N0.length + 1 : Nat) : Int) ≤ cap := by omega
      have hc2 : cap ≤ 9223372036854775807 := hcm
      have hpl2 : p.ss.length ≤ 9223372036854775807 := by omega
      have HMW : Hid (Mem K w0 C M E D A N0 (p.g :: b5 :: X) W3) := ⟨_, _, _, _, hpk.1⟩
      have HMV := hide hmv
      rw [hw5] at HMV
      have HOO := hide ho
      rw [hw5] at HOO
      have HPG := hide hpg3
      have HX3 := hide hx3
      have HB2 := hide hb2
      rw [hw5] at HB2
      have HPK := hide hpk.2
      have HPS := hide hps
      have HM4 := hide hm4
      clear hm4 hmv ho hrow hlast hpop hpg hpg3 hx3 hpk hmw hx2 hgl hb2 ev hb5n hps hw5
      go_wp2
      clear x0 x1 xf hz2 hzf hst hW2 l0c l1c hwrap
      go_loopw [40] (fun t40 wi => ∃ i : Nat, i ≤ p.ss.length ∧ t40 = .int .i64 i ∧ Mem K w0 C M E D A N0 (p.g :: b5 :: X) wi ∧ Keeps (KX w0 (p.g :: b5 :: X)) W3 wi) (fun t40 _ => p.ss.length - (intOf t40).toNat)
      case atStart => exact ⟨0, Nat.zero_le _, rfl, HMW.out, Keeps.refl _ _⟩
      case round =>
        obtain ⟨i, hi, rfl, hmI, hkI⟩ := hrel
        by_cases hlt : i < p.ss.length
        · obtain ⟨x, hx⟩ : ∃ x, p.ss[i]? = some x := ⟨p.ss[i], List.getElem?_eq_getElem hlt⟩
          have hx5 : wr.heap[b5]? = some (.cells #[.slice (some ⟨p.g, 0, none⟩) p.ss.length p.ss.length, .bool false] 164 (0, 0)) := (hkI.block b5 (.inr (by simp))).trans HX3.out
          have hg5 : wr.heap[p.g]? = some (.cells (p.ss.map Value.string).toArray 9 (0, 0)) := (hkI.block p.g (.inr (by simp))).trans HPG.out
          have w0c : wr.cell? ⟨b5, 0, none⟩ = some (.slice (some ⟨p.g, 0, none⟩) p.ss.length p.ss.length) := (cell_of hx5 0).trans rfl
          have w1c : wr.cell? ⟨b5, 1, none⟩ = some (.bool false) := (cell_of hx5 1).trans rfl
          have s0 := kpt_cell (K := fun b => b = b5) rfl w0c
          have s1 := kpt_cell (K := fun b => b = b5) rfl w1c
          have hne0 : Nonempty (KptW (fun b => b = b5) wr) := kpt_nonempty _ _
          have HEL := hide (name_any (w := wr.drewN 1) (hmI.drewN 1) (g := p.g) (p := i) (by simp) hg5 x (by simp [hx]) (HPS.out x (List.mem_of_getElem? hx)))
          have HKI := hide hkI
          have hlt2 : (i : Int) < p.ss.length := by omega
          have hge : (0 : Int) ≤ (i : Int) := by omega
          clear hmI hkI hx hx5 hg5 w0c w1c y0 y1 z0
          go_upto_region 8 with fail
          refine wp_region_last (S := fun w' => ∃ q : KptW (fun b => b = b5) wr, w' = q.w) [] ([0, 1, 2, 3, 4, 5, 6], 7) 9 (by kernel_rfl) (by kernel_rfl) (by kernel_rfl) (by kernel_rfl) ⟨⟨_, kpt_drew _ wr 1⟩, rfl⟩ ?_
          simp only [wpSchL, pickO, consO, List.getElem?_toArray, List.getElem?_cons_succ, List.getElem?_cons_zero]
          repeat (first | go_big_quiet_skip | (go_big_quiet_want; go_big_quiet_op; go_big_quiet_on))
          refine wpQuiet_nil ?_
          go_wp2_with fail
          refine HEL.out.mono ?_
          rintro r w2 ⟨rfl, hm', hk'⟩
          have HM' := hide hm'
          have HK' : Hid (Keeps (KX w0 (p.g :: b5 :: X)) W3 w2) := HKI.out.trans ⟨hk'.os, hk'.tape, hk'.output, hk'.size, hk'.block⟩
          clear hm' hk' HEL s0 s1 hne0
          go_wp2
          go_roundw
          case rel => exact ⟨i + 1, by omega, by go_num, HM'.out, HK'.out⟩
          case measure => simp [intOf]; omega
        · have hndb := HMV.out.apart.1
          have hXne : ∀ b ∈ X, b ≠ C := fun b hb9 => by
            have h9 := hndb
            rw [blks_split] at h9
            exact fun e9 => (List.nodup_append.1 h9).2.2 C (by simp [blks]) b hb9 e9.symm
          have hG := HOO.out.keep (w2 := wr) fun b hb9 => by
            have hbk : (b < w0.heap.size ∨ b ∈ p.g :: b5 :: X) ∨ b ∈ N0.map Ne.g := by
              rcases List.mem_append.1 hb9 with h9 | h9
              · exact .inl (.inr (by simp [h9]))
              · rw [List.map_append, List.mem_append] at h9
                rcases h9 with h9 | h9
                · exact .inr h9
                · exact .inl (.inr (by simp at h9; simp [h9]))
            have hbl : b ∈ blks C M vE vD vA vN E D A (N0 ++ [p]) X := by
              rcases List.mem_append.1 hb9 with h9 | h9
              · simp [blks, h9]
              · rw [List.map_append, List.mem_append] at h9
                rcases h9 with h9 | h9
                · simp only [blks, List.map_append, List.mem_cons, List.mem_append]; simp [h9]
                · simp at h9; simp [blks, h9]
            have hbC : b ≠ C := fun e9 => by
              have h9 := hndb
              unfold blks at h9
              refine (List.nodup_cons.1 h9).1 ?_
              rw [← e9]
              rcases List.mem_append.1 hb9 with h8 | h8
              · simp [h8]
              · exact List.mem_cons_of_mem _ (List.mem_append_right _ (List.mem_append_right _ (List.mem_append_right _ (List.mem_append_right _ (List.mem_append_right _ (List.mem_append_right _ (List.mem_append_right _ (List.mem_append_left _ h8))))))))
            have h3 : W3.heap[b]? = w5.heap[b]? := (HPK.out.block b hbC).trans (HB2.out.block b (HMV.out.apart.2 b hbl).2)
            rcases hbk with h8 | h8
            · exact (hkI.block b h8).trans h3
            · obtain ⟨q, hq, rfl⟩ := List.mem_map.1 h8
              rw [(hmI.ne q hq).2.2.2, (HMV.out.pN q (List.mem_append_left _ hq)).2.2.2]
          have hF := hG.perm (P' := P) (D' := (p.g :: X) ++ N0.map Ne.g) (List.Perm.refl _) (List.perm_iff_count.2 fun b => by
            simp [List.count_append, List.count_cons]
            omega)
          have hmF := (hmI.perm (X' := b5 :: (p.g :: X)) (List.Perm.swap _ _ _)).drop
          obtain ⟨o6, c6, hz6⟩ : ∃ o c, wr.cell? ⟨C, 6, none⟩ = some (.slice o N0.length c) := by
            obtain ⟨uE, uD, uA, uN, h8⟩ := hmF
            obtain ⟨o, cc, e9, -⟩ := h8.rN.form
            rw [List.length_map] at e9
            exact ⟨o, cc, by rw [← e9]; exact (cell_of h8.box 6).trans rfl⟩
          have HIN : Hid (LN K w0 C M G E D A P (.int .i64 (N0.length : Int), wr)) := ⟨_, _, rfl, hmF, hF⟩
          clear hmI hkI hndb hXne hG hF hmF y0 y1
          go_wp2
          go_roundw
          case rel => exact ⟨N0.length, rfl, by omega, HIN.out⟩
          case measure =>
            have h9 := HM4.out
            simp [intOf]
            omega
end Go.Proofs.Ytgeckgdmkjddpaa.Cp
