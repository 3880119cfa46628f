/- All of a kind that is left is turned, row by row (made by genZXN.py). -/
import Derived.Test.YtgeckgdmkjddpaaQ19
namespace Go.Proofs.Ytgeckgdmkjddpaa.Cp
open Go.ChangeShapes Go.WideShapes Go.ChangeAt Go.RowKit Go.Proofs.Ytgeckgdmkjddpaa.Vo Go.Proofs.Ytgeckgdmkjddpaa.Rd Go.Proofs.Ytgeckgdmkjddpaa.Br
set_option linter.unusedVariables false

/-- What the rounds over the rows hold. -/
def LA1 (K : Nat → Prop) (w0 : World) (C M : Nat) (G : World → List Nat → Prop) (n0 l0 : Nat) (I J : List Pe) (n : Nat) (s : Value × World) : Prop := ∃ (E D A : List Pe) (N : List Ne) (X : List Nat), s.1 = .int .i64 (D.length : Int) ∧ Mem K w0 C M E D A N X s.2 ∧ Owe s.2 G (X ++ N.map Ne.g) ((E ++ D ++ A).map Pe.pd) ∧ n = wtP E + wtP D + wtP A + N.length ∧ n ≤ n0 ∧ (n < n0 ∨ (D.length = l0 ∧ E = I ∧ A = J))
/-- What the rounds over a row's elements hold. -/
def RI1 (K : Nat → Prop) (w0 : World) (C M : Nat) (p : Pe) (css0 : List (List Value)) (E D0 A : List Pe) (N : List Ne) (X : List Nat) (W : World) (i : Nat) (wr : World) : Prop := ∃ (arr : Array Value) (css : List (List Value)) (FE FD FA : List Pe) (FN : List Ne) (Y : List Nat), wr.heap[p.g]? = some (.cells arr 44 (0, 0)) ∧ arr.size = p.xs.length * 9 ∧ (∀ (j : Nat) c (q : Nat) u, i ≤ j → css0[j]? = some c → c[q]? = some u → arr[j * 9 + q]? = some u) ∧ css.length = i ∧ (∀ c ∈ css, c.length = 9) ∧ (∀ (j : Nat) c (q : Nat) u, css[j]? = some c → c[q]? = some u → arr[j * 9 + q]? = some u) ∧ Mem K w0 C M (E ++ FE) (D0 ++ FD) (A ++ FA) (N ++ FN) (Y ++ X) wr ∧ Owe wr (Isr 1 ((p.xs.take i).map (tgt 1 p.h)) css) (Y ++ FN.map Ne.g) ((FE ++ FD ++ FA).map Pe.pd) ∧ wtP (FE ++ FD ++ FA) + FN.length ≤ ((p.xs.take i).map (wtI p.h 1)).sum ∧ Keeps (fun b => b < w0.heap.size ∨ (b ∈ X ∧ b ≠ p.g)) W wr

set_option maxHeartbeats 8000000 in
set_option maxRecDepth 100000 in
theorem all_1 {K : Nat → Prop} {w0 w : World} {C M : Nat} {E D A : List Pe} {N : List Ne} {X : List Nat} {G : World → List Nat → Prop} (hm : Mem K w0 C M E D A N X w) (ho : Owe w G (X ++ N.map Ne.g) ((E ++ D ++ A).map Pe.pd)) (hb : wtP E + wtP D + wtP A + N.length ≤ 1048577) :
    Calls Try.prog 57 #[.pointer (some ⟨C, 2, none⟩), .func (.func 30) #[.pointer (some ⟨C, 0, none⟩)] #[]] w fun r w' => r = .returned (.tuple #[]) ∧ ∃ (E1 A1 : List Pe) (N1 : List Ne) (X1 : List Nat), Mem K w0 C M E1 [] A1 N1 X1 w' ∧ Owe w' G (X1 ++ N1.map Ne.g) ((E1 ++ [] ++ A1).map Pe.pd) ∧ wtP E1 + wtP A1 + N1.length ≤ wtP E + wtP D + wtP A + N.length ∧ (wtP E1 + wtP A1 + N1.length < wtP E + wtP D + wtP A + N.length ∨ (D = [] ∧ E1 = E ∧ A1 = A)) := by
  obtain ⟨n0, hn0⟩ : ∃ n0, wtP E + wtP D + wtP A + N.length = n0 := ⟨_, rfl⟩
  obtain ⟨l0, hl0⟩ : ∃ l0, D.length = l0 := ⟨_, rfl⟩
  obtain ⟨I0, hI0⟩ : ∃ I0 : List Pe, I0 = E := ⟨_, rfl⟩
  obtain ⟨J0, hJ0⟩ : ∃ J0 : List Pe, J0 = A := ⟨_, rfl⟩
  have HI0 := hide hI0
  have HJ0 := hide hJ0
  obtain ⟨mu, hmu⟩ := least_at (LA1 K w0 C M G n0 l0 I0 J0)
  obtain ⟨vE, vD, vA, vN, hmv⟩ := hm
  obtain ⟨ov, cv, ev, -⟩ := hmv.rD.form
  rw [List.length_map, hl0] at ev
  have z0 : w.cell? ⟨C, 2, none⟩ = some vD := (cell_of hmv.box 2).trans rfl
  rw [ev] at z0
  have HST : Hid (LA1 K w0 C M G n0 l0 I0 J0 n0 (.int .i64 (l0 : Int), w)) := ⟨E, D, A, N, X, by rw [hl0], ⟨vE, vD, vA, vN, hmv⟩, ho, hn0.symm, Nat.le_refl _, .inr ⟨hl0, hI0.symm, hJ0.symm⟩⟩
  have HMU := hide hmu
  have HL0 : Hid (l0 = D.length) := hl0.symm
  rw [hn0] at hb ⊢
  clear hmv ho hmu ev hn0 hl0 hI0 hJ0
  go_enter Try.func57, Try.ntmps57
  go_wp2
  clear z0
  go_loopw [4] (fun t4 wr => ∃ n, LA1 K w0 C M G n0 l0 I0 J0 n (t4, wr)) (fun t4 wr => mu (t4, wr))
  case atStart => exact ⟨n0, HST.out⟩
  case round =>
    obtain ⟨n1, i1⟩ := hrel
    obtain ⟨⟨E, D, A, N, X, ht4, hm, ho, hn, hnn, hls⟩, hle⟩ := HMU.out (u4, wr) n1 i1
    dsimp only at ht4 hm ho
    generalize hmm : mu (u4, wr) = n at hn hnn hls hle
    have HMM := hide hmm
    clear hmm i1
    subst ht4
    rcases List.eq_nil_or_concat D with hnil | ⟨D0, p, hcat⟩
    · subst hnil
      have HM := hide hm
      have HO := hide ho
      have HN := hide hn
      have HLS := hide hls
      have hnn2 := hnn
      clear hm ho hn hls
      go_wp2
      go_end0
      refine ⟨rfl, E, A, N, X, HM.out, HO.out, ?_, ?_⟩
      · have h9 := HN.out
        have e9 : wtP [] = 0 := rfl
        omega
      · have h9 := HN.out
        have e9 : wtP [] = 0 := rfl
        rcases HLS.out with h8 | ⟨h8, h6, h7⟩
        · exact .inl (by omega)
        · have h5 := HL0.out
          exact .inr ⟨List.length_eq_zero_iff.1 (by rw [← h5, ← h8]; rfl), h6.trans HI0.out, h7.trans HJ0.out⟩
    · rw [List.concat_eq_append] at hcat
      subst hcat
      obtain ⟨vE, vD, vA, vN, hmv⟩ := hm
      have hrow := hmv.rD
      rw [List.map_append, List.map_cons, List.map_nil] at hrow
      obtain ⟨gl, cap, ev, hcp, hcm, ⟨curl, hgl⟩, hlast, hpop⟩ := Row.last hrow
      rw [List.length_map] at ev hcp hlast hpop
      obtain ⟨hpi, hpne, hpl, css0, hpg, hcl0, hcz0, hsrc0⟩ := hmv.pD p (by simp)
      have hpwt : p.wt = lw (wtI p.h 1) p.xs := by unfold Pe.wt; rw [hpi]
      rw [hpi] at hpg hcz0
      have hsrc : ∀ (j : Nat) x, p.xs[j]? = some x → ∃ cs, css0[j]? = some cs ∧ rdI K w0 p.h 1 x cs := fun j x hx => by
        have h9 := hsrc0 j x hx
        rw [hpi] at h9
        exact h9
      have hpd : p.pd = ⟨1, .slice (some ⟨p.g, 0, none⟩) p.xs.length p.xs.length, p.xs.map (tgt 1 p.h)⟩ := by
        unfold Pe.pd Pe.v
        rw [hpi]
      have z0 : wr.cell? ⟨C, 2, none⟩ = some vD := (cell_of hmv.box 2).trans rfl
      rw [ev] at z0
      have l0 : wr.cell? ⟨gl, D0.length * 2, none⟩ = some (.slice (some ⟨p.g, 0, none⟩) p.xs.length p.xs.length) := hlast 0 _ rfl
      have l1 : wr.cell? ⟨gl, D0.length * 2 + 1, none⟩ = some (.bool false) := hlast 1 _ rfl
      obtain ⟨b5, hb5⟩ : ∃ b5, wr.heap.size = b5 := ⟨_, rfl⟩
      obtain ⟨W2, hW2⟩ : ∃ W, wr.alloc (.cells #[.slice (some ⟨p.g, 0, none⟩) p.xs.length p.xs.length, .bool false] 147) = W := ⟨_, rfl⟩
      have hb2 : Below wr.heap.size wr W2 := by rw [← hW2]; exact (Below.refl _ wr).alloc (Nat.le_refl _) _
      have hx2 : W2.heap[b5]? = some (.cells #[.slice (some ⟨p.g, 0, none⟩) p.xs.length p.xs.length, .bool false] 147 (0, 0)) := by rw [← hb5, ← hW2]; exact heap_alloc_new wr _
      have hst : W2.setCell ⟨b5, 1, none⟩ (.bool false) = W2 := set_self hx2 rfl
      have hb5n : b5 ∉ blks C M vE vD vA vN E (D0 ++ [p]) A N X := fun h9 => by
        have := (hmv.apart.2 _ h9).2
        omega
      have hmw := (hmv.below hb2).add hb5n (by have := hmv.old.size; omega) (heap_lt hx2)
      have hpk := pop_1 (v' := .slice (some ⟨gl, 0, none⟩) D0.length cap) hmw (hpop.frame fun b hb9 => hb2.block b (by
        have h9 : b = gl := List.mem_singleton.1 hb9
        rw [h9]
        exact heap_lt hgl)) (by rw [ev]; rfl)
      obtain ⟨W3, hW3⟩ : ∃ W, W2.setCell ⟨C, 2, none⟩ (.slice (some ⟨gl, 0, none⟩) D0.length cap) = W := ⟨_, rfl⟩
      rw [hW3] at hpk
      have hpgC : p.g ≠ C := fun e9 => by
        have h9 := hmv.apart.1
        unfold blks at h9
        refine (List.nodup_cons.1 h9).1 ?_
        rw [← e9]
        simp
      have hpgb : p.g ≠ b5 := fun e9 => hb5n (by rw [← e9]; simp [blks])
      have hpg3 : W3.heap[p.g]? = some (.cells css0.flatten.toArray (tyK 1) (0, 0)) := (hpk.2.block p.g hpgC).trans ((hb2.block p.g (heap_lt hpg)).trans hpg)
      have hx3 : W3.heap[b5]? = some (.cells #[.slice (some ⟨p.g, 0, none⟩) p.xs.length p.xs.length, .bool false] 147 (0, 0)) := (hpk.2.block b5 fun e9 => hb5n (by rw [e9]; simp [blks])).trans hx2
      have hz2 : W2.cell? ⟨C, 2, none⟩ = some (.slice (some ⟨gl, 0, none⟩) (D0.length + 1) cap) := (hb2.cell (p := ⟨C, 2, none⟩) (heap_lt hmv.box)).trans z0
      have hzf : W2.frozen? ⟨C, 2, none⟩ = false := frozen_of ((hb2.block C (heap_lt hmv.box)).trans hmv.box) 2
      have y0 : W3.cell? ⟨b5, 0, none⟩ = some (.slice (some ⟨p.g, 0, none⟩) p.xs.length p.xs.length) := (cell_of hx3 0).trans rfl
      have y1 : W3.cell? ⟨b5, 1, none⟩ = some (.bool false) := (cell_of hx3 1).trans rfl
      have x0 : W2.cell? ⟨b5, 0, none⟩ = some (.slice (some ⟨p.g, 0, none⟩) p.xs.length p.xs.length) := (cell_of hx2 0).trans rfl
      have x1 : W2.cell? ⟨b5, 1, none⟩ = some (.bool false) := (cell_of hx2 1).trans rfl
      have xf : W2.frozen? ⟨b5, 1, none⟩ = false := frozen_of hx2 1
      have hlen : (D0 ++ [p]).length = D0.length + 1 := by simp
      rw [hlen] at HMM ⊢
      obtain ⟨m4, hm4⟩ : ∃ m : Int, ((D0.length + 1 : Nat) : Int) = m := ⟨_, rfl⟩
      rw [hm4] at HMM ⊢
      have hm4p : (0 : Int) < m4 := by omega
      have hwrap : IntKind.i64.wrap (m4 - 1) = D0.length := by
        have h9 : D0.length ≤ 2000000 := by
          have h8 := wtP_len (K := K) (D0 ++ [p]) fun q hq => (hmv.pD q hq).2.1
          rw [List.length_append] at h8
          simp only [List.length_cons, List.length_nil] at h8
          omega
        rw [IntKind.wrap_i64]; omega
      have hc1 : ((D0.length + 1 : Nat) : Int) ≤ cap := by omega
      have hc2 : cap ≤ 9223372036854775807 := hcm
      have HMW : Hid (Mem K w0 C M E D0 A N (p.g :: b5 :: X) W3) := ⟨_, _, _, _, hpk.1⟩
      have HMV := hide hmv
      have HOO := hide ho
      have HN := hide hn
      have HSRC := hide hsrc
      have HPG := hide hpg3
      have HX3 := hide hx3
      have HPD := hide hpd
      have HCZ := hide hcz0
      have HB2 := hide hb2
      have HPK := hide hpk.2
      clear hm4
      clear hmv ho hn hls hrow hlast hpop hsrc0 hsrc hpg hpg3 hx3 hpk hmw hx2 hgl hb2 hpd hcz0 ev hb5n
      have HR0 : Hid (RI1 K w0 C M p css0 E D0 A N (p.g :: b5 :: X) W3 0 W3) := by
        refine ⟨_, [], [], [], [], [], [], HPG.out, ?_, fun j c q u _ hc hq => ?_, rfl, fun c hc => (by cases hc), fun j c q u hc => (by simp at hc), ?_, owe_rows0 1, Nat.zero_le _, Keeps.refl _ _⟩
        · have h9 := flat_len css0 HCZ.out
          simp only [List.size_toArray]
          rw [h9, hcl0]
          rfl
        · rw [show css0.flatten.toArray[j * 9 + q]? = css0.flatten[j * 9 + q]? by simp]
          exact flat_get css0 HCZ.out j c q u hc hq
        · simp only [List.append_nil, List.nil_append]
          exact HMW.out
      have hpl2 : p.xs.length ≤ 9223372036854775807 := by omega
      go_wp2
      clear x0 x1 xf hz2 hzf hst hW2 l0 l1 hwrap
      go_loopw [40] (fun t40 wi => ∃ i : Nat, i ≤ p.xs.length ∧ t40 = .int .i64 i ∧ RI1 K w0 C M p css0 E D0 A N (p.g :: b5 :: X) W3 i wi) (fun t40 _ => p.xs.length - (intOf t40).toNat)
      case atStart => exact ⟨0, Nat.zero_le _, rfl, HR0.out⟩
      case round =>
        obtain ⟨i, hi, rfl, hri⟩ := hrel
        have HRI := hide hri
        clear hri
        have hq := HRI.out
        obtain ⟨arr, css, FE, FD, FA, FN, Y, hga, hsa, hsrcA, hcl, hcz, hca, hmI, hoI, hwI, hkI⟩ := hq
        have hsumA := take_le (wtI p.h 1) p.xs i
        have hnn3 : wtP D0 + p.wt + wtP E + wtP A + N.length = n := by
          have h9 := HN.out
          have e9 : wtP (D0 ++ [p]) = wtP D0 + p.wt := by rw [wtP_app]; unfold wtP; simp
          omega
        have hpw2 : p.wt = p.xs.length + (p.xs.map (wtI p.h 1)).sum := hpwt
        have hFs : wtP (FE ++ FD ++ FA) = wtP FE + wtP FD + wtP FA := by rw [wtP_app, wtP_app]
        have hne1 : 1 ≤ p.xs.length := List.length_pos_iff.2 hpne
        have hLE : E.length + FE.length ≤ 2000000 := by
          obtain ⟨_, _, _, _, h8⟩ := hmI
          have h7 := wtP_len (K := K) (E ++ FE) fun q hq => (h8.pE q hq).2.1
          rw [List.length_append, wtP_app] at h7
          omega
        have hLD : D0.length + FD.length ≤ 2000000 := by
          obtain ⟨_, _, _, _, h8⟩ := hmI
          have h7 := wtP_len (K := K) (D0 ++ FD) fun q hq => (h8.pD q hq).2.1
          rw [List.length_append, wtP_app] at h7
          omega
        have hLA : A.length + FA.length ≤ 2000000 := by
          obtain ⟨_, _, _, _, h8⟩ := hmI
          have h7 := wtP_len (K := K) (A ++ FA) fun q hq => (h8.pA q hq).2.1
          rw [List.length_append, wtP_app] at h7
          omega
        by_cases hlt : i < p.xs.length
        · obtain ⟨x, hx⟩ : ∃ x, p.xs[i]? = some x := ⟨p.xs[i], List.getElem?_eq_getElem hlt⟩
          obtain ⟨cs, hcs, hrd⟩ := HSRC.out i x hx
          have hsumx := take_sum (wtI p.h 1) p.xs i x hx
          have hsumy := take_le (wtI p.h 1) p.xs (i + 1)
          have hx5 : wr.heap[b5]? = some (.cells #[.slice (some ⟨p.g, 0, none⟩) p.xs.length p.xs.length, .bool false] 147 (0, 0)) := (hkI.block b5 (.inr ⟨by simp, fun e9 => hpgb e9.symm⟩)).trans HX3.out
          have w0c : wr.cell? ⟨b5, 0, none⟩ = some (.slice (some ⟨p.g, 0, none⟩) p.xs.length p.xs.length) := (cell_of hx5 0).trans rfl
          have w1c : wr.cell? ⟨b5, 1, none⟩ = some (.bool false) := (cell_of hx5 1).trans rfl
          have s0 := kpt_cell (K := fun b => b = b5) rfl w0c
          have s1 := kpt_cell (K := fun b => b = b5) rfl w1c
          have hne0 : Nonempty (KptW (fun b => b = b5) wr) := kpt_nonempty _ _
          have HEL := hide (elt_1 (w := wr.drewN 1) (hmI.drewN 1) (g := p.g) (p := i * 9) (by simp) hga p.h x cs hrd (HCZ.out cs (List.mem_of_getElem? hcs)) (fun j u hj => hsrcA i cs j u (Nat.le_refl _) hcs hj) (by omega) (by rw [List.length_append]; omega) (by rw [List.length_append]; omega) (by rw [List.length_append]; omega) (by rw [List.length_append]; omega))
          have HX := hide hx
          have HALL := hide (And.intro hga (And.intro hsa (And.intro hsrcA (And.intro hcl (And.intro hcz (And.intro hca (And.intro hmI (And.intro hoI (And.intro hwI hkI)))))))))
          have hlt2 : (i : Int) < p.xs.length := by omega
          have hge : (0 : Int) ≤ (i : Int) := by omega
          clear hga hsa hsrcA hcl hcz hca hmI hoI hkI hx hcs hrd hx5 w0c w1c y0 y1 z0
          go_upto_region 8 with fail
          refine wp_region_last (S := fun w' => ∃ q : KptW (fun b => b = b5) wr, w' = q.w) [] ([0, 1, 2, 3, 4, 5, 6], 7) 9 (by kernel_rfl) (by kernel_rfl) (by kernel_rfl) (by kernel_rfl) ⟨⟨_, kpt_drew _ wr 1⟩, rfl⟩ ?_
          simp only [wpSchL, pickO, consO, List.getElem?_toArray, List.getElem?_cons_succ, List.getElem?_cons_zero]
          repeat (first | go_big_quiet_skip | (go_big_quiet_want; go_big_quiet_op; go_big_quiet_on))
          refine wpQuiet_nil ?_
          go_wp2_with fail
          refine HEL.out.mono ?_
          rintro r w2 ⟨rfl, Y', cs', arr', FE', FD', FA', FN', hl', hm', hg', ha', hb', hs', hk', ho', hw'⟩
          have HR1 : Hid (RI1 K w0 C M p css0 E D0 A N (p.g :: b5 :: X) W3 (i + 1) w2) := by
            obtain ⟨hga, hsa, hsrcA, hcl, hcz, hca, hmI, hoI, hwI, hkI⟩ := HALL.out
            have hndx := hmI.x_nodup
            have hgY : p.g ∉ Y := fun h9 => (List.nodup_append.1 hndx).2.2 p.g h9 p.g (by simp) rfl
            have hz9 : lenK 1 = 9 := rfl
            rw [hz9] at hl'
            have hmN : Mem K w0 C M (E ++ (FE ++ FE')) (D0 ++ (FD ++ FD')) (A ++ (FA ++ FA')) (N ++ (FN ++ FN')) ((Y' ++ Y) ++ (p.g :: b5 :: X)) w2 := by simpa only [List.append_assoc] using hm'
            have hoH : Owe w2 (Isr 1 ((p.xs.take i).map (tgt 1 p.h)) css) (Y ++ FN.map Ne.g) ((FE ++ FD ++ FA).map Pe.pd) := hoI.held (K := K) (w0 := w0) (C := C) (M := M) (C' := C) (M' := M) (E := []) (D := []) (A := []) (E' := []) (D' := []) (A' := []) (N' := []) (X' := []) (fun q hq => hmI.ne q (List.mem_append_right _ hq)) (fun q hq => hmN.ne q (by simp [hq])) (fun b hb => hk'.block b (.inr ⟨List.mem_append_left _ hb, fun e9 => hgY (e9 ▸ hb)⟩))
            have hoN := (owe_rows hoH ho').perm (P' := ((FE ++ FE') ++ (FD ++ FD') ++ (FA ++ FA')).map Pe.pd) (D' := (Y' ++ Y) ++ (FN ++ FN').map Ne.g) (by rw [← List.map_append]; exact (perm6 FE FD FA FE' FD' FA').map _) (by rw [List.map_append (l₁ := FN)]; exact perm_yy Y (FN.map Ne.g) Y' (FN'.map Ne.g))
            have hts : (p.xs.take i).map (tgt 1 p.h) ++ [tgt 1 p.h x] = (p.xs.take (i + 1)).map (tgt 1 p.h) := by
              rw [List.take_add_one, HX.out]
              simp
            rw [hts] at hoN
            refine ⟨arr', css ++ [cs'], FE ++ FE', FD ++ FD', FA ++ FA', FN ++ FN', Y' ++ Y, hg', hs'.trans hsa, fun j c q u hj hc hq => ?_, by rw [List.length_append, hcl]; rfl, fun c hc => ?_, fun j c q u hc hq => ?_, hmN, ?_, ?_, hkI.trans ⟨hk'.os, hk'.tape, hk'.output, hk'.size, fun b hb => hk'.block b (hb.imp id fun h9 => ⟨List.mem_append_right _ h9.1, h9.2⟩)⟩⟩
            · rw [hb' (j * 9 + q) (.inr (by rw [hz9]; omega))]
              exact hsrcA j c q u (by omega) hc hq
            · rcases List.mem_append.1 hc with hc | hc
              · exact hcz c hc
              · rw [List.mem_singleton.1 hc]
                exact hl'
            · by_cases hji : j < css.length
              · rw [List.getElem?_append_left hji] at hc
                have hq6 : q < 9 := by
                  have h9 := (List.getElem?_eq_some_iff.1 hq).1
                  rw [hcz c (List.mem_of_getElem? hc)] at h9
                  exact h9
                rw [hb' (j * 9 + q) (.inl (by omega))]
                exact hca j c q u hc hq
              · have hj0 : j = i := by
                  have h9 := (List.getElem?_eq_some_iff.1 hc).1
                  rw [List.length_append] at h9
                  simp only [List.length_cons, List.length_nil] at h9
                  omega
                subst hj0
                rw [List.getElem?_append_right (by omega), hcl, Nat.sub_self] at hc
                have hcc : cs' = c := by simpa using hc
                subst hcc
                exact ha' q u hq
            · exact hoN
            · simp only [wtP_app, List.length_append] at hw' hwI ⊢
              omega
          clear hm' hg' ha' hb' hs' hk' ho' hw' hl' HEL s0 s1 hne0
          go_wp2
          go_roundw
          case rel => exact ⟨i + 1, by omega, by go_num, HR1.out⟩
          case measure => simp [intOf]; omega
        · obtain rfl : i = p.xs.length := by omega
          rw [List.take_length] at hoI hwI
          have harr := arr_flat (sz := 9) (by decide) (by rw [hsa, hcl]) hcz hca
          rw [harr] at hga
          have hclose := owe_close (i := 1) (g := p.g) hoI hga (by rw [List.length_map]; omega)
          rw [List.length_map] at hclose
          have hclo2 : Owe wr (fun w' bs => Was w' p.pd bs) (p.g :: (Y ++ FN.map Ne.g)) ((FE ++ FD ++ FA).map Pe.pd) := by
            rw [HPD.out]
            exact hclose
          have hndb := HMV.out.apart.1
          have hXne : ∀ b ∈ X, b ≠ C ∧ b ≠ p.g := fun b hb9 => by
            have h9 := hndb
            rw [blks_split] at h9
            have h8 := (List.nodup_append.1 h9).2.2
            exact ⟨fun e9 => h8 C (by simp [blks]) b hb9 e9.symm, fun e9 => h8 p.g (by simp [blks]) b hb9 e9.symm⟩
          have hG := HOO.out.held (w' := wr) (K := K) (w0 := w0) (C := C) (M := M) (C' := C) (M' := M) (E := []) (D := []) (A := []) (E' := []) (D' := []) (A' := []) (N' := []) (X' := []) HMV.out.pN (fun q hq => hmI.ne q (List.mem_append_left _ hq)) (fun b hb9 => by
            have hbl := (HMV.out.apart.2 b (by rw [blks_split]; exact List.mem_append_right _ hb9)).2
            exact (hkI.block b (.inr ⟨by simp [hb9], (hXne b hb9).2⟩)).trans ((HPK.out.block b (hXne b hb9).1).trans (HB2.out.block b hbl)))
          have hpp : ((E ++ (D0 ++ [p]) ++ A).map Pe.pd).Perm (p.pd :: ((E ++ D0 ++ A).map Pe.pd)) := by
            rw [← List.map_cons]
            refine List.Perm.map _ ?_
            simpa only [List.append_assoc, List.cons_append, List.nil_append, List.append_nil] using (List.perm_middle (a := p) (l₁ := E ++ D0) (l₂ := A))
          have hS := (hG.perm hpp (List.Perm.refl _)).step hclo2
          have hF := hS.perm (P' := ((E ++ FE) ++ (D0 ++ FD) ++ (A ++ FA)).map Pe.pd) (D' := (Y ++ (p.g :: X)) ++ (N ++ FN).map Ne.g) (by
            rw [← List.map_append]
            exact (List.perm_append_comm.trans (perm6 E D0 A FE FD FA)).map _) (by
            rw [List.map_append (l₁ := N)]
            exact perm_xx X (N.map Ne.g) p.g Y (FN.map Ne.g))
          have hmF := (hmI.perm (X' := b5 :: (Y ++ (p.g :: X))) (List.perm_iff_count.2 fun b => by
            simp only [List.count_append, List.count_cons]
            omega)).drop
          obtain ⟨n5, hn5⟩ : ∃ n5, wtP (E ++ FE) + wtP (D0 ++ FD) + wtP (A ++ FA) + (N ++ FN).length = n5 := ⟨_, rfl⟩
          have hn5l : n5 < n := by
            have h9 := hn5
            simp only [wtP_app, List.length_append] at h9
            omega
          obtain ⟨o6, n6, c6, hz6, hn6⟩ : ∃ o n c, wr.cell? ⟨C, 2, none⟩ = some (.slice o n c) ∧ n = (D0 ++ FD).length := by
            obtain ⟨uE, uD, uA, uN, h8⟩ := hmF
            obtain ⟨o, cc, e9, -⟩ := h8.rD.form
            rw [List.length_map] at e9
            exact ⟨o, _, cc, by rw [← e9]; exact (cell_of h8.box 2).trans rfl, rfl⟩
          have HIN : Hid (LA1 K w0 C M G n0 l0 I0 J0 n5 (.int .i64 (n6 : Int), wr)) := ⟨_, _, _, _, _, by rw [hn6], hmF, hF, hn5.symm, by omega, .inl (by omega)⟩
          clear hga hsa hsrcA hcl hcz hca hmI hoI hwI hkI hclose hclo2 hndb hXne hG hpp hS hF hmF harr hn6 y0 y1
          go_wp2
          go_roundw
          case rel => exact ⟨n5, HIN.out⟩
          case measure =>
            have h9 := (HMU.out (.int .i64 (n6 : Int), wr) n5 HIN.out).2
            rw [HMM.out]
            exact Nat.lt_of_le_of_lt h9 hn5l
end Go.Proofs.Ytgeckgdmkjddpaa.Cp
