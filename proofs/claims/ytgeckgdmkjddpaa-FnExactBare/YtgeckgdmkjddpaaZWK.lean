/- The program's canBeHeld, of one list that is not too heavy (made by genZWK.py). -/
import Derived.Test.YtgeckgdmkjddpaaQ14
import Derived.Test.YtgeckgdmkjddpaaZWJ
namespace Go.Proofs.Ytgeckgdmkjddpaa.Hd
open Go.ChangeShapes Go.WideShapes Go.ChangeAt Go.RowKit Go.Shelf Go.Proofs.Ytgeckgdmkjddpaa.It Go.Proofs.Ytgeckgdmkjddpaa.Vo Go.Proofs.Ytgeckgdmkjddpaa.Br
attribute [local go_sem] Oper.semAt_some
set_option linter.unusedVariables false

theorem rd_stay {K : Nat → Prop} {w w' : World} {h : Nat} {x : Ls} {xs : List Tr} (hb : Stays K w w') (hr : Rd K w h x xs) : Rd K w' h x xs := by
  obtain ⟨h1, h2, h3, h4, h5⟩ := hr
  refine ⟨h1, h2, h3, h4, h5.frame hb (fun _ h => h) ?_⟩
  have hf := reads_frame (K := K) (K' := K) hb (fun _ h => h) h
  unfold rdI
  split
  · exact hf.1
  · split
    · exact hf.2.1
    · exact hf.2.2
theorem bb_same {w w' : World} {x : Ls} {b off : Nat} (hx : x.o = some ⟨b, off, none⟩) (hb : w'.heap[b]? = w.heap[b]?) : bb w' x = bb w x := by
  have hl : ∀ p, lenAt w' b p = lenAt w b p := fun p => by unfold lenAt; rw [World.cell?_of_block (a := ⟨b, p, none⟩) hb]
  unfold bb by1 pn wn
  rw [hx]
  simp only [hl]
/-- What canBeHeld holds: the function's box, its result's box, how much the lists that came take. -/
structure HdI (K : Nat → Prop) (w : World) (F NR NM NB : Nat) (s : List Ls) (Pr : Nat → Prop) (W : World) : Prop where
  boxF : W.heap[w.heap.size]? = some (.cells #[.func (.func 27) #[] #[]] 62 (0, 0))
  boxR : W.heap[NR]? = some (.cells #[.bool false] 4 (0, 0))
  boxB : W.heap[NB]? = some (.cells #[.map (some NM)] 106 (0, 0))
  map : ∃ ks, DMap W NM (byl w F) ks ∧ ∀ k, k ∈ ks ↔ ∃ z ∈ s, pk z = k
  subs : ∀ z ∈ s, Sub K w F z
  nF : ¬ Pr w.heap.size
  nR : ¬ Pr NR
  nM : ¬ Pr NM
  nB : ¬ Pr NB
  below : Below w.heap.size w W
theorem HdI.move {K : Nat → Prop} {w : World} {F NR NM NB N : Nat} {s : List Ls} {Pr Pr' : Nat → Prop} {A B : World} (h : HdI K w F NR NM NB s Pr A) (hs : Below w.heap.size A B) (hb : ∀ k, k < N → B.heap[k]? = A.heap[k]?) (hF : w.heap.size < N) (hR : NR < N) (hM : NM < N) (hB : NB < N) (hp : ∀ k, k < N → ¬ Pr k → ¬ Pr' k) : HdI K w F NR NM NB s Pr' B := by
  obtain ⟨ks, h1, h2⟩ := h.map
  exact ⟨(hb _ hF).trans h.boxF, (hb _ hR).trans h.boxR, (hb _ hB).trans h.boxB, ⟨ks, h1.keep (hb _ hM), h2⟩, h.subs, hp _ hF h.nF, hp _ hR h.nR, hp _ hM h.nM, hp _ hB h.nB, h.below.trans hs⟩
theorem res_held {w : World} {g : Nat} {b : Bool} (tmps : Array Value) (ht : tmps.getD 4 undef = .pointer (some ⟨g, 0, none⟩)) (hg : w.heap[g]? = some (.cells #[.bool b] 4 (0, 0))) : (results Try.f26 tmps).run Try.prog w = .ok (.bool b) w := by
  have hc : w.cell? ⟨g, 0, none⟩ = some (.bool b) := cell_of hg 0
  have ht' : tmps[4]?.getD undef = .pointer (some ⟨g, 0, none⟩) := by simpa using ht
  simp [results, ht', asAddr, loadVar, go_sem, hc]

set_option maxRecDepth 100000 in
set_option maxHeartbeats 16000000 in
theorem held_I {i : Nat} (K : Nat → Prop) (w : World) (h b j : Nat) (x : Tr) (hr : Rd K w h ⟨i, some ⟨b, 0, none⟩, 1, 1⟩ [x]) (hK : ∀ k, K k → k < w.heap.size ∧ PlainAt w ⟨k, 0, none⟩) (hw : wtI h i x ≤ 1048576) (hj : w.heap[j]? = some (.cells #[(.iface (tyOf i) (.slice (some ⟨b, 0, none⟩) 1 1))] 111 (0, 0))) :
    Calls Try.prog 26 #[.func (.func 27) #[] #[], (.slice (some ⟨j, 0, none⟩) 1 1)] w fun r w' => r = .returned (.bool true) ∧ Below w.heap.size w w' := by
  have hmm := @run_makeMap Try.prog
  obtain ⟨F, hF⟩ : ∃ F, F = 1048577 := ⟨_, rfl⟩
  have hsub : Sub K w F ⟨i, some ⟨b, 0, none⟩, 1, 1⟩ := ⟨h, [x], hr, by unfold lw; simp; omega⟩
  have hF3 : 300 * F ≤ 1000000000 := by omega
  have hF2 : 2 * fd gW w F ⟨i, some ⟨b, 0, none⟩, 1, 1⟩ ≤ 10000000 := by have := sub_wt hsub; omega
  have hjl := heap_lt hj
  have HFL : Hid (∀ z, Sub K w F z → byl w F (pk z) ≤ 1000000000) := fun z hz => Nat.le_trans (byl_le hz) hF3
  clear hF3 hF hw hr
  refine (callsIn_wide (n := 3)).1 ?_
  refine callsIn_of_wp_marks Try.func26 rfl trivial ?_ rfl
  simp only [Try.ntmps26, List.size_toArray, List.length_cons, List.length_nil, Nat.reduceAdd, Nat.reduceSub, Array.replicate_succ, Array.replicate_zero, List.push_toArray, List.append_toArray, List.nil_append, List.cons_append]
  obtain ⟨W4, hW4⟩ : ∃ W4, ((((w.alloc (.cells #[.func (.func 27) #[] #[]] 62)).alloc (.cells #[.bool false] 4)).alloc (.map #[] 0)).alloc (.cells #[.map (some (w.heap.size + 1 + 1))] 106)) = W4 := ⟨_, rfl⟩
  have hs4a : W4.heap.size ≤ w.heap.size + 4 := by rw [← hW4]; simp
  have hs4b : w.heap.size + 4 ≤ W4.heap.size := by rw [← hW4]; simp
  have hb4 : Below w.heap.size w W4 := by rw [← hW4]; exact ((((Below.refl _ w).alloc (Nat.le_refl _) _).alloc (by simp) _).alloc (by simp; omega) _).alloc (by simp; omega) _
  have hF4 : W4.heap[w.heap.size]? = some (.cells #[.func (.func 27) #[] #[]] 62 (0, 0)) := by
    rw [← hW4]
    exact (Below.heap_alloc _ _ _ (by simp; omega)).trans ((Below.heap_alloc _ _ _ (by simp; omega)).trans ((Below.heap_alloc _ _ _ (by simp)).trans (heap_alloc_new w _)))
  have hR4 : W4.heap[w.heap.size + 1]? = some (.cells #[.bool false] 4 (0, 0)) := by
    rw [← hW4]
    exact (Below.heap_alloc _ _ _ (by simp)).trans ((Below.heap_alloc _ _ _ (by simp)).trans (heap_alloc2_new w _ _))
  have hM4 : W4.heap[w.heap.size + 1 + 1]? = some (.map #[] 0) := by
    rw [← hW4]
    refine (Below.heap_alloc _ _ _ (by simp)).trans ?_
    have := heap_alloc_new ((w.alloc (.cells #[.func (.func 27) #[] #[]] 62)).alloc (.cells #[.bool false] 4)) (.map #[] 0)
    simpa using this
  have hB4 : W4.heap[w.heap.size + 1 + 1 + 1]? = some (.cells #[.map (some (w.heap.size + 1 + 1))] 106 (0, 0)) := by
    rw [← hW4]
    have := heap_alloc_new (((w.alloc (.cells #[.func (.func 27) #[] #[]] 62)).alloc (.cells #[.bool false] 4)).alloc (.map #[] 0)) (.cells #[.map (some (w.heap.size + 1 + 1))] 106)
    simpa using this
  gi_wp2_with fail
  first | refine ⟨trivial, (fun h => by cases h), ?_⟩ | refine ⟨(fun h => by cases h), ?_⟩ | refine ⟨trivial, ?_⟩
  try rw [hW4]
  refine ((callsIn_wide (n := 2)).2 (listsUpF _ _ _ W4)).mono ?_
  rintro e W7 ⟨rfl, hW7⟩
  gi_wp2_with fail
  clear hmm
  generalize hNB : w.heap.size + 1 + 1 + 1 = NB at *
  generalize hNM : w.heap.size + 1 + 1 = NM at *
  generalize hNR : w.heap.size + 1 = NR at *
  try rw [← hW7]
  have hs7a : W7.heap.size ≤ W4.heap.size + 1 := by rw [hW7]; simp
  have hs7b : W4.heap.size + 1 ≤ W7.heap.size := by rw [hW7]; simp
  have hb7 : Below W4.heap.size W4 W7 := by rw [hW7]; exact (Below.refl _ W4).alloc (Nat.le_refl _) _
  have hbw7 : Below w.heap.size w W7 := hb4.trans (hb7.mono (by omega))
  have hseq := listsUp_of K w W7 F ⟨i, some ⟨b, 0, none⟩, 1, 1⟩ W4.heap.size j 1 (by omega) (fun k hk => hbw7.block k (hK k hk).1) hK hsub hF2 ⟨by omega, by omega⟩ (by rw [hW7]; exact cell_of (heap_alloc_new W4 _) 0) (by omega) ((hbw7.cell (p := ⟨j, 0, none⟩) hjl).trans (cell_of hj 0))
  have HK := hide hK
  have HSUB := hide hsub
  have HJ0 := hide hj
  clear hW4 hW7 hsub hK hF2 hj
  have hseq' : SeqOf Try.prog 68 #[.pointer (some ⟨W4.heap.size, 0, none⟩)] (fun x : Ls => #[.iface (tyOf x.i) (.slice x.o x.n x.c)]) (fun k => K k ∨ k = W4.heap.size) (fun pre x => Sub K w F x ∧ ∀ y ∈ kids w x, ∃ z ∈ pre, pk z = pk y) (fun ys => ∃ z ∈ ys, pk z = pk (⟨i, some ⟨b, 0, none⟩, 1, 1⟩ : Ls)) W7 := hseq
  refine loop_of (gf := 68) (lb := #[.pointer (some ⟨W4.heap.size, 0, none⟩)]) rfl (enters_of Try.func68 (by kernel_rfl) rfl) hseq' (Below.refl _ W7) (fun _ => rfl) (fun k hk => by
      rcases hk with hk | hk
      · have := (HK.out k hk).1; omega
      · omega)
    (fun s Pr W => HdI K w F NR NM NB s Pr W) (fun _ _ _ => False) ?stab ?but (fun _ _ _ _ _ h => h) ?start
    (fun x0 => { tmps := #[(.func (.func 27) #[] #[]), (.slice (some ⟨j, 0, none⟩) 1 1), (.pointer (some ⟨w.heap.size, 0, none⟩)), undef, (.pointer (some ⟨NR, 0, none⟩)), (.pointer (some ⟨NB, 0, none⟩)), (.iface (tyOf x0.i) (.slice x0.o x0.n x0.c)), (.map (some NM)), (.slice (some ⟨j, 0, none⟩) 1 1), (.func (.func 68) #[] #[.pointer (some ⟨W4.heap.size, 0, none⟩)]), (.iface (tyOf x0.i) (.slice x0.o x0.n x0.c)), undef, undef, undef, undef, undef, undef, undef, undef, undef, undef, undef, undef, undef, undef, undef, undef, undef, undef, undef, undef], defers := [] }) ?assign ?body ?done ?stop
  case stab =>
    rintro s Pr Pr' A D hc hN hp h1
    exact h1.move (N := W4.heap.size) (hc.below.mono (by omega)) (fun k hk => hc.below.block k (by omega)) (by omega) (by omega) (by omega) (by omega) fun k hk hn hq => (hp k hq).elim hn (fun h => by omega)
  case but =>
    rintro s Pr A D hb h1
    exact h1.move (N := W4.heap.size) ⟨hb.os, hb.tape, hb.output, by rw [hb.size]; exact Nat.le_refl _, fun k hk => hb.block k (by omega)⟩ (fun k hk => hb.block k (by omega)) (by omega) (by omega) (by omega) (by omega) fun k _ hn => hn
  case start =>
    intro W hW hs
    have hb : Below W4.heap.size W4 W := hb7.trans (hW.mono (by omega))
    have hnk : ∀ k, k < W4.heap.size → w.heap.size ≤ k → ¬ (K k ∨ k = W4.heap.size) := fun k h1 h3 h4 => by
      rcases h4 with h4 | h4
      · have := (HK.out k h4).1; omega
      · omega
    exact ⟨(hb.block _ (by omega)).trans hF4, (hb.block _ (by omega)).trans hR4, (hb.block _ (by omega)).trans hB4, ⟨[], ⟨#[], 0, (hb.block _ (by omega)).trans hM4, rfl⟩, fun k => ⟨fun h => by (cases h), fun ⟨z, hz, _⟩ => by cases hz⟩⟩, fun z hz => (by cases hz), hnk _ (by omega) (by omega), hnk _ (by omega) (by omega), hnk _ (by omega) (by omega), hnk _ (by omega) (by omega), hb4.trans (hb.mono (by omega))⟩
  case assign =>
    intro x0 W Kn hKn
    gi_wp2
    exact hKn
  case body =>
    rintro pre x0 Pr W h1 ⟨hsubx, hkidsx⟩ hN hPl hl hd n1 n2
    obtain ⟨r₀, hl⟩ := hl
    obtain ⟨xi, xo9, xn, xc⟩ := x0
    obtain ⟨xb, xo, exo, xkb, xn0, xnm, xnc, hx3⟩ := kid_facts hsubx
    simp only at exo xn0 xnm xnc hx3
    subst exo
    obtain ⟨KS, hmapKS, hKSm⟩ := h1.map
    have hwW : ∀ W', Below W.heap.size W W' → Below w.heap.size w W' := fun W' hB' => h1.below.trans (hB'.mono h1.below.size)
    have HPLK : Hid (∀ W', Below W.heap.size W W' → ∀ z, Sub K w F z → (pk z).1 < 3 ∧ PlainAt W' (pk z).2.1) := fun W' hB' z hz => by
      obtain ⟨zb, zo, ez, kz, -, -, -, hz3⟩ := kid_facts hz
      obtain ⟨hzl, c, e, h9⟩ := HK.out zb kz
      unfold pk
      rw [ez]
      exact ⟨hz3, c, e, ((hwW W' hB').block zb hzl).trans h9⟩
    have HPKS : Hid (∀ W', Below W.heap.size W W' → OkK W' KS) := fun W' hB' q hq => by
      obtain ⟨z, hz, rfl⟩ := (hKSm q).1 hq
      exact HPLK.out W' hB' z (h1.subs z hz)
    obtain ⟨bbx, hbb⟩ : ∃ n, bb w (⟨xi, some ⟨xb, xo, none⟩, xn, xc⟩ : Ls) = n := ⟨_, rfl⟩
    obtain ⟨dx, hdx⟩ : ∃ n, byl w F (pk (⟨xi, some ⟨xb, xo, none⟩, xn, xc⟩ : Ls)) = n := ⟨_, rfl⟩
    have hstep := byl_step hsubx
    rw [hbb, hdx] at hstep
    have hdl : dx ≤ 1000000000 := by rw [← hdx]; exact HFL.out _ hsubx
    have HBARE : Hid (∀ W', Below W.heap.size W W' → Calls Try.prog 27 #[(.iface (tyOf xi) (.slice (some ⟨xb, xo, none⟩) xn xc))] W' fun e w' => e = .returned (.int .i64 (bbx : Int)) ∧ Below W'.heap.size W' w') := fun W' hB' => by
      obtain ⟨hx9, zs, hrx, -⟩ := hsubx
      have e9 := bb_same (x := (⟨xi, some ⟨xb, xo, none⟩, xn, xc⟩ : Ls)) rfl ((hwW W' hB').block xb (HK.out xb xkb).1)
      have h8 := bare_I hx3 W' xb xo xn xc zs (rd_stay (Stays.of (hwW W' hB')) hrx) (by rw [e9, hbb]; omega)
      rw [e9, hbb] at h8
      exact h8
    have HSUM : Hid (∀ W', Below W.heap.size W W' → ∀ g, W.heap.size ≤ g → W'.heap[g]? = some (.cells #[(.slice (some ⟨xb, xo, none⟩) xn xc)] (tyOf xi) (0, 0)) → Calls Try.prog 52 #[.map (some NM), .int .i64 (bbx : Int), .func (.func (wi1 xi)) #[] #[.pointer (some ⟨g, 0, none⟩)]] W' fun e w' => e = .returned (.int .i64 (dx : Int)) ∧ Below W'.heap.size W' w') := fun W' hB' g hg1 hg2 => by
      have hsubx' := hsubx
      obtain ⟨hx9, zs, hrx, -⟩ := hsubx
      have hw9 := hwW W' hB'
      have hgl := heap_lt hg2
      have hml := hmapKS.lt
      have h8 := sum_any (gf := wi1 xi) (lb := #[.pointer (some ⟨g, 0, none⟩)]) W' NM bbx (byl w F) KS (hmapKS.keep (hB'.block NM hml)) (fun k => K k ∨ k = g) (fun k hk => by
        rcases hk with hk | hk
        · have := (HK.out k hk).1; have := hw9.size; omega
        · omega) (kids w (⟨xi, some ⟨xb, xo, none⟩, xn, xc⟩ : Ls)) (within_I hx3 K w W' hx9 g (some ⟨xb, xo, none⟩) xn xc zs hw9.size (fun k hk => hw9.block k (HK.out k hk).1) (fun k hk => (HK.out k hk).1) hrx xnm ⟨by have := h1.below.size; omega, hgl⟩ (cell_of hg2 0)) (ent_w1 hx3) (by rw [← hstep]; exact hdl) (fun y hy => by
          have hsy := sub_kid hsubx' hy
          obtain ⟨yb, yo, ey, ky, y0, ym, yc, y3⟩ := kid_facts hsy
          have h7 := (HPLK.out W' hB' y hsy).2
          unfold pk at h7
          rw [ey] at h7
          obtain ⟨z, hz, ez⟩ := hkidsx y hy
          exact ⟨yb, yo, ey, y0, ym, yc, h7, y3, (hKSm _).2 ⟨z, hz, ez⟩⟩) (HPKS.out W' hB')
      rw [← hstep] at h8
      exact h8
    have HPUT : Hid (∀ W', Below W.heap.size W W' → ∃ w9, (Instr.mapUpdate 106 (.map (some NM)) (.agg #[.iface (ptrT xi) (.pointer (some ⟨xb, xo, none⟩)), .int .i64 (xn : Int)]) (.int .i64 (dx : Int))).run Try.prog W' = .ok () w9 ∧ DMap w9 NM (byl w F) (addK KS ((xi, ⟨xb, xo, none⟩, xn) : Pk)) ∧ Oth NM W' w9) := fun W' hB' => by
      have h7 := HPLK.out W' hB' _ hsubx
      have h9 := DMap.put (hmapKS.keep (hB'.block NM hmapKS.lt)) h7.1 h7.2 (HPKS.out W' hB')
      rw [hdx] at h9
      exact h9
    have hbxB := cell_of h1.boxB 0
    have hbxF := cell_of h1.boxF 0
    simp only [List.getElem?_toArray, List.getElem?_cons_zero] at hbxB hbxF
    have hNBW : NB < W.heap.size := heap_lt h1.boxB
    have hNFW : w.heap.size < W.heap.size := heap_lt h1.boxF
    have HDX := hide hdx
    have HI := hide h1
    have HSX := hide hsubx
    have HKS := hide hKSm
    have HL := hide hl
    have HD := hide hd
    have hmd := meth_pl hx3 (.slice (some ⟨xb, xo, none⟩) xn xc)
    have hep := ent_pl hx3
    have hmw := meth_wi hx3 (.slice (some ⟨xb, xo, none⟩) xn xc)
    have hew := ent_wi hx3
    clear h1 hsubx hkidsx hKSm hmapKS hl hd hwW hbb hdx hstep
    gi_wp2_with fail
    refine wpIn_region_inv (fun L a' W' => ∃ l0 l1 l2 l3 l4 l5 l6 l7 l8 l9 l10 : Bool, L = #[l0, l1, l2, l3, l4, l5, l6, l7, l8, l9, l10] ∧ ∃ v11 v12 v13 v14 v15 v16 v17 v18 v19 v20 : Value, a' = { tmps := #[(.func (.func 27) #[] #[]), (.slice (some ⟨j, 0, none⟩) 1 1), (.pointer (some ⟨w.heap.size, 0, none⟩)), undef, (.pointer (some ⟨NR, 0, none⟩)), (.pointer (some ⟨NB, 0, none⟩)), (.iface (tyOf xi) (.slice (some ⟨xb, xo, none⟩) xn xc)), (.map (some NM)), (.slice (some ⟨j, 0, none⟩) 1 1), (.func (.func 68) #[] #[.pointer (some ⟨W4.heap.size, 0, none⟩)]), (.iface (tyOf xi) (.slice (some ⟨xb, xo, none⟩) xn xc)), v11, v12, v13, v14, v15, v16, v17, v18, v19, v20, undef, undef, undef, undef, undef, undef, undef, undef, undef, undef], defers := [] } ∧ (l0 = true → v11 = .map (some NM)) ∧ (l1 = true → v12 = (.iface (tyOf xi) (.slice (some ⟨xb, xo, none⟩) xn xc))) ∧ (l2 = true → v13 = (.agg #[.iface (ptrT xi) (.pointer (some ⟨xb, xo, none⟩)), .int .i64 (xn : Int)])) ∧ (l3 = true → v14 = .map (some NM)) ∧ (l4 = true → v15 = .func (.func 27) #[] #[]) ∧ (l5 = true → v16 = (.iface (tyOf xi) (.slice (some ⟨xb, xo, none⟩) xn xc))) ∧ (l6 = true → v17 = .int .i64 (bbx : Int)) ∧ (l7 = true → v18 = (.iface (tyOf xi) (.slice (some ⟨xb, xo, none⟩) xn xc))) ∧ (l8 = true → ∃ g, v19 = .func (.func (wi1 xi)) #[] #[.pointer (some ⟨g, 0, none⟩)] ∧ W.heap.size ≤ g ∧ W'.heap[g]? = some (.cells #[(.slice (some ⟨xb, xo, none⟩) xn xc)] (tyOf xi) (0, 0))) ∧ (l9 = true → v20 = .int .i64 (dx : Int)) ∧ ((l10 = false ∧ Below W.heap.size W W') ∨ (l0 = true ∧ l1 = true ∧ l2 = true ∧ l3 = true ∧ l4 = true ∧ l5 = true ∧ l6 = true ∧ l7 = true ∧ l8 = true ∧ l9 = true ∧ l10 = true ∧ ∃ Y ks, Below W.heap.size W Y ∧ DMap W' NM (byl w F) (addK ks ((xi, ⟨xb, xo, none⟩, xn) : Pk)) ∧ (∀ k, k ∈ ks ↔ ∃ z ∈ pre, pk z = k) ∧ Oth NM Y W'))) (by kernel_rfl) (by kernel_rfl) ?_ ?_ ?_
    · exact ⟨false, false, false, false, false, false, false, false, false, false, false, rfl, _, _, _, _, _, _, _, _, _, _, rfl, (fun h => by cases h), (fun h => by cases h), (fun h => by cases h), (fun h => by cases h), (fun h => by cases h), (fun h => by cases h), (fun h => by cases h), (fun h => by cases h), (fun h => by cases h), (fun h => by cases h), .inl ⟨rfl, (Below.refl _ _).drew⟩⟩
    · rintro L a' W' hsz ⟨l0, l1, l2, l3, l4, l5, l6, l7, l8, l9, l10, rfl, v11, v12, v13, v14, v15, v16, v17, v18, v19, v20, rfl, c0, c1, c2, c3, c4, c5, c6, c7, c8, c9, hB⟩ i hi
      have hlt9 : i < 11 := ready_lt hi
      have hcase : i = 0 ∨ i = 1 ∨ i = 2 ∨ i = 3 ∨ i = 4 ∨ i = 5 ∨ i = 6 ∨ i = 7 ∨ i = 8 ∨ i = 9 ∨ i = 10 := by omega
      rcases hcase with rfl | rfl | rfl | rfl | rfl | rfl | rfl | rfl | rfl | rfl | rfl
      · have n0 : l0 = false := (mem_ready.1 hi).1
        clear hi
        obtain ⟨n10, hB⟩ : l10 = false ∧ Below W.heap.size W W' := hB.resolve_right fun hh => by have := hh.1; rw [n0] at this; cases this
        have z0 := (hB.cell (p := ⟨NB, 0, none⟩) hNBW).trans hbxB
        refine wpOpIn_step rfl (fun K hK => ?_)
        go_simp
        refine hK _ _ ⟨true, l1, l2, l3, l4, l5, l6, l7, l8, l9, l10, rfl, _, _, _, _, _, _, _, _, _, _, rfl, (fun _ => rfl), c1, c2, c3, c4, c5, c6, c7, c8, c9, (.inl ⟨n10, hB⟩)⟩
      · have n1 : l1 = false := (mem_ready.1 hi).1
        clear hi
        obtain ⟨n10, hB⟩ : l10 = false ∧ Below W.heap.size W W' := hB.resolve_right fun hh => by have := hh.2.1; rw [n1] at this; cases this
        refine wpOpIn_step rfl (fun K hK => ?_)
        go_simp
        refine hK _ _ ⟨l0, true, l2, l3, l4, l5, l6, l7, l8, l9, l10, rfl, _, _, _, _, _, _, _, _, _, _, rfl, c0, (fun _ => rfl), c2, c3, c4, c5, c6, c7, c8, c9, (.inl ⟨n10, hB⟩)⟩
      · have d1 : l1 = true := ready_dep 1 hi (by kernel_rfl)
        obtain rfl : v12 = (.iface (tyOf xi) (.slice (some ⟨xb, xo, none⟩) xn xc)) := c1 d1
        have n2 : l2 = false := (mem_ready.1 hi).1
        clear hi
        obtain ⟨n10, hB⟩ : l10 = false ∧ Below W.heap.size W W' := hB.resolve_right fun hh => by have := hh.2.2.1; rw [n2] at this; cases this
        refine wpOpIn_step rfl (fun K hK => ?_)
        go_simp
        first | refine ⟨trivial, (fun h => by cases h), ?_⟩ | refine ⟨(fun h => by cases h), ?_⟩ | refine ⟨trivial, ?_⟩
        refine ((callsIn_wide (n := 0)).2 (place_I hx3 xb xo xn xc xn0 xnm xnc W')).mono ?_
        rintro e w1 ⟨rfl, hb⟩
        refine hK _ _ ⟨l0, l1, true, l3, l4, l5, l6, l7, l8, l9, l10, rfl, _, _, _, _, _, _, _, _, _, _, rfl, c0, c1, (fun _ => rfl), c3, c4, c5, c6, c7, (fun e8 => by obtain ⟨g, h1, h2, h3⟩ := c8 e8; exact ⟨g, h1, h2, (hb.block g (heap_lt h3)).trans h3⟩), c9, (.inl ⟨n10, (hB.trans (hb.mono hB.size))⟩)⟩
      · have n3 : l3 = false := (mem_ready.1 hi).1
        clear hi
        obtain ⟨n10, hB⟩ : l10 = false ∧ Below W.heap.size W W' := hB.resolve_right fun hh => by have := hh.2.2.2.1; rw [n3] at this; cases this
        have z0 := (hB.cell (p := ⟨NB, 0, none⟩) hNBW).trans hbxB
        refine wpOpIn_step rfl (fun K hK => ?_)
        go_simp
        refine hK _ _ ⟨l0, l1, l2, true, l4, l5, l6, l7, l8, l9, l10, rfl, _, _, _, _, _, _, _, _, _, _, rfl, c0, c1, c2, (fun _ => rfl), c4, c5, c6, c7, c8, c9, (.inl ⟨n10, hB⟩)⟩
      · have n4 : l4 = false := (mem_ready.1 hi).1
        clear hi
        obtain ⟨n10, hB⟩ : l10 = false ∧ Below W.heap.size W W' := hB.resolve_right fun hh => by have := hh.2.2.2.2.1; rw [n4] at this; cases this
        have z0 := (hB.cell (p := ⟨w.heap.size, 0, none⟩) hNFW).trans hbxF
        refine wpOpIn_step rfl (fun K hK => ?_)
        go_simp
        refine hK _ _ ⟨l0, l1, l2, l3, true, l5, l6, l7, l8, l9, l10, rfl, _, _, _, _, _, _, _, _, _, _, rfl, c0, c1, c2, c3, (fun _ => rfl), c5, c6, c7, c8, c9, (.inl ⟨n10, hB⟩)⟩
      · have n5 : l5 = false := (mem_ready.1 hi).1
        clear hi
        obtain ⟨n10, hB⟩ : l10 = false ∧ Below W.heap.size W W' := hB.resolve_right fun hh => by have := hh.2.2.2.2.2.1; rw [n5] at this; cases this
        refine wpOpIn_step rfl (fun K hK => ?_)
        go_simp
        refine hK _ _ ⟨l0, l1, l2, l3, l4, true, l6, l7, l8, l9, l10, rfl, _, _, _, _, _, _, _, _, _, _, rfl, c0, c1, c2, c3, c4, (fun _ => rfl), c6, c7, c8, c9, (.inl ⟨n10, hB⟩)⟩
      · have d4 : l4 = true := ready_dep 4 hi (by kernel_rfl)
        have d5 : l5 = true := ready_dep 5 hi (by kernel_rfl)
        obtain rfl : v15 = .func (.func 27) #[] #[] := c4 d4
        obtain rfl : v16 = (.iface (tyOf xi) (.slice (some ⟨xb, xo, none⟩) xn xc)) := c5 d5
        have n6 : l6 = false := (mem_ready.1 hi).1
        clear hi
        obtain ⟨n10, hB⟩ : l10 = false ∧ Below W.heap.size W W' := hB.resolve_right fun hh => by have := hh.2.2.2.2.2.2.1; rw [n6] at this; cases this
        refine wpOpIn_step rfl (fun K hK => ?_)
        go_simp
        first | refine ⟨trivial, (fun h => by cases h), ?_⟩ | refine ⟨(fun h => by cases h), ?_⟩ | refine ⟨trivial, ?_⟩
        refine ((callsIn_wide (n := 0)).2 (HBARE.out W' hB)).mono ?_
        rintro e w1 ⟨rfl, hb⟩
        refine hK _ _ ⟨l0, l1, l2, l3, l4, l5, true, l7, l8, l9, l10, rfl, _, _, _, _, _, _, _, _, _, _, rfl, c0, c1, c2, c3, c4, c5, (fun _ => rfl), c7, (fun e8 => by obtain ⟨g, h1, h2, h3⟩ := c8 e8; exact ⟨g, h1, h2, (hb.block g (heap_lt h3)).trans h3⟩), c9, (.inl ⟨n10, (hB.trans (hb.mono hB.size))⟩)⟩
      · have n7 : l7 = false := (mem_ready.1 hi).1
        clear hi
        obtain ⟨n10, hB⟩ : l10 = false ∧ Below W.heap.size W W' := hB.resolve_right fun hh => by have := hh.2.2.2.2.2.2.2.1; rw [n7] at this; cases this
        refine wpOpIn_step rfl (fun K hK => ?_)
        go_simp
        refine hK _ _ ⟨l0, l1, l2, l3, l4, l5, l6, true, l8, l9, l10, rfl, _, _, _, _, _, _, _, _, _, _, rfl, c0, c1, c2, c3, c4, c5, c6, (fun _ => rfl), c8, c9, (.inl ⟨n10, hB⟩)⟩
      · have d7 : l7 = true := ready_dep 7 hi (by kernel_rfl)
        obtain rfl : v18 = (.iface (tyOf xi) (.slice (some ⟨xb, xo, none⟩) xn xc)) := c7 d7
        have n8 : l8 = false := (mem_ready.1 hi).1
        clear hi
        obtain ⟨n10, hB⟩ : l10 = false ∧ Below W.heap.size W W' := hB.resolve_right fun hh => by have := hh.2.2.2.2.2.2.2.2.1; rw [n8] at this; cases this
        have hb : Below W'.heap.size W' (W'.alloc (.cells #[(.slice (some ⟨xb, xo, none⟩) xn xc)] (tyOf xi))) := (Below.refl _ _).alloc (Nat.le_refl _) _
        refine wpOpIn_step rfl (fun K hK => ?_)
        go_simp
        first | refine ⟨trivial, (fun h => by cases h), ?_⟩ | refine ⟨(fun h => by cases h), ?_⟩ | refine ⟨trivial, ?_⟩
        refine ((callsIn_wide (n := 0)).2 (withinF_I hx3 (some ⟨xb, xo, none⟩) xn xc W')).mono ?_
        rintro e w1 ⟨rfl, rfl⟩
        refine hK _ _ ⟨l0, l1, l2, l3, l4, l5, l6, l7, true, l9, l10, rfl, _, _, _, _, _, _, _, _, _, _, rfl, c0, c1, c2, c3, c4, c5, c6, c7, (fun _ => ⟨_, rfl, hB.size, heap_alloc_new W' _⟩), c9, (.inl ⟨n10, (hB.trans (hb.mono hB.size))⟩)⟩
      · have d3 : l3 = true := ready_dep 3 hi (by kernel_rfl)
        have d6 : l6 = true := ready_dep 6 hi (by kernel_rfl)
        have d8 : l8 = true := ready_dep 8 hi (by kernel_rfl)
        obtain rfl : v14 = .map (some NM) := c3 d3
        obtain rfl : v17 = .int .i64 (bbx : Int) := c6 d6
        have n9 : l9 = false := (mem_ready.1 hi).1
        clear hi
        obtain ⟨n10, hB⟩ : l10 = false ∧ Below W.heap.size W W' := hB.resolve_right fun hh => by have := hh.2.2.2.2.2.2.2.2.2.1; rw [n9] at this; cases this
        obtain ⟨g, rfl, hg1, hg2⟩ := c8 d8
        refine wpOpIn_step rfl (fun K hK => ?_)
        go_simp
        first | refine ⟨trivial, (fun h => by cases h), ?_⟩ | refine ⟨(fun h => by cases h), ?_⟩ | refine ⟨trivial, ?_⟩
        refine ((callsIn_wide (n := 0)).2 (HSUM.out W' hB g hg1 hg2)).mono ?_
        rintro e w1 ⟨rfl, hb⟩
        refine hK _ _ ⟨l0, l1, l2, l3, l4, l5, l6, l7, l8, true, l10, rfl, _, _, _, _, _, _, _, _, _, _, rfl, c0, c1, c2, c3, c4, c5, c6, c7, (fun e8 => by obtain ⟨g, h1, h2, h3⟩ := c8 e8; exact ⟨g, h1, h2, (hb.block g (heap_lt h3)).trans h3⟩), (fun _ => rfl), (.inl ⟨n10, (hB.trans (hb.mono hB.size))⟩)⟩
      · have d0 : l0 = true := ready_dep 0 hi (by kernel_rfl)
        have d1 : l1 = true := ready_dep 1 hi (by kernel_rfl)
        have d2 : l2 = true := ready_dep 2 hi (by kernel_rfl)
        have d3 : l3 = true := ready_dep 3 hi (by kernel_rfl)
        have d4 : l4 = true := ready_dep 4 hi (by kernel_rfl)
        have d5 : l5 = true := ready_dep 5 hi (by kernel_rfl)
        have d6 : l6 = true := ready_dep 6 hi (by kernel_rfl)
        have d7 : l7 = true := ready_dep 7 hi (by kernel_rfl)
        have d8 : l8 = true := ready_dep 8 hi (by kernel_rfl)
        have d9 : l9 = true := ready_dep 9 hi (by kernel_rfl)
        obtain rfl : v11 = .map (some NM) := c0 d0
        obtain rfl : v12 = (.iface (tyOf xi) (.slice (some ⟨xb, xo, none⟩) xn xc)) := c1 d1
        obtain rfl : v13 = (.agg #[.iface (ptrT xi) (.pointer (some ⟨xb, xo, none⟩)), .int .i64 (xn : Int)]) := c2 d2
        obtain rfl : v14 = .map (some NM) := c3 d3
        obtain rfl : v15 = .func (.func 27) #[] #[] := c4 d4
        obtain rfl : v16 = (.iface (tyOf xi) (.slice (some ⟨xb, xo, none⟩) xn xc)) := c5 d5
        obtain rfl : v17 = .int .i64 (bbx : Int) := c6 d6
        obtain rfl : v18 = (.iface (tyOf xi) (.slice (some ⟨xb, xo, none⟩) xn xc)) := c7 d7
        obtain rfl : v20 = .int .i64 (dx : Int) := c9 d9
        have n10 : l10 = false := (mem_ready.1 hi).1
        clear hi
        obtain ⟨-, hB⟩ : l10 = false ∧ Below W.heap.size W W' := hB.resolve_right fun hh => by have := hh.2.2.2.2.2.2.2.2.2.2.1; rw [n10] at this; cases this
        obtain ⟨w9, hu, hd9, ho9⟩ := HPUT.out W' hB
        refine wpOpIn_step rfl (fun K hK => ?_)
        go_simp
        refine hK _ _ ⟨l0, l1, l2, l3, l4, l5, l6, l7, l8, l9, true, rfl, _, _, _, _, _, _, _, _, _, _, rfl, c0, c1, c2, c3, c4, c5, c6, c7, (fun e8 => by obtain ⟨g, h1, h2, h3⟩ := c8 e8; exact ⟨g, h1, h2, (ho9.block g ⟨heap_lt h3, by omega⟩).trans h3⟩), c9, (.inr ⟨d0, d1, d2, d3, d4, d5, d6, d7, d8, d9, rfl, W', KS, hB, hd9, HKS.out, ho9⟩)⟩
    · rintro L a' U hsz ⟨l0, l1, l2, l3, l4, l5, l6, l7, l8, l9, l10, rfl, v11, v12, v13, v14, v15, v16, v17, v18, v19, v20, rfl, c0, c1, c2, c3, c4, c5, c6, c7, c8, c9, hB⟩ hall
      have e0 : l0 = true := hall 0 (by show 0 < 11; omega)
      have e1 : l1 = true := hall 1 (by show 1 < 11; omega)
      have e2 : l2 = true := hall 2 (by show 2 < 11; omega)
      have e3 : l3 = true := hall 3 (by show 3 < 11; omega)
      have e4 : l4 = true := hall 4 (by show 4 < 11; omega)
      have e5 : l5 = true := hall 5 (by show 5 < 11; omega)
      have e6 : l6 = true := hall 6 (by show 6 < 11; omega)
      have e7 : l7 = true := hall 7 (by show 7 < 11; omega)
      have e8 : l8 = true := hall 8 (by show 8 < 11; omega)
      have e9 : l9 = true := hall 9 (by show 9 < 11; omega)
      have e10 : l10 = true := hall 10 (by show 10 < 11; omega)
      obtain rfl : v11 = .map (some NM) := c0 e0
      obtain rfl : v12 = (.iface (tyOf xi) (.slice (some ⟨xb, xo, none⟩) xn xc)) := c1 e1
      obtain rfl : v13 = (.agg #[.iface (ptrT xi) (.pointer (some ⟨xb, xo, none⟩)), .int .i64 (xn : Int)]) := c2 e2
      obtain rfl : v14 = .map (some NM) := c3 e3
      obtain rfl : v15 = .func (.func 27) #[] #[] := c4 e4
      obtain rfl : v16 = (.iface (tyOf xi) (.slice (some ⟨xb, xo, none⟩) xn xc)) := c5 e5
      obtain rfl : v17 = .int .i64 (bbx : Int) := c6 e6
      obtain rfl : v18 = (.iface (tyOf xi) (.slice (some ⟨xb, xo, none⟩) xn xc)) := c7 e7
      obtain rfl : v20 = .int .i64 (dx : Int) := c9 e9
      clear hall c0 c1 c2 c3 c4 c5 c6 c7 c8 c9
      obtain ⟨-, -, -, -, -, -, -, -, -, -, -, Y, ks, hBY, hdY, hks, hoY⟩ := hB.resolve_left (fun hh => by have := hh.1; rw [e10] at this; cases this)
      clear hB hsz hbxB hbxF
      have h1 := HI.out
      have hk : ∀ k, k < W.heap.size → k ≠ NM → U.heap[k]? = W.heap[k]? := fun k h1 h2 => (hoY.block k ⟨by have := hBY.size; omega, h2⟩).trans (hBY.block k h1)
      have hsz9 : W.heap.size ≤ U.heap.size := Nat.le_trans hBY.size hoY.size
      have hbU : Below w.heap.size w U := (h1.below.trans (hBY.mono h1.below.size)).trans ⟨hoY.os, hoY.tape, hoY.output, hoY.size, fun k hk2 => hoY.block k ⟨by have := hBY.size; have := h1.below.size; omega, by omega⟩⟩
      have hsubs : ∀ z ∈ pre ++ [(⟨xi, some ⟨xb, xo, none⟩, xn, xc⟩ : Ls)], Sub K w F z := fun z hz => by
        rcases List.mem_append.1 hz with h2 | h2
        · exact h1.subs z h2
        · rw [List.mem_singleton.1 h2]
          exact HSX.out
      have hkeys : ∀ k, k ∈ addK ks ((xi, ⟨xb, xo, none⟩, xn) : Pk) ↔ ∃ z ∈ pre ++ [(⟨xi, some ⟨xb, xo, none⟩, xn, xc⟩ : Ls)], pk z = k := fun k => by
        rw [mem_addK, hks]
        constructor
        · rintro (⟨z, hz, ez⟩ | rfl)
          · exact ⟨z, by simp [hz], ez⟩
          · exact ⟨(⟨xi, some ⟨xb, xo, none⟩, xn, xc⟩ : Ls), by simp, rfl⟩
        · rintro ⟨z, hz, ez⟩
          rcases List.mem_append.1 hz with h2 | h2
          · exact .inl ⟨z, h2, ez⟩
          · rw [List.mem_singleton] at h2
            exact .inr (by rw [← ez, h2]; rfl)
      have hIU : HdI K w F NR NM NB (pre ++ [(⟨xi, some ⟨xb, xo, none⟩, xn, xc⟩ : Ls)]) Pr U := ⟨(hk _ (heap_lt h1.boxF) (by omega)).trans h1.boxF, (hk _ (heap_lt h1.boxR) (by omega)).trans h1.boxR, (hk _ (heap_lt h1.boxB) (by omega)).trans h1.boxB, ⟨_, hdY, hkeys⟩, hsubs, h1.nF, h1.nR, h1.nM, h1.nB, hbU⟩
      have HLK : Hid (∀ W', Below U.heap.size U W' → (Instr.lookup 106 (.map (some NM)) (.agg #[.iface (ptrT xi) (.pointer (some ⟨xb, xo, none⟩)), .int .i64 (xn : Int)]) false).run Try.prog W' = .ok (.int .i64 (dx : Int)) W') := fun W' hB' => by
        have hpl : ∀ z, Sub K w F z → (pk z).1 < 3 ∧ PlainAt W' (pk z).2.1 := fun z hz => by
          obtain ⟨zb, zo, ez, kz, -, -, -, hz3⟩ := kid_facts hz
          obtain ⟨hzl, c, e, h9⟩ := HK.out zb kz
          unfold pk
          rw [ez]
          exact ⟨hz3, c, e, ((hbU.trans (hB'.mono hbU.size)).block zb hzl).trans h9⟩
        have h7 := hpl _ HSX.out
        have h9 := (DMap.look (hdY.keep (hB'.block NM hdY.lt)) h7.1 h7.2 (fun q hq => by
          obtain ⟨z, hz, rfl⟩ := (hkeys q).1 hq
          exact hpl z (hsubs z hz)) ((hkeys _).2 ⟨(⟨xi, some ⟨xb, xo, none⟩, xn, xc⟩ : Ls), by simp, rfl⟩)).2
        rw [HDX.out] at h9
        exact h9
      have hdec : decide ((68719476736 : Int) < (dx : Int)) = false := decide_eq_false (by omega)
      have hbxB := cell_of hIU.boxB 0
      simp only [List.getElem?_toArray, List.getElem?_cons_zero] at hbxB
      have hNBU : NB < U.heap.size := heap_lt hIU.boxB
      have HIU := hide hIU
      have HKK := hide hk
      clear h1 hk hbU hsubs hkeys hIU hdY hBY hoY hks HPUT HSUM HBARE HPKS HPLK
      gi_wp2_with fail
      refine wpIn_region_inv (fun L a' W' => ∃ l0 l1 l2 l3 l4 : Bool, L = #[l0, l1, l2, l3, l4] ∧ ∃ v21 v22 v23 v24 v25 : Value, a' = { tmps := #[(.func (.func 27) #[] #[]), (.slice (some ⟨j, 0, none⟩) 1 1), (.pointer (some ⟨w.heap.size, 0, none⟩)), undef, (.pointer (some ⟨NR, 0, none⟩)), (.pointer (some ⟨NB, 0, none⟩)), (.iface (tyOf xi) (.slice (some ⟨xb, xo, none⟩) xn xc)), (.map (some NM)), (.slice (some ⟨j, 0, none⟩) 1 1), (.func (.func 68) #[] #[.pointer (some ⟨W4.heap.size, 0, none⟩)]), (.iface (tyOf xi) (.slice (some ⟨xb, xo, none⟩) xn xc)), (.map (some NM)), (.iface (tyOf xi) (.slice (some ⟨xb, xo, none⟩) xn xc)), (.agg #[.iface (ptrT xi) (.pointer (some ⟨xb, xo, none⟩)), .int .i64 (xn : Int)]), (.map (some NM)), (.func (.func 27) #[] #[]), (.iface (tyOf xi) (.slice (some ⟨xb, xo, none⟩) xn xc)), (.int .i64 (bbx : Int)), (.iface (tyOf xi) (.slice (some ⟨xb, xo, none⟩) xn xc)), v19, (.int .i64 (dx : Int)), v21, v22, v23, v24, v25, undef, undef, undef, undef, undef], defers := [] } ∧ (l0 = true → v21 = .map (some NM)) ∧ (l1 = true → v22 = (.iface (tyOf xi) (.slice (some ⟨xb, xo, none⟩) xn xc))) ∧ (l2 = true → v23 = (.agg #[.iface (ptrT xi) (.pointer (some ⟨xb, xo, none⟩)), .int .i64 (xn : Int)])) ∧ (l3 = true → v24 = .int .i64 (dx : Int)) ∧ (l4 = true → v25 = .bool false) ∧ Below U.heap.size U W') (by kernel_rfl) (by kernel_rfl) ?_ ?_ ?_
      · exact ⟨false, false, false, false, false, rfl, _, _, _, _, _, rfl, (fun h => by cases h), (fun h => by cases h), (fun h => by cases h), (fun h => by cases h), (fun h => by cases h), (Below.refl _ _).drew⟩
      · rintro L a' W' hsz ⟨l0, l1, l2, l3, l4, rfl, v21, v22, v23, v24, v25, rfl, c0, c1, c2, c3, c4, hB⟩ i hi
        have hlt9 : i < 5 := ready_lt hi
        have hcase : i = 0 ∨ i = 1 ∨ i = 2 ∨ i = 3 ∨ i = 4 := by omega
        rcases hcase with rfl | rfl | rfl | rfl | rfl
        · clear hi
          have z0 := (hB.cell (p := ⟨NB, 0, none⟩) hNBU).trans hbxB
          refine wpOpIn_step rfl (fun K hK => ?_)
          go_simp
          refine hK _ _ ⟨true, l1, l2, l3, l4, rfl, _, _, _, _, _, rfl, (fun _ => rfl), c1, c2, c3, c4, hB⟩
        · clear hi
          refine wpOpIn_step rfl (fun K hK => ?_)
          go_simp
          refine hK _ _ ⟨l0, true, l2, l3, l4, rfl, _, _, _, _, _, rfl, c0, (fun _ => rfl), c2, c3, c4, hB⟩
        · have d1 : l1 = true := ready_dep 1 hi (by kernel_rfl)
          clear hi
          obtain rfl : v22 = (.iface (tyOf xi) (.slice (some ⟨xb, xo, none⟩) xn xc)) := c1 d1
          refine wpOpIn_step rfl (fun K hK => ?_)
          go_simp
          first | refine ⟨trivial, (fun h => by cases h), ?_⟩ | refine ⟨(fun h => by cases h), ?_⟩ | refine ⟨trivial, ?_⟩
          refine ((callsIn_wide (n := 0)).2 (place_I hx3 xb xo xn xc xn0 xnm xnc W')).mono ?_
          rintro e w1 ⟨rfl, hb⟩
          refine hK _ _ ⟨l0, l1, true, l3, l4, rfl, _, _, _, _, _, rfl, c0, c1, (fun _ => rfl), c3, c4, (hB.trans (hb.mono hB.size))⟩
        · have d0 : l0 = true := ready_dep 0 hi (by kernel_rfl)
          have d2 : l2 = true := ready_dep 2 hi (by kernel_rfl)
          clear hi
          obtain rfl : v21 = .map (some NM) := c0 d0
          obtain rfl : v23 = (.agg #[.iface (ptrT xi) (.pointer (some ⟨xb, xo, none⟩)), .int .i64 (xn : Int)]) := c2 d2
          have hlk := HLK.out W' hB
          refine wpOpIn_step rfl (fun K hK => ?_)
          go_simp
          refine hK _ _ ⟨l0, l1, l2, true, l4, rfl, _, _, _, _, _, rfl, c0, c1, c2, (fun _ => rfl), c4, hB⟩
        · have d3 : l3 = true := ready_dep 3 hi (by kernel_rfl)
          clear hi
          obtain rfl : v24 = .int .i64 (dx : Int) := c3 d3
          refine wpOpIn_step rfl (fun K hK => ?_)
          go_simp
          try simp only [hdec]
          refine hK _ _ ⟨l0, l1, l2, l3, true, rfl, _, _, _, _, _, rfl, c0, c1, c2, c3, (fun _ => rfl), hB⟩
      · rintro L a' W2 hsz ⟨l0, l1, l2, l3, l4, rfl, v21, v22, v23, v24, v25, rfl, c0, c1, c2, c3, c4, hB⟩ hall
        have e0 : l0 = true := hall 0 (by show 0 < 5; omega)
        have e1 : l1 = true := hall 1 (by show 1 < 5; omega)
        have e2 : l2 = true := hall 2 (by show 2 < 5; omega)
        have e3 : l3 = true := hall 3 (by show 3 < 5; omega)
        have e4 : l4 = true := hall 4 (by show 4 < 5; omega)
        obtain rfl : v21 = .map (some NM) := c0 e0
        obtain rfl : v22 = (.iface (tyOf xi) (.slice (some ⟨xb, xo, none⟩) xn xc)) := c1 e1
        obtain rfl : v23 = (.agg #[.iface (ptrT xi) (.pointer (some ⟨xb, xo, none⟩)), .int .i64 (xn : Int)]) := c2 e2
        obtain rfl : v24 = .int .i64 (dx : Int) := c3 e3
        obtain rfl : v25 = .bool false := c4 e4
        clear hall c0 c1 c2 c3 c4
        have HB2 := hide hB
        have hsB := hB.size
        clear hB hbxB hsz
        have hfin : ((W2.heap[W7.heap.size]? = W.heap[W7.heap.size]? ∧ W2.heap[W7.heap.size + 1]? = W.heap[W7.heap.size + 1]?) ∧ HdI K w F NR NM NB (pre ++ [(⟨xi, some ⟨xb, xo, none⟩, xn, xc⟩ : Ls)]) Pr W2 ∧ KeptP Pr W W2) := by
          have hd9 := heap_lt HD.out
          have hl9 := heap_lt HL.out
          have h2 := HIU.out
          have h3 := h2.below.size
          refine ⟨⟨(HB2.out.block _ (by omega)).trans (HKK.out _ (by omega) (by omega)), (HB2.out.block _ (by omega)).trans (HKK.out _ (by omega) (by omega))⟩, h2.move (N := U.heap.size) (HB2.out.mono h3) (fun k hk => HB2.out.block k hk) (heap_lt h2.boxF) (heap_lt h2.boxR) (by obtain ⟨ks, q1, -⟩ := h2.map; exact q1.lt) (heap_lt h2.boxB) (fun k _ hn => hn), ⟨by omega, fun k hk2 hlk => (HB2.out.block k (by omega)).trans (HKK.out k hlk (fun e : k = NM => HI.out.nM (by rw [← e]; exact hk2)))⟩⟩
        have HFIN := hide hfin
        clear hfin
        first | exact HFIN.out | (gi_wp2; exact HFIN.out)
  case done =>
    rintro ys W ⟨z, hz, ez⟩ h1 hd
    obtain ⟨KS, hmapKS, hKSm⟩ := h1.map
    have hkey : pk (⟨i, some ⟨b, 0, none⟩, 1, 1⟩ : Ls) ∈ KS := (hKSm _).2 ⟨z, hz, ez⟩
    have hwW : ∀ W', Below W.heap.size W W' → Below w.heap.size w W' := fun W' hB' => h1.below.trans (hB'.mono h1.below.size)
    have hpl : ∀ W', Below W.heap.size W W' → ∀ z, Sub K w F z → (pk z).1 < 3 ∧ PlainAt W' (pk z).2.1 := fun W' hB' z hz => by
      obtain ⟨zb, zo, ez, kz, -, -, -, hz3⟩ := kid_facts hz
      obtain ⟨hzl, c, e, h9⟩ := HK.out zb kz
      unfold pk
      rw [ez]
      exact ⟨hz3, c, e, ((hwW W' hB').block zb hzl).trans h9⟩
    obtain ⟨dz, hdz⟩ : ∃ n, byl w F (pk (⟨i, some ⟨b, 0, none⟩, 1, 1⟩ : Ls)) = n := ⟨_, rfl⟩
    have hdl : dz ≤ 1000000000 := by rw [← hdz]; exact HFL.out _ HSUB.out
    have HSUM : Hid (∀ W', Below W.heap.size W W' → ∀ g, W.heap.size ≤ g → W'.heap[g]? = some (.cells #[(.slice (some ⟨j, 0, none⟩) 1 1)] 104 (0, 0)) → Calls Try.prog 52 #[.map (some NM), .int .i64 0, .func (.func 72) #[] #[.pointer (some ⟨g, 0, none⟩)]] W' fun e w' => e = .returned (.int .i64 (dz : Int)) ∧ Below W'.heap.size W' w') := fun W' hB' g hg1 hg2 => by
      have hw9 := hwW W' hB'
      have hgl := heap_lt hg2
      have hjW : j < W'.heap.size := Nat.lt_of_lt_of_le hjl hw9.size
      have hsm : 0 + ([(⟨i, some ⟨b, 0, none⟩, 1, 1⟩ : Ls)].map fun y => byl w F (pk y)).sum = dz := by rw [← hdz]; simp
      obtain ⟨rb, ro, er, kr, r0, rm, rc, r3⟩ := kid_facts HSUB.out
      have h7 := (hpl W' hB' _ HSUB.out).2
      unfold pk at h7
      rw [er] at h7
      have h8 := sum_any (gf := 72) (lb := #[.pointer (some ⟨g, 0, none⟩)]) W' NM 0 (byl w F) KS (hmapKS.keep (hB'.block NM hmapKS.lt)) (fun k => k = j ∨ k = g) (fun k hk => by
        rcases hk with rfl | rfl
        · exact hjW
        · exact hgl) [(⟨i, some ⟨b, 0, none⟩, 1, 1⟩ : Ls)] (values_of W' (⟨i, some ⟨b, 0, none⟩, 1, 1⟩ : Ls) g j hgl (cell_of hg2 0) hjW ((hw9.cell (p := ⟨j, 0, none⟩) hjl).trans (cell_of HJ0.out 0))) (enters_of Try.func72 (by kernel_rfl) rfl) (by rw [hsm]; exact hdl) (fun y hy => by
          rw [List.mem_singleton.1 hy]
          exact ⟨rb, ro, er, r0, rm, rc, h7, r3, hkey⟩) (fun q hq => by
          obtain ⟨z, hz, rfl⟩ := (hKSm q).1 hq
          exact hpl W' hB' z (h1.subs z hz))
      rw [hsm] at h8
      exact h8
    have hdec : decide ((dz : Int) ≤ (68719476736 : Int)) = true := decide_eq_true (by omega)
    have hbxB := cell_of h1.boxB 0
    have hbxR := cell_of h1.boxR 0
    simp only [List.getElem?_toArray, List.getElem?_cons_zero] at hbxB hbxR
    have hNBW : NB < W.heap.size := heap_lt h1.boxB
    have hNRW : NR < W.heap.size := heap_lt h1.boxR
    have HI := hide h1
    have HD := hide hd
    clear h1 hd hmapKS hKSm hkey hpl hz ez hwW hdz
    gi_wp2_with fail
    refine wpIn_region_inv (fun L a' W' => ∃ l0 l1 l2 l3 l4 l5 : Bool, L = #[l0, l1, l2, l3, l4, l5] ∧ ∃ v26 v27 v28 v29 v30 : Value, a' = { tmps := #[(.func (.func 27) #[] #[]), (.slice (some ⟨j, 0, none⟩) 1 1), (.pointer (some ⟨w.heap.size, 0, none⟩)), undef, (.pointer (some ⟨NR, 0, none⟩)), (.pointer (some ⟨NB, 0, none⟩)), undef, (.map (some NM)), (.slice (some ⟨j, 0, none⟩) 1 1), (.func (.func 68) #[] #[.pointer (some ⟨W4.heap.size, 0, none⟩)]), undef, undef, undef, undef, undef, undef, undef, undef, undef, undef, undef, undef, undef, undef, undef, undef, v26, v27, v28, v29, v30], defers := [{ target := .collected W7.heap.size, args := #[] }] } ∧ (l0 = true → v26 = .map (some NM)) ∧ (l1 = true → v27 = (.slice (some ⟨j, 0, none⟩) 1 1)) ∧ (l2 = true → ∃ g, v28 = .func (.func 72) #[] #[.pointer (some ⟨g, 0, none⟩)] ∧ W.heap.size ≤ g ∧ W'.heap[g]? = some (.cells #[(.slice (some ⟨j, 0, none⟩) 1 1)] 104 (0, 0))) ∧ (l3 = true → v29 = .int .i64 (dz : Int)) ∧ (l4 = true → v30 = .bool true) ∧ ((l5 = false ∧ Below W.heap.size W W') ∨ (l0 = true ∧ l1 = true ∧ l2 = true ∧ l3 = true ∧ l4 = true ∧ l5 = true ∧ ∃ Y, Below W.heap.size W Y ∧ W' = Y.setCell ⟨NR, 0, none⟩ (.bool true)))) (by kernel_rfl) (by kernel_rfl) ?_ ?_ ?_
    · exact ⟨false, false, false, false, false, false, rfl, _, _, _, _, _, rfl, (fun h => by cases h), (fun h => by cases h), (fun h => by cases h), (fun h => by cases h), (fun h => by cases h), .inl ⟨rfl, (Below.refl _ _).drew⟩⟩
    · rintro L a' W' hsz ⟨l0, l1, l2, l3, l4, l5, rfl, v26, v27, v28, v29, v30, rfl, c0, c1, c2, c3, c4, hB⟩ i hi
      have hlt9 : i < 6 := ready_lt hi
      have hcase : i = 0 ∨ i = 1 ∨ i = 2 ∨ i = 3 ∨ i = 4 ∨ i = 5 := by omega
      rcases hcase with rfl | rfl | rfl | rfl | rfl | rfl
      · have n0 : l0 = false := (mem_ready.1 hi).1
        clear hi
        obtain ⟨n5, hB⟩ : l5 = false ∧ Below W.heap.size W W' := hB.resolve_right fun hh => by have := hh.1; rw [n0] at this; cases this
        have z0 := (hB.cell (p := ⟨NB, 0, none⟩) hNBW).trans hbxB
        refine wpOpIn_step rfl (fun K hK => ?_)
        go_simp
        refine hK _ _ ⟨true, l1, l2, l3, l4, l5, rfl, _, _, _, _, _, rfl, (fun _ => rfl), c1, c2, c3, c4, (.inl ⟨n5, hB⟩)⟩
      · have n1 : l1 = false := (mem_ready.1 hi).1
        clear hi
        obtain ⟨n5, hB⟩ : l5 = false ∧ Below W.heap.size W W' := hB.resolve_right fun hh => by have := hh.2.1; rw [n1] at this; cases this
        refine wpOpIn_step rfl (fun K hK => ?_)
        go_simp
        refine hK _ _ ⟨l0, true, l2, l3, l4, l5, rfl, _, _, _, _, _, rfl, c0, (fun _ => rfl), c2, c3, c4, (.inl ⟨n5, hB⟩)⟩
      · have d1 : l1 = true := ready_dep 1 hi (by kernel_rfl)
        obtain rfl : v27 = (.slice (some ⟨j, 0, none⟩) 1 1) := c1 d1
        have n2 : l2 = false := (mem_ready.1 hi).1
        clear hi
        obtain ⟨n5, hB⟩ : l5 = false ∧ Below W.heap.size W W' := hB.resolve_right fun hh => by have := hh.2.2.1; rw [n2] at this; cases this
        have hb : Below W'.heap.size W' (W'.alloc (.cells #[(.slice (some ⟨j, 0, none⟩) 1 1)] 104)) := (Below.refl _ _).alloc (Nat.le_refl _) _
        refine wpOpIn_step rfl (fun K hK => ?_)
        go_simp
        first | refine ⟨trivial, (fun h => by cases h), ?_⟩ | refine ⟨(fun h => by cases h), ?_⟩ | refine ⟨trivial, ?_⟩
        refine ((callsIn_wide (n := 2)).2 (valuesF (some ⟨j, 0, none⟩) 1 1 W')).mono ?_
        rintro e w1 ⟨rfl, rfl⟩
        refine hK _ _ ⟨l0, l1, true, l3, l4, l5, rfl, _, _, _, _, _, rfl, c0, c1, (fun _ => ⟨_, rfl, hB.size, heap_alloc_new W' _⟩), c3, c4, (.inl ⟨n5, (hB.trans (hb.mono hB.size))⟩)⟩
      · have d0 : l0 = true := ready_dep 0 hi (by kernel_rfl)
        have d2 : l2 = true := ready_dep 2 hi (by kernel_rfl)
        obtain rfl : v26 = .map (some NM) := c0 d0
        have n3 : l3 = false := (mem_ready.1 hi).1
        clear hi
        obtain ⟨n5, hB⟩ : l5 = false ∧ Below W.heap.size W W' := hB.resolve_right fun hh => by have := hh.2.2.2.1; rw [n3] at this; cases this
        obtain ⟨g, rfl, hg1, hg2⟩ := c2 d2
        refine wpOpIn_step rfl (fun K hK => ?_)
        go_simp
        first | refine ⟨trivial, (fun h => by cases h), ?_⟩ | refine ⟨(fun h => by cases h), ?_⟩ | refine ⟨trivial, ?_⟩
        refine ((callsIn_wide (n := 2)).2 (HSUM.out W' hB g hg1 hg2)).mono ?_
        rintro e w1 ⟨rfl, hb⟩
        refine hK _ _ ⟨l0, l1, l2, true, l4, l5, rfl, _, _, _, _, _, rfl, c0, c1, (fun e8 => by obtain ⟨g, h1, h2, h3⟩ := c2 e8; exact ⟨g, h1, h2, (hb.block g (heap_lt h3)).trans h3⟩), (fun _ => rfl), c4, (.inl ⟨n5, (hB.trans (hb.mono hB.size))⟩)⟩
      · have d3 : l3 = true := ready_dep 3 hi (by kernel_rfl)
        obtain rfl : v29 = .int .i64 (dz : Int) := c3 d3
        have n4 : l4 = false := (mem_ready.1 hi).1
        clear hi
        obtain ⟨n5, hB⟩ : l5 = false ∧ Below W.heap.size W W' := hB.resolve_right fun hh => by have := hh.2.2.2.2.1; rw [n4] at this; cases this
        refine wpOpIn_step rfl (fun K hK => ?_)
        go_simp
        try simp only [hdec]
        refine hK _ _ ⟨l0, l1, l2, l3, true, l5, rfl, _, _, _, _, _, rfl, c0, c1, c2, c3, (fun _ => rfl), (.inl ⟨n5, hB⟩)⟩
      · have d0 : l0 = true := ready_dep 0 hi (by kernel_rfl)
        have d1 : l1 = true := ready_dep 1 hi (by kernel_rfl)
        have d2 : l2 = true := ready_dep 2 hi (by kernel_rfl)
        have d3 : l3 = true := ready_dep 3 hi (by kernel_rfl)
        have d4 : l4 = true := ready_dep 4 hi (by kernel_rfl)
        obtain rfl : v26 = .map (some NM) := c0 d0
        obtain rfl : v27 = (.slice (some ⟨j, 0, none⟩) 1 1) := c1 d1
        obtain rfl : v29 = .int .i64 (dz : Int) := c3 d3
        obtain rfl : v30 = .bool true := c4 d4
        have n5 : l5 = false := (mem_ready.1 hi).1
        clear hi
        obtain ⟨-, hB⟩ : l5 = false ∧ Below W.heap.size W W' := hB.resolve_right fun hh => by have := hh.2.2.2.2.2.1; rw [n5] at this; cases this
        have zR := (hB.cell (p := ⟨NR, 0, none⟩) hNRW).trans hbxR
        have fR := frozen_of ((hB.block NR hNRW).trans HI.out.boxR) 0
        refine wpOpIn_step rfl (fun K hK => ?_)
        go_simp
        refine hK _ _ ⟨l0, l1, l2, l3, l4, true, rfl, _, _, _, _, _, rfl, c0, c1, (fun e8 => by obtain ⟨g, h1, h2, h3⟩ := c2 e8; exact ⟨g, h1, h2, (heap_set_other _ (by omega)).trans h3⟩), c3, c4, (.inr ⟨d0, d1, d2, d3, d4, rfl, W', hB, rfl⟩)⟩
    · rintro L a' W2 hsz ⟨l0, l1, l2, l3, l4, l5, rfl, v26, v27, v28, v29, v30, rfl, c0, c1, c2, c3, c4, hB⟩ hall
      have e0 : l0 = true := hall 0 (by show 0 < 6; omega)
      have e1 : l1 = true := hall 1 (by show 1 < 6; omega)
      have e2 : l2 = true := hall 2 (by show 2 < 6; omega)
      have e3 : l3 = true := hall 3 (by show 3 < 6; omega)
      have e4 : l4 = true := hall 4 (by show 4 < 6; omega)
      have e5 : l5 = true := hall 5 (by show 5 < 6; omega)
      obtain rfl : v26 = .map (some NM) := c0 e0
      obtain rfl : v27 = (.slice (some ⟨j, 0, none⟩) 1 1) := c1 e1
      obtain rfl : v29 = .int .i64 (dz : Int) := c3 e3
      obtain rfl : v30 = .bool true := c4 e4
      clear hall c0 c1 c2 c3 c4
      obtain ⟨-, -, -, -, -, -, Y, hBY, rfl⟩ := hB.resolve_left (fun hh => by have := hh.1; rw [e5] at this; cases this)
      clear hB
      have h2 : Below w.heap.size w (Y.setCell ⟨NR, 0, none⟩ (.bool true)) := (HI.out.below.trans (hBY.mono HI.out.below.size)).setCell (by show w.heap.size ≤ NR; omega) _
      have hd2 : (Y.setCell ⟨NR, 0, none⟩ (.bool true)).heap[W7.heap.size]? = some (.deferred (some [])) := (heap_set_other _ (by omega)).trans ((hBY.block _ (heap_lt HD.out)).trans HD.out)
      have hr2 : ((Y.setCell ⟨NR, 0, none⟩ (.bool true)).putObj W7.heap.size (.deferred none)).heap[NR]? = some (.cells #[.bool true] 4 (0, 0)) := (World.putObj_heap_other (by omega)).trans (heap_set_same _ ((hBY.block NR hNRW).trans HI.out.boxR))
      gi_wp2
      refine ⟨by simp, .inl ⟨_, _, rfl, run_takeDeferred hd2, .bool true, res_held _ rfl hr2, rfl, ?_⟩⟩
      exact ⟨h2.os, h2.tape, h2.output, by simpa [World.putObj] using h2.size, fun k hk => (World.putObj_heap_other (by omega)).trans (h2.block k hk)⟩
  case stop =>
    rintro c pre W h1 _
    exact h1.elim
end Go.Proofs.Ytgeckgdmkjddpaa.Hd
