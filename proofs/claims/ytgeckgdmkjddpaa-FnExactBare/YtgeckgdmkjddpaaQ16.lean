/- Made of ZWG, ZWI. -/
import Derived.Test.YtgeckgdmkjddpaaQ15
namespace Go.Proofs.Ytgeckgdmkjddpaa.Hd
open Go.ChangeShapes Go.WideShapes Go.ChangeAt Go.RowKit Go.Shelf Go.Proofs.Ytgeckgdmkjddpaa.It Go.Proofs.Ytgeckgdmkjddpaa.Vo Go.Proofs.Ytgeckgdmkjddpaa.Br
attribute [local go_sem] Oper.semAt_some
set_option linter.unusedVariables false

theorem sum_pos {f : Ls → Nat} : ∀ (l : List Ls), (∀ x ∈ l, 1 ≤ f x) → l.length ≤ (l.map f).sum
  | [], _ => Nat.le_refl _
  | x :: r, h => by
    have h1 := h x (by simp)
    have h2 := sum_pos r fun y hy => h y (by simp [hy])
    simp only [List.length_cons, List.map_cons, List.sum_cons]
    omega
theorem cost_len {kd : Ls → List Ls} {P : Ls → Prop} {dd ww : Ls → Nat} (f : Fam kd P dd ww) {bs : List Pk} {l : List Ls} (h : ∀ x ∈ l, P x) : l.length ≤ cost ww bs l :=
  sum_pos l fun x hx => by
    have := f.wt x (h x hx)
    split <;> omega
theorem cost_room {kd : Ls → List Ls} {P : Ls → Prop} {dd ww : Ls → Nat} (f : Fam kd P dd ww) {bs : List Pk} {l : List Ls} {x : Ls} (h : ∀ y ∈ l ++ [x], P y) (hx : pk x ∉ bs) : (l ++ [x]).length + (kd x).length ≤ cost ww bs (l ++ [x]) := by
  have h1 := cost_len f (bs := bs) fun y hy => h y (List.mem_append_left [x] hy)
  have h2 := f.wt x (h x (by simp))
  have h3 := sum_pos (f := ww) (kd x) fun y hy => by have := f.wt y (f.sub x y (h x (by simp)) hy); omega
  unfold cost at h1 ⊢
  simp only [List.length_append, List.length_cons, List.length_nil, List.map_append, List.sum_append, List.map_cons, List.map_nil, List.sum_cons, List.sum_nil]
  rw [if_neg hx]
  omega
def LU (K : Nat → Prop) (w0 : World) (F : Nat) (root : Ls) (Bs : Nat) (J : List Ls → (Nat → Prop) → World → Prop) (W : World) (n : Nat) (q : Value × World) : Prop :=
  ∃ v left ys bs es, q.1 = v ∧ UW K Bs J W v (left.map valL) ys bs es q.2 ∧ DI (kids w0) (Sub K w0 F) (fd gD w0 F) root left ys bs es ∧ n = cost (fd gW w0 F) bs left ∧ n ≤ 10000000
set_option maxRecDepth 100000 in
set_option maxHeartbeats 8000000 in
theorem listsUp_of (K : Nat → Prop) (w0 w : World) (F : Nat) (root : Ls) (Bs b1 c1 : Nat) (hw0 : w0.heap.size ≤ w.heap.size) (hb1 : ∀ b, K b → w.heap[b]? = w0.heap[b]?) (hK : ∀ k, K k → k < w0.heap.size ∧ PlainAt w0 ⟨k, 0, none⟩) (hr : Sub K w0 F root) (hwt : 2 * fd gW w0 F root ≤ 10000000) (hBl : w0.heap.size ≤ Bs ∧ Bs < w.heap.size) (hBs : w.cell? ⟨Bs, 0, none⟩ = some (.slice (some ⟨b1, 0, none⟩) 1 c1)) (hbl1 : b1 < w.heap.size) (hbc1 : w.cell? ⟨b1, 0, none⟩ = some (valL root)) :
    SeqOf Try.prog 68 #[.pointer (some ⟨Bs, 0, none⟩)] (fun x => #[valL x]) (fun k => K k ∨ k = Bs) (fun pre x => Sub K w0 F x ∧ ∀ y ∈ kids w0 x, ∃ z ∈ pre, pk z = pk y) (fun ys => ∃ z ∈ ys, pk z = pk root) w := by
  intro n9 l J Jx W hW hJ hY h0
  have hmm := @run_makeMap Try.prog
  have hbB : W.cell? ⟨Bs, 0, none⟩ = some (.slice (some ⟨b1, 0, none⟩) 1 c1) := (hW.cell (p := ⟨Bs, 0, none⟩) hBl.2).trans hBs
  have hbb : ((W.alloc (.map #[] 0)).alloc (.map #[] 0)).cell? ⟨Bs, 0, none⟩ = some (.slice (some ⟨b1, 0, none⟩) 1 c1) := ((((Below.refl _ W).alloc (Nat.le_refl _) _).alloc (by simp) _).cell (p := ⟨Bs, 0, none⟩) (Nat.lt_of_lt_of_le hBl.2 hW.size)).trans hbB
  have hbW : ((W.alloc (.map #[] 0)).alloc (.map #[] 0)).cell? ⟨b1, 0, none⟩ = some (valL root) := ((((Below.refl _ W).alloc (Nat.le_refl _) _).alloc (by simp) _).cell (p := ⟨b1, 0, none⟩) (Nat.lt_of_lt_of_le hbl1 hW.size)).trans ((hW.cell (p := ⟨b1, 0, none⟩) hbl1).trans hbc1)
  have HCL := hide (clone_one _ b1 c1 _ hbW rfl)
  have hKW : Hid (∀ k, K k → W.heap[k]? = w0.heap[k]?) := fun k hk => (hW.block k (Nat.lt_of_lt_of_le (hK k hk).1 hw0)).trans (hb1 k hk)
  have hKl : Hid (∀ k, K k → k < w0.heap.size) := fun k hk => (hK k hk).1
  have hKp : Hid (∀ k, K k → PlainAt w0 ⟨k, 0, none⟩) := fun k hk => (hK k hk).2
  have hN0 : w0.heap.size ≤ W.heap.size := Nat.le_trans hw0 hW.size
  have hBW : Bs < W.heap.size := Nat.lt_of_lt_of_le hBl.2 hW.size
  have hKN : Hid (∀ k, (K k ∨ k = Bs) → k < W.heap.size) := fun k hk => by
    rcases hk with hk | hk
    · have := (hK k hk).1
      omega
    · omega
  have FAM := hide (fam K w0 F)
  have HROOT := hide hr
  have HH0 := hide h0
  have HY : Hid (Yds l W.heap.size J Jx (fun pre x => Sub K w0 F x ∧ ∀ y ∈ kids w0 x, ∃ z ∈ pre, pk z = pk y)) := fun m pre x Pr W1 h1 h2 h3 h4 => hY m pre x Pr W1 h1 h2 h3 h4
  have HJ := hide hJ
  obtain ⟨mu, hmu⟩ := least_any (LU K w0 F root Bs J W)
  have HMU := hide hmu
  have HWT := hide hwt
  have hB1 := hBl.1
  clear hY hJ h0 hr hBs hb1 hK hw0 hW hmu hwt hBl hbB hbW hbc1 hbl1
  refine callsIn_of_wp Try.func68 rfl trivial ?_ rfl
  simp only [Try.ntmps68, List.size_toArray, List.length_cons, List.length_nil, Nat.reduceAdd, Nat.reduceSub, Array.replicate_succ, Array.replicate_zero, List.push_toArray, List.append_toArray, List.nil_append, List.cons_append]
  gi_wp2_with fail
  first | refine ⟨trivial, (fun h => by cases h), ?_⟩ | refine ⟨(fun h => by cases h), ?_⟩ | refine ⟨trivial, ?_⟩
  refine ((callsIn_wide (n := n9 - 1)).2 HCL.out).mono ?_
  rintro e w1 ⟨v0, rfl, hrow0, hbl0⟩
  have hsz2 : ((W.alloc (.map #[] 0)).alloc (.map #[] 0)).heap.size = W.heap.size + 2 := by simp
  rw [hsz2] at hrow0 hbl0
  have hba : Below W.heap.size W w1 := (((Below.refl _ W).alloc (Nat.le_refl _) _).alloc (by simp) _).trans (hbl0.mono (by omega))
  have HINV : Hid (LU K w0 F root Bs J W (cost (fd gW w0 F) [] [root]) (v0, w1)) := by
    have hm1 : w1.heap[W.heap.size]? = some (.map #[] 0) := (hbl0.block _ (by omega)).trans ((Below.heap_alloc _ _ _ (by simp)).trans (heap_alloc_new W _))
    have hm2 : w1.heap[W.heap.size + 1]? = some (.map #[] 0) := (hbl0.block _ (by omega)).trans (heap_alloc2_new W _ _)
    have hcst : cost (fd gW w0 F) [] [root] = 2 * fd gW w0 F root := by unfold cost; simp
    refine ⟨v0, [root], [], [], [], rfl, ⟨HJ.out _ _ _ _ _ (Chg.of hba (Nat.le_refl _)) (Nat.le_refl _) (fun k hk => ?_) HH0.out, ORow.base hrow0 (by omega), ⟨_, _, hm1, rfl, fun e he => by simp at he⟩, ⟨_, _, hm2, rfl, fun e he => by simp at he⟩, KeptP.of hba⟩, DI.start HROOT.out, rfl, by rw [hcst]; exact HWT.out⟩
    rcases hk with hk | hk | hk | hk
    · exact .inl hk
    · exact .inr (by omega)
    · exact .inr (by omega)
    · have h9 := ORow.own hrow0 hk
      exact .inr (by omega)
  clear hrow0 hbl0 hba hsz2 HCL hmm hbb
  gi_wp2
  gi_loopw [5] (fun t5 wr => ∃ n, LU K w0 F root Bs J W n (t5, wr)) (fun t5 wr => mu (t5, wr))
  case atStart => exact ⟨_, HINV.out⟩
  case round =>
    obtain ⟨n1, i1⟩ := hrel
    obtain ⟨⟨v, left, ys, bs, es, hv, hinv, hdi, hco, hnb⟩, hle⟩ := HMU.out (u5, wr) n1 i1
    dsimp only at hinv
    generalize hmm : mu (u5, wr) = n at hco hnb hle
    have HMM := hide hmm
    clear hmm hle i1 HINV
    dsimp only at hv
    subst hv
    rcases List.eq_nil_or_concat left with rfl | ⟨left0, x, hcat⟩
    · obtain ⟨oo, cap, rfl, -, -⟩ := ORow.form hinv.row
      have HI := hide hinv
      have HDI := hide hdi
      clear hinv hdi hco
      simp only [List.map_nil, List.length_nil]
      gi_wp2
      go_end0
      exact ⟨⟨_, rfl⟩, .inl ⟨ys, HDI.out.done, HJ.out _ _ _ _ _ (Chg.refl _ _ _) HI.out.keep.1 (fun k hk => .inl (.inl hk)) HI.out.j⟩⟩
    · rw [List.concat_eq_append] at hcat
      subst hcat
      have HR0 := hinv.row
      rw [List.map_append, List.map_cons, List.map_nil] at HR0
      obtain ⟨g, cap, rfl, hcp, hcm, hlast, hpop⟩ := ORow.last HR0
      rw [List.length_map] at hcp hlast hpop hinv HMM ⊢
      have hPx : Sub K w0 F x := hdi.p x (by simp)
      have hll : left0.length ≤ 10000000 := by
        have h1 := cost_len FAM.out (bs := bs) hdi.p
        rw [List.length_append] at h1
        omega
      obtain ⟨xi, o, n5, c5⟩ := x
      obtain ⟨b, off, eo, kb, hn0, hnm, hnc, hx3⟩ := kid_facts hPx
      simp only at eo hn0 hnm hnc hx3
      subst eo
      have HI := hide hinv
      have HDI := hide hdi
      have HPOP := hide hpop
      have HPX := hide hPx
      have HCO := hide hco
      have hw1 : IntKind.i64.wrap (((left0.length + 1 : Nat) : Int) - 1) = left0.length := by rw [IntKind.wrap_i64]; omega
      have hw2 : (left0.length : Int) ≤ cap := by omega
      have hcm' : cap ≤ 9223372036854775807 := hcm
      have hgo := (hinv.own (g := g) rfl)
      clear hinv hpop hdi hPx hcm HR0 hco
      have q0 : wr.cell? ⟨g, left0.length, none⟩ = some (.iface (tyOf xi) (.slice (some ⟨b, off, none⟩) n5 c5)) := hlast
      clear hlast
      have hmd := meth_pl hx3 (.slice (some ⟨b, off, none⟩) n5 c5)
      have hmd2 := meth_wi hx3 (.slice (some ⟨b, off, none⟩) n5 c5)
      have hep := ent_pl hx3
      have hew := ent_wi hx3
      have HPL : Hid (∀ (w' : World), KeptP (fun k => K k ∨ k = Bs) W w' → (PlainAt w' ⟨b, off, none⟩ ∧ (∀ q ∈ bs, q.1 < 3 ∧ PlainAt w' q.2.1) ∧ ∀ q ∈ es, q.1 < 3 ∧ PlainAt w' q.2.1) ∧ ∀ y ∈ kids w0 (⟨xi, some ⟨b, off, none⟩, n5, c5⟩ : Ls), ∃ xb xo, y.o = some ⟨xb, xo, none⟩ ∧ y.n ≠ 0 ∧ y.n ≤ maxLen ∧ y.n ≤ y.c ∧ PlainAt w' ⟨xb, xo, none⟩ ∧ K xb ∧ y.i < 3) := fun w' hk => by
        have hblk : ∀ k, K k → w'.heap[k]? = w0.heap[k]? := fun k hk2 => (hk.2 k (.inl hk2) (Nat.lt_of_lt_of_le (hKl.out k hk2) hN0)).trans (hKW.out k hk2)
        have hpl : ∀ k p, K k → PlainAt w' ⟨k, p, none⟩ := fun k p hk2 => by
          obtain ⟨c, e, h9⟩ := hKp.out k hk2
          exact ⟨c, e, (hblk k hk2).trans h9⟩
        have hz : ∀ z, Sub K w0 F z → (pk z).1 < 3 ∧ PlainAt w' (pk z).2.1 := fun z hz => by
          obtain ⟨zb, zo, ez, kz, -, -, -, hz3⟩ := kid_facts hz
          unfold pk
          rw [ez]
          exact ⟨hz3, hpl zb zo kz⟩
        refine ⟨⟨hpl b off kb, fun q hq => ?_, fun q hq => ?_⟩, fun y hy => ?_⟩
        · obtain ⟨z, h1, rfl⟩ := HDI.out.b q hq
          exact hz z h1
        · obtain ⟨z, h1, rfl⟩ := (HDI.out.e q).1 hq
          exact hz z (HDI.out.py z h1)
        · obtain ⟨yb, yo, ey, ky, h1, h2, h3, h4⟩ := kid_facts (sub_kid HPX.out hy)
          exact ⟨yb, yo, ey, h1, h2, h3, hpl yb yo ky, ky, h4⟩
      have HBQ : Hid (∀ q ∈ bs, K q.2.1.block) := fun q hq => by
        obtain ⟨z, h1, rfl⟩ := HDI.out.b q hq
        obtain ⟨zb, zo, ez, kz, -⟩ := kid_facts h1
        unfold pk
        rw [ez]
        exact kz
      gi_wp2_with fail
      first | refine ⟨trivial, (fun h => by cases h), ?_⟩ | refine ⟨(fun h => by cases h), ?_⟩ | refine ⟨trivial, ?_⟩
      refine ((callsIn_wide (n := n9 - 1)).2 (place_I hx3 b off n5 c5 hn0 hnm hnc wr)).mono ?_
      rintro e w1 ⟨rfl, hb⟩
      have hi1 := UW.below HJ.out HI.out hb
      have hp1 := (HPL.out w1 hi1.keep).1
      have HF := hide ((callsIn_wide (n := n9 - 1)).2 (isFirst_place W.heap.size ((xi, ⟨b, off, none⟩, n5) : Pk) hx3 bs w1 hi1.setb hp1.1 hp1.2.1))
      have HI1 := hide hi1
      clear hi1 hp1 hb
      gi_wp2_with fail
      first | refine ⟨trivial, (fun h => by cases h), ?_⟩ | refine ⟨(fun h => by cases h), ?_⟩ | refine ⟨trivial, ?_⟩
      refine HF.out.mono ?_
      rintro e w2 ⟨⟨q, rfl, hq⟩, hs2, ho2⟩
      have hi2 := UW.oth HJ.out hKN.out HI1.out (.inl rfl) ho2 hs2 (HI1.out.sete.keep (ho2.block _ ⟨HI1.out.sete.lt, by omega⟩))
      have HI2 := hide hi2
      have HQ := hide hq
      clear hs2 ho2 hi2 hq HF q0 HI1
      cases q
      · -- it begins
        have hnk : pk (⟨xi, some ⟨b, off, none⟩, n5, c5⟩ : Ls) ∉ bs := fun h => by have := HQ.out.2 h; cases this
        have hroom := cost_room FAM.out HDI.out.p hnk
        rw [← HCO.out] at hroom
        obtain ⟨hdi2, hless⟩ := DI.begin FAM.out HDI.out hnk
        rw [← HCO.out] at hless
        have hV : Below w2.heap.size w2 (w2.alloc (.cells #[(.slice (some ⟨b, off, none⟩) n5 c5)] (tyOf xi))) := (Below.refl _ w2).alloc (Nat.le_refl _) _
        have hi3 := UW.below HJ.out HI2.out hV
        have HP3 := hide (HPL.out _ hi3.keep)
        obtain ⟨hx9, zs, hrx, -⟩ := HPX.out
        have hKV : ∀ k, K k → (w2.alloc (.cells #[(.slice (some ⟨b, off, none⟩) n5 c5)] (tyOf xi))).heap[k]? = w0.heap[k]? := fun k hk => (hi3.keep.2 k (.inl hk) (Nat.lt_of_lt_of_le (hKl.out k hk) hN0)).trans (hKW.out k hk)
        have hw2N := HI2.out.keep.1
        have HWI := within_I hx3 K w0 (w2.alloc (.cells #[(.slice (some ⟨b, off, none⟩) n5 c5)] (tyOf xi))) hx9 w2.heap.size (some ⟨b, off, none⟩) n5 c5 zs (by simp; omega) hKV hKl.out hrx hnm (by simp; omega) (cell_of (heap_alloc_new w2 _) 0)
        have hk1 : ∀ k, (K k ∨ k = w2.heap.size) → k < (w2.alloc (.cells #[(.slice (some ⟨b, off, none⟩) n5 c5)] (tyOf xi))).heap.size := fun k hk => by
          simp only [World.size_alloc]
          rcases hk with hk | hk
          · have := hKl.out k hk
            omega
          · omega
        have hgw := HI2.out.own (g := g) rfl
        have hk2 : ∀ q, (Value.slice (some ⟨g, 0, none⟩) (left0.length + 1) cap).ownBlock = some q → ¬ (K q ∨ q = w2.heap.size) := fun q hq hk => by
          have hqg : g = q := Option.some.inj hq
          subst hqg
          rcases hk with hk | hk
          · have := hKl.out g hk
            omega
          · omega
        have hKne : ∀ k, K k → some k ≠ (Value.slice (some ⟨g, 0, none⟩) (left0.length + 1) cap).ownBlock ∧ k ≠ W.heap.size := fun k hk => by
          have := hKl.out k hk
          refine ⟨fun e => ?_, by omega⟩
          have hqg : k = g := Option.some.inj e
          omega
        have hL0 : ((left0 ++ [(⟨xi, some ⟨b, off, none⟩, n5, c5⟩ : Ls)]).map valL).length = left0.length + 1 := by simp
        have hrw3 := hi3.row
        have hno : (Value.slice (some ⟨g, 0, none⟩) (left0.length + 1) cap).ownBlock ≠ some W.heap.size := fun e => by
          have hqg : g = W.heap.size := Option.some.inj e
          omega
        have HA := hide ((callsIn_wide (n := n9 - 1)).2 (appendUnless_any (gf := (wi1 xi)) (lb := #[.pointer (some ⟨w2.heap.size, 0, none⟩)]) (w2.alloc (.cells #[(.slice (some ⟨b, off, none⟩) n5 c5)] (tyOf xi))) W.heap.size (addK bs ((xi, ⟨b, off, none⟩, n5) : Pk)) hi3.setb (.slice (some ⟨g, 0, none⟩) (left0.length + 1) cap) ((left0 ++ [(⟨xi, some ⟨b, off, none⟩, n5, c5⟩ : Ls)]).map valL) W.heap.size hrw3 hno (by simp; omega) (fun k => K k ∨ k = w2.heap.size) hk1 hk2 (kids w0 (⟨xi, some ⟨b, off, none⟩, n5, c5⟩ : Ls)) HWI (ent_w1 hx3) (by rw [hL0]; simp only [List.length_append, List.length_cons, List.length_nil] at hroom; omega)
          (fun y hy => by
            obtain ⟨yb, yo, e1, e2, e3, e4, e5, e6, e7⟩ := HP3.out.2 y hy
            exact ⟨yb, yo, e1, e2, e3, e4, e5, (hKne yb e6).1, (hKne yb e6).2, e7⟩)
          (fun q hq => by
            rcases (mem_addK _ _ _).1 hq with h1 | h1
            · exact ⟨(HP3.out.1.2.1 q h1).1, (HP3.out.1.2.1 q h1).2, (hKne _ (HBQ.out q h1)).1, (hKne _ (HBQ.out q h1)).2⟩
            · subst h1
              exact ⟨hx3, HP3.out.1.1, (hKne b kb).1, (hKne b kb).2⟩)))
        have HI3 := hide hi3
        have HDI2 := hide hdi2
        clear hi3 hdi2 hV hrx hKV HWI hk1 hk2 hrw3 hno hKne HP3 hroom
        gi_wp2_with fail
        first | refine ⟨trivial, (fun h => by cases h), ?_⟩ | refine ⟨(fun h => by cases h), ?_⟩ | refine ⟨trivial, ?_⟩
        refine ((callsIn_wide (n := n9 - 1)).2 (withinF_I hx3 (some ⟨b, off, none⟩) n5 c5 w2)).mono ?_
        rintro e V1 ⟨rfl, rfl⟩
        gi_wp2_with fail
        first | refine ⟨trivial, (fun h => by cases h), ?_⟩ | refine ⟨(fun h => by cases h), ?_⟩ | refine ⟨trivial, ?_⟩
        refine HA.out.mono ?_
        rintro e V2 ⟨v2, rfl, hr2, ho2, hg2⟩
        have hi4 := UW.grew HJ.out hKN.out HI3.out hr2 ho2 hg2
        rw [← List.map_append] at hi4
        have HIN : Hid (LU K w0 F root Bs J W (cost (fd gW w0 F) (addK bs ((xi, ⟨b, off, none⟩, n5) : Pk)) (left0 ++ [(⟨xi, some ⟨b, off, none⟩, n5, c5⟩ : Ls)] ++ fresh (addK bs ((xi, ⟨b, off, none⟩, n5) : Pk)) (kids w0 (⟨xi, some ⟨b, off, none⟩, n5, c5⟩ : Ls)))) (v2, V2)) := ⟨v2, _, ys, _, es, rfl, hi4, HDI2.out, rfl, Nat.le_trans (Nat.le_of_lt hless) hnb⟩
        clear hi4 hr2 ho2 hg2 HA
        gi_wp2
        go_roundw
        case rel => exact ⟨_, HIN.out⟩
        case measure =>
          have h9 := (HMU.out (v2, V2) _ HIN.out).2
          rw [HMM.out]
          exact Nat.lt_of_le_of_lt h9 hless
      · -- it has begun: all in it has ended
        have hks : pk (⟨xi, some ⟨b, off, none⟩, n5, c5⟩ : Ls) ∈ bs := HQ.out.1 rfl
        have hbs2 : addK bs ((xi, ⟨b, off, none⟩, n5) : Pk) = bs := by
          unfold addK
          rw [if_pos (show ((xi, ⟨b, off, none⟩, n5) : Pk) ∈ bs from hks)]
        have hi2 := HI2.out
        rw [hbs2] at hi2
        have hless := HDI.out.cost_pop FAM.out
        rw [← HCO.out] at hless
        have hwith := HDI.out.within hks
        have hpop2 : UW K Bs J W (.slice (some ⟨g, 0, none⟩) left0.length cap) (left0.map valL) ys bs es w2 := by
          have hr8 := hi2.row
          rw [List.map_append, List.map_cons, List.map_nil] at hr8
          obtain ⟨g8, cap8, e8, -, -, -, hp8⟩ := ORow.last hr8
          rw [List.length_map] at e8 hp8
          simp only [Value.slice.injEq, Option.some.injEq, Addr.mk.injEq] at e8
          obtain ⟨⟨rfl, -⟩, -, rfl⟩ := e8
          exact hi2.pop rfl hp8
        have HI3 := hide hpop2
        have HWH := hide hwith
        clear hi2 hpop2 hwith HI2 hbs2
        gi_wp2_with fail
        first | refine ⟨trivial, (fun h => by cases h), ?_⟩ | refine ⟨(fun h => by cases h), ?_⟩ | refine ⟨trivial, ?_⟩
        refine ((callsIn_wide (n := n9 - 1)).2 (place_I hx3 b off n5 c5 hn0 hnm hnc w2)).mono ?_
        rintro e w3 ⟨rfl, hb⟩
        have hi1 := UW.below HJ.out HI3.out hb
        have hp1 := (HPL.out w3 hi1.keep).1
        have HF := hide ((callsIn_wide (n := n9 - 1)).2 (isFirst_place (W.heap.size + 1) ((xi, ⟨b, off, none⟩, n5) : Pk) hx3 es w3 hi1.sete hp1.1 hp1.2.2))
        have HI1 := hide hi1
        clear hi1 hp1 hb
        gi_wp2_with fail
        first | refine ⟨trivial, (fun h => by cases h), ?_⟩ | refine ⟨(fun h => by cases h), ?_⟩ | refine ⟨trivial, ?_⟩
        refine HF.out.mono ?_
        rintro e w4 ⟨⟨q2, rfl, hq2⟩, hs4, ho4⟩
        have hi4 := UW.oth HJ.out hKN.out HI1.out (.inr rfl) ho4 (HI1.out.setb.keep (ho4.block _ ⟨HI1.out.setb.lt, by omega⟩)) hs4
        have HI4 := hide hi4
        have HQ2 := hide hq2
        clear hs4 ho4 hi4 hq2 HF HI1 HI3
        cases q2
        · -- it ends: it is handed on
          have hne : pk (⟨xi, some ⟨b, off, none⟩, n5, c5⟩ : Ls) ∉ es := fun h => by have := HQ2.out.2 h; cases this
          obtain ⟨f9, t9, a9, d9, y9, r9⟩ := HY.out (n9 - 1) ys (⟨xi, some ⟨b, off, none⟩, n5, c5⟩ : Ls) _ w4 HI4.out.j ⟨HPX.out, HWH.out⟩ HI4.out.keep.1 (HI4.out.lt hKN.out)
          change (Instr.yield l #[(.iface (tyOf xi) (.slice (some ⟨b, off, none⟩) n5 c5))]).run Try.prog _ = _ at y9
          have R9 := hide r9
          clear r9
          gi_wp2
          refine ⟨(fun h => by cases h), R9.out.mono ?_⟩
          rintro e V (⟨rfl, j3, k3⟩ | ⟨rfl, x3⟩)
          · have hi5 := UW.yielded hKN.out HI4.out j3 k3
            have hdi5 := HDI.out.fin
            have HIN : Hid (LU K w0 F root Bs J W (cost (fd gW w0 F) bs left0) (.slice (some ⟨g, 0, none⟩) left0.length cap, V)) := ⟨_, _, _, _, _, rfl, hi5, hdi5, rfl, Nat.le_trans (Nat.le_of_lt hless) hnb⟩
            clear hi5 hdi5 j3 k3 y9 R9
            gi_wp2
            go_roundw
            case rel => exact ⟨_, HIN.out⟩
            case measure =>
              have h9 := (HMU.out (.slice (some ⟨g, 0, none⟩) left0.length cap, V) _ HIN.out).2
              rw [HMM.out]
              exact Nat.lt_of_le_of_lt h9 hless
          · have HX := hide x3
            clear x3 y9 R9
            gi_wp2
            refine bodyPost_ret (results_none rfl _ _ _) rfl ?_
            exact ⟨⟨_, rfl⟩, .inr ⟨_, HX.out⟩⟩
        · -- it has ended already
          have hks2 : pk (⟨xi, some ⟨b, off, none⟩, n5, c5⟩ : Ls) ∈ es := HQ2.out.1 rfl
          have hes2 : addK es ((xi, ⟨b, off, none⟩, n5) : Pk) = es := by
            unfold addK
            rw [if_pos (show ((xi, ⟨b, off, none⟩, n5) : Pk) ∈ es from hks2)]
          have hi5 := HI4.out
          rw [hes2] at hi5
          have hdi5 := HDI.out.again hks2
          have HIN : Hid (LU K w0 F root Bs J W (cost (fd gW w0 F) bs left0) (.slice (some ⟨g, 0, none⟩) left0.length cap, w4)) := ⟨_, _, _, _, _, rfl, hi5, hdi5, rfl, Nat.le_trans (Nat.le_of_lt hless) hnb⟩
          clear hi5 hdi5 hes2
          gi_wp2
          try refine ⟨fun _ h => (by cases h), ?_⟩
          try gi_wp2
          go_roundw
          case rel => exact ⟨_, HIN.out⟩
          case measure =>
            have h9 := (HMU.out (.slice (some ⟨g, 0, none⟩) left0.length cap, w4) _ HIN.out).2
            rw [HMM.out]
            exact Nat.lt_of_le_of_lt h9 hless

set_option maxHeartbeats 1000000 in
theorem listsUpF (o : Option Addr) (n c : Nat) (w : World) :
    Calls Try.prog 51 #[.slice o n c] w fun e w' => e = .returned (.func (.func 68) #[] #[.pointer (some ⟨w.heap.size, 0, none⟩)]) ∧ w' = w.alloc (.cells #[.slice o n c] 104) := by
  go_enter Try.func51, Try.ntmps51
  go_wp2
  go_ret
  exact ⟨rfl, rfl⟩
end Go.Proofs.Ytgeckgdmkjddpaa.Hd
namespace Go.Proofs.Ytgeckgdmkjddpaa.Hd
open Go.ChangeShapes Go.WideShapes Go.ChangeAt Go.RowKit Go.Shelf Go.Proofs.Ytgeckgdmkjddpaa.It Go.Proofs.Ytgeckgdmkjddpaa.Vo Go.Proofs.Ytgeckgdmkjddpaa.Br
attribute [local go_sem] Oper.semAt_some
set_option linter.unusedVariables false

/-- What sum holds: the map's box, how much so far, the result's box. -/
structure SmI (w : World) (m B0 : Nat) (g : Ls → Nat) (xs s : List Ls) (Pr : Nat → Prop) (W : World) : Prop where
  boxM : W.heap[w.heap.size]? = some (.cells #[.map (some m)] 106 (0, 0))
  boxB : W.heap[w.heap.size + 1]? = some (.cells #[.int .i64 ((B0 + (s.map g).sum : Nat) : Int)] 3 (0, 0))
  boxR : W.heap[w.heap.size + 1 + 1]? = some (.cells #[.int .i64 0] 3 (0, 0))
  nM : ¬ Pr w.heap.size
  nB : ¬ Pr (w.heap.size + 1)
  nR : ¬ Pr (w.heap.size + 1 + 1)
  pre : s <+: xs
  below : Below w.heap.size w W
theorem res_sum {w : World} {g : Nat} {b : Int} (tmps : Array Value) (ht : tmps.getD 6 undef = .pointer (some ⟨g, 0, none⟩)) (hg : w.heap[g]? = some (.cells #[.int .i64 b] 3 (0, 0))) : (results Try.f52 tmps).run Try.prog w = .ok (.int .i64 b) w := by
  have hc : w.cell? ⟨g, 0, none⟩ = some (.int .i64 b) := cell_of hg 0
  have ht' : tmps[6]?.getD undef = .pointer (some ⟨g, 0, none⟩) := by simpa using ht
  simp [results, ht', asAddr, loadVar, go_sem, hc]
theorem sum_at {g : Ls → Nat} : ∀ (l : List Ls) (p q : List Ls), p ++ q = l → (p.map g).sum ≤ (l.map g).sum := by
  rintro l p q rfl
  rw [List.map_append, List.sum_append]
  omega

set_option maxRecDepth 100000 in
set_option maxHeartbeats 8000000 in
theorem sum_any {gf : Nat} {lb : Array Value} (w : World) (m B0 : Nat) (D : Pk → Nat) (ks : List Pk) (hmap : DMap w m D ks) (K : Nat → Prop) (hK : ∀ k, K k → k < w.heap.size) (xs : List Ls)
    (hseq : SeqOf Try.prog gf lb (fun x => #[valL x]) K (fun pre y => pre ++ [y] <+: xs) (fun ys => ys = xs) w) (eg : ∀ args w, (callFunc gf args).run Try.prog w = .ok (.enter gf args) w)
    (hle : B0 + (xs.map fun y => D (pk y)).sum ≤ 1000000000)
    (hxs : ∀ x ∈ xs, ∃ xb xo, x.o = some ⟨xb, xo, none⟩ ∧ x.n ≠ 0 ∧ x.n ≤ maxLen ∧ x.n ≤ x.c ∧ PlainAt w ⟨xb, xo, none⟩ ∧ x.i < 3 ∧ pk x ∈ ks) (hks : OkK w ks) :
    Calls Try.prog 52 #[.map (some m), .int .i64 (B0 : Int), .func (.func gf) #[] lb] w fun e w' => e = .returned (.int .i64 ((B0 + (xs.map fun y => D (pk y)).sum : Nat) : Int)) ∧ Below w.heap.size w w' := by
  have hml : m < w.heap.size := hmap.lt
  obtain ⟨g, hg⟩ : ∃ g : Ls → Nat, (fun y => D (pk y)) = g := ⟨_, rfl⟩
  rw [hg] at hle ⊢
  have HG := hide hg
  clear hg
  refine (callsIn_wide (n := 3)).1 ?_
  refine callsIn_of_wp_marks Try.func52 rfl trivial ?_ rfl
  simp only [Try.ntmps52, List.size_toArray, List.length_cons, List.length_nil, Nat.reduceAdd, Nat.reduceSub, Array.replicate_succ, Array.replicate_zero, List.push_toArray, List.append_toArray, List.nil_append, List.cons_append]
  gi_wp2
  have hsz : (((w.alloc (.cells #[.map (some m)] 106)).alloc (.cells #[.int .i64 (B0 : Int)] 3)).alloc (.cells #[.int .i64 0] 3)).heap.size = w.heap.size + 3 := by simp
  have hbw0 : Below w.heap.size w (((w.alloc (.cells #[.map (some m)] 106)).alloc (.cells #[.int .i64 (B0 : Int)] 3)).alloc (.cells #[.int .i64 0] 3)) := (((Below.refl _ w).alloc (Nat.le_refl _) _).alloc (by simp) _).alloc (by simp; omega) _
  have hseq' : SeqOf Try.prog gf lb (fun x : Ls => #[.iface (tyOf x.i) (.slice x.o x.n x.c)]) K (fun pre y => pre ++ [y] <+: xs) (fun ys => ys = xs) w := hseq
  refine loop_of (gf := gf) (lb := lb) rfl eg hseq' hbw0 (fun _ => rfl) (fun k hk => by have := hK k hk; rw [hsz]; omega)
    (fun s Pr W => SmI w m B0 g xs s Pr W) (fun _ _ _ => False) ?stab ?but (fun _ _ _ _ _ h => h) ?start
    (fun x => { tmps := #[(.map (some m)), (.int .i64 (B0 : Int)), (.func (.func gf) #[] lb), (.pointer (some ⟨w.heap.size, 0, none⟩)), (.pointer (some ⟨w.heap.size + 1, 0, none⟩)), undef, (.pointer (some ⟨w.heap.size + 1 + 1, 0, none⟩)), (.iface (tyOf x.i) (.slice x.o x.n x.c)), undef, undef, (.func (.func gf) #[] lb), (.iface (tyOf x.i) (.slice x.o x.n x.c)), undef, undef, undef, undef, undef, undef, undef, undef, undef, undef, undef, undef, undef, undef, undef, undef, undef], defers := [] }) ?assign ?body ?done ?stop
  case stab =>
    rintro s Pr Pr' A D' hc hN hp h
    rw [hsz] at hc hN
    exact ⟨(hc.below.block _ (by omega)).trans h.boxM, (hc.below.block _ (by omega)).trans h.boxB, (hc.below.block _ (by omega)).trans h.boxR, fun hq => (hp _ hq).elim h.nM (fun h => by omega), fun hq => (hp _ hq).elim h.nB (fun h => by omega), fun hq => (hp _ hq).elim h.nR (fun h => by omega), h.pre, h.below.trans (hc.below.mono (by omega))⟩
  case but =>
    rintro s Pr A D' hb h
    rw [hsz] at hb
    exact ⟨(hb.block _ (by omega)).trans h.boxM, (hb.block _ (by omega)).trans h.boxB, (hb.block _ (by omega)).trans h.boxR, h.nM, h.nB, h.nR, h.pre, h.below.trans ⟨hb.os, hb.tape, hb.output, by rw [hb.size]; exact Nat.le_refl _, fun k hk => hb.block k (by omega)⟩⟩
  case start =>
    intro W hW hs
    rw [hsz] at hW hs
    have hbw : Below w.heap.size w W := hbw0.trans (hW.mono (by omega))
    have hn : ∀ k, w.heap.size ≤ k → ¬ K k := fun k h1 h2 => by have := hK k h2; omega
    refine ⟨(hW.block _ (by omega)).trans ((Below.heap_alloc _ _ _ (by simp; omega)).trans ((Below.heap_alloc _ _ _ (by simp)).trans (heap_alloc_new w _))), (hW.block _ (by omega)).trans ((Below.heap_alloc _ _ _ (by simp)).trans (heap_alloc2_new w _ _)), (hW.block _ (by omega)).trans ?_, hn _ (by omega), hn _ (by omega), hn _ (by omega), List.nil_prefix, hbw⟩
    have := heap_alloc_new ((w.alloc (.cells #[.map (some m)] 106)).alloc (.cells #[.int .i64 (B0 : Int)] 3)) (.cells #[.int .i64 0] 3)
    simpa using this
  case assign =>
    intro x W Kn hKn
    gi_wp2
    exact hKn
  case body =>
    rintro pre x Pr W h hok hN hPl hl hd n1 n2
    rw [hsz] at hN hl n1 n2
    obtain ⟨r, hl⟩ := hl
    rw [hsz] at hd
    have hxm : x ∈ xs := hok.subset (by simp)
    have hgx : g x = D (pk x) := by rw [← HG.out]
    obtain ⟨z, hz⟩ : ∃ z : Int, ((B0 + (pre.map g).sum : Nat) : Int) = z := ⟨_, rfl⟩
    obtain ⟨dy, hdy⟩ : ∃ dy : Int, (D (pk x) : Int) = dy := ⟨_, rfl⟩
    have hnx : (((B0 + ((pre ++ [x]).map g).sum : Nat)) : Int) = z + dy := by
      rw [List.map_append, List.sum_append, List.map_cons, List.map_nil, List.sum_cons, List.sum_nil, hgx]
      omega
    have hlx : z + dy ≤ 1000000000 ∧ 0 ≤ z ∧ 0 ≤ dy := by
      obtain ⟨q, hq⟩ := hok
      have h1 := sum_at (g := g) xs _ _ hq
      omega
    have hboxB := h.boxB
    rw [hz] at hboxB
    obtain ⟨xi, xo9, xn, xc⟩ := x
    obtain ⟨xb, xo, exo, hn0, hnm, hnc, hxp, hx3, hxk⟩ := hxs _ hxm
    simp only at exo hn0 hnm hnc hx3
    subst exo
    have HLK : Hid (∀ W', Below W.heap.size W W' → (Instr.lookup 106 (.map (some m)) (.agg #[.iface (ptrT xi) (.pointer (some ⟨xb, xo, none⟩)), .int .i64 (xn : Int)]) true).run Try.prog W' = .ok (.tuple #[.int .i64 dy, .bool true]) W') := fun W' hB' => by
      have hb9 : Below w.heap.size w W' := h.below.trans (hB'.mono h.below.size)
      have h9 := (DMap.look (hmap.keep (hb9.block m hml)) (k := pk (⟨xi, some ⟨xb, xo, none⟩, xn, xc⟩ : Ls)) hx3 (plain_later hxp hb9 (Nat.le_refl _)) (fun b hb => ⟨(hks b hb).1, plain_later (hks b hb).2 hb9 (Nat.le_refl _)⟩) hxk).1
      rw [hdy] at h9
      exact h9
    have hbxM := cell_of h.boxM 0
    simp only [List.getElem?_toArray, List.getElem?_cons_zero] at hbxM
    have hw0 : w.heap.size < W.heap.size := heap_lt h.boxM
    have hw1 : w.heap.size + 1 < W.heap.size := heap_lt hboxB
    have HBB := hide hboxB
    have HNX := hide hnx
    have HI := hide h
    have HOK := hide hok
    have HL := hide hl
    have HD := hide hd
    have hmd := meth_pl hx3 (.slice (some ⟨xb, xo, none⟩) xn xc)
    have hep := ent_pl hx3
    clear h hok hl hd hz hdy hgx hnx hxm hxp hxk hboxB
    gi_wp2_with fail
    refine wpIn_region_inv (fun L a' W' => ∃ l0 l1 l2 l3 l4 l5 l6 l7 l8 : Bool, L = #[l0, l1, l2, l3, l4, l5, l6, l7, l8] ∧ ∃ v8 v9 v12 v13 v14 v15 v16 v17 v18 : Value, a' = { tmps := #[(.map (some m)), (.int .i64 (B0 : Int)), (.func (.func gf) #[] lb), (.pointer (some ⟨w.heap.size, 0, none⟩)), (.pointer (some ⟨w.heap.size + 1, 0, none⟩)), undef, (.pointer (some ⟨w.heap.size + 1 + 1, 0, none⟩)), (.iface (tyOf xi) (.slice (some ⟨xb, xo, none⟩) xn xc)), v8, v9, (.func (.func gf) #[] lb), (.iface (tyOf xi) (.slice (some ⟨xb, xo, none⟩) xn xc)), v12, v13, v14, v15, v16, v17, v18, undef, undef, undef, undef, undef, undef, undef, undef, undef, undef], defers := [] } ∧ (l0 = true → v13 = .map (some m)) ∧ (l1 = true → v14 = (.iface (tyOf xi) (.slice (some ⟨xb, xo, none⟩) xn xc))) ∧ (l2 = true → v15 = (.agg #[.iface (ptrT xi) (.pointer (some ⟨xb, xo, none⟩)), .int .i64 (xn : Int)])) ∧ (l3 = true → v16 = .tuple #[.int .i64 dy, .bool true]) ∧ (l4 = true → v12 = .tuple #[.int .i64 dy, .bool true]) ∧ (l5 = true → v17 = .int .i64 dy) ∧ (l6 = true → v18 = .bool true) ∧ (l7 = true → v8 = .int .i64 dy) ∧ (l8 = true → v9 = .bool true) ∧ Below W.heap.size W W') (by kernel_rfl) (by kernel_rfl) ?_ ?_ ?_
    · exact ⟨false, false, false, false, false, false, false, false, false, rfl, _, _, _, _, _, _, _, _, _, rfl, (fun h => by cases h), (fun h => by cases h), (fun h => by cases h), (fun h => by cases h), (fun h => by cases h), (fun h => by cases h), (fun h => by cases h), (fun h => by cases h), (fun h => by cases h), (Below.refl _ _).drew⟩
    · rintro L a' W' hsz ⟨l0, l1, l2, l3, l4, l5, l6, l7, l8, rfl, v8, v9, v12, v13, v14, v15, v16, v17, v18, rfl, c0, c1, c2, c3, c4, c5, c6, c7, c8, hB⟩ i hi
      have hlt9 : i < 9 := ready_lt hi
      have hcase : i = 0 ∨ i = 1 ∨ i = 2 ∨ i = 3 ∨ i = 4 ∨ i = 5 ∨ i = 6 ∨ i = 7 ∨ i = 8 := by omega
      rcases hcase with rfl | rfl | rfl | rfl | rfl | rfl | rfl | rfl | rfl
      · clear hi
        have z0 := (hB.cell (p := ⟨w.heap.size, 0, none⟩) hw0).trans hbxM
        refine wpOpIn_step rfl (fun K hK => ?_)
        go_simp
        refine hK _ _ ⟨true, l1, l2, l3, l4, l5, l6, l7, l8, rfl, _, _, _, _, _, _, _, _, _, rfl, (fun _ => rfl), c1, c2, c3, c4, c5, c6, c7, c8, hB⟩
      · clear hi
        refine wpOpIn_step rfl (fun K hK => ?_)
        go_simp
        refine hK _ _ ⟨l0, true, l2, l3, l4, l5, l6, l7, l8, rfl, _, _, _, _, _, _, _, _, _, rfl, c0, (fun _ => rfl), c2, c3, c4, c5, c6, c7, c8, hB⟩
      · have d1 : l1 = true := ready_dep 1 hi (by kernel_rfl)
        clear hi
        obtain rfl : v14 = (.iface (tyOf xi) (.slice (some ⟨xb, xo, none⟩) xn xc)) := c1 d1
        refine wpOpIn_step rfl (fun K hK => ?_)
        go_simp
        first | refine ⟨trivial, (fun h => by cases h), ?_⟩ | refine ⟨(fun h => by cases h), ?_⟩ | refine ⟨trivial, ?_⟩
        refine ((callsIn_wide (n := 0)).2 (place_I hx3 xb xo xn xc hn0 hnm hnc W')).mono ?_
        rintro e w1 ⟨rfl, hb⟩
        refine hK _ _ ⟨l0, l1, true, l3, l4, l5, l6, l7, l8, rfl, _, _, _, _, _, _, _, _, _, rfl, c0, c1, (fun _ => rfl), c3, c4, c5, c6, c7, c8, (hB.trans (hb.mono hB.size))⟩
      · have d0 : l0 = true := ready_dep 0 hi (by kernel_rfl)
        have d2 : l2 = true := ready_dep 2 hi (by kernel_rfl)
        clear hi
        obtain rfl : v13 = .map (some m) := c0 d0
        obtain rfl : v15 = (.agg #[.iface (ptrT xi) (.pointer (some ⟨xb, xo, none⟩)), .int .i64 (xn : Int)]) := c2 d2
        have hlk := HLK.out W' hB
        refine wpOpIn_step rfl (fun K hK => ?_)
        go_simp
        refine hK _ _ ⟨l0, l1, l2, true, l4, l5, l6, l7, l8, rfl, _, _, _, _, _, _, _, _, _, rfl, c0, c1, c2, (fun _ => rfl), c4, c5, c6, c7, c8, hB⟩
      · have d3 : l3 = true := ready_dep 3 hi (by kernel_rfl)
        clear hi
        obtain rfl : v16 = .tuple #[.int .i64 dy, .bool true] := c3 d3
        refine wpOpIn_step rfl (fun K hK => ?_)
        go_simp
        refine hK _ _ ⟨l0, l1, l2, l3, true, l5, l6, l7, l8, rfl, _, _, _, _, _, _, _, _, _, rfl, c0, c1, c2, c3, (fun _ => rfl), c5, c6, c7, c8, hB⟩
      · have d4 : l4 = true := ready_dep 4 hi (by kernel_rfl)
        clear hi
        obtain rfl : v12 = .tuple #[.int .i64 dy, .bool true] := c4 d4
        refine wpOpIn_step rfl (fun K hK => ?_)
        go_simp
        refine hK _ _ ⟨l0, l1, l2, l3, l4, true, l6, l7, l8, rfl, _, _, _, _, _, _, _, _, _, rfl, c0, c1, c2, c3, c4, (fun _ => rfl), c6, c7, c8, hB⟩
      · have d4 : l4 = true := ready_dep 4 hi (by kernel_rfl)
        clear hi
        obtain rfl : v12 = .tuple #[.int .i64 dy, .bool true] := c4 d4
        refine wpOpIn_step rfl (fun K hK => ?_)
        go_simp
        refine hK _ _ ⟨l0, l1, l2, l3, l4, l5, true, l7, l8, rfl, _, _, _, _, _, _, _, _, _, rfl, c0, c1, c2, c3, c4, c5, (fun _ => rfl), c7, c8, hB⟩
      · have d5 : l5 = true := ready_dep 5 hi (by kernel_rfl)
        clear hi
        obtain rfl : v17 = .int .i64 dy := c5 d5
        refine wpOpIn_step rfl (fun K hK => ?_)
        go_simp
        refine hK _ _ ⟨l0, l1, l2, l3, l4, l5, l6, true, l8, rfl, _, _, _, _, _, _, _, _, _, rfl, c0, c1, c2, c3, c4, c5, c6, (fun _ => rfl), c8, hB⟩
      · have d6 : l6 = true := ready_dep 6 hi (by kernel_rfl)
        clear hi
        obtain rfl : v18 = .bool true := c6 d6
        refine wpOpIn_step rfl (fun K hK => ?_)
        go_simp
        refine hK _ _ ⟨l0, l1, l2, l3, l4, l5, l6, l7, true, rfl, _, _, _, _, _, _, _, _, _, rfl, c0, c1, c2, c3, c4, c5, c6, c7, (fun _ => rfl), hB⟩
    · rintro L a' W2 hsz ⟨l0, l1, l2, l3, l4, l5, l6, l7, l8, rfl, v8, v9, v12, v13, v14, v15, v16, v17, v18, rfl, c0, c1, c2, c3, c4, c5, c6, c7, c8, hB⟩ hall
      have e0 : l0 = true := hall 0 (by show 0 < 9; omega)
      have e1 : l1 = true := hall 1 (by show 1 < 9; omega)
      have e2 : l2 = true := hall 2 (by show 2 < 9; omega)
      have e3 : l3 = true := hall 3 (by show 3 < 9; omega)
      have e4 : l4 = true := hall 4 (by show 4 < 9; omega)
      have e5 : l5 = true := hall 5 (by show 5 < 9; omega)
      have e6 : l6 = true := hall 6 (by show 6 < 9; omega)
      have e7 : l7 = true := hall 7 (by show 7 < 9; omega)
      have e8 : l8 = true := hall 8 (by show 8 < 9; omega)
      obtain rfl : v13 = .map (some m) := c0 e0
      obtain rfl : v14 = (.iface (tyOf xi) (.slice (some ⟨xb, xo, none⟩) xn xc)) := c1 e1
      obtain rfl : v15 = (.agg #[.iface (ptrT xi) (.pointer (some ⟨xb, xo, none⟩)), .int .i64 (xn : Int)]) := c2 e2
      obtain rfl : v16 = .tuple #[.int .i64 dy, .bool true] := c3 e3
      obtain rfl : v12 = .tuple #[.int .i64 dy, .bool true] := c4 e4
      obtain rfl : v17 = .int .i64 dy := c5 e5
      obtain rfl : v18 = .bool true := c6 e6
      obtain rfl : v8 = .int .i64 dy := c7 e7
      obtain rfl : v9 = .bool true := c8 e8
      clear hall c0 c1 c2 c3 c4 c5 c6 c7 c8
      clear hsz
      have HB2 := hide hB
      have zB := (hB.cell (p := ⟨w.heap.size + 1, 0, none⟩) hw1).trans (cell_of HBB.out 0)
      have fB := frozen_of ((hB.block (w.heap.size + 1) hw1).trans HBB.out) 0
      simp only [List.getElem?_toArray, List.getElem?_cons_zero] at zB
      have hwr : IntKind.i64.wrap (z + dy) = z + dy := by rw [IntKind.wrap_i64]; omega
      have hzl : z ≤ 68719476736 := by omega
      have hFIN : (((W2.setCell ⟨w.heap.size + 1, 0, none⟩ (.int .i64 (z + dy))).heap[w.heap.size + 3]? = W.heap[w.heap.size + 3]? ∧ (W2.setCell ⟨w.heap.size + 1, 0, none⟩ (.int .i64 (z + dy))).heap[w.heap.size + 3 + 1]? = W.heap[w.heap.size + 3 + 1]?) ∧ SmI w m B0 g xs (pre ++ [(⟨xi, some ⟨xb, xo, none⟩, xn, xc⟩ : Ls)]) Pr (W2.setCell ⟨w.heap.size + 1, 0, none⟩ (.int .i64 (z + dy))) ∧ KeptP Pr W (W2.setCell ⟨w.heap.size + 1, 0, none⟩ (.int .i64 (z + dy)))) := by
        have h1 := HI.out
        have hsB := hB.size
        have ho : ∀ k, k < W.heap.size → k ≠ w.heap.size + 1 → (W2.setCell ⟨w.heap.size + 1, 0, none⟩ (.int .i64 (z + dy))).heap[k]? = W.heap[k]? := fun k hk hne => (heap_set_other _ hne).trans (hB.block k hk)
        refine ⟨⟨ho _ (heap_lt HD.out) (by omega), ho _ (heap_lt HL.out) (by omega)⟩, ⟨(ho _ hw0 (by omega)).trans h1.boxM, ?_, (ho _ (heap_lt h1.boxR) (by omega)).trans h1.boxR, h1.nM, h1.nB, h1.nR, HOK.out, (h1.below.trans (hB.mono h1.below.size)).setCell (by show w.heap.size ≤ w.heap.size + 1; omega) _⟩, ⟨by simp; omega, fun k hk hlk => ho k hlk (fun e : k = w.heap.size + 1 => h1.nB (by rw [← e]; exact hk))⟩⟩
        rw [HNX.out]
        exact heap_set_same _ ((hB.block (w.heap.size + 1) hw1).trans HBB.out)
      have HFIN := hide hFIN
      clear hFIN HB2 hB hbxM HLK HNX HBB HI HOK HL HD
      gi_wp2
      have h9 := HFIN.out
      refine ⟨⟨?_, ?_⟩, h9.2.1, h9.2.2⟩
      · rw [hsz]
        exact h9.1.1
      · rw [hsz]
        exact h9.1.2
  case done =>
    rintro ys W rfl h hd
    rw [hsz] at hd
    obtain ⟨z, hz⟩ : ∃ z : Int, ((B0 + (ys.map g).sum : Nat) : Int) = z := ⟨_, rfl⟩
    have hboxB := h.boxB
    rw [hz] at hboxB
    have HZ := hide hz
    have zB := cell_of hboxB 0
    have zR := cell_of h.boxR 0
    have fR := frozen_of h.boxR 0
    simp only [List.getElem?_toArray, List.getElem?_cons_zero] at zB zR
    have hlB := heap_lt hboxB
    have h2 : Below w.heap.size w (W.setCell ⟨w.heap.size + 1 + 1, 0, none⟩ (.int .i64 z)) := h.below.setCell (by show w.heap.size ≤ w.heap.size + 1 + 1; omega) _
    have hd2 : (W.setCell ⟨w.heap.size + 1 + 1, 0, none⟩ (.int .i64 z)).heap[w.heap.size + 3]? = some (.deferred (some [])) := (heap_set_other _ (by show _ ≠ w.heap.size + 1 + 1; omega)).trans hd
    have hr2 : ((W.setCell ⟨w.heap.size + 1 + 1, 0, none⟩ (.int .i64 z)).putObj (w.heap.size + 3) (.deferred none)).heap[w.heap.size + 1 + 1]? = some (.cells #[.int .i64 z] 3 (0, 0)) := (World.putObj_heap_other (by omega)).trans (heap_set_same _ h.boxR)
    have H2 := hide h2
    have HD2 := hide hd2
    have HR2 := hide hr2
    clear h hd hz hboxB h2 hd2 hr2
    gi_wp2
    refine ⟨by simp, .inl ⟨_, _, rfl, run_takeDeferred (by rw [hsz]; exact HD2.out), .int .i64 z, res_sum _ rfl (by rw [hsz]; exact HR2.out), by rw [HZ.out], ?_⟩⟩
    have h2 := H2.out
    exact ⟨h2.os, h2.tape, h2.output, by simpa [World.putObj] using h2.size, fun k hk => (World.putObj_heap_other (by rw [hsz]; omega)).trans (h2.block k hk)⟩
  case stop =>
    rintro c pre W h _
    exact h.elim
end Go.Proofs.Ytgeckgdmkjddpaa.Hd
