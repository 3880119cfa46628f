/- The program's listsUp, walked: each list, behind all in it (made by genZVH.py). -/
import Derived.Test.YtifambhfggodaaaZVG
namespace Go.Proofs.Ytifambhfggodaaa.Rs
open Go.ChangeShapes Go.WideShapes Go.ChangeAt Go.RowKit Go.Shelf Go.Proofs.Ytifambhfggodaaa.It Go.Proofs.Ytifambhfggodaaa.Vo
attribute [local go_sem] Oper.semAt_some
set_option linter.unusedVariables false

theorem sum_pos {f : Rl → Nat} : ∀ (l : List Rl), (∀ x ∈ l, 1 ≤ f x) → l.length ≤ (l.map f).sum
  | [], _ => Nat.le_refl _
  | x :: r, h => by
    have h1 := h x (by simp)
    have h2 := sum_pos r fun y hy => h y (by simp [hy])
    simp only [List.length_cons, List.map_cons, List.sum_cons]
    omega
theorem cost_len {kd : Rl → List Rl} {P : Rl → Prop} {dd ww : Rl → Nat} (f : Fam kd P dd ww) {bs : List Pk} {l : List Rl} (h : ∀ x ∈ l, P x) : l.length ≤ cost ww bs l :=
  sum_pos l fun x hx => by
    have := f.wt x (h x hx)
    split <;> omega
theorem cost_room {kd : Rl → List Rl} {P : Rl → Prop} {dd ww : Rl → Nat} (f : Fam kd P dd ww) {bs : List Pk} {l : List Rl} {x : Rl} (h : ∀ y ∈ l ++ [x], P y) (hx : pk x ∉ bs) : (l ++ [x]).length + (kd x).length ≤ cost ww bs (l ++ [x]) := by
  have h1 := cost_len f (bs := bs) fun y hy => h y (List.mem_append_left [x] hy)
  have h2 := f.wt x (h x (by simp))
  have h3 := sum_pos (f := ww) (kd x) fun y hy => by have := f.wt y (f.sub x y (h x (by simp)) hy); omega
  unfold cost at h1 ⊢
  simp only [List.length_append, List.length_cons, List.length_nil, List.map_append, List.sum_append, List.map_cons, List.map_nil, List.sum_cons, List.sum_nil]
  rw [if_neg hx]
  omega
def LU (K : Nat → Prop) (w0 : World) (F : Nat) (root : Rl) (Bs : Nat) (J : List Rl → (Nat → Prop) → World → Prop) (W : World) (n : Nat) (q : Value × World) : Prop :=
  ∃ v left ys bs es, q.1 = v ∧ UW K Bs J W v (left.map valR) ys bs es q.2 ∧ DI (kids w0) (Sub K w0 F) (fd gD w0 F) root left ys bs es ∧ n = cost (fd gW w0 F) bs left ∧ n ≤ 10000000
theorem kid_facts {K : Nat → Prop} {w : World} {F : Nat} {x : Rl} (h : Sub K w F x) : ∃ b off, x.o = some ⟨b, off, none⟩ ∧ K b ∧ x.n ≠ 0 ∧ x.n ≤ maxLen ∧ x.n ≤ x.c := by
  obtain ⟨_, xs, _, hr, -⟩ := h
  obtain ⟨b, off, e, hk, -⟩ := hr.at
  obtain ⟨h1, h2, h3, -⟩ := hr
  have := List.length_pos_iff.2 h1
  exact ⟨b, off, e, hk, by omega, by rw [h2]; exact h3.1, by rw [h2]; exact h3.2⟩

set_option maxRecDepth 100000 in
set_option maxHeartbeats 8000000 in
theorem listsUp_of (K : Nat → Prop) (w0 w : World) (F : Nat) (root : Rl) (Bs b1 c1 : Nat) (hw0 : w0.heap.size ≤ w.heap.size) (hb1 : ∀ b, K b → w.heap[b]? = w0.heap[b]?) (hK : ∀ k, K k → k < w0.heap.size ∧ PlainAt w0 ⟨k, 0, none⟩) (hr : Sub K w0 F root) (hwt : 2 * fd gW w0 F root ≤ 10000000) (hBl : w0.heap.size ≤ Bs ∧ Bs < w.heap.size) (hBs : w.cell? ⟨Bs, 0, none⟩ = some (.slice (some ⟨b1, 0, none⟩) 1 c1)) (hbl1 : b1 < w.heap.size) (hbc1 : w.cell? ⟨b1, 0, none⟩ = some (valR root)) :
    SeqOf Try.prog 15 #[.pointer (some ⟨Bs, 0, none⟩)] (fun x => #[valR x]) (fun k => K k ∨ k = Bs) (fun pre x => Sub K w0 F x ∧ ∀ y ∈ kids w0 x, ∃ z ∈ pre, pk z = pk y) (fun ys => ∃ z ∈ ys, pk z = pk root) w := by
  intro n9 l J Jx W hW hJ hY h0
  have hmm := @run_makeMap Try.prog
  have hbB : W.cell? ⟨Bs, 0, none⟩ = some (.slice (some ⟨b1, 0, none⟩) 1 c1) := (hW.cell (p := ⟨Bs, 0, none⟩) hBl.2).trans hBs
  have hbb : ((W.alloc (.map #[] 0)).alloc (.map #[] 0)).cell? ⟨Bs, 0, none⟩ = some (.slice (some ⟨b1, 0, none⟩) 1 c1) := ((((Below.refl _ W).alloc (Nat.le_refl _) _).alloc (by simp) _).cell (p := ⟨Bs, 0, none⟩) (Nat.lt_of_lt_of_le hBl.2 hW.size)).trans hbB
  have hbW : ((W.alloc (.map #[] 0)).alloc (.map #[] 0)).cell? ⟨b1, 0, none⟩ = some (valR root) := ((((Below.refl _ W).alloc (Nat.le_refl _) _).alloc (by simp) _).cell (p := ⟨b1, 0, none⟩) (Nat.lt_of_lt_of_le hbl1 hW.size)).trans ((hW.cell (p := ⟨b1, 0, none⟩) hbl1).trans hbc1)
  have HCL := hide (clone_one _ b1 c1 _ hbW rfl)
  have hKW : Hid (∀ k, K k → W.heap[k]? = w0.heap[k]?) := fun k hk => (hW.block k (Nat.lt_of_lt_of_le (hK k hk).1 hw0)).trans (hb1 k hk)
  have hKl : Hid (∀ k, K k → k < w0.heap.size) := fun k hk => (hK k hk).1
  have hKp : Hid (∀ k, K k → PlainAt w0 ⟨k, 0, none⟩) := fun k hk => (hK k hk).2
  have hN0 : w0.heap.size ≤ W.heap.size := Nat.le_trans hw0 hW.size
  have hBW : Bs < W.heap.size := Nat.lt_of_lt_of_le hBl.2 hW.size
  have hKN : Hid (∀ k, (K k ∨ k = Bs) → k < W.heap.size) := fun k hk => by
    rcases hk with hk | hk
    · have := (hK k hk).1
      omega
    · omega
  have FAM := hide (fam K w0 F)
  have HROOT := hide hr
  have HH0 := hide h0
  have HY : Hid (Yds l W.heap.size J Jx (fun pre x => Sub K w0 F x ∧ ∀ y ∈ kids w0 x, ∃ z ∈ pre, pk z = pk y)) := fun m pre x Pr W1 h1 h2 h3 h4 => hY m pre x Pr W1 h1 h2 h3 h4
  have HJ := hide hJ
  obtain ⟨mu, hmu⟩ := least_any (LU K w0 F root Bs J W)
  have HMU := hide hmu
  have HWT := hide hwt
  have hB1 := hBl.1
  clear hY hJ h0 hr hBs hb1 hK hw0 hW hmu hwt hBl hbB hbW hbc1 hbl1
  refine callsIn_of_wp Try.func15 rfl trivial ?_ rfl
  simp only [Try.ntmps15, List.size_toArray, List.length_cons, List.length_nil, Nat.reduceAdd, Nat.reduceSub, Array.replicate_succ, Array.replicate_zero, List.push_toArray, List.append_toArray, List.nil_append, List.cons_append]
  gi_wp2_with fail
  first | refine ⟨trivial, (fun h => by cases h), ?_⟩ | refine ⟨(fun h => by cases h), ?_⟩ | refine ⟨trivial, ?_⟩
  refine ((callsIn_wide (n := n9 - 1)).2 HCL.out).mono ?_
  rintro e w1 ⟨v0, rfl, hrow0, hbl0⟩
  have hsz2 : ((W.alloc (.map #[] 0)).alloc (.map #[] 0)).heap.size = W.heap.size + 2 := by simp
  rw [hsz2] at hrow0 hbl0
  have hba : Below W.heap.size W w1 := (((Below.refl _ W).alloc (Nat.le_refl _) _).alloc (by simp) _).trans (hbl0.mono (by omega))
  have HINV : Hid (LU K w0 F root Bs J W (cost (fd gW w0 F) [] [root]) (v0, w1)) := by
    have hm1 : w1.heap[W.heap.size]? = some (.map #[] 0) := (hbl0.block _ (by omega)).trans ((Below.heap_alloc _ _ _ (by simp)).trans (heap_alloc_new W _))
    have hm2 : w1.heap[W.heap.size + 1]? = some (.map #[] 0) := (hbl0.block _ (by omega)).trans (heap_alloc2_new W _ _)
    have hcst : cost (fd gW w0 F) [] [root] = 2 * fd gW w0 F root := by unfold cost; simp
    refine ⟨v0, [root], [], [], [], rfl, ⟨HJ.out _ _ _ _ _ (Chg.of hba (Nat.le_refl _)) (Nat.le_refl _) (fun k hk => ?_) HH0.out, ORow.base hrow0 (by omega), ⟨_, _, hm1, rfl, fun e he => by simp at he⟩, ⟨_, _, hm2, rfl, fun e he => by simp at he⟩, KeptP.of hba⟩, DI.start HROOT.out, rfl, by rw [hcst]; exact HWT.out⟩
    rcases hk with hk | hk | hk | hk
    · exact .inl hk
    · exact .inr (by omega)
    · exact .inr (by omega)
    · have h9 := ORow.own hrow0 hk
      exact .inr (by omega)
  clear hrow0 hbl0 hba hsz2 HCL hmm hbb
  gi_wp2
  gi_loopw [5] (fun t5 wr => ∃ n, LU K w0 F root Bs J W n (t5, wr)) (fun t5 wr => mu (t5, wr))
  case atStart => exact ⟨_, HINV.out⟩
  case round =>
    obtain ⟨n1, i1⟩ := hrel
    obtain ⟨⟨v, left, ys, bs, es, hv, hinv, hdi, hco, hnb⟩, hle⟩ := HMU.out (u5, wr) n1 i1
    dsimp only at hinv
    generalize hmm : mu (u5, wr) = n at hco hnb hle
    have HMM := hide hmm
    clear hmm hle i1 HINV
    dsimp only at hv
    subst hv
    rcases List.eq_nil_or_concat left with rfl | ⟨left0, x, hcat⟩
    · obtain ⟨oo, cap, rfl, -, -⟩ := ORow.form hinv.row
      have HI := hide hinv
      have HDI := hide hdi
      clear hinv hdi hco
      simp only [List.map_nil, List.length_nil]
      gi_wp2
      go_end0
      exact ⟨⟨_, rfl⟩, .inl ⟨ys, HDI.out.done, HJ.out _ _ _ _ _ (Chg.refl _ _ _) HI.out.keep.1 (fun k hk => .inl (.inl hk)) HI.out.j⟩⟩
    · rw [List.concat_eq_append] at hcat
      subst hcat
      have HR0 := hinv.row
      rw [List.map_append, List.map_cons, List.map_nil] at HR0
      obtain ⟨g, cap, rfl, hcp, hcm, hlast, hpop⟩ := ORow.last HR0
      rw [List.length_map] at hcp hlast hpop hinv HMM ⊢
      have hPx : Sub K w0 F x := hdi.p x (by simp)
      have hll : left0.length ≤ 10000000 := by
        have h1 := cost_len FAM.out (bs := bs) hdi.p
        rw [List.length_append] at h1
        omega
      obtain ⟨o, n5, c5⟩ := x
      obtain ⟨b, off, eo, kb, hn0, hnm, hnc⟩ := kid_facts hPx
      simp only at eo hn0 hnm hnc
      subst eo
      have HI := hide hinv
      have HDI := hide hdi
      have HPOP := hide hpop
      have HPX := hide hPx
      have HCO := hide hco
      have hw1 : IntKind.i64.wrap (((left0.length + 1 : Nat) : Int) - 1) = left0.length := by rw [IntKind.wrap_i64]; omega
      have hw2 : (left0.length : Int) ≤ cap := by omega
      have hcm' : cap ≤ 9223372036854775807 := hcm
      have hgo := (hinv.own (g := g) rfl)
      clear hinv hpop hdi hPx hcm HR0 hco
      have q0 : wr.cell? ⟨g, left0.length, none⟩ = some (.slice (some ⟨b, off, none⟩) n5 c5) := hlast
      clear hlast
      have hmd : ∀ w : World, (method 173 36 (.slice (some ⟨b, off, none⟩) n5 c5) "loop.example/g00471/impl.place").run Try.prog w = .ok (13, (.slice (some ⟨b, off, none⟩) n5 c5)) w := fun _ => by kernel_rfl
      have hmd2 : ∀ w : World, (method 173 36 (.slice (some ⟨b, off, none⟩) n5 c5) "loop.example/g00471/impl.within").run Try.prog w = .ok (12, (.slice (some ⟨b, off, none⟩) n5 c5)) w := fun _ => by kernel_rfl
      have HPL : Hid (∀ (w' : World), KeptP (fun k => K k ∨ k = Bs) W w' → (PlainAt w' ⟨b, off, none⟩ ∧ (∀ q ∈ bs, PlainAt w' q.1) ∧ ∀ q ∈ es, PlainAt w' q.1) ∧ ∀ y ∈ kids w0 (⟨some ⟨b, off, none⟩, n5, c5⟩ : Rl), ∃ xb xo, y.o = some ⟨xb, xo, none⟩ ∧ y.n ≠ 0 ∧ y.n ≤ maxLen ∧ y.n ≤ y.c ∧ PlainAt w' ⟨xb, xo, none⟩ ∧ K xb) := fun w' hk => by
        have hblk : ∀ k, K k → w'.heap[k]? = w0.heap[k]? := fun k hk2 => (hk.2 k (.inl hk2) (Nat.lt_of_lt_of_le (hKl.out k hk2) hN0)).trans (hKW.out k hk2)
        have hpl : ∀ k p, K k → PlainAt w' ⟨k, p, none⟩ := fun k p hk2 => by
          obtain ⟨c, e, h9⟩ := hKp.out k hk2
          exact ⟨c, e, (hblk k hk2).trans h9⟩
        have hz : ∀ z, Sub K w0 F z → PlainAt w' (pk z).1 := fun z hz => by
          obtain ⟨zb, zo, ez, kz, -⟩ := kid_facts hz
          unfold pk
          rw [ez]
          exact hpl zb zo kz
        refine ⟨⟨hpl b off kb, fun q hq => ?_, fun q hq => ?_⟩, fun y hy => ?_⟩
        · obtain ⟨z, h1, rfl⟩ := HDI.out.b q hq
          exact hz z h1
        · obtain ⟨z, h1, rfl⟩ := (HDI.out.e q).1 hq
          exact hz z (HDI.out.py z h1)
        · obtain ⟨yb, yo, ey, ky, h1, h2, h3⟩ := kid_facts (sub_kid HPX.out hy)
          exact ⟨yb, yo, ey, h1, h2, h3, hpl yb yo ky, ky⟩
      have HBQ : Hid (∀ q ∈ bs, K q.1.block) := fun q hq => by
        obtain ⟨z, h1, rfl⟩ := HDI.out.b q hq
        obtain ⟨zb, zo, ez, kz, -⟩ := kid_facts h1
        unfold pk
        rw [ez]
        exact kz
      gi_wp2_with fail
      first | refine ⟨trivial, (fun h => by cases h), ?_⟩ | refine ⟨(fun h => by cases h), ?_⟩ | refine ⟨trivial, ?_⟩
      refine ((callsIn_wide (n := n9 - 1)).2 (place_any b off n5 c5 hn0 hnm hnc wr)).mono ?_
      rintro e w1 ⟨rfl, hb⟩
      have hi1 := UW.below HJ.out HI.out hb
      have hp1 := (HPL.out w1 hi1.keep).1
      have HF := hide ((callsIn_wide (n := n9 - 1)).2 (isFirst_place W.heap.size ((⟨b, off, none⟩, n5) : Pk) bs w1 hi1.setb hp1.1 hp1.2.1))
      have HI1 := hide hi1
      clear hi1 hp1 hb
      gi_wp2_with fail
      first | refine ⟨trivial, (fun h => by cases h), ?_⟩ | refine ⟨(fun h => by cases h), ?_⟩ | refine ⟨trivial, ?_⟩
      refine HF.out.mono ?_
      rintro e w2 ⟨⟨q, rfl, hq⟩, hs2, ho2⟩
      have hi2 := UW.oth HJ.out hKN.out HI1.out (.inl rfl) ho2 hs2 (HI1.out.sete.keep (ho2.block _ ⟨HI1.out.sete.lt, by omega⟩))
      have HI2 := hide hi2
      have HQ := hide hq
      clear hs2 ho2 hi2 hq HF q0 HI1
      cases q
      · -- it begins
        have hnk : pk (⟨some ⟨b, off, none⟩, n5, c5⟩ : Rl) ∉ bs := fun h => by have := HQ.out.2 h; cases this
        have hroom := cost_room FAM.out HDI.out.p hnk
        rw [← HCO.out] at hroom
        obtain ⟨hdi2, hless⟩ := DI.begin FAM.out HDI.out hnk
        rw [← HCO.out] at hless
        have hV : Below w2.heap.size w2 (w2.alloc (.cells #[(.slice (some ⟨b, off, none⟩) n5 c5)] 36)) := (Below.refl _ w2).alloc (Nat.le_refl _) _
        have hi3 := UW.below HJ.out HI2.out hV
        have HP3 := hide (HPL.out _ hi3.keep)
        obtain ⟨hx9, zs, hF9, hrx, -⟩ := HPX.out
        have hKV : ∀ k, K k → (w2.alloc (.cells #[(.slice (some ⟨b, off, none⟩) n5 c5)] 36)).heap[k]? = w0.heap[k]? := fun k hk => (hi3.keep.2 k (.inl hk) (Nat.lt_of_lt_of_le (hKl.out k hk) hN0)).trans (hKW.out k hk)
        have hw2N := HI2.out.keep.1
        have HWI := within_R K w0 (w2.alloc (.cells #[(.slice (some ⟨b, off, none⟩) n5 c5)] 36)) hx9 w2.heap.size (some ⟨b, off, none⟩) n5 c5 zs (by simp; omega) hKV hKl.out hrx hnm (by simp; omega) (cell_of (heap_alloc_new w2 _) 0)
        have hk1 : ∀ k, (K k ∨ k = w2.heap.size) → k < (w2.alloc (.cells #[(.slice (some ⟨b, off, none⟩) n5 c5)] 36)).heap.size := fun k hk => by
          simp only [World.size_alloc]
          rcases hk with hk | hk
          · have := hKl.out k hk
            omega
          · omega
        have hgw := HI2.out.own (g := g) rfl
        have hk2 : ∀ q, (Value.slice (some ⟨g, 0, none⟩) (left0.length + 1) cap).ownBlock = some q → ¬ (K q ∨ q = w2.heap.size) := fun q hq hk => by
          have hqg : g = q := Option.some.inj hq
          subst hqg
          rcases hk with hk | hk
          · have := hKl.out g hk
            omega
          · omega
        have hKne : ∀ k, K k → some k ≠ (Value.slice (some ⟨g, 0, none⟩) (left0.length + 1) cap).ownBlock ∧ k ≠ W.heap.size := fun k hk => by
          have := hKl.out k hk
          refine ⟨fun e => ?_, by omega⟩
          have hqg : k = g := Option.some.inj e
          omega
        have hL0 : ((left0 ++ [(⟨some ⟨b, off, none⟩, n5, c5⟩ : Rl)]).map valR).length = left0.length + 1 := by simp
        have hrw3 := hi3.row
        have hno : (Value.slice (some ⟨g, 0, none⟩) (left0.length + 1) cap).ownBlock ≠ some W.heap.size := fun e => by
          have hqg : g = W.heap.size := Option.some.inj e
          omega
        have HA := hide ((callsIn_wide (n := n9 - 1)).2 (appendUnless_any (gf := 19) (lb := #[.pointer (some ⟨w2.heap.size, 0, none⟩)]) (w2.alloc (.cells #[(.slice (some ⟨b, off, none⟩) n5 c5)] 36)) W.heap.size (addK bs ((⟨b, off, none⟩, n5) : Pk)) hi3.setb (.slice (some ⟨g, 0, none⟩) (left0.length + 1) cap) ((left0 ++ [(⟨some ⟨b, off, none⟩, n5, c5⟩ : Rl)]).map valR) W.heap.size hrw3 hno (by simp; omega) (fun k => K k ∨ k = w2.heap.size) hk1 hk2 (kids w0 (⟨some ⟨b, off, none⟩, n5, c5⟩ : Rl)) HWI (enters_of Try.func19 (by kernel_rfl) rfl) (by rw [hL0]; simp only [List.length_append, List.length_cons, List.length_nil] at hroom; omega)
          (fun y hy => by
            obtain ⟨yb, yo, e1, e2, e3, e4, e5, e6⟩ := HP3.out.2 y hy
            exact ⟨yb, yo, e1, e2, e3, e4, e5, (hKne yb e6).1, (hKne yb e6).2⟩)
          (fun q hq => by
            rcases (mem_addK _ _ _).1 hq with h1 | h1
            · exact ⟨HP3.out.1.2.1 q h1, (hKne _ (HBQ.out q h1)).1, (hKne _ (HBQ.out q h1)).2⟩
            · subst h1
              exact ⟨HP3.out.1.1, (hKne b kb).1, (hKne b kb).2⟩)))
        have HI3 := hide hi3
        have HDI2 := hide hdi2
        clear hi3 hdi2 hV hrx hKV HWI hk1 hk2 hrw3 hno hKne HP3 hroom
        gi_wp2_with fail
        first | refine ⟨trivial, (fun h => by cases h), ?_⟩ | refine ⟨(fun h => by cases h), ?_⟩ | refine ⟨trivial, ?_⟩
        refine ((callsIn_wide (n := n9 - 1)).2 (withinF_R (some ⟨b, off, none⟩) n5 c5 w2)).mono ?_
        rintro e V1 ⟨rfl, rfl⟩
        gi_wp2_with fail
        first | refine ⟨trivial, (fun h => by cases h), ?_⟩ | refine ⟨(fun h => by cases h), ?_⟩ | refine ⟨trivial, ?_⟩
        refine HA.out.mono ?_
        rintro e V2 ⟨v2, rfl, hr2, ho2, hg2⟩
        have hi4 := UW.grew HJ.out hKN.out HI3.out hr2 ho2 hg2
        rw [← List.map_append] at hi4
        have HIN : Hid (LU K w0 F root Bs J W (cost (fd gW w0 F) (addK bs ((⟨b, off, none⟩, n5) : Pk)) (left0 ++ [(⟨some ⟨b, off, none⟩, n5, c5⟩ : Rl)] ++ fresh (addK bs ((⟨b, off, none⟩, n5) : Pk)) (kids w0 (⟨some ⟨b, off, none⟩, n5, c5⟩ : Rl)))) (v2, V2)) := ⟨v2, _, ys, _, es, rfl, hi4, HDI2.out, rfl, Nat.le_trans (Nat.le_of_lt hless) hnb⟩
        clear hi4 hr2 ho2 hg2 HA
        gi_wp2
        go_roundw
        case rel => exact ⟨_, HIN.out⟩
        case measure =>
          have h9 := (HMU.out (v2, V2) _ HIN.out).2
          rw [HMM.out]
          exact Nat.lt_of_le_of_lt h9 hless
      · -- it has begun: all in it has ended
        have hks : pk (⟨some ⟨b, off, none⟩, n5, c5⟩ : Rl) ∈ bs := HQ.out.1 rfl
        have hbs2 : addK bs ((⟨b, off, none⟩, n5) : Pk) = bs := by
          unfold addK
          rw [if_pos (show ((⟨b, off, none⟩, n5) : Pk) ∈ bs from hks)]
        have hi2 := HI2.out
        rw [hbs2] at hi2
        have hless := HDI.out.cost_pop FAM.out
        rw [← HCO.out] at hless
        have hwith := HDI.out.within hks
        have hpop2 : UW K Bs J W (.slice (some ⟨g, 0, none⟩) left0.length cap) (left0.map valR) ys bs es w2 := by
          have hr8 := hi2.row
          rw [List.map_append, List.map_cons, List.map_nil] at hr8
          obtain ⟨g8, cap8, e8, -, -, -, hp8⟩ := ORow.last hr8
          rw [List.length_map] at e8 hp8
          simp only [Value.slice.injEq, Option.some.injEq, Addr.mk.injEq] at e8
          obtain ⟨⟨rfl, -⟩, -, rfl⟩ := e8
          exact hi2.pop rfl hp8
        have HI3 := hide hpop2
        have HWH := hide hwith
        clear hi2 hpop2 hwith HI2 hbs2
        gi_wp2_with fail
        first | refine ⟨trivial, (fun h => by cases h), ?_⟩ | refine ⟨(fun h => by cases h), ?_⟩ | refine ⟨trivial, ?_⟩
        refine ((callsIn_wide (n := n9 - 1)).2 (place_any b off n5 c5 hn0 hnm hnc w2)).mono ?_
        rintro e w3 ⟨rfl, hb⟩
        have hi1 := UW.below HJ.out HI3.out hb
        have hp1 := (HPL.out w3 hi1.keep).1
        have HF := hide ((callsIn_wide (n := n9 - 1)).2 (isFirst_place (W.heap.size + 1) ((⟨b, off, none⟩, n5) : Pk) es w3 hi1.sete hp1.1 hp1.2.2))
        have HI1 := hide hi1
        clear hi1 hp1 hb
        gi_wp2_with fail
        first | refine ⟨trivial, (fun h => by cases h), ?_⟩ | refine ⟨(fun h => by cases h), ?_⟩ | refine ⟨trivial, ?_⟩
        refine HF.out.mono ?_
        rintro e w4 ⟨⟨q2, rfl, hq2⟩, hs4, ho4⟩
        have hi4 := UW.oth HJ.out hKN.out HI1.out (.inr rfl) ho4 (HI1.out.setb.keep (ho4.block _ ⟨HI1.out.setb.lt, by omega⟩)) hs4
        have HI4 := hide hi4
        have HQ2 := hide hq2
        clear hs4 ho4 hi4 hq2 HF HI1 HI3
        cases q2
        · -- it ends: it is handed on
          have hne : pk (⟨some ⟨b, off, none⟩, n5, c5⟩ : Rl) ∉ es := fun h => by have := HQ2.out.2 h; cases this
          obtain ⟨f9, t9, a9, d9, y9, r9⟩ := HY.out (n9 - 1) ys (⟨some ⟨b, off, none⟩, n5, c5⟩ : Rl) _ w4 HI4.out.j ⟨HPX.out, HWH.out⟩ HI4.out.keep.1 (HI4.out.lt hKN.out)
          change (Instr.yield l #[(.slice (some ⟨b, off, none⟩) n5 c5)]).run Try.prog _ = _ at y9
          have R9 := hide r9
          clear r9
          gi_wp2
          refine ⟨(fun h => by cases h), R9.out.mono ?_⟩
          rintro e V (⟨rfl, j3, k3⟩ | ⟨rfl, x3⟩)
          · have hi5 := UW.yielded hKN.out HI4.out j3 k3
            have hdi5 := HDI.out.fin
            have HIN : Hid (LU K w0 F root Bs J W (cost (fd gW w0 F) bs left0) (.slice (some ⟨g, 0, none⟩) left0.length cap, V)) := ⟨_, _, _, _, _, rfl, hi5, hdi5, rfl, Nat.le_trans (Nat.le_of_lt hless) hnb⟩
            clear hi5 hdi5 j3 k3 y9 R9
            gi_wp2
            go_roundw
            case rel => exact ⟨_, HIN.out⟩
            case measure =>
              have h9 := (HMU.out (.slice (some ⟨g, 0, none⟩) left0.length cap, V) _ HIN.out).2
              rw [HMM.out]
              exact Nat.lt_of_le_of_lt h9 hless
          · have HX := hide x3
            clear x3 y9 R9
            gi_wp2
            refine bodyPost_ret (results_none rfl _ _ _) rfl ?_
            exact ⟨⟨_, rfl⟩, .inr ⟨_, HX.out⟩⟩
        · -- it has ended already
          have hks2 : pk (⟨some ⟨b, off, none⟩, n5, c5⟩ : Rl) ∈ es := HQ2.out.1 rfl
          have hes2 : addK es ((⟨b, off, none⟩, n5) : Pk) = es := by
            unfold addK
            rw [if_pos (show ((⟨b, off, none⟩, n5) : Pk) ∈ es from hks2)]
          have hi5 := HI4.out
          rw [hes2] at hi5
          have hdi5 := HDI.out.again hks2
          have HIN : Hid (LU K w0 F root Bs J W (cost (fd gW w0 F) bs left0) (.slice (some ⟨g, 0, none⟩) left0.length cap, w4)) := ⟨_, _, _, _, _, rfl, hi5, hdi5, rfl, Nat.le_trans (Nat.le_of_lt hless) hnb⟩
          clear hi5 hdi5 hes2
          gi_wp2
          try refine ⟨fun _ h => (by cases h), ?_⟩
          try gi_wp2
          go_roundw
          case rel => exact ⟨_, HIN.out⟩
          case measure =>
            have h9 := (HMU.out (.slice (some ⟨g, 0, none⟩) left0.length cap, w4) _ HIN.out).2
            rw [HMM.out]
            exact Nat.lt_of_le_of_lt h9 hless

set_option maxHeartbeats 1000000 in
theorem listsUpF (o : Option Addr) (n c : Nat) (w : World) :
    Calls Try.prog 11 #[.slice o n c] w fun e w' => e = .returned (.func (.func 15) #[] #[.pointer (some ⟨w.heap.size, 0, none⟩)]) ∧ w' = w.alloc (.cells #[.slice o n c] 46) := by
  go_enter Try.func11, Try.ntmps11
  go_wp2
  go_ret
  exact ⟨rfl, rfl⟩
end Go.Proofs.Ytifambhfggodaaa.Rs
