/- The program's Depth (made by genZVJ.py). -/
import Derived.Test.YtifambhfggodaaaZVH
import Derived.Test.YtifambhfggodaaaCUn
namespace Go.Proofs.Ytifambhfggodaaa.Rs
open Go.ChangeShapes Go.WideShapes Go.ChangeAt Go.RowKit Go.Shelf Go.Proofs.Ytifambhfggodaaa.It Go.Proofs.Ytifambhfggodaaa.Vo
attribute [local go_sem] Oper.semAt_some
set_option linter.unusedVariables false

/-- What Depth holds: its result's box, the depths of the lists that came. -/
structure DpI (K' : Nat → Prop) (w W5 : World) (F NR NM NB : Nat) (s : List Rl) (Pr : Nat → Prop) (W : World) : Prop where
  boxR : W.heap[NR]? = some (.cells #[.int .i64 0] 3 (0, 0))
  boxB : W.heap[NB]? = some (.cells #[.map (some NM)] 35 (0, 0))
  map : ∃ ks, DMap W NM (dpl W5 F) ks ∧ ∀ k, k ∈ ks ↔ ∃ z ∈ s, pk z = k
  subs : ∀ z ∈ s, Sub K' W5 F z
  nR : ¬ Pr NR
  nM : ¬ Pr NM
  nB : ¬ Pr NB
  kept : ∀ k, K' k → W.heap[k]? = W5.heap[k]?
  below : Below w.heap.size w W
theorem DpI.move {K' : Nat → Prop} {w W5 : World} {F NR NM NB : Nat} {s : List Rl} {Pr Pr' : Nat → Prop} {A B : World} (h : DpI K' w W5 F NR NM NB s Pr A) (hs : Below w.heap.size A B) (hb : ∀ k, k < W5.heap.size → B.heap[k]? = A.heap[k]?) (hK : ∀ k, K' k → k < W5.heap.size) (hR : NR < W5.heap.size) (hM : NM < W5.heap.size) (hB : NB < W5.heap.size) (hp : ∀ k, k < W5.heap.size → ¬ Pr k → ¬ Pr' k) : DpI K' w W5 F NR NM NB s Pr' B := by
  obtain ⟨ks, h1, h2⟩ := h.map
  exact ⟨(hb _ hR).trans h.boxR, (hb _ hB).trans h.boxB, ⟨ks, h1.keep (hb _ hM), h2⟩, h.subs, hp _ hR h.nR, hp _ hM h.nM, hp _ hB h.nB, fun k hk => (hb k (hK k hk)).trans (h.kept k hk), h.below.trans hs⟩
/-- What the inner loop holds: how deep so far. -/
structure DpJ (V : World) (dd : Rl → Nat) (ky s : List Rl) (Pr : Nat → Prop) (U : World) : Prop where
  boxD : U.heap[V.heap.size]? = some (.cells #[.int .i64 ((mx (s.map dd) + 1 : Nat) : Int)] 3 (0, 0))
  pre : s <+: ky
  below : Below V.heap.size V U
  nD : ¬ Pr V.heap.size

theorem res_int {w : World} {g : Nat} {b : Int} (tmps : Array Value) (ht : tmps.getD 2 undef = .pointer (some ⟨g, 0, none⟩)) (hg : w.heap[g]? = some (.cells #[.int .i64 b] 3 (0, 0))) : (results Try.f7 tmps).run Try.prog w = .ok (.int .i64 b) w := by
  have hc : w.cell? ⟨g, 0, none⟩ = some (.int .i64 b) := cell_of hg 0
  have ht' : tmps[2]?.getD undef = .pointer (some ⟨g, 0, none⟩) := by simpa using ht
  simp [results, ht', asAddr, loadVar, go_sem, hc]

set_option maxRecDepth 100000 in
set_option maxHeartbeats 16000000 in
theorem implDepth_any {K : Nat → Prop} {h : Nat} (x : Tr) (o1 : Option Addr) (c1 : Nat) (w : World) (hr : tyR K w h x [.int .i64 x.k, .string x.s, .int .i64 x.n, .slice o1 x.l.length c1]) (hK : ∀ b, K b → b < w.heap.size ∧ PlainAt w ⟨b, 0, none⟩) (hw : wty h x ≤ 1048576) :
    Calls Try.prog 7 #[.agg #[.int .i64 x.k, .string x.s, .int .i64 x.n, .slice o1 x.l.length c1]] w fun e w' => e = .returned (.int .i64 (dep h x)) ∧ Below w.heap.size w w' := by
  have hmm := @run_makeMap Try.prog
  refine (callsIn_wide (n := 5)).1 ?_
  refine callsIn_of_wp_marks Try.func7 rfl trivial ?_ rfl
  simp only [Try.ntmps7, List.size_toArray, List.length_cons, List.length_nil, Nat.reduceAdd, Nat.reduceSub, Array.replicate_succ, Array.replicate_zero, List.push_toArray, List.append_toArray, List.nil_append, List.cons_append]
  obtain ⟨W5, hW5⟩ : ∃ W5, ((((((w.alloc (.cells #[.int .i64 x.k, .string x.s, .int .i64 x.n, .slice o1 x.l.length c1] 29)).alloc (.cells #[.int .i64 0] 3)).alloc (.map #[] 0)).alloc (.cells #[.map (some (w.heap.size + 1 + 1))] 35)).alloc (.cells #[.int .i64 x.k, .string x.s, .int .i64 x.n, .slice o1 x.l.length c1] 29)).alloc (.cells #[.slice (some ⟨w.heap.size + 1 + 1 + 1 + 1, 0, none⟩) 1 1] 36)) = W5 := ⟨_, rfl⟩
  have hs5a : W5.heap.size ≤ w.heap.size + 6 := by rw [← hW5]; simp
  have hs5b : w.heap.size + 6 ≤ W5.heap.size := by rw [← hW5]; simp
  have hb5 : Below w.heap.size w W5 := by rw [← hW5]; exact ((((((Below.refl _ w).alloc (Nat.le_refl _) _).alloc (by simp) _).alloc (by simp; omega) _).alloc (by simp; omega) _).alloc (by simp; omega) _).alloc (by simp; omega) _
  have hR5 : W5.heap[w.heap.size + 1]? = some (.cells #[.int .i64 0] 3 (0, 0)) := by
    rw [← hW5]
    exact (Below.heap_alloc _ _ _ (by simp)).trans ((Below.heap_alloc _ _ _ (by simp)).trans ((Below.heap_alloc _ _ _ (by simp)).trans ((Below.heap_alloc _ _ _ (by simp)).trans (heap_alloc2_new w _ _))))
  have hM5 : W5.heap[w.heap.size + 1 + 1]? = some (.map #[] 0) := by
    rw [← hW5]
    refine (Below.heap_alloc _ _ _ (by simp)).trans ((Below.heap_alloc _ _ _ (by simp)).trans ((Below.heap_alloc _ _ _ (by simp)).trans ?_))
    have := heap_alloc_new ((w.alloc (.cells #[.int .i64 x.k, .string x.s, .int .i64 x.n, .slice o1 x.l.length c1] 29)).alloc (.cells #[.int .i64 0] 3)) (.map #[] 0)
    simpa using this
  have hB5 : W5.heap[w.heap.size + 1 + 1 + 1]? = some (.cells #[.map (some (w.heap.size + 1 + 1))] 35 (0, 0)) := by
    rw [← hW5]
    refine (Below.heap_alloc _ _ _ (by simp)).trans ((Below.heap_alloc _ _ _ (by simp)).trans ?_)
    have := heap_alloc_new (((w.alloc (.cells #[.int .i64 x.k, .string x.s, .int .i64 x.n, .slice o1 x.l.length c1] 29)).alloc (.cells #[.int .i64 0] 3)).alloc (.map #[] 0)) (.cells #[.map (some (w.heap.size + 1 + 1))] 35)
    simpa using this
  have hWh5 : W5.heap[w.heap.size + 1 + 1 + 1 + 1]? = some (.cells #[.int .i64 x.k, .string x.s, .int .i64 x.n, .slice o1 x.l.length c1] 29 (0, 0)) := by
    rw [← hW5]
    refine (Below.heap_alloc _ _ _ (by simp)).trans ?_
    have := heap_alloc_new ((((w.alloc (.cells #[.int .i64 x.k, .string x.s, .int .i64 x.n, .slice o1 x.l.length c1] 29)).alloc (.cells #[.int .i64 0] 3)).alloc (.map #[] 0)).alloc (.cells #[.map (some (w.heap.size + 1 + 1))] 35)) (.cells #[.int .i64 x.k, .string x.s, .int .i64 x.n, .slice o1 x.l.length c1] 29)
    simpa using this
  have hL5 : W5.heap[w.heap.size + 1 + 1 + 1 + 1 + 1]? = some (.cells #[.slice (some ⟨w.heap.size + 1 + 1 + 1 + 1, 0, none⟩) 1 1] 36 (0, 0)) := by
    rw [← hW5]
    have := heap_alloc_new (((((w.alloc (.cells #[.int .i64 x.k, .string x.s, .int .i64 x.n, .slice o1 x.l.length c1] 29)).alloc (.cells #[.int .i64 0] 3)).alloc (.map #[] 0)).alloc (.cells #[.map (some (w.heap.size + 1 + 1))] 35)).alloc (.cells #[.int .i64 x.k, .string x.s, .int .i64 x.n, .slice o1 x.l.length c1] 29)) (.cells #[.slice (some ⟨w.heap.size + 1 + 1 + 1 + 1, 0, none⟩) 1 1] 36)
    simpa using this
  have HR := hide hr
  clear hr
  gi_wp2_with fail
  first | refine ⟨trivial, (fun h => by cases h), ?_⟩ | refine ⟨(fun h => by cases h), ?_⟩ | refine ⟨trivial, ?_⟩
  try rw [hW5]
  refine ((callsIn_wide (n := 4)).2 (listsUpF _ _ _ W5)).mono ?_
  rintro e W7 ⟨rfl, hW7⟩
  gi_wp2_with fail
  clear hmm
  generalize hNL : w.heap.size + 1 + 1 + 1 + 1 + 1 = NL at *
  generalize hNW : w.heap.size + 1 + 1 + 1 + 1 = NW at *
  generalize hNB : w.heap.size + 1 + 1 + 1 = NB at *
  generalize hNM : w.heap.size + 1 + 1 = NM at *
  generalize hNR : w.heap.size + 1 = NR at *
  rw [← hW7]
  have hs7a : W7.heap.size ≤ W5.heap.size + 1 := by rw [hW7]; simp
  have hs7b : W5.heap.size + 1 ≤ W7.heap.size := by rw [hW7]; simp
  have hb7 : Below W5.heap.size W5 W7 := by rw [hW7]; exact (Below.refl _ W5).alloc (Nat.le_refl _) _
  obtain ⟨K', hK'⟩ : ∃ K' : Nat → Prop, ∀ k, K' k ↔ (K k ∨ k = NW) := ⟨fun k => K k ∨ k = NW, fun k => Iff.rfl⟩
  have hK5 : ∀ k, K' k → k < W5.heap.size ∧ PlainAt W5 ⟨k, 0, none⟩ := fun k hk => by
    rcases (hK' k).1 hk with hk | rfl
    · obtain ⟨h1, c, e, h2⟩ := hK k hk
      exact ⟨by omega, c, e, (hb5.block k h1).trans h2⟩
    · exact ⟨by omega, _, _, hWh5⟩
  have hrd : Rd K' W5 h ⟨some ⟨NW, 0, none⟩, 1, 1⟩ [x] := by
    refine ⟨by simp, rfl, ⟨by show 1 ≤ maxLen; unfold maxLen; omega, Nat.le_refl _⟩, fun _ => ⟨NW, 0, rfl, (hK' _).2 (.inr rfl), by omega, fun i t ht => ?_⟩⟩
    cases i with
    | zero =>
      simp at ht
      subst ht
      refine ⟨_, rfl, fun q u hq => ?_, tyR_frame (Stays.of hb5) (fun b hb => (hK' b).2 (.inl hb)) h x _ HR.out⟩
      have h9 := cell_of hWh5 q
      rw [List.getElem?_toArray, hq] at h9
      simpa using h9
    | succ i => simp at ht
  have hlw : lw (wty h) [x] ≤ 1048577 := by unfold lw; simp; omega
  have hsub : Sub K' W5 h ⟨some ⟨NW, 0, none⟩, 1, 1⟩ := ⟨h, [x], Nat.le_refl _, hrd, by omega⟩
  have hwt5 := fd_wt h _ _ hrd
  have hseq := listsUp_of K' W5 W7 h ⟨some ⟨NW, 0, none⟩, 1, 1⟩ W5.heap.size NL 1 (by omega) (fun b hb => hb7.block b (hK5 b hb).1) hK5 hsub (by omega) ⟨Nat.le_refl _, by omega⟩ (by rw [hW7]; exact cell_of (heap_alloc_new W5 _) 0) (by omega) ((hb7.cell (p := ⟨NL, 0, none⟩) (by show NL < _; omega)).trans (cell_of hL5 0))
  have hdz : dpl W5 h ((⟨NW, 0, none⟩, 1) : Pk) = dep h x := by
    refine (dpl_pk (x := ⟨some ⟨NW, 0, none⟩, 1, 1⟩) hsub).trans ((fd_dep h _ _ hrd).trans ?_)
    show max 0 (dep h x) = _
    omega
  obtain ⟨dz, hdz2⟩ : ∃ dz, dep h x = dz := ⟨_, rfl⟩
  have hK7 : ∀ k, K' k → W7.heap[k]? = W5.heap[k]? := fun k hk => hb7.block k (hK5 k hk).1
  have HK5 := hide hK5
  have hKN : ∀ k, K' k → k < w.heap.size ∨ k = NW := fun k hk => ((hK' k).1 hk).imp (fun h => (hK k h).1) id
  have HDZ : Hid (dpl W5 h ((⟨NW, 0, none⟩, 1) : Pk) = dz) := hdz.trans hdz2
  have HDZ2 := hide hdz2
  have HSUB := hide hsub
  have FAM := hide (fam K' W5 h)
  clear hW5 hW7 HR hL5 hrd hsub hwt5 hdz hdz2 hlw hK hK5 hw
  have hseq' : SeqOf Try.prog 15 #[.pointer (some ⟨W5.heap.size, 0, none⟩)] (fun x : Rl => #[.slice x.o x.n x.c]) (fun k => K' k ∨ k = W5.heap.size) (fun pre x => Sub K' W5 h x ∧ ∀ y ∈ kids W5 x, ∃ z ∈ pre, pk z = pk y) (fun ys => ∃ z ∈ ys, pk z = pk (⟨some ⟨NW, 0, none⟩, 1, 1⟩ : Rl)) W7 := hseq
  refine loop_of (gf := 15) (lb := #[.pointer (some ⟨W5.heap.size, 0, none⟩)]) rfl (enters_of Try.func15 (by kernel_rfl) rfl) hseq' (Below.refl _ W7) (fun _ => rfl) (fun k hk => by
      rcases hk with hk | hk
      · have := (HK5.out k hk).1; omega
      · omega)
    (fun s Pr W => DpI K' w W5 h NR NM NB s Pr W) (fun _ _ _ => False) ?stab ?but (fun _ _ _ _ _ h => h) ?start
    (fun x0 => { tmps := #[(.agg #[.int .i64 x.k, .string x.s, .int .i64 x.n, .slice o1 x.l.length c1]), (.pointer (some ⟨w.heap.size, 0, none⟩)), (.pointer (some ⟨NR, 0, none⟩)), (.pointer (some ⟨NB, 0, none⟩)), (.slice (some ⟨NW, 0, none⟩) 1 1), (.slice x0.o x0.n x0.c), undef, undef, undef, undef, (.map (some NM)), (.agg #[.int .i64 x.k, .string x.s, .int .i64 x.n, .slice o1 x.l.length c1]), (.slice (some ⟨NW, 0, none⟩) 1 1), (.slice (some ⟨NW, 0, none⟩) 1 1), (.slice (some ⟨NL, 0, none⟩) 1 1), (.func (.func 15) #[] #[.pointer (some ⟨W5.heap.size, 0, none⟩)]), (.slice x0.o x0.n x0.c), undef, undef, undef, undef, undef, undef, undef, undef, undef, undef, undef, undef, undef, undef, undef, undef, undef, undef, undef, undef, undef, undef, undef, undef], defers := [] }) ?assign ?body ?done ?stop
  case stab =>
    rintro s Pr Pr' A D hc hN hp h1
    exact h1.move (hc.below.mono (by omega)) (fun k hk => hc.below.block k (by omega)) (fun k hk => (HK5.out k hk).1) (by omega) (by omega) (by omega) fun k hk hn hq => (hp k hq).elim hn (fun h => by omega)
  case but =>
    rintro s Pr A D hb h1
    exact h1.move ⟨hb.os, hb.tape, hb.output, by rw [hb.size]; exact Nat.le_refl _, fun k hk => hb.block k (by omega)⟩ (fun k hk => hb.block k (by omega)) (fun k hk => (HK5.out k hk).1) (by omega) (by omega) (by omega) fun k _ hn => hn
  case start =>
    intro W hW hs
    have hb : Below W5.heap.size W5 W := hb7.trans (hW.mono (by omega))
    have hnk : ∀ k, k < W5.heap.size → k ≠ NW → w.heap.size ≤ k → ¬ (K' k ∨ k = W5.heap.size) := fun k h1 h2 h3 h4 => by
      rcases h4 with h4 | h4
      · rcases hKN k h4 with h5 | h5 <;> omega
      · omega
    exact ⟨(hb.block _ (by omega)).trans hR5, (hb.block _ (by omega)).trans hB5, ⟨[], ⟨#[], 0, (hb.block _ (by omega)).trans hM5, rfl⟩, fun k => ⟨fun h => by (cases h), fun ⟨z, hz, _⟩ => by cases hz⟩⟩, fun z hz => (by cases hz), hnk _ (by omega) (by omega) (by omega), hnk _ (by omega) (by omega) (by omega), hnk _ (by omega) (by omega) (by omega), fun k hk => hb.block k (HK5.out k hk).1, hb5.trans (hb.mono (by omega))⟩
  case assign =>
    intro x0 W Kn hKn
    gi_wp2
    exact hKn
  case body =>
    rintro pre x0 Pr V h1 ⟨hsubx, hkidsx⟩ hN hPl hl hd n1 n2
    obtain ⟨r₀, hl⟩ := hl
    obtain ⟨xo9, xn, xc⟩ := x0
    obtain ⟨xb, xo, exo, xkb, xn0, xnm, xnc⟩ := kid_facts hsubx
    simp only at exo xn0 xnm xnc
    subst exo
    obtain ⟨KS, hmapKS, hKSm⟩ := h1.map
    have HPLK : Hid (∀ W', Below V.heap.size V W' → ∀ z, Sub K' W5 h z → PlainAt W' (pk z).1) := fun W' hB' z hz => by
      obtain ⟨zb, zo, ez, kz, -⟩ := kid_facts hz
      obtain ⟨hzl, c, e, h9⟩ := HK5.out zb kz
      unfold pk
      rw [ez]
      exact ⟨c, e, (hB'.block zb (by omega)).trans ((h1.kept zb kz).trans h9)⟩
    have HPKS : Hid (∀ W', Below V.heap.size V W' → ∀ q ∈ KS, PlainAt W' q.1) := fun W' hB' q hq => by
      obtain ⟨z, hz, rfl⟩ := (hKSm q).1 hq
      exact HPLK.out W' hB' z (h1.subs z hz)
    have HI := hide h1
    have HSX := hide hsubx
    have HKX := hide hkidsx
    have HKS := hide hKSm
    have HMK := hide hmapKS
    have HL := hide hl
    have HD := hide hd
    clear h1 hsubx hkidsx hKSm hmapKS hl hd
    gi_wp2_with fail
    first | refine ⟨trivial, (fun h => by cases h), ?_⟩ | refine ⟨(fun h => by cases h), ?_⟩ | refine ⟨trivial, ?_⟩
    refine ((callsIn_wide (n := 2)).2 (withinF_R (some ⟨xb, xo, none⟩) xn xc (V.alloc (.cells #[.int .i64 1] 3)))).mono ?_
    rintro e V2 ⟨rfl, hV2⟩
    have hsV1 : (V.alloc (.cells #[.int .i64 1] 3)).heap.size = V.heap.size + 1 := by simp
    have hsV2a : V2.heap.size ≤ V.heap.size + 2 := by rw [hV2]; simp
    have hsV2b : V.heap.size + 2 ≤ V2.heap.size := by rw [hV2]; simp
    have hVV : Below V.heap.size V V2 := by rw [hV2]; exact ((Below.refl _ V).alloc (Nat.le_refl _) _).alloc (by simp) _
    have hD2 : V2.heap[V.heap.size]? = some (.cells #[.int .i64 1] 3 (0, 0)) := by rw [hV2]; exact (Below.heap_alloc _ _ _ (by simp)).trans (heap_alloc_new V _)
    have hI2 : V2.cell? ⟨V.heap.size + 1, 0, none⟩ = some (.slice (some ⟨xb, xo, none⟩) xn xc) := by rw [hV2]; exact cell_of (heap_alloc2_new V _ _) 0
    have hl2 : V2.heap[W7.heap.size + 1]? = some (.loop r₀) := (hVV.block _ (by omega)).trans HL.out
    obtain ⟨hx9, zs, hF9, hrx, -⟩ := HSX.out
    have hseq2 : SeqOf Try.prog 19 #[.pointer (some ⟨V.heap.size + 1, 0, none⟩)] (fun x : Rl => #[.slice x.o x.n x.c]) (fun k => K' k ∨ k = V.heap.size + 1) (fun pre y => pre ++ [y] <+: kids W5 ⟨some ⟨xb, xo, none⟩, xn, xc⟩) (fun ys => ys = kids W5 ⟨some ⟨xb, xo, none⟩, xn, xc⟩) V2 :=
      within_R K' W5 V2 hx9 (V.heap.size + 1) (some ⟨xb, xo, none⟩) xn xc zs (by omega) (fun b hb => (hVV.block b (by have := (HK5.out b hb).1; omega)).trans (HI.out.kept b hb)) (fun k hk => (HK5.out k hk).1) hrx xnm (by omega) hI2
    rw [hsV1]
    clear hV2 hI2 hrx hsV1
    gi_wp2_with fail
    refine loop_in hl2 (gf := 19) (lb := #[.pointer (some ⟨V.heap.size + 1, 0, none⟩)]) rfl (enters_of Try.func19 (by kernel_rfl) rfl) hseq2 (Below.refl _ V2) (fun _ => rfl) (fun k hk => by
        rcases hk with hk | hk
        · have := (HK5.out k hk).1; omega
        · omega)
      (fun s Pr2 U => DpJ V (fd gD W5 h) (kids W5 ⟨some ⟨xb, xo, none⟩, xn, xc⟩) s Pr2 U) (fun _ _ _ => False) ?istab ?ibut (fun _ _ _ _ _ h => h) ?istart
      (fun y => { tmps := #[(.agg #[.int .i64 x.k, .string x.s, .int .i64 x.n, .slice o1 x.l.length c1]), (.pointer (some ⟨w.heap.size, 0, none⟩)), (.pointer (some ⟨NR, 0, none⟩)), (.pointer (some ⟨NB, 0, none⟩)), (.slice (some ⟨NW, 0, none⟩) 1 1), (.slice (some ⟨xb, xo, none⟩) xn xc), (.pointer (some ⟨V.heap.size, 0, none⟩)), (.slice y.o y.n y.c), undef, undef, (.map (some NM)), (.agg #[.int .i64 x.k, .string x.s, .int .i64 x.n, .slice o1 x.l.length c1]), (.slice (some ⟨NW, 0, none⟩) 1 1), (.slice (some ⟨NW, 0, none⟩) 1 1), (.slice (some ⟨NL, 0, none⟩) 1 1), (.func (.func 15) #[] #[.pointer (some ⟨W5.heap.size, 0, none⟩)]), (.slice (some ⟨xb, xo, none⟩) xn xc), (.slice (some ⟨xb, xo, none⟩) xn xc), (.func (.func 19) #[] #[.pointer (some ⟨V.heap.size + 1, 0, none⟩)]), (.slice y.o y.n y.c), undef, undef, undef, undef, undef, undef, undef, undef, undef, undef, undef, undef, undef, undef, undef, undef, undef, undef, undef, undef, undef], defers := [] }) ?iassign ?ibody ?idone ?istop
    case istab =>
      rintro s Pr2 Pr2' A D hc hN2 hp j1
      exact ⟨(hc.below.block _ (by omega)).trans j1.boxD, j1.pre, j1.below.trans (hc.below.mono (by omega)), fun hq => (hp _ hq).elim j1.nD (fun h => by omega)⟩
    case ibut =>
      rintro s Pr2 A D hb j1
      exact ⟨(hb.block _ (by omega)).trans j1.boxD, j1.pre, j1.below.trans ⟨hb.os, hb.tape, hb.output, by rw [hb.size]; exact Nat.le_refl _, fun k hk => hb.block k (by omega)⟩, j1.nD⟩
    case istart =>
      intro U hU hsU
      exact ⟨(hU.block _ (by omega)).trans hD2, List.nil_prefix, hVV.trans (hU.mono (by omega)), fun hq => by
        rcases hq with hq | hq
        · have := (HK5.out _ hq).1; omega
        · omega⟩
    case iassign =>
      intro y U Kn hKn
      gi_wp2
      exact hKn
    case ibody =>
      rintro s y Pr2 U j1 hpre hNU hPlU hlU nU
      have hym : y ∈ kids W5 ⟨some ⟨xb, xo, none⟩, xn, xc⟩ := hpre.subset (by simp)
      have hsy := sub_kid HSX.out hym
      obtain ⟨z, hz, ez⟩ := HKX.out y hym
      have hkey : pk y ∈ KS := (HKS.out _).2 ⟨z, hz, ez⟩
      obtain ⟨dy, hdy⟩ : ∃ dy, fd gD W5 h y = dy := ⟨_, rfl⟩
      have hdk : dpl W5 h (pk y) = dy := (dpl_pk hsy).trans hdy
      have hdl : dy ≤ 2000001 := by rw [← hdy]; exact sub_le hsy
      have hplU : ∀ W', Below U.heap.size U W' → Below V.heap.size V W' := fun W' hB' => j1.below.trans (hB'.mono j1.below.size)
      have hpky := fun W' hB' => HPLK.out W' (hplU W' hB') y hsy
      obtain ⟨yo9, yn, yc⟩ := y
      obtain ⟨yb, yo, eyo, ykb, yn0, ynm, ync⟩ := kid_facts hsy
      simp only at eyo yn0 ynm ync
      subst eyo
      have HLK : Hid (∀ W', Below U.heap.size U W' → (Instr.lookup 35 (.map (some NM)) (.agg #[.iface ptrT (.pointer (some ⟨yb, yo, none⟩)), .int .i64 (yn : Int)]) true).run Try.prog W' = .ok (.tuple #[.int .i64 (dy : Int), .bool true]) W') := fun W' hB' => by
        have h9 := (DMap.look (HMK.out.keep ((hplU W' hB').block NM (by omega))) (hpky W' hB') (HPKS.out W' (hplU W' hB')) hkey).1
        rw [hdk] at h9
        exact h9
      have hVs := j1.below.size
      have hbxB := cell_of ((j1.below.block NB (by omega)).trans HI.out.boxB) 0
      simp only [List.getElem?_toArray, List.getElem?_cons_zero] at hbxB
      have hNBU : NB < U.heap.size := by omega
      have hVU : V.heap.size < U.heap.size := heap_lt j1.boxD
      obtain ⟨ms, hms⟩ : ∃ ms, mx (s.map (fd gD W5 h)) = ms := ⟨_, rfl⟩
      have hmsl : ms ≤ 2000001 := by
        rw [← hms]
        refine fold_le _ 0 (Nat.zero_le _) fun q hq => ?_
        obtain ⟨z, hz, rfl⟩ := List.mem_map.1 hq
        exact sub_le (sub_kid HSX.out (hpre.subset (by simp [hz])))
      have hboxD := j1.boxD
      rw [hms] at hboxD
      have HMX : Hid (mx ((s ++ [(⟨some ⟨yb, yo, none⟩, yn, yc⟩ : Rl)]).map (fd gD W5 h)) = max ms dy) := by
        show mx ((s ++ [(⟨some ⟨yb, yo, none⟩, yn, yc⟩ : Rl)]).map (fd gD W5 h)) = max ms dy
        rw [List.map_append, List.map_cons, List.map_nil, mx_snoc, hms, hdy]
      have HBD := hide hboxD
      have HJ1 := hide j1
      have HPRE := hide hpre
      have HLU := hide hlU
      clear j1 hpre hlU hym hz ez hkey hdy hdk hplU hpky hms hboxD hsy
      have hmd : ∀ w : World, (method 173 36 (.slice (some ⟨yb, yo, none⟩) yn yc) "loop.example/g00471/impl.place").run Try.prog w = .ok (13, (.slice (some ⟨yb, yo, none⟩) yn yc)) w := fun _ => by kernel_rfl
      gi_wp2_with fail
      refine wpIn_region_inv (fun L a' W' => ∃ l0 l1 l2 l3 l4 l5 l6 l7 l8 : Bool, L = #[l0, l1, l2, l3, l4, l5, l6, l7, l8] ∧ ∃ v8 v9 v20 v21 v22 v23 v24 v25 v26 : Value, a' = { tmps := #[(.agg #[.int .i64 x.k, .string x.s, .int .i64 x.n, .slice o1 x.l.length c1]), (.pointer (some ⟨w.heap.size, 0, none⟩)), (.pointer (some ⟨NR, 0, none⟩)), (.pointer (some ⟨NB, 0, none⟩)), (.slice (some ⟨NW, 0, none⟩) 1 1), (.slice (some ⟨xb, xo, none⟩) xn xc), (.pointer (some ⟨V.heap.size, 0, none⟩)), (.slice (some ⟨yb, yo, none⟩) yn yc), v8, v9, (.map (some NM)), (.agg #[.int .i64 x.k, .string x.s, .int .i64 x.n, .slice o1 x.l.length c1]), (.slice (some ⟨NW, 0, none⟩) 1 1), (.slice (some ⟨NW, 0, none⟩) 1 1), (.slice (some ⟨NL, 0, none⟩) 1 1), (.func (.func 15) #[] #[.pointer (some ⟨W5.heap.size, 0, none⟩)]), (.slice (some ⟨xb, xo, none⟩) xn xc), (.slice (some ⟨xb, xo, none⟩) xn xc), (.func (.func 19) #[] #[.pointer (some ⟨V.heap.size + 1, 0, none⟩)]), (.slice (some ⟨yb, yo, none⟩) yn yc), v20, v21, v22, v23, v24, v25, v26, undef, undef, undef, undef, undef, undef, undef, undef, undef, undef, undef, undef, undef, undef], defers := [] } ∧ (l0 = true → v21 = .map (some NM)) ∧ (l1 = true → v22 = (.slice (some ⟨yb, yo, none⟩) yn yc)) ∧ (l2 = true → v23 = (.agg #[.iface ptrT (.pointer (some ⟨yb, yo, none⟩)), .int .i64 (yn : Int)])) ∧ (l3 = true → v24 = .tuple #[.int .i64 (dy : Int), .bool true]) ∧ (l4 = true → v20 = .tuple #[.int .i64 (dy : Int), .bool true]) ∧ (l5 = true → v25 = .int .i64 (dy : Int)) ∧ (l6 = true → v26 = .bool true) ∧ (l7 = true → v8 = .int .i64 (dy : Int)) ∧ (l8 = true → v9 = .bool true) ∧ Below U.heap.size U W') (by kernel_rfl) (by kernel_rfl) ?_ ?_ ?_
      · exact ⟨false, false, false, false, false, false, false, false, false, rfl, _, _, _, _, _, _, _, _, _, rfl, (fun h => by cases h), (fun h => by cases h), (fun h => by cases h), (fun h => by cases h), (fun h => by cases h), (fun h => by cases h), (fun h => by cases h), (fun h => by cases h), (fun h => by cases h), (Below.refl _ _).drew⟩
      · rintro L a' W' hsz ⟨l0, l1, l2, l3, l4, l5, l6, l7, l8, rfl, v8, v9, v20, v21, v22, v23, v24, v25, v26, rfl, c0, c1, c2, c3, c4, c5, c6, c7, c8, hB⟩ i hi
        have hlt9 : i < 9 := ready_lt hi
        have hcase : i = 0 ∨ i = 1 ∨ i = 2 ∨ i = 3 ∨ i = 4 ∨ i = 5 ∨ i = 6 ∨ i = 7 ∨ i = 8 := by omega
        rcases hcase with rfl | rfl | rfl | rfl | rfl | rfl | rfl | rfl | rfl
        · clear hi
          have z0 := (hB.cell (p := ⟨NB, 0, none⟩) hNBU).trans hbxB
          refine wpOpIn_step rfl (fun K hK => ?_)
          go_simp
          refine hK _ _ ⟨true, l1, l2, l3, l4, l5, l6, l7, l8, rfl, _, _, _, _, _, _, _, _, _, rfl, (fun _ => rfl), c1, c2, c3, c4, c5, c6, c7, c8, hB⟩
        · clear hi
          refine wpOpIn_step rfl (fun K hK => ?_)
          go_simp
          refine hK _ _ ⟨l0, true, l2, l3, l4, l5, l6, l7, l8, rfl, _, _, _, _, _, _, _, _, _, rfl, c0, (fun _ => rfl), c2, c3, c4, c5, c6, c7, c8, hB⟩
        · have d1 : l1 = true := ready_dep 1 hi (by kernel_rfl)
          clear hi
          obtain rfl : v22 = (.slice (some ⟨yb, yo, none⟩) yn yc) := c1 d1
          refine wpOpIn_step rfl (fun K hK => ?_)
          go_simp
          first | refine ⟨trivial, (fun h => by cases h), ?_⟩ | refine ⟨(fun h => by cases h), ?_⟩ | refine ⟨trivial, ?_⟩
          refine ((callsIn_wide (n := 0)).2 (place_any yb yo yn yc yn0 ynm ync W')).mono ?_
          rintro e w1 ⟨rfl, hb⟩
          refine hK _ _ ⟨l0, l1, true, l3, l4, l5, l6, l7, l8, rfl, _, _, _, _, _, _, _, _, _, rfl, c0, c1, (fun _ => rfl), c3, c4, c5, c6, c7, c8, (hB.trans (hb.mono hB.size))⟩
        · have d0 : l0 = true := ready_dep 0 hi (by kernel_rfl)
          have d2 : l2 = true := ready_dep 2 hi (by kernel_rfl)
          clear hi
          obtain rfl : v21 = .map (some NM) := c0 d0
          obtain rfl : v23 = (.agg #[.iface ptrT (.pointer (some ⟨yb, yo, none⟩)), .int .i64 (yn : Int)]) := c2 d2
          have hlk := HLK.out W' hB
          refine wpOpIn_step rfl (fun K hK => ?_)
          go_simp
          refine hK _ _ ⟨l0, l1, l2, true, l4, l5, l6, l7, l8, rfl, _, _, _, _, _, _, _, _, _, rfl, c0, c1, c2, (fun _ => rfl), c4, c5, c6, c7, c8, hB⟩
        · have d3 : l3 = true := ready_dep 3 hi (by kernel_rfl)
          clear hi
          obtain rfl : v24 = .tuple #[.int .i64 (dy : Int), .bool true] := c3 d3
          refine wpOpIn_step rfl (fun K hK => ?_)
          go_simp
          refine hK _ _ ⟨l0, l1, l2, l3, true, l5, l6, l7, l8, rfl, _, _, _, _, _, _, _, _, _, rfl, c0, c1, c2, c3, (fun _ => rfl), c5, c6, c7, c8, hB⟩
        · have d4 : l4 = true := ready_dep 4 hi (by kernel_rfl)
          clear hi
          obtain rfl : v20 = .tuple #[.int .i64 (dy : Int), .bool true] := c4 d4
          refine wpOpIn_step rfl (fun K hK => ?_)
          go_simp
          refine hK _ _ ⟨l0, l1, l2, l3, l4, true, l6, l7, l8, rfl, _, _, _, _, _, _, _, _, _, rfl, c0, c1, c2, c3, c4, (fun _ => rfl), c6, c7, c8, hB⟩
        · have d4 : l4 = true := ready_dep 4 hi (by kernel_rfl)
          clear hi
          obtain rfl : v20 = .tuple #[.int .i64 (dy : Int), .bool true] := c4 d4
          refine wpOpIn_step rfl (fun K hK => ?_)
          go_simp
          refine hK _ _ ⟨l0, l1, l2, l3, l4, l5, true, l7, l8, rfl, _, _, _, _, _, _, _, _, _, rfl, c0, c1, c2, c3, c4, c5, (fun _ => rfl), c7, c8, hB⟩
        · have d5 : l5 = true := ready_dep 5 hi (by kernel_rfl)
          clear hi
          obtain rfl : v25 = .int .i64 (dy : Int) := c5 d5
          refine wpOpIn_step rfl (fun K hK => ?_)
          go_simp
          refine hK _ _ ⟨l0, l1, l2, l3, l4, l5, l6, true, l8, rfl, _, _, _, _, _, _, _, _, _, rfl, c0, c1, c2, c3, c4, c5, c6, (fun _ => rfl), c8, hB⟩
        · have d6 : l6 = true := ready_dep 6 hi (by kernel_rfl)
          clear hi
          obtain rfl : v26 = .bool true := c6 d6
          refine wpOpIn_step rfl (fun K hK => ?_)
          go_simp
          refine hK _ _ ⟨l0, l1, l2, l3, l4, l5, l6, l7, true, rfl, _, _, _, _, _, _, _, _, _, rfl, c0, c1, c2, c3, c4, c5, c6, c7, (fun _ => rfl), hB⟩
      · rintro L a' W2 hsz ⟨l0, l1, l2, l3, l4, l5, l6, l7, l8, rfl, v8, v9, v20, v21, v22, v23, v24, v25, v26, rfl, c0, c1, c2, c3, c4, c5, c6, c7, c8, hB⟩ hall
        have e0 : l0 = true := hall 0 (by show 0 < 9; omega)
        have e1 : l1 = true := hall 1 (by show 1 < 9; omega)
        have e2 : l2 = true := hall 2 (by show 2 < 9; omega)
        have e3 : l3 = true := hall 3 (by show 3 < 9; omega)
        have e4 : l4 = true := hall 4 (by show 4 < 9; omega)
        have e5 : l5 = true := hall 5 (by show 5 < 9; omega)
        have e6 : l6 = true := hall 6 (by show 6 < 9; omega)
        have e7 : l7 = true := hall 7 (by show 7 < 9; omega)
        have e8 : l8 = true := hall 8 (by show 8 < 9; omega)
        obtain rfl : v21 = .map (some NM) := c0 e0
        obtain rfl : v22 = (.slice (some ⟨yb, yo, none⟩) yn yc) := c1 e1
        obtain rfl : v23 = (.agg #[.iface ptrT (.pointer (some ⟨yb, yo, none⟩)), .int .i64 (yn : Int)]) := c2 e2
        obtain rfl : v24 = .tuple #[.int .i64 (dy : Int), .bool true] := c3 e3
        obtain rfl : v20 = .tuple #[.int .i64 (dy : Int), .bool true] := c4 e4
        obtain rfl : v25 = .int .i64 (dy : Int) := c5 e5
        obtain rfl : v26 = .bool true := c6 e6
        obtain rfl : v8 = .int .i64 (dy : Int) := c7 e7
        obtain rfl : v9 = .bool true := c8 e8
        clear hall c0 c1 c2 c3 c4 c5 c6 c7 c8
        have HB2 := hide hB
        have zD := (hB.cell (p := ⟨V.heap.size, 0, none⟩) hVU).trans (cell_of HBD.out 0)
        have fD := frozen_of ((hB.block V.heap.size hVU).trans HBD.out) 0
        simp only [List.getElem?_toArray, List.getElem?_cons_zero] at zD
        have hwr : IntKind.i64.wrap ((dy : Int) + 1) = ((dy + 1 : Nat) : Int) := by rw [IntKind.wrap_i64]; omega
        clear hbxB hB
        have HFIN : Hid (∀ M : Int, M = ((max ms dy + 1 : Nat) : Int) → (W2.setCell ⟨V.heap.size, 0, none⟩ (.int .i64 M)).heap[V2.heap.size]? = U.heap[V2.heap.size]? ∧ DpJ V (fd gD W5 h) (kids W5 (⟨some ⟨xb, xo, none⟩, xn, xc⟩ : Rl)) (s ++ [(⟨some ⟨yb, yo, none⟩, yn, yc⟩ : Rl)]) Pr2 (W2.setCell ⟨V.heap.size, 0, none⟩ (.int .i64 M)) ∧ KeptP Pr2 U (W2.setCell ⟨V.heap.size, 0, none⟩ (.int .i64 M))) := by
          rintro M rfl
          obtain ⟨r9, hr9⟩ := HLU.out
          have hB9 := HB2.out
          have hsB := hB9.size
          refine ⟨(heap_set_other _ (by omega)).trans (hB9.block _ (heap_lt hr9)), ⟨?_, HPRE.out, (HJ1.out.below.trans (hB9.mono hVs)).setCell (Nat.le_refl _) _, HJ1.out.nD⟩, ⟨by simp; omega, fun k hk hlk => (heap_set_other _ (fun e : k = V.heap.size => HJ1.out.nD (by rw [← e]; exact hk))).trans (hB9.block k hlk)⟩⟩
          rw [HMX.out]
          exact heap_set_same _ ((hB9.block V.heap.size hVU).trans HBD.out)
        clear HB2 HJ1 HPRE HMX HLU HBD
        gi_wp2
        all_goals exact HFIN.out _ (by omega)
    case idone =>
      rintro ys U rfl j1
      obtain ⟨dx, hdx⟩ : ∃ dx, fd gD W5 h (⟨some ⟨xb, xo, none⟩, xn, xc⟩ : Rl) = dx := ⟨_, rfl⟩
      have hdk : dpl W5 h (pk (⟨some ⟨xb, xo, none⟩, xn, xc⟩ : Rl)) = dx := (dpl_pk HSX.out).trans hdx
      have hms : mx ((kids W5 (⟨some ⟨xb, xo, none⟩, xn, xc⟩ : Rl)).map (fd gD W5 h)) + 1 = dx := (FAM.out.deep _ HSX.out).symm.trans hdx
      have hboxD := j1.boxD
      rw [hms] at hboxD
      have hplU : ∀ W', Below U.heap.size U W' → Below V.heap.size V W' := fun W' hB' => j1.below.trans (hB'.mono j1.below.size)
      have HPUT : Hid (∀ W', Below U.heap.size U W' → ∃ w9, (Instr.mapUpdate 35 (.map (some NM)) (.agg #[.iface ptrT (.pointer (some ⟨xb, xo, none⟩)), .int .i64 (xn : Int)]) (.int .i64 (dx : Int))).run Try.prog W' = .ok () w9 ∧ DMap w9 NM (dpl W5 h) (addK KS ((⟨xb, xo, none⟩, xn) : Pk)) ∧ Oth NM W' w9) := fun W' hB' => by
        have h9 := DMap.put (HMK.out.keep ((hplU W' hB').block NM (by omega))) (HPLK.out W' (hplU W' hB') (⟨some ⟨xb, xo, none⟩, xn, xc⟩ : Rl) HSX.out) (HPKS.out W' (hplU W' hB'))
        rw [hdk] at h9
        exact h9
      have hVs := j1.below.size
      have hbxB := cell_of ((j1.below.block NB (by omega)).trans HI.out.boxB) 0
      have hbxD := cell_of hboxD 0
      simp only [List.getElem?_toArray, List.getElem?_cons_zero] at hbxB hbxD
      have hNBU : NB < U.heap.size := by omega
      have hVU : V.heap.size < U.heap.size := heap_lt hboxD
      have HJ1 := hide j1
      clear j1 hdx hdk hms hboxD hplU
      gi_wp2_with fail
      refine wpIn_region_inv (fun L a' W' => ∃ l0 l1 l2 l3 l4 : Bool, L = #[l0, l1, l2, l3, l4] ∧ ∃ v33 v34 v35 v36 : Value, a' = { tmps := #[(.agg #[.int .i64 x.k, .string x.s, .int .i64 x.n, .slice o1 x.l.length c1]), (.pointer (some ⟨w.heap.size, 0, none⟩)), (.pointer (some ⟨NR, 0, none⟩)), (.pointer (some ⟨NB, 0, none⟩)), (.slice (some ⟨NW, 0, none⟩) 1 1), (.slice (some ⟨xb, xo, none⟩) xn xc), (.pointer (some ⟨V.heap.size, 0, none⟩)), undef, undef, undef, (.map (some NM)), (.agg #[.int .i64 x.k, .string x.s, .int .i64 x.n, .slice o1 x.l.length c1]), (.slice (some ⟨NW, 0, none⟩) 1 1), (.slice (some ⟨NW, 0, none⟩) 1 1), (.slice (some ⟨NL, 0, none⟩) 1 1), (.func (.func 15) #[] #[.pointer (some ⟨W5.heap.size, 0, none⟩)]), (.slice (some ⟨xb, xo, none⟩) xn xc), (.slice (some ⟨xb, xo, none⟩) xn xc), (.func (.func 19) #[] #[.pointer (some ⟨V.heap.size + 1, 0, none⟩)]), undef, undef, undef, undef, undef, undef, undef, undef, undef, undef, undef, undef, undef, undef, v33, v34, v35, v36, undef, undef, undef, undef], defers := [] } ∧ (l0 = true → v33 = .map (some NM)) ∧ (l1 = true → v34 = (.slice (some ⟨xb, xo, none⟩) xn xc)) ∧ (l2 = true → v35 = (.agg #[.iface ptrT (.pointer (some ⟨xb, xo, none⟩)), .int .i64 (xn : Int)])) ∧ (l3 = true → v36 = .int .i64 (dx : Int)) ∧ ((l4 = false ∧ Below U.heap.size U W') ∨ (l0 = true ∧ l1 = true ∧ l2 = true ∧ l3 = true ∧ l4 = true ∧ ∃ Y ks, Below U.heap.size U Y ∧ DMap W' NM (dpl W5 h) (addK ks ((⟨xb, xo, none⟩, xn) : Pk)) ∧ (∀ k, k ∈ ks ↔ ∃ z ∈ pre, pk z = k) ∧ Oth NM Y W'))) (by kernel_rfl) (by kernel_rfl) ?_ ?_ ?_
      · exact ⟨false, false, false, false, false, rfl, _, _, _, _, rfl, (fun h => by cases h), (fun h => by cases h), (fun h => by cases h), (fun h => by cases h), .inl ⟨rfl, (Below.refl _ _).drew⟩⟩
      · rintro L a' W' hsz ⟨l0, l1, l2, l3, l4, rfl, v33, v34, v35, v36, rfl, c0, c1, c2, c3, hB⟩ i hi
        have hlt9 : i < 5 := ready_lt hi
        have hcase : i = 0 ∨ i = 1 ∨ i = 2 ∨ i = 3 ∨ i = 4 := by omega
        rcases hcase with rfl | rfl | rfl | rfl | rfl
        · have n0 : l0 = false := (mem_ready.1 hi).1
          clear hi
          obtain ⟨n4, hB⟩ : l4 = false ∧ Below U.heap.size U W' := hB.resolve_right fun hh => by have := hh.1; rw [n0] at this; cases this
          have z0 := (hB.cell (p := ⟨NB, 0, none⟩) hNBU).trans hbxB
          refine wpOpIn_step rfl (fun K hK => ?_)
          go_simp
          refine hK _ _ ⟨true, l1, l2, l3, l4, rfl, _, _, _, _, rfl, (fun _ => rfl), c1, c2, c3, (.inl ⟨n4, hB⟩)⟩
        · have n1 : l1 = false := (mem_ready.1 hi).1
          clear hi
          obtain ⟨n4, hB⟩ : l4 = false ∧ Below U.heap.size U W' := hB.resolve_right fun hh => by have := hh.2.1; rw [n1] at this; cases this
          refine wpOpIn_step rfl (fun K hK => ?_)
          go_simp
          refine hK _ _ ⟨l0, true, l2, l3, l4, rfl, _, _, _, _, rfl, c0, (fun _ => rfl), c2, c3, (.inl ⟨n4, hB⟩)⟩
        · have d1 : l1 = true := ready_dep 1 hi (by kernel_rfl)
          obtain rfl : v34 = (.slice (some ⟨xb, xo, none⟩) xn xc) := c1 d1
          have n2 : l2 = false := (mem_ready.1 hi).1
          clear hi
          obtain ⟨n4, hB⟩ : l4 = false ∧ Below U.heap.size U W' := hB.resolve_right fun hh => by have := hh.2.2.1; rw [n2] at this; cases this
          refine wpOpIn_step rfl (fun K hK => ?_)
          go_simp
          first | refine ⟨trivial, (fun h => by cases h), ?_⟩ | refine ⟨(fun h => by cases h), ?_⟩ | refine ⟨trivial, ?_⟩
          refine ((callsIn_wide (n := 2)).2 (place_any xb xo xn xc xn0 xnm xnc W')).mono ?_
          rintro e w1 ⟨rfl, hb⟩
          refine hK _ _ ⟨l0, l1, true, l3, l4, rfl, _, _, _, _, rfl, c0, c1, (fun _ => rfl), c3, (.inl ⟨n4, (hB.trans (hb.mono hB.size))⟩)⟩
        · have n3 : l3 = false := (mem_ready.1 hi).1
          clear hi
          obtain ⟨n4, hB⟩ : l4 = false ∧ Below U.heap.size U W' := hB.resolve_right fun hh => by have := hh.2.2.2.1; rw [n3] at this; cases this
          have z0 := (hB.cell (p := ⟨V.heap.size, 0, none⟩) hVU).trans hbxD
          refine wpOpIn_step rfl (fun K hK => ?_)
          go_simp
          refine hK _ _ ⟨l0, l1, l2, true, l4, rfl, _, _, _, _, rfl, c0, c1, c2, (fun _ => rfl), (.inl ⟨n4, hB⟩)⟩
        · have d0 : l0 = true := ready_dep 0 hi (by kernel_rfl)
          have d1 : l1 = true := ready_dep 1 hi (by kernel_rfl)
          have d2 : l2 = true := ready_dep 2 hi (by kernel_rfl)
          have d3 : l3 = true := ready_dep 3 hi (by kernel_rfl)
          obtain rfl : v33 = .map (some NM) := c0 d0
          obtain rfl : v34 = (.slice (some ⟨xb, xo, none⟩) xn xc) := c1 d1
          obtain rfl : v35 = (.agg #[.iface ptrT (.pointer (some ⟨xb, xo, none⟩)), .int .i64 (xn : Int)]) := c2 d2
          obtain rfl : v36 = .int .i64 (dx : Int) := c3 d3
          have n4 : l4 = false := (mem_ready.1 hi).1
          clear hi
          obtain ⟨-, hB⟩ : l4 = false ∧ Below U.heap.size U W' := hB.resolve_right fun hh => by have := hh.2.2.2.2.1; rw [n4] at this; cases this
          obtain ⟨w9, hu, hd9, ho9⟩ := HPUT.out W' hB
          refine wpOpIn_step rfl (fun K hK => ?_)
          go_simp
          refine hK _ _ ⟨l0, l1, l2, l3, true, rfl, _, _, _, _, rfl, c0, c1, c2, c3, (.inr ⟨d0, d1, d2, d3, rfl, W', KS, hB, hd9, HKS.out, ho9⟩)⟩
      · rintro L a' W2 hsz ⟨l0, l1, l2, l3, l4, rfl, v33, v34, v35, v36, rfl, c0, c1, c2, c3, hB⟩ hall
        have e0 : l0 = true := hall 0 (by show 0 < 5; omega)
        have e1 : l1 = true := hall 1 (by show 1 < 5; omega)
        have e2 : l2 = true := hall 2 (by show 2 < 5; omega)
        have e3 : l3 = true := hall 3 (by show 3 < 5; omega)
        have e4 : l4 = true := hall 4 (by show 4 < 5; omega)
        obtain rfl : v33 = .map (some NM) := c0 e0
        obtain rfl : v34 = (.slice (some ⟨xb, xo, none⟩) xn xc) := c1 e1
        obtain rfl : v35 = (.agg #[.iface ptrT (.pointer (some ⟨xb, xo, none⟩)), .int .i64 (xn : Int)]) := c2 e2
        obtain rfl : v36 = .int .i64 (dx : Int) := c3 e3
        clear hall c0 c1 c2 c3
        obtain ⟨-, -, -, -, -, Y, ks, hBY, hdY, hks, hoY⟩ := hB.resolve_left (fun hh => by have := hh.1; rw [e4] at this; cases this)
        clear hB
        have hk : ∀ k, k < V.heap.size → k ≠ NM → W2.heap[k]? = V.heap[k]? := fun k h1 h2 => (hoY.block k ⟨by have := hBY.size; omega, h2⟩).trans ((hBY.block k (by omega)).trans (HJ1.out.below.block k h1))
        have hsz9 : V.heap.size ≤ W2.heap.size := Nat.le_trans hVs (Nat.le_trans hBY.size hoY.size)
        have h1 := HI.out
        have hfin : ((W2.heap[W7.heap.size]? = V.heap[W7.heap.size]? ∧ W2.heap[W7.heap.size + 1]? = V.heap[W7.heap.size + 1]?) ∧ DpI K' w W5 h NR NM NB (pre ++ [(⟨some ⟨xb, xo, none⟩, xn, xc⟩ : Rl)]) Pr W2 ∧ KeptP Pr V W2) := by
          refine ⟨⟨hk _ (by omega) (by omega), hk _ (by omega) (by omega)⟩, ⟨(hk _ (by omega) (by omega)).trans h1.boxR, (hk _ (by omega) (by omega)).trans h1.boxB, ⟨_, hdY, fun k => ?_⟩, fun z hz => ?_, h1.nR, h1.nM, h1.nB, fun k hk2 => (hk k (by have := (HK5.out k hk2).1; omega) (fun e => ?_)).trans (h1.kept k hk2), ?_⟩, ⟨hsz9, fun k hk2 hlk => hk k hlk (fun e : k = NM => h1.nM (by rw [← e]; exact hk2))⟩⟩
          · rw [mem_addK, hks]
            constructor
            · rintro (⟨z, hz, ez⟩ | rfl)
              · exact ⟨z, by simp [hz], ez⟩
              · exact ⟨(⟨some ⟨xb, xo, none⟩, xn, xc⟩ : Rl), by simp, rfl⟩
            · rintro ⟨z, hz, ez⟩
              rcases List.mem_append.1 hz with h2 | h2
              · exact .inl ⟨z, h2, ez⟩
              · rw [List.mem_singleton] at h2
                exact .inr (by rw [← ez, h2]; rfl)
          · rcases List.mem_append.1 hz with h2 | h2
            · exact h1.subs z h2
            · rw [List.mem_singleton.1 h2]
              exact HSX.out
          · rcases hKN k hk2 with h5 | h5 <;> omega
          · have hY := h1.below.trans ((HJ1.out.below.mono h1.below.size).trans (hBY.mono (Nat.le_trans h1.below.size hVs)))
            exact hY.trans ⟨hoY.os, hoY.tape, hoY.output, hoY.size, fun k hk2 => hoY.block k ⟨by have := hY.size; omega, by omega⟩⟩
        have HFIN := hide hfin
        clear hfin hk hks hdY hBY hoY h1
        first | exact HFIN.out | (gi_wp2; exact HFIN.out)
    case istop =>
      rintro c ps U h1
      exact h1.elim
  case done =>
    rintro ys W ⟨z, hz, ez⟩ h1 hd
    obtain ⟨KS, hmapKS, hKSm⟩ := h1.map
    have hkey : ((⟨NW, 0, none⟩, 1) : Pk) ∈ KS := (hKSm _).2 ⟨z, hz, ez⟩
    have hpl : ∀ W', Below W.heap.size W W' → ∀ z, Sub K' W5 h z → PlainAt W' (pk z).1 := fun W' hB' z hz => by
      obtain ⟨zb, zo, ez, kz, -⟩ := kid_facts hz
      obtain ⟨hzl, c, e, h9⟩ := HK5.out zb kz
      have h8 := (h1.kept zb kz).trans h9
      unfold pk
      rw [ez]
      exact ⟨c, e, (hB'.block zb (heap_lt h8)).trans h8⟩
    have HLK : Hid (∀ W', Below W.heap.size W W' → (Instr.lookup 35 (.map (some NM)) (.agg #[.iface ptrT (.pointer (some ⟨NW, 0, none⟩)), .int .i64 (1 : Int)]) false).run Try.prog W' = .ok (.int .i64 (dz : Int)) W') := fun W' hB' => by
      have h9 := (DMap.look (hmapKS.keep (hB'.block NM hmapKS.lt)) (hpl W' hB' _ HSUB.out) (fun q hq => by
        obtain ⟨z, hz, rfl⟩ := (hKSm q).1 hq
        exact hpl W' hB' z (h1.subs z hz)) hkey).2
      have h8 : dpl W5 h (pk (⟨some ⟨NW, 0, none⟩, 1, 1⟩ : Rl)) = dz := HDZ.out
      rw [h8] at h9
      exact h9
    have hbxB := cell_of h1.boxB 0
    have hbxR := cell_of h1.boxR 0
    simp only [List.getElem?_toArray, List.getElem?_cons_zero] at hbxB hbxR
    have hNBW : NB < W.heap.size := heap_lt h1.boxB
    have hNRW : NR < W.heap.size := heap_lt h1.boxR
    have hone0 : (1 : Nat) ≠ 0 := by omega
    have hone1 : 1 ≤ maxLen := by unfold maxLen; omega
    have HI := hide h1
    have HD := hide hd
    clear h1 hd hmapKS hKSm hkey hpl hz ez
    gi_wp2_with fail
    refine wpIn_region_inv (fun L a' W' => ∃ l0 l1 l2 l3 l4 : Bool, L = #[l0, l1, l2, l3, l4] ∧ ∃ v37 v38 v39 v40 : Value, a' = { tmps := #[(.agg #[.int .i64 x.k, .string x.s, .int .i64 x.n, .slice o1 x.l.length c1]), (.pointer (some ⟨w.heap.size, 0, none⟩)), (.pointer (some ⟨NR, 0, none⟩)), (.pointer (some ⟨NB, 0, none⟩)), (.slice (some ⟨NW, 0, none⟩) 1 1), undef, undef, undef, undef, undef, (.map (some NM)), (.agg #[.int .i64 x.k, .string x.s, .int .i64 x.n, .slice o1 x.l.length c1]), (.slice (some ⟨NW, 0, none⟩) 1 1), (.slice (some ⟨NW, 0, none⟩) 1 1), (.slice (some ⟨NL, 0, none⟩) 1 1), (.func (.func 15) #[] #[.pointer (some ⟨W5.heap.size, 0, none⟩)]), undef, undef, undef, undef, undef, undef, undef, undef, undef, undef, undef, undef, undef, undef, undef, undef, undef, undef, undef, undef, undef, v37, v38, v39, v40], defers := [{ target := .collected W7.heap.size, args := #[] }] } ∧ (l0 = true → v37 = .map (some NM)) ∧ (l1 = true → v38 = (.slice (some ⟨NW, 0, none⟩) 1 1)) ∧ (l2 = true → v39 = (.agg #[.iface ptrT (.pointer (some ⟨NW, 0, none⟩)), .int .i64 (1 : Int)])) ∧ (l3 = true → v40 = .int .i64 (dz : Int)) ∧ ((l4 = false ∧ Below W.heap.size W W') ∨ (l0 = true ∧ l1 = true ∧ l2 = true ∧ l3 = true ∧ l4 = true ∧ ∃ Y, Below W.heap.size W Y ∧ W' = Y.setCell ⟨NR, 0, none⟩ (.int .i64 (dz : Int))))) (by kernel_rfl) (by kernel_rfl) ?_ ?_ ?_
    · exact ⟨false, false, false, false, false, rfl, _, _, _, _, rfl, (fun h => by cases h), (fun h => by cases h), (fun h => by cases h), (fun h => by cases h), .inl ⟨rfl, (Below.refl _ _).drew⟩⟩
    · rintro L a' W' hsz ⟨l0, l1, l2, l3, l4, rfl, v37, v38, v39, v40, rfl, c0, c1, c2, c3, hB⟩ i hi
      have hlt9 : i < 5 := ready_lt hi
      have hcase : i = 0 ∨ i = 1 ∨ i = 2 ∨ i = 3 ∨ i = 4 := by omega
      rcases hcase with rfl | rfl | rfl | rfl | rfl
      · have n0 : l0 = false := (mem_ready.1 hi).1
        clear hi
        obtain ⟨n4, hB⟩ : l4 = false ∧ Below W.heap.size W W' := hB.resolve_right fun hh => by have := hh.1; rw [n0] at this; cases this
        have z0 := (hB.cell (p := ⟨NB, 0, none⟩) hNBW).trans hbxB
        refine wpOpIn_step rfl (fun K hK => ?_)
        go_simp
        refine hK _ _ ⟨true, l1, l2, l3, l4, rfl, _, _, _, _, rfl, (fun _ => rfl), c1, c2, c3, (.inl ⟨n4, hB⟩)⟩
      · have n1 : l1 = false := (mem_ready.1 hi).1
        clear hi
        obtain ⟨n4, hB⟩ : l4 = false ∧ Below W.heap.size W W' := hB.resolve_right fun hh => by have := hh.2.1; rw [n1] at this; cases this
        refine wpOpIn_step rfl (fun K hK => ?_)
        go_simp
        refine hK _ _ ⟨l0, true, l2, l3, l4, rfl, _, _, _, _, rfl, c0, (fun _ => rfl), c2, c3, (.inl ⟨n4, hB⟩)⟩
      · have d1 : l1 = true := ready_dep 1 hi (by kernel_rfl)
        obtain rfl : v38 = (.slice (some ⟨NW, 0, none⟩) 1 1) := c1 d1
        have n2 : l2 = false := (mem_ready.1 hi).1
        clear hi
        obtain ⟨n4, hB⟩ : l4 = false ∧ Below W.heap.size W W' := hB.resolve_right fun hh => by have := hh.2.2.1; rw [n2] at this; cases this
        refine wpOpIn_step rfl (fun K hK => ?_)
        go_simp
        first | refine ⟨trivial, (fun h => by cases h), ?_⟩ | refine ⟨(fun h => by cases h), ?_⟩ | refine ⟨trivial, ?_⟩
        refine ((callsIn_wide (n := 4)).2 (place_any NW 0 1 1 hone0 hone1 (Nat.le_refl _) W')).mono ?_
        rintro e w1 ⟨rfl, hb⟩
        refine hK _ _ ⟨l0, l1, true, l3, l4, rfl, _, _, _, _, rfl, c0, c1, (fun _ => rfl), c3, (.inl ⟨n4, (hB.trans (hb.mono hB.size))⟩)⟩
      · have d0 : l0 = true := ready_dep 0 hi (by kernel_rfl)
        have d2 : l2 = true := ready_dep 2 hi (by kernel_rfl)
        obtain rfl : v37 = .map (some NM) := c0 d0
        obtain rfl : v39 = (.agg #[.iface ptrT (.pointer (some ⟨NW, 0, none⟩)), .int .i64 (1 : Int)]) := c2 d2
        have n3 : l3 = false := (mem_ready.1 hi).1
        clear hi
        obtain ⟨n4, hB⟩ : l4 = false ∧ Below W.heap.size W W' := hB.resolve_right fun hh => by have := hh.2.2.2.1; rw [n3] at this; cases this
        have hlk := HLK.out W' hB
        refine wpOpIn_step rfl (fun K hK => ?_)
        go_simp
        refine hK _ _ ⟨l0, l1, l2, true, l4, rfl, _, _, _, _, rfl, c0, c1, c2, (fun _ => rfl), (.inl ⟨n4, hB⟩)⟩
      · have d0 : l0 = true := ready_dep 0 hi (by kernel_rfl)
        have d1 : l1 = true := ready_dep 1 hi (by kernel_rfl)
        have d2 : l2 = true := ready_dep 2 hi (by kernel_rfl)
        have d3 : l3 = true := ready_dep 3 hi (by kernel_rfl)
        obtain rfl : v37 = .map (some NM) := c0 d0
        obtain rfl : v38 = (.slice (some ⟨NW, 0, none⟩) 1 1) := c1 d1
        obtain rfl : v39 = (.agg #[.iface ptrT (.pointer (some ⟨NW, 0, none⟩)), .int .i64 (1 : Int)]) := c2 d2
        obtain rfl : v40 = .int .i64 (dz : Int) := c3 d3
        have n4 : l4 = false := (mem_ready.1 hi).1
        clear hi
        obtain ⟨-, hB⟩ : l4 = false ∧ Below W.heap.size W W' := hB.resolve_right fun hh => by have := hh.2.2.2.2.1; rw [n4] at this; cases this
        have zR := (hB.cell (p := ⟨NR, 0, none⟩) hNRW).trans hbxR
        have fR := frozen_of ((hB.block NR hNRW).trans HI.out.boxR) 0
        refine wpOpIn_step rfl (fun K hK => ?_)
        go_simp
        refine hK _ _ ⟨l0, l1, l2, l3, true, rfl, _, _, _, _, rfl, c0, c1, c2, c3, (.inr ⟨d0, d1, d2, d3, rfl, W', hB, rfl⟩)⟩
    · rintro L a' W2 hsz ⟨l0, l1, l2, l3, l4, rfl, v37, v38, v39, v40, rfl, c0, c1, c2, c3, hB⟩ hall
      have e0 : l0 = true := hall 0 (by show 0 < 5; omega)
      have e1 : l1 = true := hall 1 (by show 1 < 5; omega)
      have e2 : l2 = true := hall 2 (by show 2 < 5; omega)
      have e3 : l3 = true := hall 3 (by show 3 < 5; omega)
      have e4 : l4 = true := hall 4 (by show 4 < 5; omega)
      obtain rfl : v37 = .map (some NM) := c0 e0
      obtain rfl : v38 = (.slice (some ⟨NW, 0, none⟩) 1 1) := c1 e1
      obtain rfl : v39 = (.agg #[.iface ptrT (.pointer (some ⟨NW, 0, none⟩)), .int .i64 (1 : Int)]) := c2 e2
      obtain rfl : v40 = .int .i64 (dz : Int) := c3 e3
      clear hall c0 c1 c2 c3
      obtain ⟨-, -, -, -, -, Y, hBY, rfl⟩ := hB.resolve_left (fun hh => by have := hh.1; rw [e4] at this; cases this)
      clear hB
      have h2 : Below w.heap.size w (Y.setCell ⟨NR, 0, none⟩ (.int .i64 (dz : Int))) := (HI.out.below.trans (hBY.mono HI.out.below.size)).setCell (by show w.heap.size ≤ NR; omega) _
      have hd2 : (Y.setCell ⟨NR, 0, none⟩ (.int .i64 (dz : Int))).heap[W7.heap.size]? = some (.deferred (some [])) := (heap_set_other _ (by omega)).trans ((hBY.block _ (heap_lt HD.out)).trans HD.out)
      have hr2 : ((Y.setCell ⟨NR, 0, none⟩ (.int .i64 (dz : Int))).putObj W7.heap.size (.deferred none)).heap[NR]? = some (.cells #[.int .i64 (dz : Int)] 3 (0, 0)) := (World.putObj_heap_other (by omega)).trans (heap_set_same _ ((hBY.block NR hNRW).trans HI.out.boxR))
      gi_wp2
      refine ⟨by simp, .inl ⟨_, _, rfl, run_takeDeferred hd2, .int .i64 (dz : Int), res_int _ rfl hr2, by rw [HDZ2.out], ?_⟩⟩
      exact ⟨h2.os, h2.tape, h2.output, by simpa [World.putObj] using h2.size, fun k hk => (World.putObj_heap_other (by omega)).trans (h2.block k hk)⟩
  case stop =>
    rintro c pre W h1 _
    exact h1.elim
end Go.Proofs.Ytifambhfggodaaa.Rs
