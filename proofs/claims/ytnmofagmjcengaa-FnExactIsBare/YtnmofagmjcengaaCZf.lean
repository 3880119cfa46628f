/- The program's IsBare: whether no definition of an expression has Pars or a Where. -/
import Derived.Test.YtnmofagmjcengaaCZe
import Derived.Test.YtnmofagmjcengaaCZc
import Derived.Test.YtnmofagmjcengaaXD
namespace Go.Proofs.Ytnmofagmjcengaa.Br
open Go.ChangeShapes Go.WideShapes Go.ChangeAt Go.RowKit Go.Shelf Go.Proofs.Ytnmofagmjcengaa.It Go.Proofs.Ytnmofagmjcengaa.Vo
attribute [local go_sem] Oper.semAt_some
set_option linter.unusedVariables false

theorem rd_same {K : Nat → Prop} {w w' : World} {h : Nat} {x : Ls} {xs : List Tr} (hb : Stays K w w') (hr : Rd K w h x xs) : Rd K w' h x xs := by
  obtain ⟨h1, h2, h3, h4, h5⟩ := hr
  refine ⟨h1, h2, h3, h4, h5.frame hb (fun _ h => h) ?_⟩
  have hf := reads_frame (K := K) (K' := K) hb (fun _ h => h) h
  unfold rdI
  split
  · exact hf.1
  · split
    · exact hf.2.1
    · exact hf.2.2
theorem bad_same {w w' : World} {x : Ls} {b off : Nat} (hx : x.o = some ⟨b, off, none⟩) (hb : w'.heap[b]? = w.heap[b]?) : bad w' x ↔ bad w x := by
  have hl : ∀ p, lenAt w' b p = lenAt w b p := fun p => by unfold lenAt; rw [World.cell?_of_block (a := ⟨b, p, none⟩) hb]
  unfold bad
  constructor
  · rintro ⟨e, a, ea, j, hj, hq⟩
    rw [hx] at ea
    cases ea
    exact ⟨e, _, hx, j, hj, by simpa only [hl] using hq⟩
  · rintro ⟨e, a, ea, j, hj, hq⟩
    rw [hx] at ea
    cases ea
    exact ⟨e, _, hx, j, hj, by simpa only [hl] using hq⟩
set_option maxHeartbeats 1000000 in
theorem listsFromF (v : Value) (T : TypeId) (w : World) : Calls Try.prog 16 #[.iface T v] w fun e w' => e = .returned (.func (.func 25) #[] #[.pointer (some ⟨w.heap.size, 0, none⟩)]) ∧ w' = w.alloc (.cells #[.iface T v] 52) := by
  go_enter Try.func16, Try.ntmps16
  go_wp2
  go_ret
  exact ⟨rfl, rfl⟩
theorem res_bool {w : World} {g : Nat} {b : Bool} (tmps : Array Value) (ht : tmps.getD 2 undef = .pointer (some ⟨g, 0, none⟩)) (hg : w.heap[g]? = some (.cells #[.bool b] 4 (0, 0))) : (results Try.f7 tmps).run Try.prog w = .ok (.bool b) w := by
  have hc : w.cell? ⟨g, 0, none⟩ = some (.bool b) := cell_of hg 0
  have ht' : tmps[2]?.getD undef = .pointer (some ⟨g, 0, none⟩) := by simpa using ht
  simp [results, ht', asAddr, loadVar, go_sem, hc]

set_option maxRecDepth 100000 in
set_option maxHeartbeats 4000000 in
theorem implIsBare_any {K : Nat → Prop} {h : Nat} (x : Tr) (cs : List Value) (w : World) (hr : (reads K w h).ex x cs) (hw : (wts h).ex x ≤ 1048576) (hK : ∀ b, K b → b < w.heap.size ∧ PlainAt w ⟨b, 0, none⟩) :
    Calls Try.prog 7 #[.agg cs.toArray] w fun e w' => e = .returned (.bool ((ibs h).ex x)) ∧ Below w.heap.size w w' := by
  obtain ⟨o1, c1, o2, c2, o3, c3, rfl⟩ := ex_form hr
  obtain ⟨w1, hw1⟩ : ∃ w1, ((w.alloc (.cells #[.int .i64 x.k, .string x.s, .int .i64 x.n, .slice o1 x.l.length c1, .slice o2 x.ds.length c2, .slice o3 x.al.length c3] 33)).alloc (.cells #[.bool false] 4)).alloc (.cells #[.int .i64 x.k, .string x.s, .int .i64 x.n, .slice o1 x.l.length c1, .slice o2 x.ds.length c2, .slice o3 x.al.length c3] 33) = w1 := ⟨_, rfl⟩
  have hb1 : Below w.heap.size w w1 := by rw [← hw1]; exact (((Below.refl _ w).alloc (Nat.le_refl _) _).alloc (by simp) _).alloc (by simp; omega) _
  have hs1 : w1.heap.size = w.heap.size + 3 := by rw [← hw1]; simp
  have hx1 : w1.heap[w.heap.size + 1 + 1]? = some (.cells #[.int .i64 x.k, .string x.s, .int .i64 x.n, .slice o1 x.l.length c1, .slice o2 x.ds.length c2, .slice o3 x.al.length c3] 33 (0, 0)) := by
    rw [← hw1]
    have h9 := heap_alloc_new ((w.alloc (.cells #[.int .i64 x.k, .string x.s, .int .i64 x.n, .slice o1 x.l.length c1, .slice o2 x.ds.length c2, .slice o3 x.al.length c3] 33)).alloc (.cells #[.bool false] 4)) (.cells #[.int .i64 x.k, .string x.s, .int .i64 x.n, .slice o1 x.l.length c1, .slice o2 x.ds.length c2, .slice o3 x.al.length c3] 33)
    rw [World.size_alloc, World.size_alloc] at h9
    exact h9
  have hf1 : w1.heap[w.heap.size + 1]? = some (.cells #[.bool false] 4 (0, 0)) := by
    rw [← hw1]
    exact (Below.heap_alloc _ _ _ (by simp)).trans (heap_alloc2_new w _ _)
  obtain ⟨root, hroot⟩ : ∃ root : Ls, root = ⟨0, some ⟨w.heap.size + 1 + 1, 0, none⟩, 1, 1⟩ := ⟨_, rfl⟩
  have hrd : Rd (fun k => K k ∨ k = w.heap.size + 1 + 1) w1 h root [x] := by
    rw [hroot]
    refine ⟨by show (0 : Nat) < 3; omega, by simp, rfl, ⟨by unfold maxLen; simp, by simp⟩, fun _ => ⟨w.heap.size + 1 + 1, 0, rfl, .inr rfl, by omega, fun i t ht => ?_⟩⟩
    cases i with
    | zero =>
      simp at ht
      subst ht
      refine ⟨[.int .i64 x.k, .string x.s, .int .i64 x.n, .slice o1 x.l.length c1, .slice o2 x.ds.length c2, .slice o3 x.al.length c3], rfl, fun j u hj => ?_, ?_⟩
      rotate_left
      · have h9 := reads_frame (K := K) (K' := fun k => K k ∨ k = w.heap.size + 1 + 1) (Stays.of hb1) (fun _ h => .inl h) h
        exact h9.1 _ _ hr
      · have h9 := cell_of hx1 j
        rw [List.getElem?_toArray] at h9
        show w1.cell? ⟨w.heap.size + 1 + 1, 0 + 0 * 6 + j, none⟩ = some u
        rw [show 0 + 0 * 6 + j = j by omega, h9, hj]
    | succ i => simp at ht
  have hK1 : ∀ k, (K k ∨ k = w.heap.size + 1 + 1) → k < w1.heap.size ∧ PlainAt w1 ⟨k, 0, none⟩ := fun k hk => by
    rcases hk with hk | rfl
    · obtain ⟨h1, c, e, h2⟩ := hK k hk
      exact ⟨by omega, c, e, (hb1.block k h1).trans h2⟩
    · exact ⟨by omega, _, _, hx1⟩
  have hwt : lw (wtI h root.i) [x] ≤ 10000000 := by
    rw [hroot]
    show 1 + ((wts h).ex x + 0) ≤ 10000000
    omega
  obtain ⟨w2, hw2⟩ : ∃ w2, w1.alloc (.cells #[.iface 50 (.slice (some ⟨w.heap.size + 1 + 1, 0, none⟩) 1 1)] 52) = w2 := ⟨_, rfl⟩
  have hb2 : Below w1.heap.size w1 w2 := by rw [← hw2]; exact (Below.refl _ w1).alloc (Nat.le_refl _) _
  have hs2 : w2.heap.size = w.heap.size + 4 := by rw [← hw2]; simp [hs1]
  have hc2 : w2.cell? ⟨w.heap.size + 3, 0, none⟩ = some (.iface (tyOf root.i) (.slice root.o root.n root.c)) := by
    rw [← hw2, hroot, ← hs1]
    exact cell_of (heap_alloc_new w1 _) 0
  have HSEQ := hide (listsFrom_of (fun k => K k ∨ k = w.heap.size + 1 + 1) w1 w2 root h (w.heap.size + 3) [x] (by omega) (fun b hb => hb2.block b (hK1 b hb).1) hK1 hrd hwt ⟨by omega, by omega⟩ hc2)
  have hend : (ibs h).ex x = true ↔ ¬ Bad w1 root := by
    have h1 := rd_bad h root [x] hrd
    rw [hroot] at h1 ⊢
    rw [← h1]
    show _ ↔ ([x].all (ibs h).ex) = true
    simp
  have HEND := hide hend
  have HF1 := hide hf1
  have HX1 := hide hx1
  have HB1 := hide hb1
  have HB2 := hide hb2
  have HKL : Hid (∀ k, (K k ∨ k = w.heap.size + 1 + 1) → k < w1.heap.size) := fun k hk => (hK1 k hk).1
  have hroot0 : root.o = some ⟨w.heap.size + 1 + 1, 0, none⟩ := by rw [hroot]
  clear hend hf1 hx1 hb1 hb2 hc2 hwt hrd hr hw hK hK1
  refine (callsIn_wide (n := 3)).1 ?_
  refine callsIn_of_wp_marks Try.func7 rfl trivial ?_ rfl
  simp only [Try.ntmps7, List.size_toArray, List.length_cons, List.length_nil, Nat.reduceAdd, Nat.reduceSub, Array.replicate_succ, Array.replicate_zero, List.push_toArray, List.append_toArray, List.nil_append, List.cons_append]
  gi_wp2_with fail
  first | refine ⟨trivial, (fun h => by cases h), ?_⟩ | refine ⟨trivial, ?_⟩
  refine ((callsIn_wide (n := 2)).2 (listsFromF _ _ w1)).mono ?_
  rintro e W ⟨rfl, rfl⟩
  rw [hw2, hs1]
  gi_wp2
  refine loop_of (gf := 25) (lb := #[.pointer (some ⟨w.heap.size + 3, 0, none⟩)]) rfl (enters_of Try.func25 (by kernel_rfl) rfl) HSEQ.out (Below.refl _ _) (fun _ => rfl) ?kk
    (fun s Pr W => (∀ y ∈ s, ¬ bad w1 y) ∧ Below w2.heap.size w2 W) (fun c s W => c = .ret ∧ Bad w1 root ∧ W.heap[w.heap.size + 1]? = some (.cells #[.bool false] 4 (0, 0)) ∧ Below w.heap.size w W) ?stab ?but ?butx ?start
    (fun y => { tmps := #[.agg #[.int .i64 x.k, .string x.s, .int .i64 x.n, .slice o1 x.l.length c1, .slice o2 x.ds.length c2, .slice o3 x.al.length c3], .pointer (some ⟨w.heap.size, 0, none⟩), .pointer (some ⟨w.heap.size + 1, 0, none⟩), .iface (tyOf y.i) (.slice y.o y.n y.c), .agg #[.int .i64 x.k, .string x.s, .int .i64 x.n, .slice o1 x.l.length c1, .slice o2 x.ds.length c2, .slice o3 x.al.length c3], .slice (some ⟨w.heap.size + 1 + 1, 0, none⟩) 1 1, .iface 50 (.slice (some ⟨w.heap.size + 1 + 1, 0, none⟩) 1 1), .func (.func 25) #[] #[.pointer (some ⟨w.heap.size + 3, 0, none⟩)], .iface (tyOf y.i) (.slice y.o y.n y.c), undef, undef], defers := [] }) ?assign ?body ?done ?stop
  case kk =>
    intro k hk
    rcases hk with hk | hk
    · have := HKL.out k hk
      omega
    · omega
  case stab =>
    rintro s Pr Pr' A D hc hN hp ⟨h1, h2⟩
    exact ⟨h1, h2.trans (hc.below.mono (by omega))⟩
  case but =>
    rintro s Pr A D hb ⟨h1, h2⟩
    exact ⟨h1, hb.os.trans h2.os, hb.tape.trans h2.tape, hb.output.trans h2.output, by rw [hb.size]; exact h2.size, fun k hk => (hb.block k (by omega)).trans (h2.block k hk)⟩
  case butx =>
    rintro c s A D hb ⟨h1, h2, h3, h4⟩
    exact ⟨h1, h2, (hb.block _ (by omega)).trans h3, hb.os.trans h4.os, hb.tape.trans h4.tape, hb.output.trans h4.output, by rw [hb.size]; exact h4.size, fun k hk => (hb.block k (by omega)).trans (h4.block k hk)⟩
  case start =>
    intro W hW hs
    exact ⟨fun y hy => (by cases hy), hW⟩
  case assign =>
    intro y W Kn hKn
    gi_wp2
    exact hKn
  case body =>
    rintro pre y Pr W ⟨hn, hbw⟩ ⟨⟨hy, zs, hry, hqy⟩, hsub⟩ hN hPl hl hd n1 n2
    have hst : Stays (fun k => K k ∨ k = w.heap.size + 1 + 1) w1 W := ⟨Nat.le_trans HB2.out.size hbw.size, fun b hb hbl => (hbw.block b (by omega)).trans (HB2.out.block b hbl)⟩
    obtain ⟨b, off, eo, kb, hbl, -⟩ := hry.at
    have hbs : bad W y ↔ bad w1 y := bad_same eo (hst.block b kb hbl)
    have HC := hide (hasWhat_any W y zs (rd_same hst hry) hqy)
    have hfw : W.heap[w.heap.size + 1]? = some (.cells #[.bool false] 4 (0, 0)) := (hbw.block _ (by omega)).trans ((HB2.out.block _ (by omega)).trans HF1.out)
    have HFW := hide hfw
    have HN := hide hn
    have HBW := hide hbw
    have HBS := hide hbs
    have HSUB := hide hsub
    clear hst hfw hn hbw hbs hsub hl hd hry eo
    gi_wp2_with fail
    first | refine ⟨trivial, (fun h => by cases h), ?_⟩ | refine ⟨(fun h => by cases h), ?_⟩ | refine ⟨trivial, ?_⟩
    refine CallsIn.inRound _ (((callsIn_wide (n := _)).2 HC.out).mono ?_)
    rintro e V ⟨z, rfl, hz, hb⟩
    have HZ := hide hz
    have HB := hide hb
    have hfv := (hb.block _ (heap_lt HFW.out)).trans HFW.out
    have x0 := cell_of hfv 0
    have f0 := frozen_of hfv 0
    simp only [List.getElem?_toArray, List.getElem?_cons_zero] at x0
    have HFV := hide hfv
    clear hz hb hfv
    have hw2W : w2.heap.size + 2 ≤ W.heap.size := hN
    cases z
    · gi_wp2
      refine ⟨⟨HB.out.block _ (by omega), HB.out.block _ (by omega)⟩, ⟨fun q hq => ?_, HBW.out.trans (HB.out.mono (by omega))⟩, KeptP.of HB.out⟩
      rcases List.mem_append.1 hq with h1 | h1
      · exact HN.out q h1
      · rw [List.mem_singleton] at h1
        subst h1
        intro hbad
        have := HZ.out.2 (HBS.out.2 hbad)
        cases this
    · gi_wp2
      refine ⟨⟨(heap_set_other _ (by omega)).trans (HB.out.block _ (by omega)), (heap_set_other _ (by omega)).trans (HB.out.block _ (by omega))⟩, rfl, HSUB.out (.here y (HBS.out.1 (HZ.out.1 (by simp)))), heap_set_same _ HFV.out, ?_⟩
      have h1 : Below w.heap.size w V := HB1.out.trans ((HB2.out.mono (by omega)).trans ((HBW.out.mono (by omega)).trans (HB.out.mono (by omega))))
      exact h1.setCell (by simp) _
  case done =>
    rintro ys W ⟨⟨v, hv, ev⟩, hcl⟩ ⟨hn, hbw⟩ hd
    have hfw : W.heap[w.heap.size + 1]? = some (.cells #[.bool false] 4 (0, 0)) := (hbw.block _ (by omega)).trans ((HB2.out.block _ (by omega)).trans HF1.out)
    have x0 := cell_of hfw 0
    have f0 := frozen_of hfw 0
    simp only [List.getElem?_toArray, List.getElem?_cons_zero] at x0
    have HT : Hid ((ibs h).ex x = true) := HEND.out.2 fun hb => closed_fine hn hcl root hb v hv ev
    have HFW := hide hfw
    have HBW := hide hbw
    have HD := hide hd
    clear hfw hbw hd hn hcl
    gi_wp2
    have h1 : Below w.heap.size w (W.setCell ⟨w.heap.size + 1, 0, none⟩ (.bool true)) := (HB1.out.trans ((HB2.out.mono (by omega)).trans (HBW.out.mono (by omega)))).setCell (by simp) _
    have hd2 : (W.setCell ⟨w.heap.size + 1, 0, none⟩ (.bool true)).heap[w2.heap.size]? = some (.deferred (some [])) := (heap_set_other _ (by omega)).trans HD.out
    have hr2 : ((W.setCell ⟨w.heap.size + 1, 0, none⟩ (.bool true)).putObj w2.heap.size (.deferred none)).heap[w.heap.size + 1]? = some (.cells #[.bool true] 4 (0, 0)) := (World.putObj_heap_other (by omega)).trans (heap_set_same _ HFW.out)
    refine ⟨by simp, .inl ⟨_, _, rfl, run_takeDeferred hd2, .bool true, res_bool _ rfl hr2, by rw [HT.out], ?_⟩⟩
    exact ⟨h1.os, h1.tape, h1.output, by simpa [World.putObj] using h1.size, fun k hk => (World.putObj_heap_other (by omega)).trans (h1.block k hk)⟩
  case stop =>
    rintro c pre W ⟨rfl, hbad, hfw, hbw⟩ hd
    have HFW := hide hfw
    have HD := hide hd
    clear hfw hd
    gi_wp2
    have hfalse : (ibs h).ex x = false := by
      cases h9 : (ibs h).ex x
      · rfl
      · exact absurd hbad (HEND.out.1 h9)
    have hr2 : (W.putObj w2.heap.size (.deferred none)).heap[w.heap.size + 1]? = some (.cells #[.bool false] 4 (0, 0)) := (World.putObj_heap_other (by omega)).trans HFW.out
    refine ⟨by simp, .inl ⟨_, _, rfl, run_takeDeferred HD.out, .bool false, res_bool _ rfl hr2, by rw [hfalse], ?_⟩⟩
    exact ⟨hbw.os, hbw.tape, hbw.output, by simpa [World.putObj] using hbw.size, fun k hk => (World.putObj_heap_other (by omega)).trans (hbw.block k hk)⟩
end Go.Proofs.Ytnmofagmjcengaa.Br
