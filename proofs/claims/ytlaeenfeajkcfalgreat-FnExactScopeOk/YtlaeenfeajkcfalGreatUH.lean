/- The program's ScopeOk. -/
import Derived.Test.YtlaeenfeajkcfalGreatSN
import Derived.Test.YtlaeenfeajkcfalGreatUE
import Derived.Test.YtlaeenfeajkcfalGreatST
import Derived.Test.YtlaeenfeajkcfalGreatSI
namespace Go.Proofs.YtlaeenfeajkcfalGreat.Fr
open Go.ChangeShapes Go.WideShapes Go.ChangeAt Go.RowKit Go.Proofs.YtlaeenfeajkcfalGreat.Nm Go.Proofs.YtlaeenfeajkcfalGreat.Kn
set_option linter.unusedVariables false

/-- A call that answers a truth. -/
def BlP (b : Bool) (W : World) (e : Ending) (w' : World) : Prop := e = .returned (.bool b) ∧ Below W.heap.size W w'
def MkP (L : List Mk) (W : World) (e : Ending) (w' : World) : Prop := ∃ m, e = .returned (.map (some m)) ∧ MkMap w' m L ∧ Below W.heap.size W w'
set_option maxHeartbeats 2000000 in
set_option maxRecDepth 100000 in
theorem implScopeOk_any {K : Nat → Prop} {w : World} {h : Nat} {x : Tr} {cs : List Value} (hr : prR K w h x cs) (hp : ∀ b, K b → b < w.heap.size ∧ PlainAt w ⟨b, 0, none⟩) (hN : (consL x.l).length ≤ 1048576) (hT : (x.ds.map (wgt h).de).sum ≤ 5000000) (hl : x.ds.length ≤ 5000000) (hll : x.l.length ≤ 10000000)
    (fn fk : Bool) (hfn : fn = true ↔ ∀ d ∈ x.ds, ∀ y, FreT false d y → y ∈ x.ds.map Tr.s) (hfk : fk = true ↔ ∀ d ∈ x.ds, KnT (madeL x.l) false d) :
    Calls Tryz.prog 7 #[.agg cs.toArray] w fun e w' => e = .returned (.bool (progB h x && (fn && (fk && x.l.all (daK (x.l.map Tr.s) h))))) ∧ Below w.heap.size w w' := by
  have hrall : prR AllK w h x cs := prR_frame (K' := AllK) (Stays.refl _ _) (fun _ _ => trivial) h _ _ hr
  have hr0 := hr
  obtain ⟨-, -, -, -, -, o1, c1, o2, c2, rfl, hl1, hl2, q1, q2⟩ := hr
  obtain ⟨V, hV⟩ : ∃ V, w.alloc (.cells #[.slice o1 x.l.length c1, .slice o2 x.ds.length c2] 31) = V := ⟨_, rfl⟩
  have hbV : Below w.heap.size w V := by rw [← hV]; exact (Below.refl _ w).alloc (Nat.le_refl _) _
  have hbox : V.heap[w.heap.size]? = some (.cells #[.slice o1 x.l.length c1, .slice o2 x.ds.length c2] 31 (0, 0)) := by rw [← hV]; exact heap_alloc_new w _
  have HLT : Hid (w.heap.size < V.heap.size) := heap_lt hbox
  have hwd : ∀ d ∈ x.ds, (wgt h).de d ≤ 5000000 := fun d hd => by
    have := sum_mem_le (wgt h).de x.ds d hd
    omega
  have HW : Hid (∀ W, Below V.heap.size V W → Below w.heap.size w W) := fun W hW => hbV.trans (hW.mono hbV.size)
  have hpl : ∀ W, Below V.heap.size V W → ∀ b, K b → b < W.heap.size ∧ PlainAt W ⟨b, 0, none⟩ := fun W hW b hb => by
    obtain ⟨h1, c, e, h2⟩ := hp b hb
    have h9 := HW.out W hW
    exact ⟨Nat.lt_of_lt_of_le h1 h9.size, c, e, (h9.block b h1).trans h2⟩
  have HPO : Hid (∀ W, Below V.heap.size V W → Calls Tryz.prog 17 #[.agg #[.slice o1 x.l.length c1, .slice o2 x.ds.length c2]] W (BlP (progB h x) W)) := fun W hW => implProgOk_any (prR_later (HW.out W hW) h _ _ hrall) hN
  have HNK : Hid (∀ W, Below V.heap.size V W → Calls Tryz.prog 18 #[.slice o2 x.ds.length c2] W (BlP fn W)) := fun W hW => namesKnown_any x.ds o2 c2 (q2.later (HW.out W hW) fun _ _ hh => (reads_later (HW.out W hW) h).2.1 _ _ hh) (hpl W hW) hwd hl fn hfn
  have HMK : Hid (∀ W, Below V.heap.size V W → Calls Tryz.prog 19 #[.agg #[.slice o1 x.l.length c1, .slice o2 x.ds.length c2]] W (MkP (madeL x.l) W)) := fun W hW => (makersOf_any (prR_later (HW.out W hW) h _ _ hr0)).mono fun e w' ⟨m, e1, _, e2, e3⟩ => ⟨m, e1, e2, e3⟩
  have HKA : Hid (∀ W m, Below V.heap.size V W → MkMap W m (madeL x.l) → Calls Tryz.prog 20 #[.map (some m), .slice o2 x.ds.length c2] W (BlP fk W)) := fun W m hW hm => knowAll_any hm x.ds o2 c2 (q2.later (HW.out W hW) fun _ _ hh => (reads_later (HW.out W hW) h).2.1 _ _ hh) (hpl W hW) hT hl fk hfk
  have HTY : Hid (∀ W, Below V.heap.size V W → Calls Tryz.prog 21 #[.slice o1 x.l.length c1] W (BlP (x.l.all (daK (x.l.map Tr.s) h)) W)) := fun W hW => typesKnown_any x.l o1 c1 W (q1.later (HW.out W hW) fun _ _ hh => daR_later (HW.out W hW) h _ _ hh) hll
  have hC : ∀ W, Below V.heap.size V W → W.cell? ⟨w.heap.size, 0, none⟩ = some (.slice o1 x.l.length c1) ∧ W.cell? ⟨w.heap.size, 1, none⟩ = some (.slice o2 x.ds.length c2) := fun W hW =>
    ⟨(hW.cell (p := ⟨w.heap.size, 0, none⟩) (heap_lt hbox)).trans (cell_of hbox 0), (hW.cell (p := ⟨w.heap.size, 1, none⟩) (heap_lt hbox)).trans (cell_of hbox 1)⟩
  have HC := hide hC
  have HBV := hide hbV
  obtain ⟨a0, a1⟩ := hC V (Below.refl _ _)
  generalize hpb : progB h x = pb at HPO ⊢
  generalize hty : x.l.all (daK (x.l.map Tr.s) h) = ty at HTY ⊢
  have HBd : Hid (Below V.heap.size V (V.drewN 1)) := (Below.refl _ _).drew
  have hq0 : ∀ q : Later V, q.w.cell? ⟨w.heap.size, 0, none⟩ = some (.slice o1 x.l.length c1) := fun q => (HC.out q.w q.h).1
  have hq1 : ∀ q : Later V, q.w.cell? ⟨w.heap.size, 1, none⟩ = some (.slice o2 x.ds.length c2) := fun q => (HC.out q.w q.h).2
  have hne0 : Nonempty (Later V) := later_nonempty V
  clear hr0 hrall hp hN hT hl hll hfn hfk hl1 hl2 q1 q2 hbV hbox hwd hpl hpb hty hC
  cases pb
  case false =>
    go_enter Tryz.func7, Tryz.ntmps7
    go_upto_region 1 with fail
    refine wp_region_sch (S := fun w' => ∃ q : Later V, w' = q.w) [([0], 1), ([2, 3, 4], 5), ([6, 7, 8, 10, 11], 9), ([], 12), ([13, 14, 15, 16], 17)] [18, 19] (by kernel_rfl) (by kernel_rfl) (by kernel_rfl) (by kernel_rfl) ⟨⟨_, HBd.out⟩, rfl⟩ ?_
    simp only [wpSch, pickO, consO, List.getElem?_toArray, List.getElem?_cons_succ, List.getElem?_cons_zero]
    repeat (first | go_big_quiet_skip | (go_big_quiet_want; go_big_quiet_op; go_big_quiet_on))
    refine wpQuiet_nil ?_
    go_wp2_with fail
    refine Calls.mono (HPO.out _ HBd.out) ?_
    rintro e w1 ⟨rfl, hb⟩
    have HBw1 : Hid (Below V.heap.size V w1) := HBd.out.trans (hb.mono HBd.out.size)
    clear hb
    go_wp2
    refine ⟨⟨⟨w1, HBw1.out⟩, rfl⟩, ?_⟩
    repeat (first | go_big_quiet_skip | (go_big_quiet_want; go_big_quiet_op; go_big_quiet_on))
    refine wpQuiet_nil ?_
    go_wp2
    refine ⟨⟨⟨w1, HBw1.out⟩, rfl⟩, ?_⟩
    repeat (first | go_big_quiet_skip | (go_big_quiet_want; go_big_quiet_op; go_big_quiet_on))
    refine wpQuiet_nil ?_
    go_wp2
    refine ⟨⟨⟨w1, HBw1.out⟩, rfl⟩, ?_⟩
    repeat (first | go_big_quiet_skip | (go_big_quiet_want; go_big_quiet_op; go_big_quiet_on))
    refine wpQuiet_nil ?_
    go_wp2
    refine ⟨⟨⟨w1, HBw1.out⟩, rfl⟩, ?_⟩
    repeat (first | go_big_quiet_skip | (go_big_quiet_want; go_big_quiet_op; go_big_quiet_on))
    refine wpQuiet_nil ?_
    go_wp2
    refine ⟨⟨⟨w1, HBw1.out⟩, rfl⟩, ?_⟩
    repeat (first | go_big_quiet_skip | (go_big_quiet_want; go_big_quiet_op; go_big_quiet_on))
    refine wpQuiet_nil ?_
    go_wp2
    go_ret
    exact ⟨ret_b (by first | rfl | (cases ty <;> rfl) | (cases fk <;> cases ty <;> rfl) | (cases fn <;> cases fk <;> cases ty <;> rfl)), HW.out _ HBw1.out⟩
  case true =>
    cases fn
    case false =>
      go_enter Tryz.func7, Tryz.ntmps7
      go_upto_region 1 with fail
      refine wp_region_sch (S := fun w' => ∃ q : Later V, w' = q.w) [([0], 1), ([2, 3, 4], 5), ([6, 7, 8, 10, 11], 9), ([], 12), ([13, 14, 15, 16], 17)] [18, 19] (by kernel_rfl) (by kernel_rfl) (by kernel_rfl) (by kernel_rfl) ⟨⟨_, HBd.out⟩, rfl⟩ ?_
      simp only [wpSch, pickO, consO, List.getElem?_toArray, List.getElem?_cons_succ, List.getElem?_cons_zero]
      repeat (first | go_big_quiet_skip | (go_big_quiet_want; go_big_quiet_op; go_big_quiet_on))
      refine wpQuiet_nil ?_
      go_wp2_with fail
      refine Calls.mono (HPO.out _ HBd.out) ?_
      rintro e w1 ⟨rfl, hb⟩
      have HBw1 : Hid (Below V.heap.size V w1) := HBd.out.trans (hb.mono HBd.out.size)
      clear hb
      go_wp2
      refine ⟨⟨⟨w1, HBw1.out⟩, rfl⟩, ?_⟩
      repeat (first | go_big_quiet_skip | (go_big_quiet_want; go_big_quiet_op; go_big_quiet_on))
      refine wpQuiet_nil ?_
      go_wp2_with fail
      refine Calls.mono (HNK.out _ HBw1.out) ?_
      rintro e w2 ⟨rfl, hb⟩
      have HBw2 : Hid (Below V.heap.size V w2) := HBw1.out.trans (hb.mono HBw1.out.size)
      clear hb
      go_wp2
      refine ⟨⟨⟨w2, HBw2.out⟩, rfl⟩, ?_⟩
      repeat (first | go_big_quiet_skip | (go_big_quiet_want; go_big_quiet_op; go_big_quiet_on))
      refine wpQuiet_nil ?_
      go_wp2
      refine ⟨⟨⟨w2, HBw2.out⟩, rfl⟩, ?_⟩
      repeat (first | go_big_quiet_skip | (go_big_quiet_want; go_big_quiet_op; go_big_quiet_on))
      refine wpQuiet_nil ?_
      go_wp2
      refine ⟨⟨⟨w2, HBw2.out⟩, rfl⟩, ?_⟩
      repeat (first | go_big_quiet_skip | (go_big_quiet_want; go_big_quiet_op; go_big_quiet_on))
      refine wpQuiet_nil ?_
      go_wp2
      refine ⟨⟨⟨w2, HBw2.out⟩, rfl⟩, ?_⟩
      repeat (first | go_big_quiet_skip | (go_big_quiet_want; go_big_quiet_op; go_big_quiet_on))
      refine wpQuiet_nil ?_
      go_wp2
      go_ret
      exact ⟨ret_b (by first | rfl | (cases ty <;> rfl) | (cases fk <;> cases ty <;> rfl) | (cases fn <;> cases fk <;> cases ty <;> rfl)), HW.out _ HBw2.out⟩
    case true =>
      cases fk
      case false =>
        go_enter Tryz.func7, Tryz.ntmps7
        go_upto_region 1 with fail
        refine wp_region_sch (S := fun w' => ∃ q : Later V, w' = q.w) [([0], 1), ([2, 3, 4], 5), ([6, 7, 8, 10, 11], 9), ([], 12), ([13, 14, 15, 16], 17)] [18, 19] (by kernel_rfl) (by kernel_rfl) (by kernel_rfl) (by kernel_rfl) ⟨⟨_, HBd.out⟩, rfl⟩ ?_
        simp only [wpSch, pickO, consO, List.getElem?_toArray, List.getElem?_cons_succ, List.getElem?_cons_zero]
        repeat (first | go_big_quiet_skip | (go_big_quiet_want; go_big_quiet_op; go_big_quiet_on))
        refine wpQuiet_nil ?_
        go_wp2_with fail
        refine Calls.mono (HPO.out _ HBd.out) ?_
        rintro e w1 ⟨rfl, hb⟩
        have HBw1 : Hid (Below V.heap.size V w1) := HBd.out.trans (hb.mono HBd.out.size)
        clear hb
        go_wp2
        refine ⟨⟨⟨w1, HBw1.out⟩, rfl⟩, ?_⟩
        repeat (first | go_big_quiet_skip | (go_big_quiet_want; go_big_quiet_op; go_big_quiet_on))
        refine wpQuiet_nil ?_
        go_wp2_with fail
        refine Calls.mono (HNK.out _ HBw1.out) ?_
        rintro e w2 ⟨rfl, hb⟩
        have HBw2 : Hid (Below V.heap.size V w2) := HBw1.out.trans (hb.mono HBw1.out.size)
        clear hb
        go_wp2
        refine ⟨⟨⟨w2, HBw2.out⟩, rfl⟩, ?_⟩
        repeat (first | go_big_quiet_skip | (go_big_quiet_want; go_big_quiet_op; go_big_quiet_on))
        refine wpQuiet_nil ?_
        go_wp2_with fail
        refine Calls.mono (HMK.out _ HBw2.out) ?_
        rintro e w3 ⟨m, rfl, hm, hb⟩
        have HBw3 : Hid (Below V.heap.size V w3) := HBw2.out.trans (hb.mono HBw2.out.size)
        have HM3 := hide hm
        clear hm
        clear hb
        go_wp2
        refine ⟨⟨⟨w3, HBw3.out⟩, rfl⟩, ?_⟩
        repeat (first | go_big_quiet_skip | (go_big_quiet_want; go_big_quiet_op; go_big_quiet_on))
        refine wpQuiet_nil ?_
        go_wp2_with fail
        refine Calls.mono (HKA.out _ _ HBw3.out HM3.out) ?_
        rintro e w4 ⟨rfl, hb⟩
        have HBw4 : Hid (Below V.heap.size V w4) := HBw3.out.trans (hb.mono HBw3.out.size)
        clear hb
        go_wp2
        refine ⟨⟨⟨w4, HBw4.out⟩, rfl⟩, ?_⟩
        repeat (first | go_big_quiet_skip | (go_big_quiet_want; go_big_quiet_op; go_big_quiet_on))
        refine wpQuiet_nil ?_
        go_wp2
        refine ⟨⟨⟨w4, HBw4.out⟩, rfl⟩, ?_⟩
        repeat (first | go_big_quiet_skip | (go_big_quiet_want; go_big_quiet_op; go_big_quiet_on))
        refine wpQuiet_nil ?_
        go_wp2
        go_ret
        exact ⟨ret_b (by first | rfl | (cases ty <;> rfl) | (cases fk <;> cases ty <;> rfl) | (cases fn <;> cases fk <;> cases ty <;> rfl)), HW.out _ HBw4.out⟩
      case true =>
        go_enter Tryz.func7, Tryz.ntmps7
        go_upto_region 1 with fail
        refine wp_region_sch (S := fun w' => ∃ q : Later V, w' = q.w) [([0], 1), ([2, 3, 4], 5), ([6, 7, 8, 10, 11], 9), ([], 12), ([13, 14, 15, 16], 17)] [18, 19] (by kernel_rfl) (by kernel_rfl) (by kernel_rfl) (by kernel_rfl) ⟨⟨_, HBd.out⟩, rfl⟩ ?_
        simp only [wpSch, pickO, consO, List.getElem?_toArray, List.getElem?_cons_succ, List.getElem?_cons_zero]
        repeat (first | go_big_quiet_skip | (go_big_quiet_want; go_big_quiet_op; go_big_quiet_on))
        refine wpQuiet_nil ?_
        go_wp2_with fail
        refine Calls.mono (HPO.out _ HBd.out) ?_
        rintro e w1 ⟨rfl, hb⟩
        have HBw1 : Hid (Below V.heap.size V w1) := HBd.out.trans (hb.mono HBd.out.size)
        clear hb
        go_wp2
        refine ⟨⟨⟨w1, HBw1.out⟩, rfl⟩, ?_⟩
        repeat (first | go_big_quiet_skip | (go_big_quiet_want; go_big_quiet_op; go_big_quiet_on))
        refine wpQuiet_nil ?_
        go_wp2_with fail
        refine Calls.mono (HNK.out _ HBw1.out) ?_
        rintro e w2 ⟨rfl, hb⟩
        have HBw2 : Hid (Below V.heap.size V w2) := HBw1.out.trans (hb.mono HBw1.out.size)
        clear hb
        go_wp2
        refine ⟨⟨⟨w2, HBw2.out⟩, rfl⟩, ?_⟩
        repeat (first | go_big_quiet_skip | (go_big_quiet_want; go_big_quiet_op; go_big_quiet_on))
        refine wpQuiet_nil ?_
        go_wp2_with fail
        refine Calls.mono (HMK.out _ HBw2.out) ?_
        rintro e w3 ⟨m, rfl, hm, hb⟩
        have HBw3 : Hid (Below V.heap.size V w3) := HBw2.out.trans (hb.mono HBw2.out.size)
        have HM3 := hide hm
        clear hm
        clear hb
        go_wp2
        refine ⟨⟨⟨w3, HBw3.out⟩, rfl⟩, ?_⟩
        repeat (first | go_big_quiet_skip | (go_big_quiet_want; go_big_quiet_op; go_big_quiet_on))
        refine wpQuiet_nil ?_
        go_wp2_with fail
        refine Calls.mono (HKA.out _ _ HBw3.out HM3.out) ?_
        rintro e w4 ⟨rfl, hb⟩
        have HBw4 : Hid (Below V.heap.size V w4) := HBw3.out.trans (hb.mono HBw3.out.size)
        clear hb
        go_wp2
        refine ⟨⟨⟨w4, HBw4.out⟩, rfl⟩, ?_⟩
        repeat (first | go_big_quiet_skip | (go_big_quiet_want; go_big_quiet_op; go_big_quiet_on))
        refine wpQuiet_nil ?_
        go_wp2_with fail
        refine Calls.mono (HTY.out _ HBw4.out) ?_
        rintro e w5 ⟨rfl, hb⟩
        have HBw5 : Hid (Below V.heap.size V w5) := HBw4.out.trans (hb.mono HBw4.out.size)
        clear hb
        go_wp2
        refine ⟨⟨⟨w5, HBw5.out⟩, rfl⟩, ?_⟩
        repeat (first | go_big_quiet_skip | (go_big_quiet_want; go_big_quiet_op; go_big_quiet_on))
        refine wpQuiet_nil ?_
        go_wp2
        go_ret
        exact ⟨ret_b (by first | rfl | (cases ty <;> rfl) | (cases fk <;> cases ty <;> rfl) | (cases fn <;> cases fk <;> cases ty <;> rfl)), HW.out _ HBw5.out⟩
end Go.Proofs.YtlaeenfeajkcfalGreat.Fr
