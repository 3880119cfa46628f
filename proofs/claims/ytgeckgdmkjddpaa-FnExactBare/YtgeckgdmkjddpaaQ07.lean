/- Made of QE, JD, QF, RD, RE. -/
import Derived.Test.YtgeckgdmkjddpaaQ06
import Derived.Lib.AppendZeros
import Derived.Test.YtgeckgdmkjddpaaQ05
namespace Go.Proofs.Ytgeckgdmkjddpaa
open Go.RowKit

section
variable {P : Program} {ops : Array Oper} {md : Region.Mode} {S : World → Prop} {Q : Exit → Act → World → Prop}
def consO : Option Oper → List Oper → List Oper
  | none, l => l
  | some o, l => o :: l
def pickO (ops : Array Oper) : List Nat → List Oper
  | [] => []
  | i :: r => consO ops[i]? (pickO ops r)
def listIs : List Nat → Array Bool → Array Bool
  | [], listed => listed
  | i :: r, listed => listIs r (listed.setIfInBounds i true)
def segIs (md : Region.Mode) (ops : Array Oper) : List Nat → Array Bool → Bool
  | [], _ => true
  | i :: r, listed => ((Region.ready md ops listed).contains i && Region.free md ops listed i && ((ops[i]?).map readB).getD false) && segIs md ops r (listed.setIfInBounds i true)
theorem wpM_segI (hs : Region.noSelect ops = true) : ∀ (is : List Nat) (m : Nat) (listed : Array Bool) (a : Act) (w : World), segIs md ops is listed = true → S w →
    wpQuiet P ops S (fun a' => wpM P md ops S Q m (listIs is listed) a' w) (pickO ops is) a → wpM P md ops S Q (is.length + m) listed a w
  | [], m, listed, a, w, _, _, h => by rw [List.length_nil, Nat.zero_add]; exact h
  | i :: is, m, listed, a, w, hB, hS, h => by
    simp only [segIs, Bool.and_eq_true] at hB
    obtain ⟨⟨⟨hr, hf⟩, hrd⟩, hB'⟩ := hB
    cases h0 : ops[i]? with
    | none => rw [h0] at hrd; cases hrd
    | some o =>
      rw [h0] at hrd
      have hp : pickO ops (i :: is) = o :: pickO ops is := by
        show consO ops[i]? (pickO ops is) = _
        rw [h0]
        rfl
      rw [hp] at h
      obtain ⟨v, hy, hK⟩ := yld_of_quiet (by simpa using hrd) h
      have key := wpM_segI hs is m (listed.setIfInBounds i true) (a.put o.dst v) w hB' hS hK
      have e : (i :: is).length + m = is.length + m + 1 := by simp; omega
      rw [e]
      exact wpM_first h0 (Region.noSelect_spec hs) _ listed a w hS (Region.free_spec h0 hf) (by simpa using hr) hy key
def wpSch (P : Program) (ops : Array Oper) (S : World → Prop) (Q : Exit → Act → World → Prop) (fin : List Nat) : List (List Nat × Nat) → Act → World → Prop
  | [], a, w => wpQuiet P ops S (fun a' => Q .normal a' w) (pickO ops fin) a
  | p :: more, a, w => wpQuiet P ops S (fun a' => wpList P ops (fun ex a2 w' => ex = .normal ∧ (S w' ∧ wpSch P ops S Q fin more a2 w')) (pickO ops [p.2]) a' w) (pickO ops p.1) a
def schB (md : Region.Mode) (ops : Array Oper) (fin : List Nat) : List (List Nat × Nat) → Array Bool → Bool
  | [], listed => segIs md ops fin listed && (Region.ready md ops (listIs fin listed)).isEmpty
  | p :: more, listed => (segIs md ops p.1 listed && ((ops[p.2]?).isSome && (Region.ready md ops (listIs p.1 listed) == [p.2]))) && schB md ops fin more ((listIs p.1 listed).setIfInBounds p.2 true)
def schN (fin : List Nat) : List (List Nat × Nat) → Nat
  | [] => fin.length
  | p :: more => p.1.length + (schN fin more + 1)
theorem wpM_sch (hs : Region.noSelect ops = true) (fin : List Nat) : ∀ (segs : List (List Nat × Nat)) (listed : Array Bool) (a : Act) (w : World), schB md ops fin segs listed = true → S w →
    wpSch P ops S Q fin segs a w → wpM P md ops S Q (schN fin segs) listed a w
  | [], listed, a, w, hB, hS, h => by
    simp only [schB, Bool.and_eq_true] at hB
    have key := wpM_segI (Q := Q) hs fin 0 listed a w hB.1 hS (by
      have he : Region.ready md ops (listIs fin listed) = [] := by simpa using hB.2
      exact wpQuiet_mono2 (fun a' h9 => ⟨he, h9⟩) _ _ h)
    exact key
  | p :: more, listed, a, w, hB, hS, h => by
    simp only [schB, Bool.and_eq_true] at hB
    obtain ⟨⟨hseg, hso, hr⟩, hrest⟩ := hB
    have hr2 : Region.ready md ops (listIs p.1 listed) = [p.2] := by simpa using hr
    refine wpM_segI (Q := Q) hs p.1 (schN fin more + 1) listed a w hseg hS (wpQuiet_mono2 (fun a' h9 => ?_) _ _ h)
    refine ⟨fun h => (by rw [hr2] at h; cases h), fun i hi => ?_⟩
    rw [hr2] at hi
    have hi2 : i = p.2 := by simpa using hi
    subst hi2
    cases ho : ops[p.2]? with
    | none => rw [ho] at hso; cases hso
    | some o =>
      have ht : pickO ops [p.2] = [o] := by
        show consO ops[p.2]? (pickO ops []) = _
        rw [ho]
        rfl
      rw [ht] at h9
      have h8 := stp_of_list h9
      unfold sOp
      rw [ho]
      have step : ∀ a2 w', (S w' ∧ wpSch P ops S Q fin more a2 w') → S w' ∧ wpM P md ops S Q (schN fin more) ((listIs p.1 listed).setIfInBounds p.2 true) a2 w' := fun a2 w' hh => ⟨hh.1, wpM_sch hs fin more _ a2 w' hrest hh.1 hh.2⟩
      rcases h8 with ⟨h7, h6⟩ | ⟨h7, h6⟩
      · exact .inl ⟨h7, stp_mono step h6⟩
      · exact .inr ⟨h7, step _ _ h6⟩
theorem wp_region_sch {id : Nat} {a : Act} {w : World} {l : List Oper} (segs : List (List Nat × Nat)) (fin : List Nat) (hm : P.follows .mixedOrders = true) (hs : Region.noSelect l.toArray = true) (hB : schB .any l.toArray fin segs (Array.replicate l.toArray.size false) = true) (hn : schN fin segs = l.toArray.size) (hS : S (w.drewN 1))
    (h : wpSch P l.toArray S Q fin segs a (w.drewN 1)) : (Code.region id l.toArray true).wp P Q a w := by
  refine wp_region_any hm (wpM_any (S := S) _ _ _ _ ?_)
  have key := wpM_sch (md := .any) hs fin segs (Array.replicate l.toArray.size false) a (w.drewN 1) hB hS h
  rw [hn] at key
  exact key
end
end Go.Proofs.Ytgeckgdmkjddpaa
namespace Go.Proofs.Ytgeckgdmkjddpaa.Br
open Go.ChangeShapes Go.WideShapes Go.ChangeAt Go.RowKit Go.Proofs.Ytgeckgdmkjddpaa.Rd

abbrev KptW (K : Nat → Prop) (w : World) : Type := Cl (fun v => Keeps K w v)
theorem kpt_cell {K : Nat → Prop} {w : World} {b j : Nat} {v : Value} (kb : K b) (h : w.cell? ⟨b, j, none⟩ = some v) : ∀ q : KptW K w, q.w.cell? ⟨b, j, none⟩ = some v := fun q => (World.cell?_of_block (a := ⟨b, j, none⟩) (q.h.block b kb)).trans h
theorem kpt_nonempty (K : Nat → Prop) (w : World) : Nonempty (KptW K w) := ⟨⟨w, Keeps.refl _ _⟩⟩
theorem kpt_drew (K : Nat → Prop) (w : World) (n : Nat) : Keeps K w (w.drewN n) := ⟨rfl, rfl, rfl, Nat.le_refl _, fun _ _ => rfl⟩
theorem kpt_below {n : Nat} {w w' : World} (h : Keeps (fun b => b < n) w w') : Below n w w' := ⟨h.os, h.tape, h.output, h.size, fun b hb => h.block b hb⟩
theorem below_kpt {n : Nat} {w w' : World} (h : Below n w w') : Keeps (fun b => b < n) w w' := ⟨h.os, h.tape, h.output, h.size, fun b hb => h.block b hb⟩

/-- What a call that makes an expression answers. -/
def ResB (t : Tr) (w : World) (e : Ending) (w' : World) : Prop := ∃ cs H, e = .returned (.agg cs.toArray) ∧ TreeT w' w.heap.size w'.heap.size H 0 t cs ∧ Below w.heap.size w w'
def bareDs (h : Nat) (xs : List Tr) : List Tr := xs.map (fun d => tDec d.s [] ((brs h).de d) [])
def BEx (h : Nat) : Prop := ∀ (K : Nat → Prop) (x : Tr) (cs : List Value) (w : World), (reads K w h).ex x cs → (wts h).ex x ≤ 1048576 → Calls Try.prog 6 #[.agg cs.toArray] w (ResB ((brs h).ex x) w)
def BDe (h : Nat) : Prop := ∀ (K : Nat → Prop) (x : Tr) (cs : List Value) (w : World), (reads K w h).de x cs → (wts h).de x ≤ 1048576 → Calls Try.prog 13 #[.agg cs.toArray] w (ResB ((brs h).de x) w)
def BDs (h : Nat) : Prop := ∀ (K : Nat → Prop) (xs : List Tr) (o : Option Addr) (c : Nat) (w : World), RowOf K w (reads K w h).de 9 o xs → lw (wts h).de xs ≤ 1048576 → Calls Try.prog 21 #[.slice o xs.length c] w fun e w' => ∃ o' n' c' H, e = .returned (.slice o' n' c') ∧ RowT w' w.heap.size w'.heap.size H 1 (.slice o' n' c') (bareDs h xs) ∧ Below w.heap.size w w'

set_option maxHeartbeats 4000000 in
set_option maxRecDepth 100000 in
theorem bDs_of {h : Nat} (i1 : BDe h) : BDs h := by
  intro K xs o c w hr hw
  have I1 := hide i1
  have HR := hide hr
  have HW := hide hw
  have hxl : xs.length ≤ 1048576 := by unfold lw at hw; omega
  clear i1 hr hw
  have HB0 : Hid (Below w.heap.size w (w.alloc (.cells #[] 44))) := (Below.refl _ w).alloc (Nat.le_refl _) _
  have HX0 : Hid ((w.alloc (.cells #[] 44)).heap[w.heap.size]? = some (.cells #[] 44 (0, 0))) := heap_alloc_new w _
  go_enter Try.func21, Try.ntmps21
  go_wp2
  generalize w.alloc (.cells #[] 44) = w1 at HB0 HX0 ⊢
  go_loopw [3, 4] (fun t3 t4 wr => ∃ (i : Nat) (H : Nat), i ≤ xs.length ∧ t4 = .int .i64 i ∧ (∃ o n c, t3 = .slice o n c) ∧ RowT wr w.heap.size wr.heap.size H 1 t3 (bareDs h (xs.take i)) ∧ Below w.heap.size w wr) (fun _ t4 _ => xs.length - (intOf t4).toNat)
  case atStart => exact ⟨0, 0, Nat.zero_le _, rfl, ⟨_, _, _, rfl⟩, RowT.empty HX0.out (Nat.le_refl _) (heap_lt HX0.out), HB0.out⟩
  case round =>
    obtain ⟨i, H, hi, rfl, ⟨o1, n1, c1, rfl⟩, hrow, hbw⟩ := hrel
    have HROW := hide hrow
    have HBW := hide hbw
    have hzw := hbw.size
    clear hrow hbw
    by_cases hlt : i < xs.length
    · have hne : xs ≠ [] := by intro e; rw [e] at hlt; simp at hlt
      obtain ⟨y, hy⟩ : ∃ y, xs[i]? = some y := ⟨xs[i], List.getElem?_eq_getElem hlt⟩
      obtain ⟨b, off, eo, hKb, hbl, hcs⟩ := HR.out hne
      subst eo
      obtain ⟨cs, hlen, hkey, hrd⟩ := hcs i y hy
      obtain ⟨v0, v1, v2, v3, v4, v5, v6, v7, v8, rfl⟩ := nine hlen
      have e0 : v0 = .string y.s ∧ y.s.size ≤ maxLen := by
        cases h with
        | zero => exact hrd.elim
        | succ h =>
          obtain ⟨-, -, -, e, p1, g1, ce, p2, g2, -, he, hs, -⟩ := hrd
          simp only [List.cons_append, List.nil_append, List.cons.injEq] at he
          exact ⟨he.1, hs⟩
      obtain ⟨rfl, hys⟩ := e0
      have cell : ∀ j u, [.string y.s, v1, v2, v3, v4, v5, v6, v7, v8][j]? = some u → wr.cell? ⟨b, off + i * 9 + j, none⟩ = some u := fun j u hu => (HBW.out.cell (p := ⟨b, _, none⟩) hbl).trans (hkey j u hu)
      have q0 := cell 0 _ rfl
      have q1 := cell 1 _ rfl
      have q2 := cell 2 _ rfl
      have q3 := cell 3 _ rfl
      have q4 := cell 4 _ rfl
      have q5 := cell 5 _ rfl
      have q6 := cell 6 _ rfl
      have q7 := cell 7 _ rfl
      have q8 := cell 8 _ rfl
      rw [Nat.add_zero] at q0
      have s0 := kpt_cell (K := fun b => b < w.heap.size) hbl q0
      have s1 := kpt_cell (K := fun b => b < w.heap.size) hbl q1
      have s2 := kpt_cell (K := fun b => b < w.heap.size) hbl q2
      have s3 := kpt_cell (K := fun b => b < w.heap.size) hbl q3
      have s4 := kpt_cell (K := fun b => b < w.heap.size) hbl q4
      have s5 := kpt_cell (K := fun b => b < w.heap.size) hbl q5
      have s6 := kpt_cell (K := fun b => b < w.heap.size) hbl q6
      have s7 := kpt_cell (K := fun b => b < w.heap.size) hbl q7
      have s8 := kpt_cell (K := fun b => b < w.heap.size) hbl q8
      have hne0 : Nonempty (KptW (fun b => b < w.heap.size) wr) := kpt_nonempty _ _
      have hwy : (wts h).de y ≤ 1048576 := by
        have h1 := HW.out
        have h2 := le_sum (wts h).de xs y (List.mem_of_getElem? hy)
        unfold lw at h1
        omega
      have hbd : Below wr.heap.size wr (wr.drewN 1) := (Below.refl _ _).drew
      have HBd := hide hbd
      have HCA := hide (I1.out K y [.string y.s, v1, v2, v3, v4, v5, v6, v7, v8] (wr.drewN 1) ((reads_later (HBW.out.trans (hbd.mono hzw)) h).2.1 _ _ hrd) hwy)
      have HY := hide hy
      have HYS := hide hys
      have hlt2 : (i : Int) < xs.length := by omega
      clear hcs hy hne hkey hlen hrd cell hbd hwy q0 q1 q2 q3 q4 q5 q6 q7 q8 hys
      go_upto_region 5 with fail
      refine wp_region_sch (S := fun w' => ∃ q : KptW (fun b => b < w.heap.size) wr, w' = q.w) [([0, 1, 2, 3, 4, 5, 6, 7, 8, 9], 10), ([11], 12), ([], 13)] [14] (by kernel_rfl) (by kernel_rfl) (by kernel_rfl) (by kernel_rfl) ⟨⟨_, kpt_drew _ wr 1⟩, rfl⟩ ?_
      simp only [wpSch, pickO, consO, List.getElem?_toArray, List.getElem?_cons_succ, List.getElem?_cons_zero]
      repeat (first | go_big_quiet_skip | (go_big_quiet_want; go_big_quiet_op; go_big_quiet_on))
      refine wpQuiet_nil ?_
      go_wp2_with fail
      refine Calls.mono HCA.out ?_
      rintro e w2 ⟨cs, H2, rfl, ht2, hb2⟩
      obtain ⟨r1, d1, r2, d2, r3, d3, rfl⟩ := ht2.exp
      have hde : TreeT w2 wr.heap.size w2.heap.size (H2 + 1) 1 (tDec y.s [] ((brs h).de y) []) _ := mk_dec y.s HYS.out (StrT.nil w2 wr.heap.size wr.heap.size) ht2 (RowT.nil w2 w2.heap.size w2.heap.size H2 1) (Nat.le_refl _) hb2.size (Nat.le_refl _)
      obtain ⟨o3, n3, c3, o', c', w3, e3, hr3, hrow3, hk3⟩ := putB (i := 1) dec_infoB Try.underlying29 (by decide) (by decide) (HROW.out.keep (kept_below (HBd.out.trans hb2) (Nat.le_refl _))) hde hzw hb2.size (Nat.le_refl _) (by unfold bareDs; rw [List.length_map, List.length_take]; omega)
      cases e3
      have HR3 := hide hr3
      have HROW3 := hide hrow3
      have hz2 : wr.heap.size ≤ w2.heap.size := hb2.size
      have HK2 : Hid (Keeps (fun b => b < w.heap.size) wr w2) := below_kpt ((HBd.out.trans hb2).mono hzw)
      have HK2a : Hid (Keeps (fun b => b < w.heap.size) wr (w2.alloc (.cells #[.string y.s, .slice none 0 0, .int .i64 ((brs h).de y).k, .string ((brs h).de y).s, .int .i64 ((brs h).de y).n, .slice r1 ((brs h).de y).l.length d1, .slice r2 ((brs h).de y).ds.length d2, .slice r3 ((brs h).de y).al.length d3, .slice none 0 0] 44))) := HK2.out.trans (below_kpt (((Below.refl _ w2).alloc (Nat.le_refl _) _).mono (by omega)))
      have HK3 : Hid (Keeps (fun b => b < w.heap.size) wr w3) := HK2.out.trans (hk3.mono fun b hb => ⟨by omega, .inl hb⟩)
      have HEQ : Hid (bareDs h (xs.take i) ++ [tDec y.s [] ((brs h).de y) []] = bareDs h (xs.take (i + 1))) := by
        unfold bareDs
        rw [List.take_add_one, HY.out, List.map_append]
        exact rfl
      clear ht2 hb2 hde hr3 hrow3 hk3 HCA
      go_wp2
      refine ⟨⟨⟨w2, HK2.out⟩, rfl⟩, ?_⟩
      repeat (first | go_big_quiet_skip | (go_big_quiet_want; go_big_quiet_op; go_big_quiet_on))
      refine wpQuiet_nil ?_
      go_wp2
      refine ⟨⟨⟨_, HK2a.out⟩, rfl⟩, ?_⟩
      refine wpQuiet_nil ?_
      go_wp2_with (at_builtin; refine Lib.wpList_append_run _ rfl _ _ _ _ rfl _ _ rfl rfl _ _ HR3.out ?_)
      refine ⟨⟨⟨w3, HK3.out⟩, rfl⟩, ?_⟩
      repeat (first | go_big_quiet_skip | (go_big_quiet_want; go_big_quiet_op; go_big_quiet_on))
      refine wpQuiet_nil ?_
      go_wp2
      go_roundw
      case rel => exact ⟨i + 1, _, by omega, by go_num, ⟨_, _, _, rfl⟩, HEQ.out ▸ HROW3.out, HBW.out.trans (kpt_below HK3.out)⟩
      case measure => simp [intOf]; omega
    · have hlt2 : ¬ ((i : Int) < xs.length) := by omega
      have HROW2 : Hid (RowT wr w.heap.size wr.heap.size H 1 (.slice o1 n1 c1) (bareDs h xs)) := by
        have h9 := HROW.out
        rw [List.take_of_length_le (by omega)] at h9
        exact h9
      clear HROW
      go_wp2
      go_ret
      exact ⟨o1, n1, c1, rfl, ⟨H, HROW2.out⟩, HBW.out⟩
end Go.Proofs.Ytgeckgdmkjddpaa.Br
namespace Go.Proofs.Ytgeckgdmkjddpaa
open Go.RowKit

section
variable {P : Program} {ops : Array Oper} {md : Region.Mode} {S : World → Prop} {Q : Exit → Act → World → Prop}
/-- Does m wait for i, by way of others too? -/
def pathB (md : Region.Mode) (ops : Array Oper) (i : Nat) : Nat → Nat → Bool
  | 0, _ => false
  | f + 1, m => ((ops[m]?).map fun o => o.after.any fun e => Region.binds md e && (e.on == i || pathB md ops i f e.on)).getD false
def Clo (md : Region.Mode) (ops : Array Oper) (listed : Array Bool) : Prop := ∀ m o, ops[m]? = some o → listed.getD m false = true → ∀ e ∈ o.after, Region.binds md e = true → listed.getD e.on false = true
theorem path_some {i f m : Nat} (h : pathB md ops i (f + 1) m = true) : ∃ o, ops[m]? = some o ∧ ∃ e ∈ o.after, Region.binds md e = true ∧ (e.on = i ∨ pathB md ops i f e.on = true) := by
  unfold pathB at h
  cases ho : ops[m]? with
  | none => rw [ho] at h; cases h
  | some o =>
    rw [ho] at h
    simp only [Option.map_some, Option.getD_some, Array.any_eq_true'] at h
    obtain ⟨e, he, h2⟩ := h
    simp only [Bool.and_eq_true, Bool.or_eq_true, beq_iff_eq] at h2
    exact ⟨o, rfl, e, he, h2.1, h2.2⟩
theorem path_listed {i : Nat} {listed : Array Bool} (hc : Clo md ops listed) : ∀ f m, pathB md ops i f m = true → listed.getD m false = true → listed.getD i false = true := by
  intro f
  induction f with
  | zero => intro m h; cases h
  | succ f ih =>
    intro m h hm
    obtain ⟨o, ho, e, he, hb, h2⟩ := path_some h
    have h3 := hc m o ho hm e he hb
    rcases h2 with h2 | h2
    · rw [h2] at h3; exact h3
    · exact ih _ h2 h3
theorem path_ready {i f m : Nat} {listed : Array Bool} (hc : Clo md ops listed) (h : pathB md ops i f m = true) (hm : m ∈ Region.ready md ops listed) : listed.getD i false = true := by
  cases f with
  | zero => cases h
  | succ f =>
    obtain ⟨o, ho, e, he, hb, h2⟩ := path_some h
    obtain ⟨-, o', ho', hall⟩ := mem_ready.1 hm
    rw [ho] at ho'
    cases ho'
    have h3 := hall e he hb
    rcases h2 with h2 | h2
    · rw [h2] at h3; exact h3
    · exact path_listed hc f _ h2 h3
theorem Clo.set {j : Nat} {listed : Array Bool} (hc : Clo md ops listed) (hj : j ∈ Region.ready md ops listed) : Clo md ops (listed.setIfInBounds j true) := by
  intro m o ho hm e he hb
  by_cases hmj : j = m
  · subst hmj
    obtain ⟨-, o', ho', hall⟩ := mem_ready.1 hj
    rw [ho] at ho'
    cases ho'
    exact getD_set_true (hall e he hb)
  · rw [getD_set_ne false hmj] at hm
    exact getD_set_true (hc m o ho hm e he hb)
theorem not_both {listed : Array Bool} {i : Nat} (h : listed.getD i true = false) (k : listed.getD i false = true) : False := by
  by_cases hlt : i < listed.size
  · simp [hlt] at h k
    rw [h] at k
    cases k
  · simp [Array.getElem?_eq_none (Nat.le_of_not_lt hlt)] at k

/-- Whatever order is picked from here on; the worlds stay in the class till L is done. -/
def wpL (P : Program) (md : Region.Mode) (ops : Array Oper) (S : World → Prop) (Q : Exit → Act → World → Prop) (L : Nat) : Nat → Array Bool → Act → World → Prop
  | 0, listed, a, w => Region.ready md ops listed = [] ∧ Q .normal a w
  | n + 1, listed, a, w => (Region.ready md ops listed = [] → Q .normal a w) ∧ ∀ i ∈ Region.ready md ops listed, sOp P ops i (fun a' w' => (i ≠ L → S w') ∧ wpL P md ops S Q L n (listed.setIfInBounds i true) a' w') a w
theorem wpL_any {L : Nat} : ∀ (n : Nat) (listed : Array Bool) (a : Act) (w : World), wpL P md ops S Q L n listed a w → wpAny P md ops Q n listed a w
  | 0, _, _, _, h => h
  | n + 1, _, _, _, h => ⟨h.1, fun i hi => sOp_wp (sOp_mono (fun a w h2 => wpL_any n _ a w h2.2) (h.2 i hi))⟩
theorem wpL_first {L F i : Nat} {oi : Oper} {v : Value} (hi : ops[i]? = some oi) (hp : pathB md ops i F L = true) (hsel : ∀ (j : Nat) (o : Oper) cs b, ops[j]? = some o → o.op ≠ .select cs b) :
    ∀ (n : Nat) (listed : Array Bool) (a : Act) (w : World), S w → Clo md ops listed →
      (∀ j oj, ops[j]? = some oj → j ≠ i → listed.getD j true = false → (∀ e ∈ oj.after, Region.binds md e = true → e.on ≠ i) → oi.apart ops oj = true) →
      i ∈ Region.ready md ops listed → YldS P ops S oi v a → wpL P md ops S Q L n (listed.setIfInBounds i true) (a.put oi.dst v) w → wpL P md ops S Q L (n + 1) listed a w := by
  intro n
  induction n with
  | zero =>
    intro listed a w hS _ _ hr hy H
    refine ⟨fun h => (by rw [h] at hr; cases hr), fun j hj => ?_⟩
    by_cases hji : j = i
    · subst hji
      exact hy.op hi hS ⟨fun _ => hS, H⟩
    · have h9 := ready_mono hj hji
      rw [H.1] at h9
      cases h9
  | succ n ih =>
    intro listed a w hS hclo hfree hr hy H
    refine ⟨fun h => (by rw [h] at hr; cases hr), fun j hj => ?_⟩
    by_cases hji : j = i
    · subst hji
      exact hy.op hi hS ⟨fun _ => hS, H⟩
    have hjL : j ≠ L := fun e => not_both (mem_ready.1 hr).1 (path_ready hclo hp (e ▸ hj))
    have h1 := H.2 j (ready_mono hj hji)
    obtain ⟨hjun, oj, hoj, hall⟩ := mem_ready.1 hj
    have hnot : ∀ e ∈ oj.after, Region.binds md e = true → e.on ≠ i := by
      intro e he hb heq
      have h2 := hall e he hb
      rw [heq] at h2
      exact not_both (mem_ready.1 hr).1 h2
    have h2 := sOp_put hoj (hfree j oj hoj hji hjun hnot) (fun cs b => hsel i oi cs b hi) (fun cs b => hsel j oj cs b hoj) hy h1
    refine sOp_mono (fun a' w' h3 => ?_) h2
    obtain ⟨h4, h5, h6⟩ := h3
    refine ⟨h5, ih _ a' w' (h5 hjL) (hclo.set hj) ?_ (ready_mono hr (Ne.symm hji)) h4 (by rw [Array.setIfInBounds_comm _ _ hji]; exact h6)⟩
    intro k ok hk hki hun hno
    refine hfree k ok hk hki ?_ hno
    by_cases hjk : j = k
    · subst hjk
      exact hjun
    · rw [getD_set_ne true hjk] at hun
      exact hun
def segL (md : Region.Mode) (ops : Array Oper) (F L : Nat) : List Nat → Array Bool → Bool
  | [], _ => true
  | i :: r, listed => (pathB md ops i F L && ((Region.ready md ops listed).contains i && Region.free md ops listed i && ((ops[i]?).map readB).getD false)) && segL md ops F L r (listed.setIfInBounds i true)
theorem segL_clo {F L : Nat} : ∀ (is : List Nat) (listed : Array Bool), segL md ops F L is listed = true → Clo md ops listed → Clo md ops (listIs is listed)
  | [], _, _, h => h
  | i :: is, listed, hB, h => by
    simp only [segL, Bool.and_eq_true] at hB
    exact segL_clo is _ hB.2 (h.set (by simpa using hB.1.2.1.1))
theorem wpL_segI {L F : Nat} (hs : Region.noSelect ops = true) : ∀ (is : List Nat) (m : Nat) (listed : Array Bool) (a : Act) (w : World), segL md ops F L is listed = true → S w → Clo md ops listed →
    wpQuiet P ops S (fun a' => wpL P md ops S Q L m (listIs is listed) a' w) (pickO ops is) a → wpL P md ops S Q L (is.length + m) listed a w
  | [], m, listed, a, w, _, _, _, h => by rw [List.length_nil, Nat.zero_add]; exact h
  | i :: is, m, listed, a, w, hB, hS, hC, h => by
    simp only [segL, Bool.and_eq_true] at hB
    obtain ⟨⟨hp, ⟨hr, hf⟩, hrd⟩, hB'⟩ := hB
    cases h0 : ops[i]? with
    | none => rw [h0] at hrd; cases hrd
    | some o =>
      rw [h0] at hrd
      have hpk : pickO ops (i :: is) = o :: pickO ops is := by
        show consO ops[i]? (pickO ops is) = _
        rw [h0]
        rfl
      rw [hpk] at h
      obtain ⟨v, hy, hK⟩ := yld_of_quiet (by simpa using hrd) h
      have key := wpL_segI hs is m (listed.setIfInBounds i true) (a.put o.dst v) w hB' hS (hC.set (by simpa using hr)) hK
      have e : (i :: is).length + m = is.length + m + 1 := by simp; omega
      rw [e]
      exact wpL_first h0 hp (Region.noSelect_spec hs) _ listed a w hS hC (Region.free_spec h0 hf) (by simpa using hr) hy key
def wpSchL (P : Program) (ops : Array Oper) (S : World → Prop) (Q : Exit → Act → World → Prop) : List (List Nat × Nat) → List Nat × Nat → Act → World → Prop
  | [], l, a, w => wpQuiet P ops S (fun a' => wpList P ops (fun ex a2 w' => ex = .normal ∧ Q .normal a2 w') (pickO ops [l.2]) a' w) (pickO ops l.1) a
  | p :: more, l, a, w => wpQuiet P ops S (fun a' => wpList P ops (fun ex a2 w' => ex = .normal ∧ (S w' ∧ wpSchL P ops S Q more l a2 w')) (pickO ops [p.2]) a' w) (pickO ops p.1) a
def schLB (md : Region.Mode) (ops : Array Oper) (F : Nat) (l : List Nat × Nat) : List (List Nat × Nat) → Array Bool → Bool
  | [], listed => (segL md ops F l.2 l.1 listed && ((ops[l.2]?).isSome && (Region.ready md ops (listIs l.1 listed) == [l.2]))) && (Region.ready md ops ((listIs l.1 listed).setIfInBounds l.2 true)).isEmpty
  | p :: more, listed => (segL md ops F l.2 p.1 listed && ((ops[p.2]?).isSome && (Region.ready md ops (listIs p.1 listed) == [p.2]))) && schLB md ops F l more ((listIs p.1 listed).setIfInBounds p.2 true)
def schLN (l : List Nat × Nat) : List (List Nat × Nat) → Nat
  | [] => l.1.length + (0 + 1)
  | p :: more => p.1.length + (schLN l more + 1)
theorem op_step {K K' : Act → World → Prop} {i : Nat} {a : Act} {w : World} (hso : (ops[i]?).isSome = true) (h : wpList P ops (fun ex a2 w' => ex = .normal ∧ K a2 w') (pickO ops [i]) a w) (step : ∀ a w, K a w → K' a w) : sOp P ops i K' a w := by
  cases ho : ops[i]? with
  | none => rw [ho] at hso; cases hso
  | some o =>
    have ht : pickO ops [i] = [o] := by
      show consO ops[i]? (pickO ops []) = _
      rw [ho]
      rfl
    rw [ht] at h
    have h8 := stp_of_list h
    unfold sOp
    rw [ho]
    rcases h8 with ⟨h7, h6⟩ | ⟨h7, h6⟩
    · exact .inl ⟨h7, stp_mono step h6⟩
    · exact .inr ⟨h7, step _ _ h6⟩
theorem wpL_sch {F : Nat} (hs : Region.noSelect ops = true) (l : List Nat × Nat) : ∀ (segs : List (List Nat × Nat)) (listed : Array Bool) (a : Act) (w : World), schLB md ops F l segs listed = true → S w → Clo md ops listed →
    wpSchL P ops S Q segs l a w → wpL P md ops S Q l.2 (schLN l segs) listed a w
  | [], listed, a, w, hB, hS, hC, h => by
    simp only [schLB, Bool.and_eq_true] at hB
    obtain ⟨⟨hseg, hso, hr⟩, he⟩ := hB
    have hr2 : Region.ready md ops (listIs l.1 listed) = [l.2] := by simpa using hr
    have he2 : Region.ready md ops ((listIs l.1 listed).setIfInBounds l.2 true) = [] := by simpa using he
    refine wpL_segI (Q := Q) hs l.1 (0 + 1) listed a w hseg hS hC (wpQuiet_mono2 (fun a' h9 => ?_) _ _ h)
    refine ⟨fun h => (by rw [hr2] at h; cases h), fun i hi => ?_⟩
    rw [hr2] at hi
    have hi2 : i = l.2 := by simpa using hi
    subst hi2
    exact op_step hso h9 fun a w hQ => ⟨fun h => absurd rfl h, he2, hQ⟩
  | p :: more, listed, a, w, hB, hS, hC, h => by
    simp only [schLB, Bool.and_eq_true] at hB
    obtain ⟨⟨hseg, hso, hr⟩, hrest⟩ := hB
    have hr2 : Region.ready md ops (listIs p.1 listed) = [p.2] := by simpa using hr
    have hC2 := segL_clo p.1 listed hseg hC
    refine wpL_segI (Q := Q) hs p.1 (schLN l more + 1) listed a w hseg hS hC (wpQuiet_mono2 (fun a' h9 => ?_) _ _ h)
    refine ⟨fun h => (by rw [hr2] at h; cases h), fun i hi => ?_⟩
    rw [hr2] at hi
    have hi2 : i = p.2 := by simpa using hi
    subst hi2
    exact op_step hso h9 fun a2 w' hh => ⟨fun _ => hh.1, wpL_sch hs l more _ a2 w' hrest hh.1 (hC2.set (by rw [hr2]; simp)) hh.2⟩
theorem wp_region_last {id : Nat} {a : Act} {w : World} {l : List Oper} (segs : List (List Nat × Nat)) (last : List Nat × Nat) (F : Nat) (hm : P.follows .mixedOrders = true) (hs : Region.noSelect l.toArray = true) (hB : schLB .any l.toArray F last segs (Array.replicate l.toArray.size false) = true) (hn : schLN last segs = l.toArray.size) (hS : S (w.drewN 1))
    (h : wpSchL P l.toArray S Q segs last a (w.drewN 1)) : (Code.region id l.toArray true).wp P Q a w := by
  refine wp_region_any hm (wpL_any (S := S) (L := last.2) _ _ _ _ ?_)
  have key := wpL_sch (md := .any) hs last segs (Array.replicate l.toArray.size false) a (w.drewN 1) hB hS (fun m o ho hm => by
    rw [Array.getD_eq_getD_getElem?, Array.getElem?_replicate] at hm
    split at hm <;> cases hm) h
  rw [hn] at key
  exact key
/-- Two that may come one ahead of the other: both ways are walked, each by its own schedule. -/
theorem wp_region_fork {id : Nat} {a : Act} {w : World} {l : List Oper} (rs : List Nat) (p q : Nat) (s1 s2 : List (List Nat × Nat)) (l1 l2 : List Nat) (L F : Nat) (hm : P.follows .mixedOrders = true) (hs : Region.noSelect l.toArray = true)
    (h0 : (segL .any l.toArray F L rs (Array.replicate l.toArray.size false) && ((l.toArray[p]?).isSome && (l.toArray[q]?).isSome && (Region.ready .any l.toArray (listIs rs (Array.replicate l.toArray.size false)) == [p, q]))) = true)
    (h1 : schLB .any l.toArray F (l1, L) s1 ((listIs rs (Array.replicate l.toArray.size false)).setIfInBounds p true) = true) (h2 : schLB .any l.toArray F (l2, L) s2 ((listIs rs (Array.replicate l.toArray.size false)).setIfInBounds q true) = true)
    (hn : rs.length + (schLN (l1, L) s1 + 1) = l.toArray.size) (hn2 : schLN (l2, L) s2 = schLN (l1, L) s1) (hS : S (w.drewN 1))
    (h : wpQuiet P l.toArray S (fun a' => wpList P l.toArray (fun ex a2 w' => ex = .normal ∧ (S w' ∧ wpSchL P l.toArray S Q s1 (l1, L) a2 w')) (pickO l.toArray [p]) a' (w.drewN 1) ∧ wpList P l.toArray (fun ex a2 w' => ex = .normal ∧ (S w' ∧ wpSchL P l.toArray S Q s2 (l2, L) a2 w')) (pickO l.toArray [q]) a' (w.drewN 1)) (pickO l.toArray rs) a) : (Code.region id l.toArray true).wp P Q a w := by
  refine wp_region_any hm (wpL_any (S := S) (L := L) _ _ _ _ ?_)
  have hC : Clo .any l.toArray (Array.replicate l.toArray.size false) := fun m o ho hm => by
    rw [Array.getD_eq_getD_getElem?, Array.getElem?_replicate] at hm
    split at hm <;> cases hm
  simp only [Bool.and_eq_true] at h0
  obtain ⟨hseg, ⟨hp, hq⟩, hr⟩ := h0
  have hr2 : Region.ready .any l.toArray (listIs rs (Array.replicate l.toArray.size false)) = [p, q] := by simpa using hr
  have hC2 := segL_clo rs _ hseg hC
  have key := wpL_segI (P := P) (Q := Q) hs rs (schLN (l1, L) s1 + 1) (Array.replicate l.toArray.size false) a (w.drewN 1) hseg hS hC (wpQuiet_mono2 (fun a' h9 => ?_) _ _ h)
  · rw [hn] at key
    exact key
  refine ⟨fun h => (by rw [hr2] at h; cases h), fun i hi => ?_⟩
  have hi2 := hi
  rw [hr2] at hi2
  have hi3 : i = p ∨ i = q := by simpa using hi2
  rcases hi3 with rfl | rfl
  · exact op_step hp h9.1 fun a2 w' hh => ⟨fun _ => hh.1, wpL_sch hs (l1, L) s1 _ a2 w' h1 hh.1 (hC2.set hi) hh.2⟩
  · refine op_step hq h9.2 fun a2 w' hh => ⟨fun _ => hh.1, ?_⟩
    have k9 := wpL_sch hs (l2, L) s2 _ a2 w' h2 hh.1 (hC2.set hi) hh.2
    rw [hn2] at k9
    exact k9
end
end Go.Proofs.Ytgeckgdmkjddpaa
namespace Go.Proofs.Ytgeckgdmkjddpaa.Rd
open Go.ChangeShapes Go.WideShapes Go.ChangeAt Go.RowKit

/-- Where all signs lie. -/
structure Arr where
  o : Option Addr
  g : Nat
  cap : Nat
  all : List TokZ
theorem ba_ne (x : ByteArray) : (x != x) = false := by
  obtain ⟨x⟩ := x
  show (!(x == x)) = false
  simp
theorem ba_inj {a b : ByteArray} (h : a.toList = b.toList) : a = b := by
  rw [ByteArray.toList_eq, ByteArray.toList_eq] at h
  obtain ⟨a⟩ := a
  obtain ⟨b⟩ := b
  exact congrArg ByteArray.mk (Array.toList_inj.1 h)
theorem ba_neq {x y : ByteArray} (h : ¬ x = y) : (x.toList == y.toList) = false := by
  simp
  intro e
  exact h (ba_inj e)
theorem drewN_below (w : World) (m : Nat) : Below w.heap.size w (w.drewN m) := by
  exact ⟨rfl, rfl, rfl, Nat.le_refl _, fun _ _ => rfl⟩
section
variable {A : Arr} {b d : Nat} {w : World} {ts : List TokZ}
end
end Go.Proofs.Ytgeckgdmkjddpaa.Rd
namespace Go.Proofs.Ytgeckgdmkjddpaa.Rd
open Go.ChangeShapes Go.WideShapes Go.ChangeAt Go.RowKit

section
variable {A : Arr} {b d : Nat} {w : World} {r : Option (List TokZ)}
def isKO (r : Option (List TokZ)) (k : Int) : Bool := match r with
  | some ts => isK ts k
  | none => false
end
end Go.Proofs.Ytgeckgdmkjddpaa.Rd
