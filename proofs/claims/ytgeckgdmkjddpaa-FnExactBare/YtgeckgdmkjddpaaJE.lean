/- The model's BareDec. -/
import Derived.Test.YtgeckgdmkjddpaaQ07
import Derived.Test.YtgeckgdmkjddpaaRF
import Derived.Deep.DeepCutAuto
import Derived.Deep.CutBlock
namespace Go.Proofs.Ytgeckgdmkjddpaa.Br
open Go.ChangeShapes Go.WideShapes Go.ChangeAt Go.RowKit Go.Proofs.Ytgeckgdmkjddpaa.Rd

/-- An expression that lies in the box g, whose blocks are from s on. -/
structure InBox (g s : Nat) (w : World) (t : Tr) (cs : List Value) : Prop where
  lt : g < w.heap.size
  low : s ≤ g
  tree : ∃ H bs, sp w H 0 t cs bs ∧ InR s w.heap.size bs ∧ g ∉ bs
theorem InBox.form {g s : Nat} {w : World} {t : Tr} {cs : List Value} (h : InBox g s w t cs) : ∃ o1 c1 o2 c2 o3 c3, cs = [.int .i64 t.k, .string t.s, .int .i64 t.n, .slice o1 t.l.length c1, .slice o2 t.ds.length c2, .slice o3 t.al.length c3] := by
  obtain ⟨H, bs, h1, h2, -⟩ := h.tree
  exact TreeT.exp ⟨bs, h1, h2⟩
theorem InBox.keep {g s : Nat} {w w' : World} {t : Tr} {cs : List Value} (h : InBox g s w t cs) (hz : w.heap.size ≤ w'.heap.size) (hk : ∀ b, s ≤ b → b < w.heap.size → b ≠ g → w'.heap[b]? = w.heap[b]?) : InBox g s w' t cs := by
  obtain ⟨H, bs, h1, h2, h3⟩ := h.tree
  exact ⟨Nat.lt_of_lt_of_le h.lt hz, h.low, H, bs, sp_frame h1 fun b hb => hk b (h2.2 b hb).1 (h2.2 b hb).2 (fun e => h3 (e ▸ hb)), h2.wide (Nat.le_refl _) hz, h3⟩
theorem InBox.tree' {g s : Nat} {w : World} {t : Tr} {cs : List Value} (h : InBox g s w t cs) : ∃ H, TreeT w s w.heap.size H 0 t cs := by
  obtain ⟨H, bs, h1, h2, h3⟩ := h.tree
  exact ⟨H, bs, h1, h2⟩
/-- What lies in a box is put into a row of one, beside definitions: a new expression in the same box. V: the row is laid at r, and the definitions are v. -/
theorem InBox.wrap {g s r : Nat} {w w' : World} {t : Tr} {cs : List Value} (h : InBox g s w t cs) (hz : w.heap.size ≤ w'.heap.size) (hk : ∀ b, s ≤ b → b < w.heap.size → b ≠ g → w'.heap[b]? = w.heap[b]?) (hr : w'.heap[r]? = some (.cells cs.toArray 32 (0, 0))) (hr1 : w.heap.size ≤ r) (k : Int) (z : ByteArray) (hzs : z.size ≤ maxLen) {ds : List Tr} {v : Value} {hd : Nat} {bd : List Nat} (hds : RowS w' (sp w' hd 1) 44 9 v ds bd) (hbd : bd.Nodup) (hbr : ∀ b ∈ bd, w.heap.size ≤ b ∧ b < w'.heap.size ∧ b ≠ r) :
    InBox g s w' ⟨k, z, 0, [], [t], ds, []⟩ [.int .i64 k, .string z, .int .i64 0, .slice (some ⟨r, 0, none⟩) 1 1, v, .slice none 0 0] := by
  obtain ⟨H, bs, h1, h2, h3⟩ := h.tree
  have h4 : sp w' (H + hd) 0 t cs bs := sp_up (Nat.le_add_right _ _) (sp_frame h1 fun b hb => hk b (h2.2 b hb).1 (h2.2 b hb).2 (fun e => h3 (e ▸ hb)))
  have hrl := heap_lt hr
  have hlow := h.low
  have hlt := h.lt
  have hrow := Row.lit (w := w') (E := 32) (sz := 6) (g := r) [cs] (fun e he => by
    rw [List.mem_singleton] at he
    rw [he]
    exact (sp_one h4).1) (by simpa using hr) (by simp)
  refine ⟨Nat.lt_of_lt_of_le hlt hz, hlow, H + hd + 1, ([r] ++ bs) ++ bd ++ [], ⟨rfl, hzs, _, _, _, [r] ++ bs, bd, [], rfl, rfl, ⟨by simp, [cs], [bs], hrow, ⟨h4, trivial⟩, by simp [ownL, Value.ownBlock]⟩, hds.frame (fun _ _ => rfl) (fun _ _ _ _ k => sp_up (Nat.le_add_left _ _) k), RowS.nil _ _ _ _⟩, ?_, ?_⟩
  · rw [List.append_nil]
    refine ⟨List.nodup_append.2 ⟨List.nodup_append.2 ⟨by simp, h2.1, fun x hx y hy e => ?_⟩, hbd, fun x hx y hy e => ?_⟩, fun x hx => ?_⟩
    · rw [List.mem_singleton] at hx
      have := (h2.2 y hy).2
      omega
    · have h5 := hbr y hy
      rcases List.mem_append.1 hx with hx | hx
      · rw [List.mem_singleton] at hx; omega
      · have := (h2.2 x hx).2; omega
    · rcases List.mem_append.1 hx with hx | hx
      · rcases List.mem_append.1 hx with hx | hx
        · rw [List.mem_singleton] at hx; omega
        · have := h2.2 x hx; omega
      · have := hbr x hx; omega
  · intro hm
    rw [List.append_nil] at hm
    rcases List.mem_append.1 hm with hm | hm
    · rcases List.mem_append.1 hm with hm | hm
      · rw [List.mem_singleton] at hm; omega
      · exact h3 hm
    · have := hbr g hm; omega

set_option maxHeartbeats 4000000 in
set_option maxRecDepth 100000 in
theorem bDe_step {h : Nat} (i1 : BEx h) (i2 : BDs h) : BDe (h + 1) := by
  intro K x cs w hr hw
  obtain ⟨-, -, -, y, o1, c1, ce, o2, c2, hxl, rfl, hs, f1, f2, q1, hce, q2, q3⟩ := hr
  obtain ⟨a0, a1, a2, a3, a4, a5, rfl⟩ := six hce
  have hw2 : x.s.size + sw x.ss + (wts h).ex y + lw (wts h).de x.ds ≤ 1048576 := by
    have h9 : (wts (h + 1)).de x = x.s.size + sw x.ss + (x.l.map (wts h).ex).sum + lw (wts h).de x.ds := rfl
    rw [hxl] at h9
    simp at h9
    omega
  have I1 := hide i1
  have I2 := hide i2
  have Q1 := hide q1
  have Q2 := hide q2
  have Q3 := hide q3
  have hssl : x.ss.length ≤ 1048576 := by unfold sw at hw2; omega
  have hdsl : x.ds.length ≤ 1048576 := by unfold lw at hw2; omega
  have HW := hide hw2
  have HT : Hid ((brs (h + 1)).de x = lams x.ss (wlet (bareDs h x.ds) ((brs h).ex y))) := by
    show lams x.ss (wlet (bareDs h x.ds) ((x.l.map (brs h).ex).headD x)) = _
    rw [hxl]
    exact rfl
  clear i1 i2 q1 q2 q3 hs f1 f2 hw hw2 hxl hce
  have HB0 : Hid (Below w.heap.size w ((w.alloc (.cells #[.string x.s, .slice o1 x.ss.length c1, a0, a1, a2, a3, a4, a5, .slice o2 x.ds.length c2] 44)).alloc (.cells #[.int .i64 0, .string ⟨#[]⟩, .int .i64 0, .slice none 0 0, .slice none 0 0, .slice none 0 0] 32))) := ((Below.refl _ w).alloc (Nat.le_refl _) _).alloc (by simp) _
  have HX0 : Hid (((w.alloc (.cells #[.string x.s, .slice o1 x.ss.length c1, a0, a1, a2, a3, a4, a5, .slice o2 x.ds.length c2] 44)).alloc (.cells #[.int .i64 0, .string ⟨#[]⟩, .int .i64 0, .slice none 0 0, .slice none 0 0, .slice none 0 0] 32)).heap[w.heap.size]? = some (.cells #[.string x.s, .slice o1 x.ss.length c1, a0, a1, a2, a3, a4, a5, .slice o2 x.ds.length c2] 44 (0, 0))) := old_at (heap_alloc_new w _)
  have HY0 : Hid (((w.alloc (.cells #[.string x.s, .slice o1 x.ss.length c1, a0, a1, a2, a3, a4, a5, .slice o2 x.ds.length c2] 44)).alloc (.cells #[.int .i64 0, .string ⟨#[]⟩, .int .i64 0, .slice none 0 0, .slice none 0 0, .slice none 0 0] 32)).heap[w.heap.size + 1]? = some (.cells #[.int .i64 0, .string ⟨#[]⟩, .int .i64 0, .slice none 0 0, .slice none 0 0, .slice none 0 0] 32 (0, 0))) := by
    have h9 := heap_alloc_new (w.alloc (.cells #[.string x.s, .slice o1 x.ss.length c1, a0, a1, a2, a3, a4, a5, .slice o2 x.ds.length c2] 44)) (.cells #[.int .i64 0, .string ⟨#[]⟩, .int .i64 0, .slice none 0 0, .slice none 0 0, .slice none 0 0] 32)
    rw [World.size_alloc] at h9
    exact h9
  go_enter Try.func13, Try.ntmps13
  go_wp2_with fail
  refine (I1.out K y _ _ ((reads_later HB0.out h).1 _ _ Q2.out) (by have := HW.out; omega)).mono ?_
  rintro e w1 ⟨cs, H1, rfl, ht1, hb1⟩
  obtain ⟨r1, d1, r2, d2, r3, d3, rfl⟩ := ht1.exp
  generalize ((w.alloc (.cells #[.string x.s, .slice o1 x.ss.length c1, a0, a1, a2, a3, a4, a5, .slice o2 x.ds.length c2] 44)).alloc (.cells #[.int .i64 0, .string ⟨#[]⟩, .int .i64 0, .slice none 0 0, .slice none 0 0, .slice none 0 0] 32)) = w0 at HB0 HX0 HY0 ht1 hb1
  have hz0 : w.heap.size + 1 < w0.heap.size := heap_lt HY0.out
  obtain ⟨V, hV⟩ : ∃ V, w1.alloc (.cells #[.int .i64 ((brs h).ex y).k, .string ((brs h).ex y).s, .int .i64 ((brs h).ex y).n, .slice r1 ((brs h).ex y).l.length d1, .slice r2 ((brs h).ex y).ds.length d2, .slice r3 ((brs h).ex y).al.length d3] 32) = V := ⟨_, rfl⟩
  have hz1 : w0.heap.size ≤ w1.heap.size := hb1.size
  have hbV : Below w1.heap.size w1 V := by rw [← hV]; exact (Below.refl _ w1).alloc (Nat.le_refl _) _
  have hb0V : Below w0.heap.size w0 V := hb1.trans (hbV.mono hz1)
  have HGV : Hid (V.heap[w1.heap.size]? = some (.cells #[.int .i64 ((brs h).ex y).k, .string ((brs h).ex y).s, .int .i64 ((brs h).ex y).n, .slice r1 ((brs h).ex y).l.length d1, .slice r2 ((brs h).ex y).ds.length d2, .slice r3 ((brs h).ex y).al.length d3] 32 (0, 0))) := by rw [← hV]; exact heap_alloc_new w1 _
  have HIN : Hid (InBox w1.heap.size w0.heap.size V ((brs h).ex y) [.int .i64 ((brs h).ex y).k, .string ((brs h).ex y).s, .int .i64 ((brs h).ex y).n, .slice r1 ((brs h).ex y).l.length d1, .slice r2 ((brs h).ex y).ds.length d2, .slice r3 ((brs h).ex y).al.length d3]) := by
    obtain ⟨bs, k1, k2⟩ := ht1.keep (w' := V) fun b _ h2 => hbV.block b h2
    exact ⟨heap_lt HGV.out, hz1, H1, bs, k1, k2.wide (Nat.le_refl _) hbV.size, fun hm => by have := (k2.2 _ hm).2; omega⟩
  have HKV : Hid (Keeps (fun b => b < w0.heap.size) w0 V) := below_kpt hb0V
  clear ht1 hb1 hbV hb0V
  have HXV := hide ((HKV.out.block w.heap.size (by omega)).trans HX0.out)
  obtain ⟨x0, x1, x2, x3, x4, x5, x6, x7, x8⟩ := (box9 HXV.out).1
  go_upto_if 11 with fail
  go_cut [] (fun W => ∃ cs, W.heap[w1.heap.size]? = some (.cells cs.toArray 32 (0, 0)) ∧ InBox w1.heap.size w0.heap.size W (wlet (bareDs h x.ds) ((brs h).ex y)) cs ∧ Keeps (fun b => b < w0.heap.size) w0 W)
  case first =>
    by_cases hds : x.ds.length = 0
    · have hx0 : x.ds = [] := List.length_eq_zero_iff.1 hds
      have HW0 : Hid (wlet (bareDs h x.ds) ((brs h).ex y) = (brs h).ex y) := by rw [hx0]; exact rfl
      have hdec : decide (0 < x.ds.length) = false := by simp [hds]
      have hdec2 : ¬ ((0 : Int) < x.ds.length) := by omega
      clear hx0 hds
      go_wp2
      go_meet
      case rel => exact ⟨_, HGV.out, by rw [HW0.out]; exact HIN.out, HKV.out⟩
    · have hdec : decide (0 < x.ds.length) = true := by simp; omega
      have hdec2 : (0 : Int) < x.ds.length := by omega
      have HW0 : Hid (wlet (bareDs h x.ds) ((brs h).ex y) = ⟨6, ⟨#[]⟩, 0, [], [(brs h).ex y], bareDs h x.ds, []⟩) := by
        have h8 : ¬ (bareDs h x.ds).isEmpty = true := by
          rw [List.isEmpty_iff]
          intro e
          have h9 : (bareDs h x.ds).length = 0 := by rw [e]; rfl
          unfold bareDs at h9
          rw [List.length_map] at h9
          exact hds h9
        unfold wlet
        rw [if_neg h8]
        exact rfl
      obtain ⟨g0, g1, g2, g3, g4, g5⟩ := (box6 HGV.out).1
      have KS : Nat → Prop := fun b => b < w0.heap.size ∨ b = w1.heap.size
      have s8 := kpt_cell (K := fun b => b < w0.heap.size ∨ b = w1.heap.size) (.inl (by omega)) x8
      have t0 := kpt_cell (K := fun b => b < w0.heap.size ∨ b = w1.heap.size) (.inr rfl) g0
      have t1 := kpt_cell (K := fun b => b < w0.heap.size ∨ b = w1.heap.size) (.inr rfl) g1
      have t2 := kpt_cell (K := fun b => b < w0.heap.size ∨ b = w1.heap.size) (.inr rfl) g2
      have t3 := kpt_cell (K := fun b => b < w0.heap.size ∨ b = w1.heap.size) (.inr rfl) g3
      have t4 := kpt_cell (K := fun b => b < w0.heap.size ∨ b = w1.heap.size) (.inr rfl) g4
      have t5 := kpt_cell (K := fun b => b < w0.heap.size ∨ b = w1.heap.size) (.inr rfl) g5
      have hne0 : Nonempty (KptW (fun b => b < w0.heap.size ∨ b = w1.heap.size) V) := kpt_nonempty _ _
      have HC2 : Hid (∀ W, Below V.heap.size V W → Calls Try.prog 21 #[.slice o2 x.ds.length c2] W fun e w' => ∃ o' n' c' H, e = .returned (.slice o' n' c') ∧ RowT w' W.heap.size w'.heap.size H 1 (.slice o' n' c') (bareDs h x.ds) ∧ Below W.heap.size W w') := fun W hW => by
        have h5 : Below w.heap.size w W := (HB0.out.trans ((kpt_below HKV.out).mono (by omega))).trans (hW.mono (by have := HKV.out.size; omega))
        exact I2.out K x.ds o2 c2 W (Q3.out.later h5 (reads_later h5 h).2.1) (by have := HW.out; omega)
      clear hds x0 x1 x2 x3 x4 x5 x6 x7 x8 g0 g1 g2 g3 g4 g5 KS
      go_upto_region 3 with fail
      refine wp_region_fork (S := fun w' => ∃ q : KptW (fun b => b < w0.heap.size ∨ b = w1.heap.size) V, w' = q.w) [0, 1, 3] 2 4 [([], 4)] [([], 2)] [5] [5] 6 8 (by kernel_rfl) (by kernel_rfl) (by kernel_rfl) (by kernel_rfl) (by kernel_rfl) (by kernel_rfl) (by kernel_rfl) ⟨⟨_, kpt_drew _ V 1⟩, rfl⟩ ?_
      simp only [wpSchL, pickO, consO, List.getElem?_toArray, List.getElem?_cons_succ, List.getElem?_cons_zero]
      repeat (first | go_big_quiet_skip | (go_big_quiet_want; go_big_quiet_op; go_big_quiet_on))
      refine wpQuiet_nil ⟨?_, ?_⟩
      · go_wp2_with fail
        refine Calls.mono (HC2.out _ ((Below.refl _ _).drew)) ?_
        rintro e w2 ⟨o', n', c', H2, rfl, hrow, hb2⟩
        have hz2 : V.heap.size ≤ w2.heap.size := hb2.size
        have hzV : w1.heap.size < V.heap.size := heap_lt HGV.out
        obtain ⟨U, hU⟩ : ∃ U, w2.alloc (.cells #[.int .i64 ((brs h).ex y).k, .string ((brs h).ex y).s, .int .i64 ((brs h).ex y).n, .slice r1 ((brs h).ex y).l.length d1, .slice r2 ((brs h).ex y).ds.length d2, .slice r3 ((brs h).ex y).al.length d3] 32) = U := ⟨_, rfl⟩
        have hbVw : Below V.heap.size V w2 := (below_drew V).trans hb2
        have hbU : Below w2.heap.size w2 U := by rw [← hU]; exact (Below.refl _ w2).alloc (Nat.le_refl _) _
        have hbVU := hbVw.trans (hbU.mono hz2)
        have hrU : U.heap[w2.heap.size]? = some (.cells #[.int .i64 ((brs h).ex y).k, .string ((brs h).ex y).s, .int .i64 ((brs h).ex y).n, .slice r1 ((brs h).ex y).l.length d1, .slice r2 ((brs h).ex y).ds.length d2, .slice r3 ((brs h).ex y).al.length d3] 32 (0, 0)) := by rw [← hU]; exact heap_alloc_new w2 _
        have HGU := hide ((hbVU.block _ hzV).trans HGV.out)
        have HK2 : Hid (Keeps (fun b => b < w0.heap.size ∨ b = w1.heap.size) V w2) := ⟨hbVw.os, hbVw.tape, hbVw.output, hbVw.size, fun b hb => hbVw.block b (by omega)⟩
        have HKU : Hid (Keeps (fun b => b < w0.heap.size ∨ b = w1.heap.size) V U) := ⟨hbVU.os, hbVU.tape, hbVU.output, hbVU.size, fun b hb => hbVU.block b (by omega)⟩
        have HIU : Hid (InBox w1.heap.size w0.heap.size U (wlet (bareDs h x.ds) ((brs h).ex y)) [.int .i64 6, .string ⟨#[]⟩, .int .i64 0, .slice (some ⟨w2.heap.size, 0, none⟩) 1 1, .slice o' n' c', .slice none 0 0]) := by
          rw [HW0.out]
          obtain ⟨bd, hd1, hd2⟩ := hrow.keep (w' := U) fun b _ h2 => hbU.block b h2
          exact HIN.out.wrap hbVU.size (fun b _ h2 _ => hbVU.block b h2) hrU hz2 6 ⟨#[]⟩ (Nat.zero_le _) hd1 hd2.1 fun b hb => by
            have h5 := hd2.2 b hb
            have h6 : V.heap.size ≤ b := h5.1
            have := hbU.size
            omega
        obtain ⟨⟨g0, g1, g2, g3, g4, g5⟩, f0, f1, f2, f3, f4, f5⟩ := box6 HGU.out
        clear hrow hb2 hbVw hbU hbVU hrU t0 t1 t2 t3 t4 t5 s8 HC2
        go_wp2
        refine ⟨⟨⟨w2, HK2.out⟩, rfl⟩, ?_⟩
        refine wpQuiet_nil ?_
        go_wp2
        refine ⟨⟨⟨U, HKU.out⟩, rfl⟩, ?_⟩
        repeat (first | go_big_quiet_skip | (go_big_quiet_want; go_big_quiet_op; go_big_quiet_on))
        refine wpQuiet_nil ?_
        go_wp2
        go_meet
        case rel =>
          have hks := st6_keeps U w1.heap.size (.int .i64 6) (.string ⟨#[]⟩) (.int .i64 0) (.slice (some ⟨w2.heap.size, 0, none⟩) 1 1) (.slice o' n' c') (.slice none 0 0)
          refine ⟨[.int .i64 6, .string ⟨#[]⟩, .int .i64 0, .slice (some ⟨w2.heap.size, 0, none⟩) 1 1, .slice o' n' c', .slice none 0 0], st6_at HGU.out _ _ _ _ _ _, HIU.out.keep hks.size fun b _ _ hne => hks.block b hne, (HKV.out.trans (HKU.out.mono fun b hb => .inl hb)).trans (hks.mono fun b hb => ?_)⟩
          show b ≠ w1.heap.size
          omega
      · have hzV : w1.heap.size < V.heap.size := heap_lt HGV.out
        obtain ⟨U, hU⟩ : ∃ U, (V.drewN 1).alloc (.cells #[.int .i64 ((brs h).ex y).k, .string ((brs h).ex y).s, .int .i64 ((brs h).ex y).n, .slice r1 ((brs h).ex y).l.length d1, .slice r2 ((brs h).ex y).ds.length d2, .slice r3 ((brs h).ex y).al.length d3] 32) = U := ⟨_, rfl⟩
        have hbU : Below V.heap.size V U := by rw [← hU]; exact (below_drew V).alloc (Nat.le_refl _) _
        have hrU : U.heap[V.heap.size]? = some (.cells #[.int .i64 ((brs h).ex y).k, .string ((brs h).ex y).s, .int .i64 ((brs h).ex y).n, .slice r1 ((brs h).ex y).l.length d1, .slice r2 ((brs h).ex y).ds.length d2, .slice r3 ((brs h).ex y).al.length d3] 32 (0, 0)) := by rw [← hU]; exact heap_alloc_new (V.drewN 1) _
        have HKU : Hid (Keeps (fun b => b < w0.heap.size ∨ b = w1.heap.size) V U) := ⟨hbU.os, hbU.tape, hbU.output, hbU.size, fun b hb => hbU.block b (by omega)⟩
        have HBU := hide hbU
        have HRU := hide hrU
        clear hbU hrU
        go_wp2_with fail
        refine ⟨⟨⟨U, HKU.out⟩, rfl⟩, ?_⟩
        refine wpQuiet_nil ?_
        go_wp2_with fail
        refine Calls.mono (HC2.out _ HBU.out) ?_
        rintro e w2 ⟨o', n', c', H2, rfl, hrow, hb2⟩
        have hz2 : U.heap.size ≤ w2.heap.size := hb2.size
        have hrl := heap_lt HRU.out
        have hbVw : Below V.heap.size V w2 := HBU.out.trans (hb2.mono HBU.out.size)
        have HGU := hide ((hbVw.block _ hzV).trans HGV.out)
        have HK2 : Hid (Keeps (fun b => b < w0.heap.size ∨ b = w1.heap.size) V w2) := ⟨hbVw.os, hbVw.tape, hbVw.output, hbVw.size, fun b hb => hbVw.block b (by omega)⟩
        have HIU : Hid (InBox w1.heap.size w0.heap.size w2 (wlet (bareDs h x.ds) ((brs h).ex y)) [.int .i64 6, .string ⟨#[]⟩, .int .i64 0, .slice (some ⟨V.heap.size, 0, none⟩) 1 1, .slice o' n' c', .slice none 0 0]) := by
          rw [HW0.out]
          obtain ⟨bd, hd1, hd2⟩ := hrow
          exact HIN.out.wrap hbVw.size (fun b _ h2 _ => hbVw.block b h2) ((hb2.block _ hrl).trans HRU.out) (Nat.le_refl _) 6 ⟨#[]⟩ (Nat.zero_le _) hd1 hd2.1 fun b hb => by
            have h5 := hd2.2 b hb
            omega
        obtain ⟨⟨g0, g1, g2, g3, g4, g5⟩, f0, f1, f2, f3, f4, f5⟩ := box6 HGU.out
        clear hrow hb2 hbVw t0 t1 t2 t3 t4 t5 s8 HC2
        go_wp2
        refine ⟨⟨⟨w2, HK2.out⟩, rfl⟩, ?_⟩
        repeat (first | go_big_quiet_skip | (go_big_quiet_want; go_big_quiet_op; go_big_quiet_on))
        refine wpQuiet_nil ?_
        go_wp2
        go_meet
        case rel =>
          have hks := st6_keeps w2 w1.heap.size (.int .i64 6) (.string ⟨#[]⟩) (.int .i64 0) (.slice (some ⟨V.heap.size, 0, none⟩) 1 1) (.slice o' n' c') (.slice none 0 0)
          refine ⟨[.int .i64 6, .string ⟨#[]⟩, .int .i64 0, .slice (some ⟨V.heap.size, 0, none⟩) 1 1, .slice o' n' c', .slice none 0 0], st6_at HGU.out _ _ _ _ _ _, HIU.out.keep hks.size fun b _ _ hne => hks.block b hne, (HKV.out.trans (HK2.out.mono fun b hb => .inl hb)).trans (hks.mono fun b hb => ?_)⟩
          show b ≠ w1.heap.size
          omega
  case rest =>
    obtain ⟨cs0, hg, hin, hk⟩ := hcut
    have HT2 : Hid ((brs (h + 1)).de x = lams (x.ss.drop 0) (wlet (bareDs h x.ds) ((brs h).ex y))) := HT.out
    generalize wlet (bareDs h x.ds) ((brs h).ex y) = T at HT2 hin ⊢
    have HG := hide hg
    have HI := hide hin
    have HK := hide hk
    have HXC := hide ((hk.block w.heap.size (by omega)).trans HX0.out)
    clear hg hin hk x0 x1 x2 x3 x4 x5 x6 x7 x8 HT HXV HIN HGV HKV
    obtain ⟨x0, x1, x2, x3, x4, x5, x6, x7, x8⟩ := (box9 HXC.out).1
    go_wp2
    generalize wc = w2 at *
    go_loopw [4] (fun t4 wr => ∃ j : Nat, j ≤ x.ss.length ∧ t4 = .int .i64 ((j : Int) - 1) ∧ ∃ cs, wr.heap[w1.heap.size]? = some (.cells cs.toArray 32 (0, 0)) ∧ InBox w1.heap.size w0.heap.size wr (lams (x.ss.drop j) T) cs ∧ Keeps (fun b => b < w0.heap.size) w0 wr) (fun t4 _ => (intOf t4 + 1).toNat)
    case atStart =>
      refine ⟨x.ss.length, Nat.le_refl _, by first | rfl | go_num, cs0, HG.out, ?_, HK.out⟩
      rw [List.drop_length]
      exact HI.out
    case round =>
      obtain ⟨j, hj, rfl, cs, hg, hin, hk⟩ := hrel
      obtain ⟨p1, e1, p2, e2, p3, e3, rfl⟩ := hin.form
      have HGR := hide hg
      have HIR := hide hin
      have HKR := hide hk
      have HXR := hide ((hk.block w.heap.size (by omega)).trans HX0.out)
      have HYR := hide ((hk.block (w.heap.size + 1) (by omega)).trans HY0.out)
      have hlr := hin.lt
      have hlo := hin.low
      clear hg hin hk x0 x1 x2 x3 x4 x5 x6 x7 x8
      obtain ⟨x0, x1, x2, x3, x4, x5, x6, x7, x8⟩ := (box9 HXR.out).1
      obtain ⟨⟨g0, g1, g2, g3, g4, g5⟩, f0, f1, f2, f3, f4, f5⟩ := box6 HGR.out
      by_cases hjz : 0 < j
      · obtain ⟨i, rfl⟩ : ∃ i, j = i + 1 := ⟨j - 1, by omega⟩
        have hil : i < x.ss.length := by omega
        obtain ⟨z, hz⟩ : ∃ z, x.ss[i]? = some z := ⟨x.ss[i], List.getElem?_eq_getElem hil⟩
        obtain ⟨b, off, eo, -, hbl, hcs⟩ := Q1.out (fun e => by rw [e] at hil; simp at hil)
        subst eo
        obtain ⟨cz, -, hkey, hrz⟩ := hcs i z hz
        obtain ⟨rfl, hzs⟩ := hrz
        have hbw : Below w.heap.size w wr := HB0.out.trans ((kpt_below HKR.out).mono (by omega))
        have q0 : wr.cell? ⟨b, off + i, none⟩ = some (.string z) := by
          have h9 := hkey 0 _ rfl
          rw [Nat.mul_one, Nat.add_zero] at h9
          exact (hbw.cell (p := ⟨b, off + i, none⟩) hbl).trans h9
        have HEQ : Hid (lams (x.ss.drop i) T = ⟨5, z, 0, [], [lams (x.ss.drop (i + 1)) T], [], []⟩) := by
          have h8 : x.ss[i] = z := by rw [List.getElem?_eq_getElem hil] at hz; exact Option.some.inj hz
          rw [List.drop_eq_getElem_cons hil, h8]
          exact rfl
        have HZS := hide hzs
        have e1i : ((i + 1 : Nat) : Int) - 1 = i := by omega
        rw [e1i]
        generalize lams (x.ss.drop (i + 1)) T = T1 at HEQ HIR HGR g0 g1 g2 g3 g4 g5 ⊢
        have s0 := kpt_cell (K := fun b => b < w0.heap.size ∨ b = w1.heap.size) (.inl (by omega)) q0
        have s1 := kpt_cell (K := fun b => b < w0.heap.size ∨ b = w1.heap.size) (.inl (by omega)) x1
        have t0 := kpt_cell (K := fun b => b < w0.heap.size ∨ b = w1.heap.size) (.inr rfl) g0
        have t1 := kpt_cell (K := fun b => b < w0.heap.size ∨ b = w1.heap.size) (.inr rfl) g1
        have t2 := kpt_cell (K := fun b => b < w0.heap.size ∨ b = w1.heap.size) (.inr rfl) g2
        have t3 := kpt_cell (K := fun b => b < w0.heap.size ∨ b = w1.heap.size) (.inr rfl) g3
        have t4 := kpt_cell (K := fun b => b < w0.heap.size ∨ b = w1.heap.size) (.inr rfl) g4
        have t5 := kpt_cell (K := fun b => b < w0.heap.size ∨ b = w1.heap.size) (.inr rfl) g5
        have hne0 : Nonempty (KptW (fun b => b < w0.heap.size ∨ b = w1.heap.size) wr) := kpt_nonempty _ _
        obtain ⟨U, hU⟩ : ∃ U, (wr.drewN 1).alloc (.cells #[.int .i64 T1.k, .string T1.s, .int .i64 T1.n, .slice p1 T1.l.length e1, .slice p2 T1.ds.length e2, .slice p3 T1.al.length e3] 32) = U := ⟨_, rfl⟩
        have hbU : Below wr.heap.size wr U := by rw [← hU]; exact (below_drew wr).alloc (Nat.le_refl _) _
        have hrU : U.heap[wr.heap.size]? = some (.cells #[.int .i64 T1.k, .string T1.s, .int .i64 T1.n, .slice p1 T1.l.length e1, .slice p2 T1.ds.length e2, .slice p3 T1.al.length e3] 32 (0, 0)) := by rw [← hU]; exact heap_alloc_new (wr.drewN 1) _
        have HKU : Hid (Keeps (fun b => b < w0.heap.size ∨ b = w1.heap.size) wr U) := ⟨hbU.os, hbU.tape, hbU.output, hbU.size, fun b hb => hbU.block b (by omega)⟩
        have HGU := hide ((hbU.block _ hlr).trans HGR.out)
        have HIU : Hid (InBox w1.heap.size w0.heap.size U (lams (x.ss.drop i) T) [.int .i64 5, .string z, .int .i64 0, .slice (some ⟨wr.heap.size, 0, none⟩) 1 1, .slice none 0 0, .slice none 0 0]) := by
          rw [HEQ.out]
          exact HIR.out.wrap (ds := []) (v := .slice none 0 0) (hd := 0) (bd := []) hbU.size (fun b _ h2 _ => hbU.block b h2) hrU (Nat.le_refl _) 5 z HZS.out (RowS.nil _ _ _ _) List.nodup_nil (fun b hb => by cases hb)
        have hge : (0 : Int) ≤ (i : Int) := by omega
        have hil2 : (i : Int) < x.ss.length := by omega
        clear hbU hrU hkey hcs hz hzs g0 g1 g2 g3 g4 g5 f0 f1 f2 f3 f4 f5 x0 x1 x2 x3 x4 x5 x6 x7 x8 q0 hbw e1i
        obtain ⟨⟨g0, g1, g2, g3, g4, g5⟩, f0, f1, f2, f3, f4, f5⟩ := box6 HGU.out
        go_upto_region 7 with fail
        refine wp_region_last (S := fun w' => ∃ q : KptW (fun b => b < w0.heap.size ∨ b = w1.heap.size) wr, w' = q.w) [([0, 1, 2, 3, 4, 5], 6)] ([7], 8) 10 (by kernel_rfl) (by kernel_rfl) (by kernel_rfl) (by kernel_rfl) ⟨⟨_, kpt_drew _ wr 1⟩, rfl⟩ ?_
        simp only [wpSchL, pickO, consO, List.getElem?_toArray, List.getElem?_cons_succ, List.getElem?_cons_zero]
        repeat (first | go_big_quiet_skip | (go_big_quiet_want; go_big_quiet_op; go_big_quiet_on))
        refine wpQuiet_nil ?_
        go_wp2
        refine ⟨⟨⟨U, HKU.out⟩, rfl⟩, ?_⟩
        repeat (first | go_big_quiet_skip | (go_big_quiet_want; go_big_quiet_op; go_big_quiet_on))
        refine wpQuiet_nil ?_
        go_wp2
        go_roundw
        case rel =>
          have hks := st6_keeps U w1.heap.size (.int .i64 5) (.string z) (.int .i64 0) (.slice (some ⟨wr.heap.size, 0, none⟩) 1 1) (.slice none 0 0) (.slice none 0 0)
          refine ⟨i, by omega, by go_num, [.int .i64 5, .string z, .int .i64 0, .slice (some ⟨wr.heap.size, 0, none⟩) 1 1, .slice none 0 0, .slice none 0 0], st6_at HGU.out _ _ _ _ _ _, HIU.out.keep hks.size fun b _ _ hne => hks.block b hne, (HKR.out.trans (HKU.out.mono fun b hb => .inl hb)).trans (hks.mono fun b hb => ?_)⟩
          show b ≠ w1.heap.size
          omega
        case measure => simp [intOf]
      · have hj0 : j = 0 := by omega
        subst hj0
        obtain ⟨⟨y0, y1, y2, y3, y4, y5⟩, k0, k1, k2, k3, k4, k5⟩ := box6 HYR.out
        have HIR2 : Hid (InBox w1.heap.size w0.heap.size wr ((brs (h + 1)).de x) [.int .i64 (lams (x.ss.drop 0) T).k, .string (lams (x.ss.drop 0) T).s, .int .i64 (lams (x.ss.drop 0) T).n, .slice p1 (lams (x.ss.drop 0) T).l.length e1, .slice p2 (lams (x.ss.drop 0) T).ds.length e2, .slice p3 (lams (x.ss.drop 0) T).al.length e3]) := by
          rw [HT2.out]
          exact HIR.out
        clear HT2
        generalize lams (x.ss.drop 0) T = T1 at HIR HIR2 HGR g0 g1 g2 g3 g4 g5 ⊢
        go_wp2
        have hks := st6_keeps wr (w.heap.size + 1) (.int .i64 T1.k) (.string T1.s) (.int .i64 T1.n) (.slice p1 T1.l.length e1) (.slice p2 T1.ds.length e2) (.slice p3 T1.al.length e3)
        refine bodyPost_ret (v := .agg #[.int .i64 T1.k, .string T1.s, .int .i64 T1.n, .slice p1 T1.l.length e1, .slice p2 T1.ds.length e2, .slice p3 T1.al.length e3]) ?_ rfl ?_
        · exact results_cell_row rfl _ _ (w.heap.size + 1) 32 _ (0, 0) _ rfl (st6_at HYR.out _ _ _ _ _ _) Try.underlying32 rfl (by kernel_rfl)
        · obtain ⟨H, ht⟩ := HIR2.out.tree'
          refine ⟨_, H, rfl, (ht.keep fun b h1 _ => hks.block b (by show b ≠ _; omega)).up (by omega) hks.size (Nat.le_refl _), ?_⟩
          exact (HB0.out.trans ((kpt_below HKR.out).mono (by omega))).trans ⟨hks.os, hks.tape, hks.output, hks.size, fun b hb => hks.block b (by show b ≠ _; omega)⟩
end Go.Proofs.Ytgeckgdmkjddpaa.Br
