/- The model's Bare. -/
import Derived.Test.YtgeckgdmkjddpaaJE
namespace Go.Proofs.Ytgeckgdmkjddpaa.Br
open Go.ChangeShapes Go.WideShapes Go.ChangeAt Go.RowKit Go.Proofs.Ytgeckgdmkjddpaa.Rd

def BAl (h : Nat) : Prop := ∀ (K : Nat → Prop) (x : Tr) (v0 v1 v2 v3 v4 v5 v6 v7 : Value) (w : World), (reads K w h).al x [v0, v1, v2, v3, v4, v5, v6, v7] → (wts h).al x ≤ 1048576 → ∃ t, (brs h).al x = tAlt x.s x.ss t ∧ Calls Try.prog 6 #[.agg #[v2, v3, v4, v5, v6, v7]] w (ResB t w)
theorem bAl_step {h : Nat} (i1 : BEx h) : BAl (h + 1) := by
  intro K x v0 v1 v2 v3 v4 v5 v6 v7 w hr hw
  obtain ⟨-, -, -, -, y, o1, c1, ce, hy, he, hs, hl, q1, hce, q2⟩ := hr
  obtain ⟨a0, a1, a2, a3, a4, a5, rfl⟩ := six hce
  simp only [List.cons_append, List.nil_append, List.cons.injEq, and_true] at he
  obtain ⟨-, -, rfl, rfl, rfl, rfl, rfl, rfl⟩ := he
  refine ⟨(brs h).ex y, ?_, i1 K y _ w q2 ?_⟩
  · show tAlt x.s x.ss ((x.l.map (brs h).ex).headD x) = _
    rw [hy]
    rfl
  · have h9 : (wts (h + 1)).al x = x.s.size + sw x.ss + (x.l.map (wts h).ex).sum := rfl
    rw [hy] at h9
    simp at h9
    omega
theorem al_open {K : Nat → Prop} {w : World} {h : Nat} {x : Tr} {cs : List Value} (hr : (reads K w h).al x cs) : ∃ o c a0 a1 a2 a3 a4 a5, cs = [.string x.s, .slice o x.ss.length c, a0, a1, a2, a3, a4, a5] ∧ RowOf K w strR 1 o x.ss ∧ x.s.size ≤ maxLen := by
  cases h with
  | zero => exact hr.elim
  | succ h =>
    obtain ⟨-, -, -, -, y, o1, c1, ce, hy, rfl, hs, hl, q1, hce, q2⟩ := hr
    obtain ⟨a0, a1, a2, a3, a4, a5, rfl⟩ := six hce
    exact ⟨o1, c1, a0, a1, a2, a3, a4, a5, rfl, q1, hs⟩
theorem al_ss {h : Nat} {x : Tr} {K : Nat → Prop} {w : World} {cs : List Value} (hr : (reads K w h).al x cs) (hw : (wts h).al x ≤ 1048576) : x.ss.length ≤ 1048576 := by
  cases h with
  | zero => exact hr.elim
  | succ h =>
    have h9 : (wts (h + 1)).al x = x.s.size + sw x.ss + (x.l.map (wts h).ex).sum := rfl
    unfold sw at h9
    omega
theorem Bx.low {g : Nat} {w : World} {s s' u u' h : Nat} {l ds al : List Tr} {v1 v2 v3 : Value} (k : Bx g w s u h l ds al v1 v2 v3) (hs : s' ≤ s) (hu : u ≤ u') : Bx g w s' u' h l ds al v1 v2 v3 := by
  obtain ⟨b1, b2, b3, r1, r2, r3, k1, k2⟩ := k
  exact ⟨b1, b2, b3, r1, r2, r3, k1.wide hs hu, k2⟩
/-- Three rows in a box. -/
def BoxR (g s : Nat) (w : World) (k : Int) (t : ByteArray) (n : Int) (l ds al : List Tr) : Prop := ∃ v1 v2 v3 H, w.heap[g]? = some (.cells #[.int .i64 k, .string t, .int .i64 n, v1, v2, v3] 32 (0, 0)) ∧ s ≤ g ∧ Bx g w s w.heap.size H l ds al v1 v2 v3

set_option maxHeartbeats 4000000 in
set_option maxRecDepth 100000 in
theorem bEx_step {h : Nat} (i1 : BEx h) (i2 : BDs h) (i3 : BAl h) : BEx (h + 1) := by
  intro K x cs w hr hw
  obtain ⟨-, o1, c1, o2, c2, o3, c3, rfl, hs, f1, f2, f3, q1, q2, q3⟩ := hr
  have hw2 : x.s.size + lw (wts h).ex x.l + lw (wts h).de x.ds + lw (wts h).al x.al ≤ 1048576 := hw
  have I1 := hide i1
  have I2 := hide i2
  have I3 := hide i3
  have Q1 := hide q1
  have Q2 := hide q2
  have Q3 := hide q3
  have HS := hide hs
  have hll : x.l.length ≤ 1048576 := by unfold lw at hw2; omega
  have hdl : x.ds.length ≤ 1048576 := by unfold lw at hw2; omega
  have hal : x.al.length ≤ 1048576 := by unfold lw at hw2; omega
  have HW := hide hw2
  have HT : Hid ((brs (h + 1)).ex x = ⟨x.k, x.s, x.n, [], x.l.map (brs h).ex, bareDs h x.ds, x.al.map (brs h).al⟩) := rfl
  clear i1 i2 i3 q1 q2 q3 hs f1 f2 f3 hw hw2
  have HB0 : Hid (Below w.heap.size w ((w.alloc (.cells #[.int .i64 x.k, .string x.s, .int .i64 x.n, .slice o1 x.l.length c1, .slice o2 x.ds.length c2, .slice o3 x.al.length c3] 32)).alloc (.cells #[.int .i64 0, .string ⟨#[]⟩, .int .i64 0, .slice none 0 0, .slice none 0 0, .slice none 0 0] 32))) := ((Below.refl _ w).alloc (Nat.le_refl _) _).alloc (by simp) _
  have HX0 : Hid (((w.alloc (.cells #[.int .i64 x.k, .string x.s, .int .i64 x.n, .slice o1 x.l.length c1, .slice o2 x.ds.length c2, .slice o3 x.al.length c3] 32)).alloc (.cells #[.int .i64 0, .string ⟨#[]⟩, .int .i64 0, .slice none 0 0, .slice none 0 0, .slice none 0 0] 32)).heap[w.heap.size]? = some (.cells #[.int .i64 x.k, .string x.s, .int .i64 x.n, .slice o1 x.l.length c1, .slice o2 x.ds.length c2, .slice o3 x.al.length c3] 32 (0, 0))) := old_at (heap_alloc_new w _)
  have HY0 : Hid (((w.alloc (.cells #[.int .i64 x.k, .string x.s, .int .i64 x.n, .slice o1 x.l.length c1, .slice o2 x.ds.length c2, .slice o3 x.al.length c3] 32)).alloc (.cells #[.int .i64 0, .string ⟨#[]⟩, .int .i64 0, .slice none 0 0, .slice none 0 0, .slice none 0 0] 32)).heap[w.heap.size + 1]? = some (.cells #[.int .i64 0, .string ⟨#[]⟩, .int .i64 0, .slice none 0 0, .slice none 0 0, .slice none 0 0] 32 (0, 0))) := by
    have h9 := heap_alloc_new (w.alloc (.cells #[.int .i64 x.k, .string x.s, .int .i64 x.n, .slice o1 x.l.length c1, .slice o2 x.ds.length c2, .slice o3 x.al.length c3] 32)) (.cells #[.int .i64 0, .string ⟨#[]⟩, .int .i64 0, .slice none 0 0, .slice none 0 0, .slice none 0 0] 32)
    rw [World.size_alloc] at h9
    exact h9
  obtain ⟨w0, hw0⟩ : ∃ w0, (w.alloc (.cells #[.int .i64 x.k, .string x.s, .int .i64 x.n, .slice o1 x.l.length c1, .slice o2 x.ds.length c2, .slice o3 x.al.length c3] 32)).alloc (.cells #[.int .i64 0, .string ⟨#[]⟩, .int .i64 0, .slice none 0 0, .slice none 0 0, .slice none 0 0] 32) = w0 := ⟨_, rfl⟩
  rw [hw0] at HB0 HX0 HY0
  have hz0 : w.heap.size + 1 < w0.heap.size := heap_lt HY0.out
  go_enter Try.func6, Try.ntmps6
  go_upto_region 1 with fail
  clear hw0
  go_cut [3] (fun v W => ∃ g, v = .pointer (some ⟨g, 0, none⟩) ∧ BoxR g w0.heap.size W x.k x.s x.n [] (bareDs h x.ds) [] ∧ Keeps (fun b => b < w0.heap.size) w0 W)
  case first =>
    obtain ⟨x0, x1, x2, x3, x4, x5⟩ := (box6 HX0.out).1
    have s0 := kpt_cell (K := fun b => b < w0.heap.size) (show w.heap.size < w0.heap.size by omega) x0
    have s1 := kpt_cell (K := fun b => b < w0.heap.size) (show w.heap.size < w0.heap.size by omega) x1
    have s2 := kpt_cell (K := fun b => b < w0.heap.size) (show w.heap.size < w0.heap.size by omega) x2
    have s4 := kpt_cell (K := fun b => b < w0.heap.size) (show w.heap.size < w0.heap.size by omega) x4
    have hne0 : Nonempty (KptW (fun b => b < w0.heap.size) w0) := kpt_nonempty _ _
    have HC2 : Hid (∀ W, Below w0.heap.size w0 W → Calls Try.prog 21 #[.slice o2 x.ds.length c2] W fun e w' => ∃ o' n' c' H, e = .returned (.slice o' n' c') ∧ RowT w' W.heap.size w'.heap.size H 1 (.slice o' n' c') (bareDs h x.ds) ∧ Below W.heap.size W w') := fun W hW => by
      have h5 : Below w.heap.size w W := HB0.out.trans (hW.mono (by omega))
      exact I2.out K x.ds o2 c2 W (Q2.out.later h5 (reads_later h5 h).2.1) (by have := HW.out; omega)
    clear x0 x1 x2 x3 x4 x5
    refine wp_region_fork (S := fun w' => ∃ q : KptW (fun b => b < w0.heap.size) w0, w' = q.w) [0, 1, 2, 3, 4, 5, 6, 7] 8 10 [([9], 10)] [([], 8)] [] [9] 11 12 (by kernel_rfl) (by kernel_rfl) (by kernel_rfl) (by kernel_rfl) (by kernel_rfl) (by kernel_rfl) (by kernel_rfl) ⟨⟨_, kpt_drew _ w0 1⟩, rfl⟩ ?_
    simp only [wpSchL, pickO, consO, List.getElem?_toArray, List.getElem?_cons_succ, List.getElem?_cons_zero]
    repeat (first | go_big_quiet_skip | (go_big_quiet_want; go_big_quiet_op; go_big_quiet_on))
    refine wpQuiet_nil ⟨?_, ?_⟩
    · go_wp2_with fail
      refine Calls.mono (HC2.out _ (below_drew w0)) ?_
      rintro e w2 ⟨o', n', c', H2, rfl, hrow, hb2⟩
      have hz2 : w0.heap.size ≤ w2.heap.size := hb2.size
      obtain ⟨b1, r1, hf1, -⟩ := hrow.form
      simp only [Value.slice.injEq] at hf1
      obtain ⟨rfl, rfl, rfl⟩ := hf1
      obtain ⟨Z, hZ⟩ : ∃ Z, w2.alloc (.cells #[.int .i64 0, .string ⟨#[]⟩, .int .i64 0, .slice none 0 0, .slice none 0 0, .slice none 0 0] 32) = Z := ⟨_, rfl⟩
      have hbVw : Below w0.heap.size w0 w2 := (below_drew w0).trans hb2
      have hbZ : Below w2.heap.size w2 Z := by rw [← hZ]; exact (Below.refl _ w2).alloc (Nat.le_refl _) _
      have HGZ : Hid (Z.heap[w2.heap.size]? = some (.cells #[.int .i64 0, .string ⟨#[]⟩, .int .i64 0, .slice none 0 0, .slice none 0 0, .slice none 0 0] 32 (0, 0))) := by rw [← hZ]; exact heap_alloc_new w2 _
      have HK2 : Hid (Keeps (fun b => b < w0.heap.size) w0 w2) := below_kpt hbVw
      have HKZ : Hid (Keeps (fun b => b < w0.heap.size) w0 Z) := below_kpt (hbVw.trans (hbZ.mono hz2))
      have HBX : Hid (Bx w2.heap.size Z w0.heap.size Z.heap.size H2 [] (bareDs h x.ds) [] (.slice none 0 0) (.slice o' (bareDs h x.ds).length c') (.slice none 0 0)) := (Bx.decs (hrow.keep fun b _ h2 => hbZ.block b h2) (.inr (Nat.le_refl _))).up hbZ.size (Nat.le_refl _)
      obtain ⟨⟨g0, g1, g2, g3, g4, g5⟩, f0, f1, f2, f3, f4, f5⟩ := box6 HGZ.out
      clear hrow hb2 hbVw hbZ HC2 s0 s1 s2 s4
      go_wp2
      refine ⟨⟨⟨w2, HK2.out⟩, rfl⟩, ?_⟩
      repeat (first | go_big_quiet_skip | (go_big_quiet_want; go_big_quiet_op; go_big_quiet_on))
      refine wpQuiet_nil ?_
      go_wp2
      refine ⟨⟨⟨Z, HKZ.out⟩, rfl⟩, ?_⟩
      repeat (first | go_big_quiet_skip | (go_big_quiet_want; go_big_quiet_op; go_big_quiet_on))
      refine wpQuiet_nil ?_
      go_wp2
      go_meet
      case rel =>
        have hks := st6_keeps Z w2.heap.size (.int .i64 x.k) (.string x.s) (.int .i64 x.n) (.slice none 0 0) (.slice o' (bareDs h x.ds).length c') (.slice none 0 0)
        refine ⟨w2.heap.size, rfl, ⟨_, _, _, H2, st6_at HGZ.out _ _ _ _ _ _, hz2, (HBX.out.keep fun b _ _ hne => hks.block b hne).up hks.size (Nat.le_refl _)⟩, HKZ.out.trans (hks.mono fun b hb => ?_)⟩
        show b ≠ w2.heap.size
        omega
    · obtain ⟨Z, hZ⟩ : ∃ Z, (w0.drewN 1).alloc (.cells #[.int .i64 0, .string ⟨#[]⟩, .int .i64 0, .slice none 0 0, .slice none 0 0, .slice none 0 0] 32) = Z := ⟨_, rfl⟩
      have hbZ : Below w0.heap.size w0 Z := by rw [← hZ]; exact (below_drew w0).alloc (Nat.le_refl _) _
      have hgZ : Z.heap[w0.heap.size]? = some (.cells #[.int .i64 0, .string ⟨#[]⟩, .int .i64 0, .slice none 0 0, .slice none 0 0, .slice none 0 0] 32 (0, 0)) := by rw [← hZ]; exact heap_alloc_new (w0.drewN 1) _
      have HKZ : Hid (Keeps (fun b => b < w0.heap.size) w0 Z) := below_kpt hbZ
      have HBZ := hide hbZ
      have HGZ := hide hgZ
      clear hbZ hgZ
      go_wp2_with fail
      refine ⟨⟨⟨Z, HKZ.out⟩, rfl⟩, ?_⟩
      refine wpQuiet_nil ?_
      go_wp2_with fail
      refine Calls.mono (HC2.out _ HBZ.out) ?_
      rintro e w2 ⟨o', n', c', H2, rfl, hrow, hb2⟩
      have hz2 : Z.heap.size ≤ w2.heap.size := hb2.size
      have hgl := heap_lt HGZ.out
      obtain ⟨b1, r1, hf1, -⟩ := hrow.form
      simp only [Value.slice.injEq] at hf1
      obtain ⟨rfl, rfl, rfl⟩ := hf1
      have hbVw : Below w0.heap.size w0 w2 := HBZ.out.trans (hb2.mono HBZ.out.size)
      have HG2 := hide ((hb2.block _ hgl).trans HGZ.out)
      have HK2 : Hid (Keeps (fun b => b < w0.heap.size) w0 w2) := below_kpt hbVw
      have HBX : Hid (Bx w0.heap.size w2 Z.heap.size w2.heap.size H2 [] (bareDs h x.ds) [] (.slice none 0 0) (.slice o' (bareDs h x.ds).length c') (.slice none 0 0)) := Bx.decs hrow (.inl hgl)
      obtain ⟨⟨g0, g1, g2, g3, g4, g5⟩, f0, f1, f2, f3, f4, f5⟩ := box6 HG2.out
      clear hrow hb2 hbVw HC2 s0 s1 s2 s4
      go_wp2
      refine ⟨⟨⟨w2, HK2.out⟩, rfl⟩, ?_⟩
      repeat (first | go_big_quiet_skip | (go_big_quiet_want; go_big_quiet_op; go_big_quiet_on))
      refine wpQuiet_nil ?_
      go_wp2
      go_meet
      case rel =>
        have hks := st6_keeps w2 w0.heap.size (.int .i64 x.k) (.string x.s) (.int .i64 x.n) (.slice none 0 0) (.slice o' (bareDs h x.ds).length c') (.slice none 0 0)
        refine ⟨w0.heap.size, rfl, ⟨_, _, _, H2, st6_at HG2.out _ _ _ _ _ _, Nat.le_refl _, (HBX.out.keep fun b _ _ hne => hks.block b hne).low (by omega) hks.size⟩, HK2.out.trans (hks.mono fun b hb => ?_)⟩
        show b ≠ w0.heap.size
        omega
  case rest =>
    obtain ⟨g, rfl, hbox, hk⟩ := hcut
    have HBX := hide hbox
    have HKC := hide hk
    clear hbox hk
    go_wp2
    generalize wc = w2 at *
    go_loopw [4] (fun t4 wr => ∃ i : Nat, i ≤ x.l.length ∧ t4 = .int .i64 i ∧ BoxR g w0.heap.size wr x.k x.s x.n ((x.l.take i).map (brs h).ex) (bareDs h x.ds) [] ∧ Keeps (fun b => b < w0.heap.size) w0 wr) (fun t4 _ => x.l.length - (intOf t4).toNat)
    case atStart => exact ⟨0, Nat.zero_le _, rfl, HBX.out, HKC.out⟩
    case round =>
      obtain ⟨i, hi, rfl, hbox, hk⟩ := hrel
      have HKR := hide hk
      have HXR := hide ((hk.block w.heap.size (by omega)).trans HX0.out)
      have HBR := hide hbox
      clear hbox hk
      by_cases hil : i < x.l.length
      · obtain ⟨L, hL⟩ : ∃ L, (x.l.take i).map (brs h).ex = L := ⟨_, rfl⟩
        have hLb : L.length ≤ 1048576 := by rw [← hL, List.length_map, List.length_take]; omega
        obtain ⟨v1, v2, v3, H, hgr, hsg, hbx⟩ := HBR.out
        rw [hL] at hbx
        obtain ⟨⟨p1, e1, rfl⟩, ⟨p2, e2, rfl⟩, p3, e3, rfl⟩ := hbx.form
        have hne : x.l ≠ [] := by intro e; rw [e] at hil; simp at hil
        obtain ⟨y, hy⟩ : ∃ y, x.l[i]? = some y := ⟨x.l[i], List.getElem?_eq_getElem hil⟩
        have hbw : Below w.heap.size w wr := HB0.out.trans ((kpt_below HKR.out).mono (by omega))
        obtain ⟨b, off, eo, -, hbl, hcs⟩ := Q1.out hne
        subst eo
        obtain ⟨cs, hlen, hkey, hrd⟩ := hcs i y hy
        obtain ⟨u0, u1, u2, u3, u4, u5, rfl⟩ := six hlen
        have cell : ∀ j u, [u0, u1, u2, u3, u4, u5][j]? = some u → wr.cell? ⟨b, off + i * 6 + j, none⟩ = some u := fun j u hu => (hbw.cell (p := ⟨b, _, none⟩) hbl).trans (hkey j u hu)
        have q0 := cell 0 _ rfl
        have q1 := cell 1 _ rfl
        have q2 := cell 2 _ rfl
        have q3 := cell 3 _ rfl
        have q4 := cell 4 _ rfl
        have q5 := cell 5 _ rfl
        rw [Nat.add_zero] at q0
        obtain ⟨x0, x1, x2, x3, x4, x5⟩ := (box6 HXR.out).1
        obtain ⟨g0, g1, g2, g3, g4, g5⟩ := (box6 hgr).1
        have hbl0 : b < w0.heap.size := by omega
        have s0 := kpt_cell (K := fun b => b < w0.heap.size ∨ b = g) (.inl hbl0) q0
        have s1 := kpt_cell (K := fun b => b < w0.heap.size ∨ b = g) (.inl hbl0) q1
        have s2 := kpt_cell (K := fun b => b < w0.heap.size ∨ b = g) (.inl hbl0) q2
        have s3 := kpt_cell (K := fun b => b < w0.heap.size ∨ b = g) (.inl hbl0) q3
        have s4 := kpt_cell (K := fun b => b < w0.heap.size ∨ b = g) (.inl hbl0) q4
        have s5 := kpt_cell (K := fun b => b < w0.heap.size ∨ b = g) (.inl hbl0) q5
        have s6 := kpt_cell (K := fun b => b < w0.heap.size ∨ b = g) (.inl (show w.heap.size < w0.heap.size by omega)) x3
        have s7 := kpt_cell (K := fun b => b < w0.heap.size ∨ b = g) (.inr rfl) g3
        have hne0 : Nonempty (KptW (fun b => b < w0.heap.size ∨ b = g) wr) := kpt_nonempty _ _
        have hwy : (wts h).ex y ≤ 1048576 := by
          have h1 := HW.out
          have h2 := le_sum (wts h).ex x.l y (List.mem_of_getElem? hy)
          unfold lw at h1
          omega
        have hbd := below_drew wr
        have HCA := hide (I1.out K y [u0, u1, u2, u3, u4, u5] (wr.drewN 1) ((reads_later (hbw.trans (hbd.mono hbw.size)) h).1 _ _ hrd) hwy)
        have HEQ : Hid ((x.l.take (i + 1)).map (brs h).ex = L ++ [(brs h).ex y]) := by
          rw [List.take_add_one, hy, List.map_append, hL]
          exact rfl
        have HGR := hide hgr
        have HBXR := hide hbx
        have hgl := heap_lt hgr
        have hil2 : (i : Int) < x.l.length := by omega
        clear hcs hy hne hkey hlen hrd cell hbd hwy q0 q1 q2 q3 q4 q5 g0 g1 g2 g3 g4 g5 x0 x1 x2 x4 x5 hgr hbx hbw hL HBR hbl
        go_upto_region 5 with fail
        refine wp_region_last (S := fun w' => ∃ q : KptW (fun b => b < w0.heap.size ∨ b = g) wr, w' = q.w) [([0, 1, 2, 3, 4, 5, 6], 7), ([], 8), ([], 9)] ([10], 11) 12 (by kernel_rfl) (by kernel_rfl) (by kernel_rfl) (by kernel_rfl) ⟨⟨_, kpt_drew _ wr 1⟩, rfl⟩ ?_
        simp only [wpSchL, pickO, consO, List.getElem?_toArray, List.getElem?_cons_succ, List.getElem?_cons_zero]
        repeat (first | go_big_quiet_skip | (go_big_quiet_want; go_big_quiet_op; go_big_quiet_on))
        refine wpQuiet_nil ?_
        go_wp2_with fail
        refine Calls.mono HCA.out ?_
        rintro e w2 ⟨cs, H2, rfl, ht2, hb2⟩
        obtain ⟨r1, d1, r2, d2, r3, d3, rfl⟩ := ht2.exp
        have hbw2 : Below wr.heap.size wr w2 := (below_drew wr).trans hb2
        have hz2 : wr.heap.size ≤ w2.heap.size := hbw2.size
        obtain ⟨o', cp, o'', c'', w3, e3', hr3, hbx3, hk3⟩ := Bx.putL (HBXR.out.keep fun b _ h2 _ => hbw2.block b h2) ht2 (by omega) hz2 hgl (by omega)
        cases e3'
        have HR3 := hide hr3
        have HBX3 := hide hbx3
        have HK2 : Hid (Keeps (fun b => b < w0.heap.size ∨ b = g) wr w2) := ⟨hbw2.os, hbw2.tape, hbw2.output, hbw2.size, fun b hb => hbw2.block b (by omega)⟩
        have HK2a : Hid (Keeps (fun b => b < w0.heap.size ∨ b = g) wr (w2.alloc (.cells #[.int .i64 ((brs h).ex y).k, .string ((brs h).ex y).s, .int .i64 ((brs h).ex y).n, .slice r1 ((brs h).ex y).l.length d1, .slice r2 ((brs h).ex y).ds.length d2, .slice r3 ((brs h).ex y).al.length d3] 32))) := by
          have hba := hbw2.trans (((Below.refl w2.heap.size w2).alloc (Nat.le_refl _) (.cells #[.int .i64 ((brs h).ex y).k, .string ((brs h).ex y).s, .int .i64 ((brs h).ex y).n, .slice r1 ((brs h).ex y).l.length d1, .slice r2 ((brs h).ex y).ds.length d2, .slice r3 ((brs h).ex y).al.length d3] 32)).mono hz2)
          exact ⟨hba.os, hba.tape, hba.output, hba.size, fun b hb => hba.block b (by omega)⟩
        have HK3 : Hid (Keeps (fun b => b < w0.heap.size ∨ b = g) wr w3) := HK2.out.trans (hk3.mono fun b hb => ⟨by omega, hb⟩)
        have HG3 := hide ((HK3.out.block g (.inr rfl)).trans HGR.out)
        obtain ⟨⟨g0, g1, g2, g3, g4, g5⟩, f0, f1, f2, f3, f4, f5⟩ := box6 HG3.out
        clear ht2 hb2 hbw2 hr3 hbx3 hk3 HCA s0 s1 s2 s3 s4 s5 s6 s7
        go_wp2
        refine ⟨⟨⟨w2, HK2.out⟩, rfl⟩, ?_⟩
        refine wpQuiet_nil ?_
        go_wp2
        refine ⟨⟨⟨_, HK2a.out⟩, rfl⟩, ?_⟩
        refine wpQuiet_nil ?_
        go_wp2_with (at_builtin; refine Lib.wpList_append_run _ rfl _ _ _ _ rfl _ _ rfl rfl _ _ HR3.out ?_)
        refine ⟨⟨⟨w3, HK3.out⟩, rfl⟩, ?_⟩
        repeat (first | go_big_quiet_skip | (go_big_quiet_want; go_big_quiet_op; go_big_quiet_on))
        refine wpQuiet_nil ?_
        go_wp2
        go_roundw
        case rel =>
          have hks := keeps_set (K := fun k => k ≠ g) w3 g 3 (.slice o'' (L.length + 1) c'') (fun h => h rfl)
          refine ⟨i + 1, by omega, by go_num, ⟨_, _, _, H + H2, heap_set_same (j := 3) _ HG3.out, hsg, ?_⟩, (HKR.out.trans (HK3.out.mono fun b hb => .inl hb)).trans (hks.mono fun b hb => ?_)⟩
          · rw [HEQ.out]
            exact (HBX3.out.keep fun b _ _ hne => hks.block b hne).up hks.size (Nat.le_refl _)
          · show b ≠ g
            omega
        case measure => simp [intOf]; omega
      · have hil2 : ¬ ((i : Int) < x.l.length) := by omega
        have HBL : Hid (BoxR g w0.heap.size wr x.k x.s x.n (x.l.map (brs h).ex) (bareDs h x.ds) []) := by
          have h9 := HBR.out
          rw [List.take_of_length_le (by omega)] at h9
          exact h9
        obtain ⟨x0, x1, x2, x3, x4, x5⟩ := (box6 HXR.out).1
        clear HBR HBX HKC
        go_wp2
        generalize wr = V at *
        clear x0 x1 x2 x3 x4 x5 HXR hil hil2 hi
        obtain ⟨LL, hLL⟩ : ∃ LL, x.l.map (brs h).ex = LL := ⟨_, rfl⟩
        rw [hLL] at HBL HT
        clear hLL
        go_loopw [5] (fun t5 wr => ∃ i : Nat, i ≤ x.al.length ∧ t5 = .int .i64 i ∧ BoxR g w0.heap.size wr x.k x.s x.n LL (bareDs h x.ds) ((x.al.take i).map (brs h).al) ∧ Keeps (fun b => b < w0.heap.size) w0 wr) (fun t5 _ => x.al.length - (intOf t5).toNat)
        case atStart => exact ⟨0, Nat.zero_le _, rfl, HBL.out, HKR.out⟩
        case round =>
          obtain ⟨j, hj, rfl, hbox, hk⟩ := hrel
          have HKS := hide hk
          have HXS := hide ((hk.block w.heap.size (by omega)).trans HX0.out)
          have HYS := hide ((hk.block (w.heap.size + 1) (by omega)).trans HY0.out)
          have HBS := hide hbox
          clear hbox hk HBL HKR
          by_cases hjl : j < x.al.length
          · obtain ⟨L, hL⟩ : ∃ L, (x.al.take j).map (brs h).al = L := ⟨_, rfl⟩
            have hLb : L.length ≤ 1048576 := by rw [← hL, List.length_map, List.length_take]; omega
            obtain ⟨v1, v2, v3, H, hgr, hsg, hbx⟩ := HBS.out
            rw [hL] at hbx
            obtain ⟨⟨p1, e1, rfl⟩, ⟨p2, e2, rfl⟩, p3, e3, rfl⟩ := hbx.form
            have hne : x.al ≠ [] := by intro e; rw [e] at hjl; simp at hjl
            obtain ⟨y, hy⟩ : ∃ y, x.al[j]? = some y := ⟨x.al[j], List.getElem?_eq_getElem hjl⟩
            have hbw : Below w.heap.size w wr := HB0.out.trans ((kpt_below HKS.out).mono (by omega))
            obtain ⟨b, off, eo, -, hbl, hcs⟩ := Q3.out hne
            subst eo
            obtain ⟨cs, hlen, hkey, hrd⟩ := hcs j y hy
            have hwy : (wts h).al y ≤ 1048576 := by
              have h1 := HW.out
              have h2 := le_sum (wts h).al x.al y (List.mem_of_getElem? hy)
              unfold lw at h1
              omega
            have hssl := al_ss hrd hwy
            obtain ⟨oa, ca, u0, u1, u2, u3, u4, u5, rfl, hra, hys⟩ := al_open hrd
            have cell : ∀ i u, [.string y.s, .slice oa y.ss.length ca, u0, u1, u2, u3, u4, u5][i]? = some u → wr.cell? ⟨b, off + j * 8 + i, none⟩ = some u := fun i u hu => (hbw.cell (p := ⟨b, _, none⟩) hbl).trans (hkey i u hu)
            have q0 := cell 0 _ rfl
            have q1 := cell 1 _ rfl
            have q2 := cell 2 _ rfl
            have q3 := cell 3 _ rfl
            have q4 := cell 4 _ rfl
            have q5 := cell 5 _ rfl
            have q6 := cell 6 _ rfl
            have q7 := cell 7 _ rfl
            rw [Nat.add_zero] at q0
            obtain ⟨x0, x1, x2, x3, x4, x5⟩ := (box6 HXS.out).1
            obtain ⟨g0, g1, g2, g3, g4, g5⟩ := (box6 hgr).1
            have hbl0 : b < w0.heap.size := by omega
            have s0 := kpt_cell (K := fun b => b < w0.heap.size ∨ b = g) (.inl hbl0) q0
            have s1 := kpt_cell (K := fun b => b < w0.heap.size ∨ b = g) (.inl hbl0) q1
            have s2 := kpt_cell (K := fun b => b < w0.heap.size ∨ b = g) (.inl hbl0) q2
            have s3 := kpt_cell (K := fun b => b < w0.heap.size ∨ b = g) (.inl hbl0) q3
            have s4 := kpt_cell (K := fun b => b < w0.heap.size ∨ b = g) (.inl hbl0) q4
            have s5 := kpt_cell (K := fun b => b < w0.heap.size ∨ b = g) (.inl hbl0) q5
            have s6 := kpt_cell (K := fun b => b < w0.heap.size ∨ b = g) (.inl hbl0) q6
            have s7 := kpt_cell (K := fun b => b < w0.heap.size ∨ b = g) (.inl hbl0) q7
            have s8 := kpt_cell (K := fun b => b < w0.heap.size ∨ b = g) (.inl (show w.heap.size < w0.heap.size by omega)) x5
            have s9 := kpt_cell (K := fun b => b < w0.heap.size ∨ b = g) (.inr rfl) g5
            have hne0 : Nonempty (KptW (fun b => b < w0.heap.size ∨ b = g) wr) := kpt_nonempty _ _
            have hgl := heap_lt hgr
            obtain ⟨E0, hE0⟩ : ∃ E0, (wr.drewN 1).alloc (.cells #[] 9) = E0 := ⟨_, rfl⟩
            have hbE : Below wr.heap.size wr E0 := by rw [← hE0]; exact (below_drew wr).alloc (Nat.le_refl _) _
            have hnE : Nm.NRow wr.heap.size E0 (.slice (some ⟨wr.heap.size, 0, none⟩) 0 0) [] := by rw [← hE0]; exact Nm.NRow.empty (wr.drewN 1)
            have hbwE : Below w.heap.size w E0 := hbw.trans (hbE.mono hbw.size)
            obtain ⟨v', A, hrA, hnA, hgA, -⟩ := hnE.app hbE.size ca (hra.later hbwE fun _ _ h => h) (by rw [List.length_nil]; omega) 38
            rw [List.nil_append] at hnA
            have hbA : Below wr.heap.size wr A := hbE.trans (Nm.below_grown hgA hbE.size (fun k hk => by cases hk; exact Nat.le_refl _))
            have hbwA : Below w.heap.size w A := hbw.trans (hbA.mono hbw.size)
            obtain ⟨t, hte, hct⟩ := I3.out K y _ _ u0 u1 u2 u3 u4 u5 A ((reads_later hbwA h).2.2 _ _ hrd) hwy
            have HCA := hide hct
            have HRA := hide hrA
            have HSA := hide (NRow.strT hnA (by omega))
            have HBA := hide hbA
            have hzA := hbA.size
            have HKE : Hid (Keeps (fun b => b < w0.heap.size ∨ b = g) wr E0) := ⟨hbE.os, hbE.tape, hbE.output, hbE.size, fun b hb => hbE.block b (by omega)⟩
            have HKA : Hid (Keeps (fun b => b < w0.heap.size ∨ b = g) wr A) := ⟨hbA.os, hbA.tape, hbA.output, hbA.size, fun b hb => hbA.block b (by omega)⟩
            have HEQ : Hid ((x.al.take (j + 1)).map (brs h).al = L ++ [tAlt y.s y.ss t]) := by
              rw [List.take_add_one, hy, List.map_append, hL, ← hte]
              exact rfl
            have HYS2 := hide hys
            have HGR := hide hgr
            have HBXR := hide hbx
            have hjl2 : (j : Int) < x.al.length := by omega
            obtain ⟨oV, cV, hvV, -⟩ := hnA.rowOf
            subst hvV
            clear hcs hy hne hkey hlen hrd cell hwy q0 q1 q2 q3 q4 q5 q6 q7 g0 g1 g2 g3 g4 g5 x0 x1 x2 x3 x4 hgr hbx hbw hL HBS hbl hra hys hbE hnE hbwE hnA hgA hbA hbwA hte hct hrA
            go_upto_region 9 with fail
            refine wp_region_last (S := fun w' => ∃ q : KptW (fun b => b < w0.heap.size ∨ b = g) wr, w' = q.w) [([0, 1, 2, 3, 4, 5, 6, 7, 9, 10, 11, 12, 13, 14, 16, 17, 18, 19, 20, 21], 8), ([], 15), ([], 22), ([23], 24), ([], 25)] ([26], 27) 28 (by kernel_rfl) (by kernel_rfl) (by kernel_rfl) (by kernel_rfl) ⟨⟨_, kpt_drew _ wr 1⟩, rfl⟩ ?_
            simp only [wpSchL, pickO, consO, List.getElem?_toArray, List.getElem?_cons_succ, List.getElem?_cons_zero]
            repeat (first | go_big_quiet_skip | (go_big_quiet_want; go_big_quiet_op; go_big_quiet_on))
            refine wpQuiet_nil ?_
            go_wp2
            refine ⟨⟨⟨E0, HKE.out⟩, rfl⟩, ?_⟩
            refine wpQuiet_nil ?_
            go_wp2_with (at_builtin; refine Lib.wpList_append_run _ rfl _ _ _ _ rfl _ _ rfl rfl _ _ HRA.out ?_)
            refine ⟨⟨⟨A, HKA.out⟩, rfl⟩, ?_⟩
            refine wpQuiet_nil ?_
            go_wp2_with fail
            refine Calls.mono HCA.out ?_
            rintro e w2 ⟨cs, H2, rfl, ht2, hb2⟩
            obtain ⟨r1, d1, r2, d2, r3, d3, rfl⟩ := ht2.exp
            have hbw2 : Below wr.heap.size wr w2 := HBA.out.trans (hb2.mono hzA)
            have hz2 : wr.heap.size ≤ w2.heap.size := hbw2.size
            have hel : TreeT w2 wr.heap.size w2.heap.size (H2 + 1) 2 (tAlt y.s y.ss t) _ := mk_alt y.s HYS2.out (HSA.out.keep (w' := w2) fun b _ h2 => hb2.block b h2) ht2 hzA hb2.size
            obtain ⟨o', cp, o'', c'', w3, e3', hr3, hbx3, hk3⟩ := Bx.putA (HBXR.out.keep fun b _ h2 _ => hbw2.block b h2) hel (by omega) hz2 hgl (by omega)
            cases e3'
            have HR3 := hide hr3
            have HBX3 := hide hbx3
            have HK2 : Hid (Keeps (fun b => b < w0.heap.size ∨ b = g) wr w2) := ⟨hbw2.os, hbw2.tape, hbw2.output, hbw2.size, fun b hb => hbw2.block b (by omega)⟩
            have HK2a : Hid (Keeps (fun b => b < w0.heap.size ∨ b = g) wr (w2.alloc (.cells #[.string y.s, .slice oV y.ss.length cV, .int .i64 t.k, .string t.s, .int .i64 t.n, .slice r1 t.l.length d1, .slice r2 t.ds.length d2, .slice r3 t.al.length d3] 54))) := by
              have hba := hbw2.trans (((Below.refl w2.heap.size w2).alloc (Nat.le_refl _) (.cells #[.string y.s, .slice oV y.ss.length cV, .int .i64 t.k, .string t.s, .int .i64 t.n, .slice r1 t.l.length d1, .slice r2 t.ds.length d2, .slice r3 t.al.length d3] 54)).mono hz2)
              exact ⟨hba.os, hba.tape, hba.output, hba.size, fun b hb => hba.block b (by omega)⟩
            have HK3 : Hid (Keeps (fun b => b < w0.heap.size ∨ b = g) wr w3) := HK2.out.trans (hk3.mono fun b hb => ⟨by omega, hb⟩)
            have HG3 := hide ((HK3.out.block g (.inr rfl)).trans HGR.out)
            obtain ⟨⟨g0, g1, g2, g3, g4, g5⟩, f0, f1, f2, f3, f4, f5⟩ := box6 HG3.out
            clear ht2 hb2 hbw2 hr3 hbx3 hk3 hel HCA s0 s1 s2 s3 s4 s5 s6 s7 s8 s9
            go_wp2
            refine ⟨⟨⟨w2, HK2.out⟩, rfl⟩, ?_⟩
            repeat (first | go_big_quiet_skip | (go_big_quiet_want; go_big_quiet_op; go_big_quiet_on))
            refine wpQuiet_nil ?_
            go_wp2
            refine ⟨⟨⟨_, HK2a.out⟩, rfl⟩, ?_⟩
            refine wpQuiet_nil ?_
            go_wp2_with (at_builtin; refine Lib.wpList_append_run _ rfl _ _ _ _ rfl _ _ rfl rfl _ _ HR3.out ?_)
            refine ⟨⟨⟨w3, HK3.out⟩, rfl⟩, ?_⟩
            repeat (first | go_big_quiet_skip | (go_big_quiet_want; go_big_quiet_op; go_big_quiet_on))
            refine wpQuiet_nil ?_
            go_wp2
            go_roundw
            case rel =>
              have hks := keeps_set (K := fun k => k ≠ g) w3 g 5 (.slice o'' (L.length + 1) c'') (fun h => h rfl)
              refine ⟨j + 1, by omega, by go_num, ⟨_, _, _, H + (H2 + 1), heap_set_same (j := 5) _ HG3.out, hsg, ?_⟩, (HKS.out.trans (HK3.out.mono fun b hb => .inl hb)).trans (hks.mono fun b hb => ?_)⟩
              · rw [HEQ.out]
                exact (HBX3.out.keep fun b _ _ hne => hks.block b hne).up hks.size (Nat.le_refl _)
              · show b ≠ g
                omega
            case measure => simp [intOf]; omega
          · have hjl2 : ¬ ((j : Int) < x.al.length) := by omega
            have HBF : Hid (BoxR g w0.heap.size wr x.k x.s x.n LL (bareDs h x.ds) (x.al.map (brs h).al)) := by
              have h9 := HBS.out
              rw [List.take_of_length_le (by omega)] at h9
              exact h9
            obtain ⟨v1, v2, v3, H, hgr, hsg, hbx⟩ := HBF.out
            obtain ⟨AL, hAL⟩ : ∃ AL, x.al.map (brs h).al = AL := ⟨_, rfl⟩
            rw [hAL] at hbx HT
            obtain ⟨⟨p1, e1, rfl⟩, ⟨p2, e2, rfl⟩, p3, e3, rfl⟩ := hbx.form
            obtain ⟨x0, x1, x2, x3, x4, x5⟩ := (box6 HXS.out).1
            obtain ⟨g0, g1, g2, g3, g4, g5⟩ := (box6 hgr).1
            obtain ⟨⟨y0, y1, y2, y3, y4, y5⟩, k0, k1, k2, k3, k4, k5⟩ := box6 HYS.out
            have HBXF := hide hbx
            clear hbx hAL HBF HBS hgr
            go_wp2
            have hks := st6_keeps wr (w.heap.size + 1) (.int .i64 x.k) (.string x.s) (.int .i64 x.n) (.slice p1 LL.length e1) (.slice p2 (bareDs h x.ds).length e2) (.slice p3 AL.length e3)
            refine bodyPost_ret (v := .agg #[.int .i64 x.k, .string x.s, .int .i64 x.n, .slice p1 LL.length e1, .slice p2 (bareDs h x.ds).length e2, .slice p3 AL.length e3]) ?_ rfl ?_
            · exact results_cell_row rfl _ _ (w.heap.size + 1) 32 _ (0, 0) _ rfl (st6_at HYS.out _ _ _ _ _ _) Try.underlying32 rfl (by kernel_rfl)
            · have ht := HBXF.out.tree x.k x.s x.n HS.out
              rw [← HT.out] at ht
              refine ⟨_, H + 1, rfl, (ht.keep fun b h1 _ => hks.block b (by show b ≠ _; omega)).up (by omega) hks.size (Nat.le_refl _), ?_⟩
              exact (HB0.out.trans ((kpt_below HKS.out).mono (by omega))).trans ⟨hks.os, hks.tape, hks.output, hks.size, fun b hb => hks.block b (by show b ≠ _; omega)⟩
theorem b_all : ∀ h, BEx h ∧ BDe h ∧ BAl h := by
  intro h
  induction h with
  | zero => exact ⟨fun K x cs w hr => hr.elim, fun K x cs w hr => hr.elim, fun K x v0 v1 v2 v3 v4 v5 v6 v7 w hr => hr.elim⟩
  | succ h ih => exact ⟨bEx_step ih.1 (bDs_of ih.2.1) ih.2.2, bDe_step ih.1 (bDs_of ih.2.1), bAl_step ih.1⟩
end Go.Proofs.Ytgeckgdmkjddpaa.Br
