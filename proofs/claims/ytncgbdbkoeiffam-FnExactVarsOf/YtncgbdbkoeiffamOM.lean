/- The model's l9Vars. -/
import Derived.Test.YtncgbdbkoeiffamOL
namespace Go.Proofs.Ytncgbdbkoeiffam.Vo
open Go.ChangeShapes Go.WideShapes Go.ChangeAt Go.RowKit
set_option linter.unusedVariables false
set_option linter.unusedSimpArgs false

theorem below_of_keeps {w X Y : World} {ge : Nat} (hb : Below w.heap.size w X) (hk : Keeps (fun k => k < X.heap.size ∧ k ≠ ge) X Y) (hg : w.heap.size ≤ ge) : Below w.heap.size w Y :=
  hb.trans ⟨hk.os, hk.tape, hk.output, hk.size, fun k h9 => hk.block k ⟨Nat.lt_of_lt_of_le h9 hb.size, by omega⟩⟩
theorem fold_len_of {h : Nat} (ih : ∀ (x : Tr) (out : List Int), (vz h out x).length ≤ out.length + nz h x) : ∀ (l : List Tr) (out : List Int), (l.foldl (vz h) out).length ≤ out.length + (l.map (nz h)).sum
  | [], out => by simp
  | t :: r, out => by
    have h1 := fold_len_of ih r (vz h out t)
    have h2 := ih t out
    simp only [List.foldl_cons, List.map_cons, List.sum_cons]
    omega
theorem vz_len : ∀ (h : Nat) (x : Tr) (out : List Int), (vz h out x).length ≤ out.length + nz h x
  | 0, x, out => by show out.length ≤ _; omega
  | h + 1, x, out => by
    show (x.l.foldl (vz h) (ifNew x.k x.n out)).length ≤ out.length + (1 + (x.l.map (nz h)).sum)
    have h1 := fold_len_of (vz_len h) x.l (ifNew x.k x.n out)
    have h2 := ifNew_len x.k x.n out
    omega
theorem fold_len (h : Nat) (l : List Tr) (out : List Int) : (l.foldl (vz h) out).length ≤ out.length + (l.map (nz h)).sum := fold_len_of (vz_len h) l out
theorem sum_at (f : Tr → Nat) : ∀ (l : List Tr) (k : Nat) (t : Tr), l[k]? = some t → ((l.take k).map f).sum + f t ≤ (l.map f).sum
  | [], k, t, h => by simp at h
  | a :: r, 0, t, h => by
    simp at h
    subst h
    simp
  | a :: r, k + 1, t, h => by
    have := sum_at f r k t (by simpa using h)
    simp only [List.take_succ_cons, List.map_cons, List.sum_cons]
    omega
def VaC (h : Nat) : Prop := ∀ (B : Nat) (x : Tr) (cs : List Value) (w : World) (v : Value) (nums : List Int), tyR AllK w h x cs → ORow 3 B w v (nums.map intV) → B ≤ w.heap.size → nums.length + nz h x ≤ 1048577 →
  Calls Try.prog 25 #[v, .agg cs.toArray] w fun e w' => ∃ v', e = .returned v' ∧ ORow 3 B w' v' ((vz h nums x).map intV) ∧ Below w.heap.size w w'
set_option maxHeartbeats 2000000 in
set_option maxRecDepth 100000 in
theorem va_step {h : Nat} (ih : VaC h) : VaC (h + 1) := by
  intro B x cs w v nums hr hv hB hn
  obtain ⟨-, -, -, o1, c1, rfl, hsz, hf, hrow⟩ := hr
  obtain ⟨ov, cv, rfl, hc1, hc2⟩ := hv.form
  rw [List.length_map] at hc1 hv ⊢
  obtain ⟨V, hV⟩ : ∃ V, w.alloc (.cells #[.int .i64 x.k, .string x.s, .int .i64 x.n, .slice o1 x.l.length c1] 29) = V := ⟨_, rfl⟩
  have hb0 : Below w.heap.size w V := by rw [← hV]; exact (Below.refl _ w).alloc (Nat.le_refl _) _
  have hzV : V.heap.size = w.heap.size + 1 := by rw [← hV]; simp
  have hbx : V.heap[w.heap.size]? = some (.cells #[.int .i64 x.k, .string x.s, .int .i64 x.n, .slice o1 x.l.length c1] 29 (0, 0)) := by rw [← hV]; exact heap_alloc_new w _
  have hvV : ORow 3 B V (.slice ov nums.length cv) (nums.map intV) := hv.keep fun g hg => hb0.block g (Array.getElem?_eq_some_iff.1 (hv.own hg).2.choose_spec).1
  have HB0 := hide hb0
  have HBX := hide hbx
  have HVV := hide hvV
  have x0 := cell_of hbx 0
  have x2 := cell_of hbx 2
  simp only [List.getElem?_toArray, List.getElem?_cons_succ, List.getElem?_cons_zero] at x0 x2
  have HH := hide (l9Has_any nums (.slice ov nums.length cv) x.n V hvV)
  have IH := hide ih
  have HROW := hide hrow
  clear hb0 hbx hvV hv ih hrow
  go_enter Try.func25, Try.ntmps25
  go_upto_region 1 with fail
  go_cut [15] (fun t15 W => t15 = .bool (decide (x.k = 5 ∧ x.n ∉ nums)) ∧ W = V)
  case first =>
    by_cases hk : x.k = 5
    · have hk2 : (x.k == 5) = true := by simp [hk]
      have HKE := hide hk
      clear hk
      go_wp2_with fail
      refine HH.out.mono ?_
      rintro e w2 ⟨rfl, hw2⟩
      have HW2 := hide hw2
      clear hw2
      by_cases hnn : x.n ∈ nums
      · rw [decide_eq_true hnn]
        have HN := hide hnn
        clear hnn
        go_wp2
        go_meet
        case rel => exact ⟨by rw [decide_eq_false fun h9 => h9.2 HN.out], HW2.out⟩
      · rw [decide_eq_false hnn]
        have HN := hide hnn
        clear hnn
        go_wp2
        go_meet
        case rel => exact ⟨by rw [decide_eq_true ⟨HKE.out, HN.out⟩], HW2.out⟩
    · have hk2 : (x.k == 5) = false := by simp [hk]
      have HKE := hide hk
      clear hk
      go_wp2
      go_meet
      case rel => exact ⟨by rw [decide_eq_false fun h9 => HKE.out h9.1], rfl⟩
  case rest =>
    obtain ⟨hc15, hcW⟩ := hcut
    rw [hc15, hcW]
    clear hc15 hcW
    go_upto_if 15 with fail
    go_cut [0] (fun t0 W => ORow 3 B W t0 ((ifNew x.k x.n nums).map intV) ∧ Below V.heap.size V W)
    case first =>
      by_cases hq : x.k = 5 ∧ x.n ∉ nums
      · rw [decide_eq_true hq]
        have HQ := hide hq
        clear hq
        have hl : nums.length ≤ 10000000 := by omega
        have hBw : B ≤ V.heap.size := by omega
        have hsz0 : V.drew.heap.size = V.heap.size := rfl
        -- the empty row, its copy, the number's row
        have bA : Below V.heap.size V (V.drew.alloc (.cells #[] 3)) := (Below.refl _ V).drew.alloc (Nat.le_refl _) _
        obtain ⟨oA, cA, XA, rA, wA, kA, -⟩ := all_run HVV.out hl bA (Nat.le_refl _) (heap_alloc_new V.drew _)
        obtain ⟨oA2, cA2, XA2, rA2, wA2, gA2⟩ := one_run (X1 := XA.alloc (.cells #[.int .i64 x.n] 3)) (B := V.heap.size) (v := .slice oA nums.length cA) (xs := nums.map intV) (wA.keep fun g hg => heap_alloc_old _ _ (Array.getElem?_eq_some_iff.1 (wA.own hg).2.choose_spec).1) (by have := kA.size; simp at this ⊢; omega) (by simpa using hl) (heap_alloc_new XA _)
        -- the number's row ahead of the copy
        have bB : Below V.heap.size V ((V.drew.alloc (.cells #[] 3)).alloc (.cells #[.int .i64 x.n] 3)) := bA.alloc (by simp) _
        have eB : ((V.drew.alloc (.cells #[] 3)).alloc (.cells #[.int .i64 x.n] 3)).heap[V.heap.size]? = some (.cells #[] 3 (0, 0)) := (heap_alloc_old _ _ (by simp)).trans (heap_alloc_new V.drew _)
        have nB : ((V.drew.alloc (.cells #[] 3)).alloc (.cells #[.int .i64 x.n] 3)).heap[V.heap.size + 1]? = some (.cells #[.int .i64 x.n] 3 (0, 0)) := by
          have h9 := heap_alloc_new (V.drew.alloc (.cells #[] 3)) (.cells #[.int .i64 x.n] 3)
          simpa using h9
        obtain ⟨oB, cB, XB, rB, wB, kB, -⟩ := all_run HVV.out hl bB (Nat.le_refl _) eB
        obtain ⟨oB2, cB2, XB2, rB2, wB2, gB2⟩ := one_run (X1 := XB) (B := V.heap.size) (v := .slice oB nums.length cB) (xs := nums.map intV) wB (by have := kB.size; simp at this; omega) (by simpa using hl) ((kB.block (V.heap.size + 1) ⟨by simp, by omega⟩).trans nB)
        -- the number's row first
        have bC : Below V.heap.size V ((V.drew.alloc (.cells #[.int .i64 x.n] 3)).alloc (.cells #[] 3)) := ((Below.refl _ V).drew.alloc (Nat.le_refl _) _).alloc (by simp) _
        have nC : ((V.drew.alloc (.cells #[.int .i64 x.n] 3)).alloc (.cells #[] 3)).heap[V.heap.size]? = some (.cells #[.int .i64 x.n] 3 (0, 0)) := (heap_alloc_old _ _ (by simp)).trans (heap_alloc_new V.drew _)
        have eC : ((V.drew.alloc (.cells #[.int .i64 x.n] 3)).alloc (.cells #[] 3)).heap[V.heap.size + 1]? = some (.cells #[] 3 (0, 0)) := by
          have h9 := heap_alloc_new (V.drew.alloc (.cells #[.int .i64 x.n] 3)) (.cells #[] 3)
          simpa using h9
        obtain ⟨oC, cC, XC, rC, wC, kC, -⟩ := all_run HVV.out hl bC (Nat.le_succ _) eC
        obtain ⟨oC2, cC2, XC2, rC2, wC2, gC2⟩ := one_run (X1 := XC) (B := V.heap.size) (v := .slice oC nums.length cC) (xs := nums.map intV) wC (by have := kC.size; simp at this; omega) (by simpa using hl) ((kC.block V.heap.size ⟨by simp; omega, by omega⟩).trans nC)
        rw [List.length_map] at rA2 wA2 rB2 wB2 rC2 wC2
        have x2A := ((below_of_keeps bA kA (Nat.le_refl _)).cell (p := ⟨w.heap.size, 2, none⟩) (by show w.heap.size < _; omega)).trans x2
        have HRA := hide rA
        have HRA2 := hide rA2
        have HRB := hide rB
        have HRB2 := hide rB2
        have HRC := hide rC
        have HRC2 := hide rC2
        have HEN : Hid (ifNew x.k x.n nums = nums ++ [x.n]) := if_pos HQ.out
        have HFA : Hid (ORow 3 B XA2 (.slice oA2 (nums.length + 1) cA2) ((nums ++ [x.n]).map intV) ∧ Below V.heap.size V XA2) := ⟨by rw [List.map_append]; exact wA2.base hBw, (below_of_keeps bA kA (Nat.le_refl _)).trans ((Below.refl _ XA).alloc (below_of_keeps bA kA (Nat.le_refl _)).size _ |>.trans (Nm.below_grown gA2 (by have := kA.size; simp at this ⊢; omega) (fun k e => (wA.own e).1)))⟩
        have HFB : Hid (ORow 3 B XB2 (.slice oB2 (nums.length + 1) cB2) ((nums ++ [x.n]).map intV) ∧ Below V.heap.size V XB2) := ⟨by rw [List.map_append]; exact wB2.base hBw, (below_of_keeps bB kB (Nat.le_refl _)).trans (Nm.below_grown gB2 (by have := kB.size; simp at this; omega) (fun k e => (wB.own e).1))⟩
        have HFC : Hid (ORow 3 B XC2 (.slice oC2 (nums.length + 1) cC2) ((nums ++ [x.n]).map intV) ∧ Below V.heap.size V XC2) := ⟨by rw [List.map_append]; exact wC2.base hBw, (below_of_keeps bC kC (Nat.le_succ _)).trans (Nm.below_grown gC2 (by have := kC.size; simp at this; omega) (fun k e => (wC.own e).1))⟩
        clear rA rA2 rB rB2 rC rC2 wA wA2 wB wB2 wC wC2 kA kB kC gA2 gB2 gC2 bA bB bC eB nB eC nC
        go_wp2
        go_region_law (first
          | (refine step_app rfl (.tmp 16) (.tmp 17) 38 rfl (.slice (some ⟨V.heap.size, 0, none⟩) 0 0) (.slice ov nums.length cv) (.slice oA nums.length cA) XA (by simp [Act.eval]) (by simp [Act.eval]) HRA.out ?_)
          | (refine step_app rfl (.tmp 16) (.tmp 17) 38 rfl (.slice (some ⟨V.heap.size, 0, none⟩) 0 0) (.slice ov nums.length cv) (.slice oB nums.length cB) XB (by simp [Act.eval]) (by simp [Act.eval]) HRB.out ?_)
          | (refine step_app rfl (.tmp 16) (.tmp 17) 38 rfl (.slice (some ⟨V.heap.size + 1, 0, none⟩) 0 0) (.slice ov nums.length cv) (.slice oC nums.length cC) XC (by simp [Act.eval]) (by simp [Act.eval]) HRC.out ?_)
          | (refine step_app rfl (.tmp 18) (.tmp 21) 38 rfl (.slice oA nums.length cA) (.slice (some ⟨XA.heap.size, 0, none⟩) 1 1) (.slice oA2 (nums.length + 1) cA2) XA2 (by simp [Act.eval]) (by simp [Act.eval]) HRA2.out ?_)
          | (refine step_app rfl (.tmp 18) (.tmp 21) 38 rfl (.slice oB nums.length cB) (.slice (some ⟨V.heap.size + 1, 0, none⟩) 1 1) (.slice oB2 (nums.length + 1) cB2) XB2 (by simp [Act.eval]) (by simp [Act.eval]) HRB2.out ?_)
          | (refine step_app rfl (.tmp 18) (.tmp 21) 38 rfl (.slice oC nums.length cC) (.slice (some ⟨V.heap.size, 0, none⟩) 1 1) (.slice oC2 (nums.length + 1) cC2) XC2 (by simp [Act.eval]) (by simp [Act.eval]) HRC2.out ?_))
        all_goals
          go_wp2
          go_meet
          case rel =>
            rw [HEN.out]
            first | exact HFA.out | exact HFB.out | exact HFC.out
      · rw [decide_eq_false hq]
        have HQ := hide hq
        clear hq
        go_wp2
        go_meet
        case rel =>
          rw [show ifNew x.k x.n nums = nums from if_neg HQ.out]
          exact ⟨HVV.out, Below.refl _ _⟩
    case rest =>
      obtain ⟨hr0, hbW⟩ := hcut
      have HR0 := hide hr0
      have HBW := hide hbW
      have hzz := hbW.size
      have HX3 : Hid (wc.heap[w.heap.size]? = some (.cells #[.int .i64 x.k, .string x.s, .int .i64 x.n, .slice o1 x.l.length c1] 29 (0, 0))) := (hbW.block _ (by omega)).trans HBX.out
      have HLAT : Hid (∀ W, Below wc.heap.size wc W → RowOf AllK W (tyR AllK W h) 4 o1 x.l) := fun W hW => HROW.out.later (HB0.out.trans ((HBW.out.mono (by omega)).trans (hW.mono (by omega)))) fun _ _ hh => tyR_later (HB0.out.trans ((HBW.out.mono (by omega)).trans (hW.mono (by omega)))) h _ _ hh
      have hlen : x.l.length ≤ 9223372036854775807 := hf.1
      clear hr0 hbW
      go_wp2
      go_loopw [0, 5] (fun t0 i wr => ∃ k : Nat, k ≤ x.l.length ∧ i = .int .i64 k ∧ ORow 3 B wr t0 (((x.l.take k).foldl (vz h) (ifNew x.k x.n nums)).map intV) ∧ Below wc.heap.size wc wr) (fun _ i _ => x.l.length - (intOf i).toNat)
      case atStart => exact ⟨0, Nat.zero_le _, rfl, HR0.out, Below.refl _ _⟩
      case round =>
        obtain ⟨k, hk, rfl, hrk, hbk⟩ := hrel
        have HRK := hide hrk
        have HBK := hide hbk
        have hzk := hbk.size
        have y3 := cell_of ((hbk.block _ (by omega)).trans HX3.out) 3
        simp only [List.getElem?_toArray, List.getElem?_cons_succ, List.getElem?_cons_zero] at y3
        clear hrk hbk
        by_cases hlt : k < x.l.length
        · obtain ⟨t, ht⟩ : ∃ t, x.l[k]? = some t := ⟨_, List.getElem?_eq_getElem hlt⟩
          obtain ⟨b, off, rfl, -, -, hq⟩ := HLAT.out wr HBK.out (List.ne_nil_of_mem (List.mem_of_getElem? ht))
          obtain ⟨cs, -, hcs, htr⟩ := hq k t ht
          obtain ⟨o2, c2, rfl⟩ := ty_form htr
          have z0 := hcs 0 _ rfl
          have z1 := hcs 1 _ rfl
          have z2 := hcs 2 _ rfl
          have z3 := hcs 3 _ rfl
          simp only [Nat.add_zero] at z0
          obtain ⟨O, hO⟩ : ∃ O, (x.l.take k).foldl (vz h) (ifNew x.k x.n nums) = O := ⟨_, rfl⟩
          rw [hO] at HRK
          have hbd : O.length + nz h t ≤ 1048577 := by
            have h1 := fold_len h (x.l.take k) (ifNew x.k x.n nums)
            rw [hO] at h1
            have h2 := ifNew_len x.k x.n nums
            have h3 := sum_at (nz h) x.l k t ht
            have h4 : nz (h + 1) x = 1 + (x.l.map (nz h)).sum := rfl
            omega
          have HC := hide (IH.out B t _ wr u0 O htr HRK.out (by omega) hbd)
          have HT := hide ht
          have HO := hide hO
          clear hq hcs htr ht hO
          go_wp2_with fail
          refine HC.out.mono ?_
          rintro e w4 ⟨v', rfl, hr4, hb4⟩
          have HR4 := hide hr4
          have HB4 := hide (HBK.out.trans (hb4.mono HBK.out.size))
          clear hr4 hb4 HC
          go_wp2
          go_roundw
          case rel =>
            refine ⟨k + 1, by omega, by go_num, ?_, HB4.out⟩
            rw [List.take_add_one, HT.out, List.foldl_append, HO.out]
            exact HR4.out
          case measure => simp [intOf]; omega
        · go_wp2
          go_ret
          refine ⟨_, rfl, ?_, HB0.out.trans ((HBW.out.mono (by omega)).trans (HBK.out.mono (by omega)))⟩
          have h1 := HRK.out
          rw [List.take_of_length_le (by omega)] at h1
          exact h1
theorem va_all : ∀ h, VaC h
  | 0 => fun _ _ _ _ _ _ hr => hr.elim
  | h + 1 => va_step (va_all h)
end Go.Proofs.Ytncgbdbkoeiffam.Vo
