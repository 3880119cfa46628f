/- The program's boundAt of an expression; bound; BoundOf. -/
import Derived.Test.YtihjpkldefllgakGreatBQ
namespace Go.Proofs.YtihjpkldefllgakGreat.Nm
open Go.ChangeShapes Go.WideShapes Go.ChangeAt Go.RowKit

theorem sumss_succ (xs : List Tr) (i : Nat) (hi : i < xs.length) : ((xs.take (i + 1)).map fun a => a.ss.length).sum = ((xs.take i).map fun a => a.ss.length).sum + xs[i].ss.length := sum_take_succ (fun a : Tr => a.ss.length) xs i hi
theorem sumss_le (xs : List Tr) (i : Nat) : ((xs.take i).map fun a => a.ss.length).sum ≤ (xs.map fun a => a.ss.length).sum := sum_take_le (fun a : Tr => a.ss.length) xs i
set_option maxHeartbeats 2000000 in
set_option maxRecDepth 100000 in
theorem boundAt_exp {K : Nat → Prop} {w : World} {a : Addr} {h : Nat} {t : Tr} (hat : AtP w K (true, a) h t) (hal : t.al.length ≤ 5000000) (hss : (t.al.map fun a => a.ss.length).sum ≤ 5000000) (ov : Option Addr) (nv cv : Nat) :
    Calls Tryz.prog 39 #[.agg #[.pointer (some a), .pointer none, .slice ov nv cv, .int .i64 0]] w (BatP true t w) := by
  obtain ⟨ab, ao, asp⟩ := a
  obtain ⟨hsp, -, cs, hca, hcl, hr⟩ := hat
  simp only at hsp
  subst hsp
  cases h with
  | zero => exact hr.elim
  | succ h =>
    obtain ⟨-, o1, c1, o2, c2, o3, c3, rfl, hsz, f1, f2, f3, r1, r2, r3⟩ := hr
    have q0 : w.cell? ⟨ab, ao, none⟩ = some (.int .i64 t.k) := hca 0 _ rfl
    have q1 : w.cell? ⟨ab, ao + 1, none⟩ = some (.string t.s) := hca 1 _ rfl
    have q5 : w.cell? ⟨ab, ao + 5, none⟩ = some (.slice o3 t.al.length c3) := hca 5 _ rfl
    have habl : ab < w.heap.size := World.block_lt_of_cell? w _ q0
    obtain ⟨V, hV⟩ : ∃ V, w.alloc (.cells #[.pointer (some ⟨ab, ao, none⟩), .pointer none, .slice ov nv cv, .int .i64 0] 94) = V := ⟨_, rfl⟩
    have hb0 : Below w.heap.size w V := by rw [← hV]; exact (Below.refl _ w).alloc (Nat.le_refl _) _
    have hbox : V.heap[w.heap.size]? = some (.cells #[.pointer (some ⟨ab, ao, none⟩), .pointer none, .slice ov nv cv, .int .i64 0] 94 (0, 0)) := by rw [← hV]; exact heap_alloc_new w _
    have hsV : V.heap.size = w.heap.size + 1 := by rw [← hV]; simp
    have HC : Hid (∀ W, Below V.heap.size V W → W.cell? ⟨ab, ao, none⟩ = some (.int .i64 t.k) ∧ W.cell? ⟨ab, ao + 1, none⟩ = some (.string t.s) ∧ W.cell? ⟨ab, ao + 5, none⟩ = some (.slice o3 t.al.length c3) ∧ W.cell? ⟨w.heap.size, 0, none⟩ = some (.pointer (some ⟨ab, ao, none⟩))) := fun W hW =>
      have hW2 := hb0.trans (hW.mono hb0.size)
      ⟨(hW2.cell (p := ⟨ab, _, none⟩) habl).trans q0, (hW2.cell (p := ⟨ab, _, none⟩) habl).trans q1, (hW2.cell (p := ⟨ab, _, none⟩) habl).trans q5, (hW.cell (p := ⟨w.heap.size, _, none⟩) (by show w.heap.size < V.heap.size; omega)).trans (cell_of hbox 0)⟩
    have HR3 : Hid (∀ W, Below V.heap.size V W → RowOf K W (reads K W h).al 8 o3 t.al) := fun W hW => r3.later (hb0.trans (hW.mono hb0.size)) fun _ _ hh => (reads_later (hb0.trans (hW.mono hb0.size)) h).2.2 _ _ hh
    have b1 := cell_of hbox 1
    simp only [List.getElem?_toArray, List.getElem?_cons_succ, List.getElem?_cons_zero] at b1
    obtain ⟨v0, v1, v5, vb⟩ := HC.out V (Below.refl _ _)
    obtain ⟨V2, hV2⟩ : ∃ V2, V.alloc (.cells #[] 9) = V2 := ⟨_, rfl⟩
    have hb2 : Below V.heap.size V V2 := by rw [← hV2]; exact (Below.refl _ V).alloc (Nat.le_refl _) _
    have HN0 : Hid (NRow V.heap.size V2 (.slice (some ⟨w.heap.size + 1, 0, none⟩) 0 0) []) := by rw [← hV2, ← hsV]; exact NRow.empty V
    obtain ⟨u0, u1, u5, ub⟩ := HC.out V2 hb2
    have HB2 := hide hb2
    have HB0 := hide hb0
    have HSZ := hide hsz
    have ml : t.al.length ≤ 9223372036854775807 := by omega
    clear hca hcl hsz f1 f2 f3 r1 r2 r3 q0 q1 q5 hb0 hbox hb2
    go_enter Tryz.func39, Tryz.ntmps39
    go_upto_if 27 with fail
    go_cut [3] (fun t3 W => ∃ l, NRow V.heap.size W t3 l ∧ (∀ y, y ∈ l ↔ (t.k = 5 ∧ y = t.s)) ∧ l.length ≤ 1 ∧ Below V.heap.size V W)
    case first =>
      by_cases h5 : t.k = 5
      · have hk5 : (t.k == 5) = true := by simpa using h5
        have hb3 : Below V2.heap.size V2 (V2.alloc (.cells #[.string t.s] 9)) := (Below.refl _ V2).alloc (Nat.le_refl _) _
        obtain ⟨v2, w2, hr2, hn2, hg2, -⟩ := (HN0.out.later hb3).app (Nat.le_trans HB2.out.size hb3.size) 1 (one_row (heap_alloc_new V2 (.cells #[.string t.s] 9)) HSZ.out) (by simp) 27
        rw [List.length_singleton] at hr2
        have HR2 := hide hr2
        have HRL : Hid (∃ l, NRow V.heap.size w2 v2 l ∧ (∀ y, y ∈ l ↔ (t.k = 5 ∧ y = t.s)) ∧ l.length ≤ 1 ∧ Below V.heap.size V w2) := by
          refine ⟨[] ++ [t.s], hn2, fun y => by simp [h5], by simp, HB2.out.trans ((hb3.mono HB2.out.size).trans (below_grown hg2 (Nat.le_trans HB2.out.size hb3.size) fun k hk => ((HN0.out.later hb3).lt k hk).2))⟩
        clear h5 hb3 hr2 hn2 hg2
        go_wp2_with (at_builtin; refine Lib.wpList_append_run _ rfl _ _ _ _ rfl _ _ rfl rfl _ _ HR2.out ?_)
        go_meet
        case rel => exact HRL.out
      · have hk5 : (t.k == 5) = false := by simpa using h5
        have HRL : Hid (∃ l, NRow V.heap.size V2 (.slice (some ⟨w.heap.size + 1, 0, none⟩) 0 0) l ∧ (∀ y, y ∈ l ↔ (t.k = 5 ∧ y = t.s)) ∧ l.length ≤ 1 ∧ Below V.heap.size V V2) := ⟨[], HN0.out, fun y => by simp [h5], by simp, HB2.out⟩
        clear h5
        go_wp2
        go_meet
        case rel => exact HRL.out
    case rest =>
      obtain ⟨l, hn, hmem, hlen, hb⟩ := hcut
      generalize wc = W1 at hn hb ⊢
      obtain ⟨-, -, x5, xb⟩ := HC.out W1 hb
      have HN := hide hn
      have HMEM := hide hmem
      have HB := hide hb
      clear hn hmem hb u0 u1 u5 ub v0 v1 v5 vb b1
      go_wp2
      go_loopw [3, 42] (fun t3 t42 wr => ∃ (i : Nat) (l : List ByteArray), i ≤ t.al.length ∧ t42 = .int .i64 i ∧ NRow V.heap.size wr t3 l ∧ (∀ y, y ∈ l ↔ (t.k = 5 ∧ y = t.s) ∨ ∃ a ∈ t.al.take i, y ∈ a.ss) ∧ l.length ≤ 1 + ((t.al.take i).map fun a => a.ss.length).sum ∧ Below V.heap.size V wr) (fun _ t42 _ => t.al.length - (intOf t42).toNat)
      case atStart => exact ⟨0, l, Nat.zero_le _, rfl, HN.out, fun y => by rw [HMEM.out]; simp, by simpa using hlen, HB.out⟩
      case round =>
        clear HN HMEM HB hlen
        obtain ⟨i, l, hi, rfl, hn, hmem, hlen, hb⟩ := hrel
        have HN := hide hn
        have HMEM := hide hmem
        have HB := hide hb
        have hsle := sumss_le t.al i
        by_cases hlt : i < t.al.length
        · have hne : t.al ≠ [] := by intro e; rw [e] at hlt; simp at hlt
          obtain ⟨b, off, eo, kb, hbl, hcs⟩ := HR3.out wr hb hne
          subst eo
          obtain ⟨ccs, hccl, hkey, hrr⟩ := hcs i _ (List.getElem?_eq_getElem hlt)
          have hmt := fun y => mem_take_succ (fun d : Tr => y ∈ d.ss) t.al i hlt
          have hsum := sumss_succ t.al i hlt
          have hsle2 := sumss_le t.al (i + 1)
          obtain ⟨d, hd⟩ : ∃ d, t.al[i] = d := ⟨_, rfl⟩
          rw [hd] at hsum hrr
          simp only [hd] at hmt
          cases h with
          | zero => exact hrr.elim
          | succ h =>
            have hrr2 := hrr
            obtain ⟨-, -, -, -, e, p1, g1, ce, e0, e1, e2, e3, s1, e5, s2⟩ := hrr2
            obtain ⟨y, po, pc, po1, pc1, po2, pc2, po3, pc3, hform⟩ := al_form hrr
            rw [hform] at e1 hkey
            have e1' := e1
            simp only [List.cons_append, List.nil_append, List.cons.injEq, Value.slice.injEq, true_and] at e1'
            obtain ⟨⟨rfl, rfl⟩, -⟩ := e1'
            have k0 := hkey 0 _ rfl
            have k1 := hkey 1 _ rfl
            have k2 := hkey 2 _ rfl
            have k3 := hkey 3 _ rfl
            have k4 := hkey 4 _ rfl
            have k5 := hkey 5 _ rfl
            have k6 := hkey 6 _ rfl
            have k7 := hkey 7 _ rfl
            rw [Nat.add_zero] at k0
            have hb3 : Below wr.heap.size wr (wr.alloc (.cells #[.string d.s, .slice po d.ss.length pc, .int .i64 y.k, .string y.s, .int .i64 y.n, .slice po1 y.l.length pc1, .slice po2 y.ds.length pc2, .slice po3 y.al.length pc3] 77)) := (Below.refl _ wr).alloc (Nat.le_refl _) _
            obtain ⟨v2, w2, hr2, hn2, hg2, -⟩ := (hn.later hb3).app (Nat.le_trans hb.size hb3.size) pc (s1.frame (Stays.of hb3) (fun _ h => h) (fun _ _ h => h)) (by omega) 27
            have HR2 := hide hr2
            have HN2 := hide hn2
            have HB3 : Hid (Below V.heap.size V w2) := hb.trans ((hb3.mono hb.size).trans (below_grown hg2 (Nat.le_trans hb.size hb3.size) fun k hk => ((hn.later hb3).lt k hk).2))
            have HMT := hide hmt
            have HLL : Hid ((l ++ d.ss).length ≤ 1 + ((t.al.take (i + 1)).map fun a => a.ss.length).sum) := by show (l ++ d.ss).length ≤ _; rw [List.length_append, hsum]; omega
            clear hn hmem hb hb3 hr2 hn2 hg2 hmt hcs hccl hkey hrr hne e1 e2 e3 s1 s2 e5 hform kb hbl e0
            go_wp2_with (at_builtin; refine Lib.wpList_append_run _ rfl _ _ _ _ rfl _ _ rfl rfl _ _ HR2.out ?_)
            go_roundw
            case rel =>
              refine ⟨i + 1, l ++ d.ss, by omega, by go_num, HN2.out, fun y => ?_, HLL.out, HB3.out⟩
              rw [List.mem_append, HMEM.out, HMT.out, or_assoc]
            case measure => simp [intOf]; omega
        · have hie : i = t.al.length := by omega
          subst hie
          rw [List.take_length] at hlen hsle
          have HMEM2 : Hid (∀ y, y ∈ l ↔ (t.k = 5 ∧ y = t.s) ∨ ∃ a ∈ t.al, y ∈ a.ss) := by
            have h9 := HMEM.out
            rw [List.take_length] at h9
            exact h9
          have hz := HB0.out.size
          clear hn hmem hb
          go_wp2
          go_ret
          exact ⟨_, l, rfl, HN.out.base hz, HMEM2.out, by omega, HB0.out.trans (HB.out.mono hz)⟩
end Go.Proofs.YtihjpkldefllgakGreat.Nm
