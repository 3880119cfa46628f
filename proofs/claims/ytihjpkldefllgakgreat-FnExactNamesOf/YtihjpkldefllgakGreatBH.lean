/- The program's lead. -/
import Derived.Test.YtihjpkldefllgakGreatBG
import Derived.Deep.RegionLaw
namespace Go.Proofs.YtihjpkldefllgakGreat.Nm
open Go.ChangeShapes Go.WideShapes Go.ChangeAt Go.RowKit

theorem step_append_run {P : Program} {ops : Array Oper} {o : Oper} {a : Act} {w : World} {K : Act → World → Prop} {Q : Exit → Act → World → Prop} {E : Prop}
    (hg : o.guard = none) (s x : Operand) (t : TypeId) (hop : o.op = Op.call { callee := Callee.builtin Builtin.append, args := #[s, x], argTypes := #[t, t] })
    (v1 v2 v' : Value) (w' : World) (hs : a.eval s = v1) (hx : a.eval x = v2) (hr : (Builtin.append_ #[t, t] o.type #[v1, v2]).run P w = .ok v' w')
    (hK : K (a.put o.dst v') w') : if Region.wanted o (yielded ops a.tmps) = true then Oper.wp P o a w K Q else E := by
  have hw : Region.wanted o (yielded ops a.tmps) = true := by simp [Region.wanted, hg]
  rw [if_pos hw]
  unfold Oper.wp
  simp [execOp, hop, resolve, invoke, builtin, hs, hx, hr, Result.andThen]
  exact hK
theorem owns_set4 {w : World} {B : Nat} {e : TypeId} {g n c : Nat} {xs : List Value} (h : w.ownsRow B e 4 (.slice (some ⟨g, 0, none⟩) n c) n xs) (i : Nat) (u : Value) : (w.setCell ⟨g, i, none⟩ u).ownsRow B e 4 (.slice (some ⟨g, 0, none⟩) n c) n (xs.set i u) := by
  obtain ⟨hl, hc⟩ := h
  refine ⟨by rw [List.length_set]; exact hl, ?_⟩
  rcases hc with ⟨hv, -⟩ | ⟨g', cap, cur, hv, hb, hg, hn, hcap, hsz, htk⟩
  · cases hv
  · cases hv
    refine Or.inr ⟨g, c, cur.set! i u, rfl, hb, heap_set_same u hg, hn, hcap, by simpa using hsz, ?_⟩
    rw [← htk]
    simp [List.take_set]
set_option maxHeartbeats 2000000 in
set_option maxRecDepth 100000 in
theorem lead_any {KP KS : Nat → Prop} {w : World} {n : Nat} {ks : List (Bool × Addr)} {L : Nat} (h : Net KP KS w n ks L) (hL : L ≤ 50000000) (i : Nat) (hi : i < ks.length) (hk : ks.length ≤ 50000000) (f : Int) (ob : Option Addr) (nb cb : Nat) :
    Calls Tryz.prog 83 #[.pointer (some ⟨n, 0, none⟩), .int .i64 (i : Int), .agg #[.int .i64 f, .slice ob nb cb]] w fun e w' => e = .returned (.tuple #[]) ∧ Net KP KS w' n ks (L + 1) ∧ Keeps KS w w' := by
  obtain ⟨l1, l2, pv, me, md, ws, h⟩ := h
  obtain ⟨V, hV⟩ : ∃ V, w.alloc (.cells #[.int .i64 f, .slice ob nb cb] 135) = V := ⟨_, rfl⟩
  obtain ⟨W0, HW0⟩ : ∃ W0, Hid (V.drew = W0) := ⟨_, rfl⟩
  have hb0 : Below w.heap.size w W0 := by rw [← HW0.out, ← hV]; exact ((Below.refl _ w).alloc (Nat.le_refl _) _).drew
  have h0 : NetR KP KS W0 n ks L l1 l2 pv me md ws := h.later hb0.size fun k hk => hb0.block k hk
  have hbox : W0.heap[w.heap.size]? = some (.cells #[.int .i64 f, .slice ob nb cb] 135 (0, 0)) := by rw [← HW0.out, ← hV]; exact heap_alloc_new w _
  have hsz0 : W0.heap.size = w.heap.size + 1 := by rw [← HW0.out, ← hV]; simp [World.drew]
  obtain ⟨v, hv⟩ : ∃ v, ws[i]? = some v := ⟨ws[i]'(by rw [h.lenw]; exact hi), List.getElem?_eq_getElem _⟩
  obtain ⟨k, hki⟩ : ∃ k, ks[i]? = some k := ⟨ks[i], List.getElem?_eq_getElem hi⟩
  obtain ⟨m, xs, hmL, hown⟩ := h0.way v (List.mem_of_getElem? hv)
  obtain ⟨ov, cv, rfl⟩ := owns_form hown
  obtain ⟨g, cp, cur, hpv, -, hg, hnc, hcm, hcs, htk⟩ : ∃ g cap cur, pv = .slice (some ⟨g, 0, none⟩) ks.length cap ∧ 0 ≤ g ∧ W0.heap[g]? = some (.cells cur 94 (0, 0)) ∧ ks.length ≤ cap ∧ cap ≤ maxLen ∧ cur.size = cap * 4 ∧ cur.toList.take (ks.length * 4) = rowN ks ws := by
    rcases h0.row.2 with ⟨-, h9⟩ | ⟨g, cap, cur, h9⟩
    · omega
    · exact ⟨g, cap, cur, h9⟩
  subst hpv
  have hcell : W0.cell? ⟨g, i * 4 + 2, none⟩ = some (.slice ov m cv) := owns_cell hg htk (i * 4 + 2) (by omega) _ (by rw [rowN_get ks ws i k _ hki hv 2 (by omega)]; unfold keyC; split <;> rfl)
  have hB2 : Below W0.heap.size W0 (W0.alloc (.cells #[.int .i64 f, .slice ob nb cb] 135)) := (Below.refl _ W0).alloc (Nat.le_refl _) _
  have hown3 := owns_block (w' := W0.alloc (.cells #[.int .i64 f, .slice ob nb cb] 135)) hown fun g hg => hB2.block g (owns_lt hown g hg).1
  obtain ⟨i0, hi0, hz0, hz1, hz2⟩ := info_parts way_info
  obtain ⟨v4, w4, hr4, hown4, hgr4, hbk4⟩ := app_run (P := Tryz.prog) Tryz.underlying92 hi0 hz0 hz1 hz2 rfl (by decide) (by decide) hown3 (Nat.zero_le _) (some ⟨W0.heap.size, 0, none⟩) 1 1 [.int .i64 f, .slice ob nb cb] rfl (fun _ => ⟨W0.heap.size, 0, rfl, fun j u hu => by
    rw [Nat.zero_add, cell_of (heap_alloc_new W0 (.cells #[.int .i64 f, .slice ob nb cb] 135)), List.getElem?_toArray]
    exact hu⟩) (fun u hu => by
    simp only [List.mem_cons, List.not_mem_nil, or_false] at hu
    rcases hu with rfl | rfl <;> rfl) (by omega) 92
  obtain ⟨o4, c4, hv4⟩ := owns_form hown4
  have hkeep : ∀ (b : Nat) (o : Obj), W0.heap[b]? = some o → (∀ cur, o ≠ .cells cur 135 (0, 0)) → w4.heap[b]? = some o := fun b o hb hne => by
    have hlt := heap_lt hb
    have e2 := hB2.block b hlt
    refine (hgr4.block b (by have := hB2.size; omega) fun e => ?_).trans (e2.trans hb)
    rcases hown3.2 with ⟨h9, -⟩ | ⟨g', cap, cur', h9, hb1, hg', rest⟩
    · rw [h9] at e; cases e
    · rw [h9] at e
      have e9 : b = g' := Option.some.inj e
      rw [← e9, e2, hb] at hg'
      exact hne _ (Option.some.inj hg')
  have hg4 := hkeep g _ hg (fun cur e => by cases e)
  have hobj4 := hkeep n _ h0.obj (fun cur e => by cases e)
  have hng : n ≠ g := fun e => by
    have h9 := h0.obj
    rw [e, hg] at h9
    cases h9
  have hway4 : ∀ (j : Nat) (u : Value), j ≠ i → ws[j]? = some u → WayV w4 (L + 1) u := fun j u hj hu => by
    obtain ⟨m', xs', h1, h2⟩ := h0.way u (List.mem_of_getElem? hu)
    refine ⟨m', xs', by omega, owns_block h2 fun b hb => ?_⟩
    have hlt := (owns_lt h2 b hb).1
    refine (hgr4.block b (by have := hB2.size; omega) fun e => ?_).trans (hB2.block b hlt)
    exact h0.apart j i u _ b hj hu hv hb e.symm
  have hgS : ¬ KS g := h.offr g rfl
  have hlow : Keeps KS w w4 := by
    have e0 : Keeps KS w W0 := keeps_of hb0 h.kslt
    have e1 : Keeps KS W0 (W0.alloc (.cells #[.int .i64 f, .slice ob nb cb] 135)) := keeps_of hB2 fun k hk => by have := h.kslt k hk; omega
    have e2 : Keeps KS (W0.alloc (.cells #[.int .i64 f, .slice ob nb cb] 135)) w4 := keeps_grown hgr4 (fun k hk => by have := h.kslt k hk; have := hB2.size; omega) fun k hk => h.offw _ (List.mem_of_getElem? hv) k hk
    exact (e0.trans e1).trans e2
  have hfin : Hid (Net KP KS (w4.setCell ⟨g, i * 4 + 2, none⟩ v4) n ks (L + 1) ∧ Keeps KS w (w4.setCell ⟨g, i * 4 + 2, none⟩ v4)) := by
    have hset : ∀ b, b ≠ g → (w4.setCell ⟨g, i * 4 + 2, none⟩ v4).heap[b]? = w4.heap[b]? := fun b hb => heap_set_other v4 hb
    have hmap : ∀ (b : Nat) (l : List (Addr × Nat)), PMap W0 b l → PMap (w4.setCell ⟨g, i * 4 + 2, none⟩ v4) b l := fun b l hb => by
      obtain ⟨es, c, g1, g2⟩ := hb
      have g3 := hkeep b _ g1 (fun cur e => by cases e)
      refine ⟨es, c, (hset b fun e => ?_).trans g3, g2⟩
      rw [e, hg] at g1
      cases g1
    have hrow4 : w4.ownsRow 0 94 4 (.slice (some ⟨g, 0, none⟩) ks.length cp) ks.length (rowN ks ws) := ⟨h0.row.1, .inr ⟨g, cp, cur, rfl, Nat.zero_le _, hg4, hnc, hcm, hcs, htk⟩⟩
    have hwayset : ∀ u, WayV w4 (L + 1) u → WayV (w4.setCell ⟨g, i * 4 + 2, none⟩ v4) (L + 1) u := fun u hu => hu.keep fun b cur hb _ => hset b fun e => by
      rw [e, hg4] at hb
      cases hb
    refine ⟨⟨l1, l2, .slice (some ⟨g, 0, none⟩) ks.length cp, me, md, ws.set i v4, ⟨(hset n hng).trans hobj4, ?_, by rw [List.length_set]; exact h.lenw, hmap me l1 h0.m1, hmap md l2 h0.m2, h.neq, h.off, h.offr, ?_, ?_, ?_, ?_, h.idx1, h.idx2, h.kk, ?_⟩⟩, hlow.trans (keeps_set w4 g _ v4 hgS)⟩
    · rw [rowN_set ks ws i v4 h.lenw hi]
      exact owns_set4 hrow4 (i * 4 + 2) v4
    · intro u hu q hq e
      rcases List.mem_or_eq_of_mem_set hu with hu | rfl
      · exact h.offw u hu q hq e
      · rcases hbk4 with e1 | e1
        · rw [e1] at hq
          exact h.offw _ (List.mem_of_getElem? hv) q hq e
        · rw [e1] at hq
          have e9 := Option.some.inj hq
          have := h.kslt q e
          have := hB2.size
          omega
    · intro b hb
      have := h.kslt b hb
      have h9 : (w4.setCell ⟨g, i * 4 + 2, none⟩ v4).heap.size = w4.heap.size := by simp
      have := hlow.size
      omega
    · intro u hu
      obtain ⟨j, hj⟩ := List.mem_iff_getElem?.1 hu
      rw [List.getElem?_set] at hj
      split at hj
      · split at hj
        · cases hj
          exact hwayset _ ⟨m + 1, _, by omega, hown4⟩
        · cases hj
      · rename_i hne
        exact hwayset _ (hway4 j u (fun e => hne e.symm) hj)
    · intro a b u u' q hab hu hu' hq
      rw [List.getElem?_set] at hu hu'
      have hown' : ∀ (j : Nat) (x : Value) (r : Nat), j ≠ i → ws[j]? = some x → x.ownBlock = some r → v4.ownBlock ≠ some r := fun j x r hj hx hr e => by
        rcases hbk4 with e1 | e1
        · rw [e1] at e
          exact h0.apart j i x _ r hj hx hv hr e
        · rw [e1] at e
          have h9 := (h0.way x (List.mem_of_getElem? hx)).lt r hr
          have e9 := Option.some.inj e
          have := hB2.size
          omega
      split at hu
      · rename_i e1
        split at hu
        · cases hu
          split at hu'
          · rename_i e2
            exact absurd (e1.symm.trans e2) hab
          · rename_i e2
            exact fun hh => hown' b u' q (fun e => e2 e.symm) hu' hh hq
        · cases hu
      · rename_i e1
        split at hu'
        · split at hu'
          · cases hu'
            exact hown' a u q (fun e => e1 e.symm) hu hq
          · cases hu'
        · exact h0.apart a b u u' q hab hu hu' hq
    · intro b hb
      obtain ⟨h1, c, e, h2⟩ := h.plain b hb
      exact ⟨h1, c, e, ((hlow.trans (keeps_set w4 g _ v4 hgS)).block b h1).trans h2⟩
  rw [hv4] at hr4 hfin
  have x0 := cell_of h0.obj 0
  have x4 := cell_of hobj4 0
  have b0 := cell_of hbox 0
  have b1 := cell_of hbox 1
  simp only [List.getElem?_toArray, List.getElem?_cons_succ, List.getElem?_cons_zero] at x0 x4 b0 b1
  have d4 := owns_cell hg4 htk (i * 4 + 2) (by omega) _ (by rw [rowN_get ks ws i k _ hki hv 2 (by omega)]; unfold keyC; split <;> rfl)
  have f4 := frozen_of hg4 (i * 4 + 2)
  rw [← HW0.out] at hr4 hcell x0 b0 b1
  have hcell' : V.cell? ⟨g, i * 4 + 2, none⟩ = some (.slice ov m cv) := hcell
  have x0' : V.cell? ⟨n, 0, none⟩ = some (.slice (some ⟨g, 0, none⟩) ks.length cp) := x0
  have b0' : V.cell? ⟨w.heap.size, 0, none⟩ = some (.int .i64 f) := b0
  have b1' : V.cell? ⟨w.heap.size, 1, none⟩ = some (.slice ob nb cb) := b1
  have hr4' : (Builtin.append_ #[92, 92] 92 #[.slice ov m cv, .slice (some ⟨V.heap.size, 0, none⟩) 1 1]).run Tryz.prog (V.alloc (.cells #[.int .i64 f, .slice ob nb cb] 135)).drew = .ok (.slice o4 (m + 1) c4) w4 := hr4
  have HR4 := hide hr4'
  have hgV : g < V.heap.size := by rw [← HW0.out] at hg; exact heap_lt hg
  have hnV : n < V.heap.size := by have h9 := h0.obj; rw [← HW0.out] at h9; exact heap_lt h9
  have hwV : w.heap.size < V.heap.size := by rw [← HW0.out] at hbox; exact heap_lt hbox
  have hBV : Below V.heap.size V (V.alloc (.cells #[.int .i64 f, .slice ob nb cb] 135)) := (Below.refl _ V).alloc (Nat.le_refl _) _
  have k1 := (hBV.cell (p := ⟨g, i * 4 + 2, none⟩) hgV).trans hcell'
  have k2 := (hBV.cell (p := ⟨n, 0, none⟩) hnV).trans x0'
  have k3 := (hBV.cell (p := ⟨w.heap.size, 0, none⟩) hwV).trans b0'
  have k4 := (hBV.cell (p := ⟨w.heap.size, 1, none⟩) hwV).trans b1'
  have hk2 : ks.length ≤ 9223372036854775807 := by omega
  clear hBV hr4 hr4' hcell x0 b0 b1 hbox h h0 hv hki hown hgS hg hnc hcm hcs htk hB2 hown3 hi0 hz0 hz1 hz2 hown4 hgr4 hbk4 hv4 hkeep hg4 hobj4 hng hway4 hlow hsz0 hb0 hmL HW0
  go_enter Tryz.func83, Tryz.ntmps83
  go_upto_region 1 with fail
  go_region_law (refine step_append_run rfl (.tmp 18) (.tmp 20) 92 rfl (.slice ov m cv) (.slice (some ⟨V.heap.size, 0, none⟩) 1 1) (.slice o4 (m + 1) c4) w4 (by simp [Act.eval]) (by simp [Act.eval]) HR4.out ?_)
  all_goals
    go_end0
    exact ⟨rfl, hfin.out⟩
end Go.Proofs.YtihjpkldefllgakGreat.Nm
