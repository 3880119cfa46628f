/- The program's placeOfExp, placeOfDec. -/
import Derived.Test.YtihjpkldefllgakGreatBF
namespace Go.Proofs.YtihjpkldefllgakGreat.Nm
open Go.ChangeShapes Go.WideShapes Go.ChangeAt Go.RowKit

set_option maxHeartbeats 2000000 in
set_option maxRecDepth 100000 in
theorem placeOfExp_any {KP KS : Nat → Prop} {w : World} {n : Nat} {ks : List (Bool × Addr)} {L : Nat} (h : Net KP KS w n ks L) (hk : ks.length ≤ 50000000) (a : Addr) (ha : KP a.block) :
    Calls Tryz.prog 84 #[.pointer (some ⟨n, 0, none⟩), .pointer (some a)] w fun e w' => ∃ (i : Nat) (new : List (Bool × Addr)), e = .returned (.int .i64 (i : Int)) ∧ Net KP KS w' n (ks ++ new) L ∧ (new = [] ∨ new = [(true, a)]) ∧ (ks ++ new)[i]? = some (true, a) ∧ Keeps KS w w' := by
  obtain ⟨l1, l2, pv, me, md, ws, h⟩ := h
  have hlook := PMap.look2 Tryz.underlying87 ptr_exp zero_int h.m1 (h.plainAt ha) h.keys1
  obtain ⟨op, cp, hpv⟩ := owns_form h.row
  subst hpv
  have z0 := cell_of h.obj 0
  have z1 := cell_of h.obj 1
  have z2 := cell_of h.obj 2
  simp only [List.getElem?_toArray, List.getElem?_cons_succ, List.getElem?_cons_zero] at z0 z1 z2
  cases hf : findA l1 a 0 with
  | some x =>
    obtain ⟨j, h1, h2, -⟩ := findA_at l1 a 0 x hf
    have hg : getA l1 a = x.2 := by unfold getA; rw [hf]; rfl
    have hmem : (a, x.2) ∈ l1 := List.mem_of_getElem? h2
    have HI := hide (h.idx1 a x.2 hmem)
    rw [hf, hg] at hlook
    simp only [Option.isSome_some] at hlook
    have HN : Hid (Net KP KS w n ks L) := ⟨_, _, _, _, _, _, h⟩
    have hlt : x.2 < ks.length := (List.getElem?_eq_some_iff.1 HI.out).1
    clear h h1 h2 hf hg hmem
    go_enter Tryz.func84, Tryz.ntmps84
    go_wp2
    go_ret
    refine ⟨x.2, [], rfl, by rw [List.append_nil]; exact HN.out, .inl rfl, by rw [List.append_nil]; exact HI.out, Keeps.refl _ _⟩
  | none =>
    rw [hf] at hlook
    simp only [Option.isSome_none] at hlook
    obtain ⟨w2, hup, hm1, hbu, hs2⟩ := h.m1.update Tryz.underlying87 ptr_exp (a := a) ks.length (h.plainAt ha) h.keys1
    have hl2 := findA_no l1 a 0 hf
    have hnm : n ≠ me := fun e => by
      obtain ⟨es, c, h1, -⟩ := h.m1
      rw [← e, h.obj] at h1
      cases h1
    have hcellm : ∀ (g : Nat) (cur : Array Value) (t : TypeId), w.heap[g]? = some (.cells cur t (0, 0)) → g ≠ me := fun g cur t hg e => by
      obtain ⟨es, c, h1, -⟩ := h.m1
      rw [← e, hg] at h1
      cases h1
    have hcw2 : ∀ (g : Nat) (cur : Array Value) (t : TypeId), w.heap[g]? = some (.cells cur t (0, 0)) → w2.heap[g]? = w.heap[g]? := fun g cur t hg => hbu.block g ⟨heap_lt hg, hcellm g cur t hg⟩
    have hobj2 := (hcw2 n _ _ h.obj).trans h.obj
    have hrow2 : w2.ownsRow 0 94 4 (.slice op ks.length cp) ks.length (rowN ks ws) := by
      obtain ⟨hl, hc⟩ := h.row
      refine ⟨hl, ?_⟩
      rcases hc with hc | ⟨g, cap, cur, hv, hb1, hg, rest⟩
      · exact Or.inl hc
      · exact Or.inr ⟨g, cap, cur, hv, hb1, (hcw2 g cur _ hg).trans hg, rest⟩
    have hB2 : Below w2.heap.size w2 (w2.alloc (.cells #[.pointer (some a), .pointer none, .slice none 0 0, .int .i64 0] 94)) := (Below.refl _ w2).alloc (Nat.le_refl _) _
    have hrow3 := owns_block (w' := w2.alloc (.cells #[.pointer (some a), .pointer none, .slice none 0 0, .int .i64 0] 94)) hrow2 fun g hg => hB2.block g (owns_lt hrow2 g hg).1
    obtain ⟨i0, hi, hz0, hz1, hz2⟩ := info_parts place_info
    obtain ⟨v4, w4, hr4, hown4, hgr4, hbk4⟩ := app_run (P := Tryz.prog) Tryz.underlying86 hi hz0 hz1 hz2 rfl (by decide) (by decide) hrow3 (Nat.zero_le _) (some ⟨w2.heap.size, 0, none⟩) 1 1 [.pointer (some a), .pointer none, .slice none 0 0, .int .i64 0] rfl (fun _ => ⟨w2.heap.size, 0, rfl, fun j u hu => by
      rw [Nat.zero_add, cell_of (heap_alloc_new w2 (.cells #[.pointer (some a), .pointer none, .slice none 0 0, .int .i64 0] 94)), List.getElem?_toArray]
      exact hu⟩) (fun u hu => by
      simp only [List.mem_cons, List.not_mem_nil, or_false] at hu
      rcases hu with rfl | rfl | rfl | rfl <;> rfl) (by omega) 86
    obtain ⟨o4, c4, hv4⟩ := owns_form hown4
    have hr4b := hr4
    rw [hv4] at hr4b
    rw [hs2] at hr4b
    have HR4 := hide hr4b
    have hcw4 : ∀ (g : Nat) (cur : Array Value) (t : TypeId), t ≠ 94 → w.heap[g]? = some (.cells cur t (0, 0)) → w4.heap[g]? = w.heap[g]? := fun g cur t ht hg => by
      have hlt := heap_lt hg
      have e1 := hcw2 g cur t hg
      have e2 := hB2.block g (by omega)
      refine (hgr4.block g (by have := hB2.size; omega) fun e => ?_).trans (e2.trans e1)
      obtain ⟨hl, hc⟩ := hrow3
      rcases hc with ⟨hv, -⟩ | ⟨g', cap, cur', hv, hb1, hg', rest⟩
      · rw [hv] at e; cases e
      · rw [hv] at e
        cases e
        rw [e2, e1, hg] at hg'
        cases hg'
        exact ht rfl
    have hother4 : ∀ (g : Nat), g < w.heap.size → (∀ (cur : Array Value), w.heap[g]? ≠ some (.cells cur 94 (0, 0))) → g ≠ me → w4.heap[g]? = w.heap[g]? := fun g hlt hnc hne => by
      have e1 := hbu.block g ⟨hlt, hne⟩
      have e2 := hB2.block g (by omega)
      refine (hgr4.block g (by have := hB2.size; omega) fun e => ?_).trans (e2.trans e1)
      obtain ⟨hl, hc⟩ := hrow3
      rcases hc with ⟨hv, -⟩ | ⟨g', cap, cur', hv, hb1, hg', rest⟩
      · rw [hv] at e; cases e
      · rw [hv] at e
        cases e
        rw [e2, e1] at hg'
        exact hnc _ hg'
    have hobj4 := (hcw4 n _ _ (by decide) h.obj).trans h.obj
    have hm4 : PMap w4 me (setA l1 a ks.length) := by
      obtain ⟨es, c, g1, g2⟩ := hm1
      refine ⟨es, c, ?_, g2⟩
      have hlt := h.m1.lt
      refine (hgr4.block me (by have := hB2.size; omega) fun e => ?_).trans ((hB2.block me (by omega)).trans g1)
      obtain ⟨hl, hc⟩ := hrow3
      rcases hc with ⟨hv, -⟩ | ⟨g', cap, cur', hv, hb1, hg', rest⟩
      · rw [hv] at e; cases e
      · rw [hv] at e
        have e9 : me = g' := Option.some.inj e
        rw [← e9, hB2.block me (by omega), g1] at hg'
        cases hg'
    have hmo4 : PMap w4 md l2 := h.m2.keep (hother4 md h.m2.lt (fun cur hc => by
      obtain ⟨es, c, g1, -⟩ := h.m2
      rw [hc] at g1
      cases g1) (h.neq.symm))
    have y0 := frozen_of hobj4 0
    have y1 := cell_of hobj4 0
    simp only [List.getElem?_toArray, List.getElem?_cons_zero] at y1
    have x0 := cell_of hobj2 0
    have x1 := cell_of hobj2 1
    simp only [List.getElem?_toArray, List.getElem?_cons_succ, List.getElem?_cons_zero] at x0 x1
    have hbig : Hid (Net KP KS (w4.setCell ⟨n, 0, none⟩ v4) n (ks ++ [(true, a)]) L ∧ Keeps KS w (w4.setCell ⟨n, 0, none⟩ v4)) := by
      have hset : ∀ g, g ≠ n → (w4.setCell ⟨n, 0, none⟩ v4).heap[g]? = w4.heap[g]? := fun g hg => heap_set_other v4 hg
      have hn4 : ∀ g, v4.ownBlock = some g → g ≠ n := fun g hg e => by
        subst e
        obtain ⟨hl, hc⟩ := hown4
        rcases hc with ⟨hv, -⟩ | ⟨g', cap, cur', hv, hb1, hg', rest⟩
        · rw [hv] at hg; cases hg
        · rw [hv] at hg
          cases hg
          rw [hobj4] at hg'
          cases hg'
      have hlow : Keeps KS w w4 := by
        have e0 : Keeps KS w w2 := ⟨hbu.os, hbu.tape, hbu.output, hbu.size, fun k hk => hbu.block k ⟨h.kslt k hk, fun e => by rw [e] at hk; exact h.off.2.1 hk⟩⟩
        have e1 : Keeps KS w2 (w2.alloc (.cells #[.pointer (some a), .pointer none, .slice none 0 0, .int .i64 0] 94)) := keeps_of hB2 fun k hk => by have := h.kslt k hk; omega
        have e2 : Keeps KS (w2.alloc (.cells #[.pointer (some a), .pointer none, .slice none 0 0, .int .i64 0] 94)) w4 := keeps_grown hgr4 (fun k hk => by have := h.kslt k hk; have := hB2.size; omega) fun k hk => h.offr k hk
        exact (e0.trans e1).trans e2
      have hlt4 : w.heap.size ≤ w4.heap.size := by have := hB2.size; have := hgr4.size; omega
      refine ⟨⟨(setA l1 a ks.length), l2, v4, me, md, ws ++ [.slice none 0 0], ⟨?_, ?_, ?_, ?_, ?_, h.neq, h.off, ?_, ?_, ?_, ?_, ?_, ?_, ?_, ?_, ?_⟩⟩, hlow.trans (keeps_set w4 n 0 v4 h.off.1)⟩
      · have h9 := heap_set_same (j := 0) v4 hobj4
        simpa using h9
      · rw [rowN_snoc ks ws _ _ h.lenw, List.length_append]
        refine owns_block ?_ fun g hg => hset g (hn4 g hg)
        exact hown4
      · rw [List.length_append, List.length_append, h.lenw]; rfl
      · exact hm4.keep (hset me fun e => by
          have h9 := hm4
          obtain ⟨es, c, g1, -⟩ := h9
          rw [e, hobj4] at g1
          cases g1)
      · exact hmo4.keep (hset md fun e => by
          have h9 := hmo4
          obtain ⟨es, c, g1, -⟩ := h9
          rw [e, hobj4] at g1
          cases g1)
      · intro g hg e
        rcases hbk4 with e1 | e1
        · rw [e1] at hg
          exact h.offr g hg e
        · rw [e1] at hg
          have e9 := Option.some.inj hg
          have := h.kslt g e
          have := hB2.size
          omega
      · intro v hv g hg e
        rcases List.mem_append.1 hv with hv | hv
        · exact h.offw v hv g hg e
        · rw [List.mem_singleton] at hv
          rw [hv] at hg
          cases hg
      · intro b hb
        have := h.kslt b hb
        have h9 : (w4.setCell ⟨n, 0, none⟩ v4).heap.size = w4.heap.size := by simp
        omega
      · intro v hv
        rcases List.mem_append.1 hv with hv | hv
        · refine (h.way v hv).keep fun g cur hg _ => (hset g fun e => ?_).trans (hcw4 g cur _ (by decide) hg)
          subst e
          rw [h.obj] at hg
          cases hg
        · rw [List.mem_singleton] at hv
          rw [hv]
          exact WayV.nil _ _
      · intro i j v v' g hij hv hv' hg
        rw [List.getElem?_append] at hv hv'
        split at hv <;> split at hv'
        · exact h.apart i j v v' g hij hv hv' hg
        · have hx : v' = .slice none 0 0 := by
            have := List.mem_of_getElem? hv'
            simpa using this
          rw [hx]
          intro hh
          cases hh
        · have hx : v = .slice none 0 0 := by
            have := List.mem_of_getElem? hv
            simpa using this
          rw [hx] at hg
          cases hg
        · have hx : v = .slice none 0 0 := by
            have := List.mem_of_getElem? hv
            simpa using this
          rw [hx] at hg
          cases hg
      · intro b i hb
        rw [hl2.2 ks.length] at hb
        rcases List.mem_append.1 hb with hb | hb
        · have h9 := h.idx1 b i hb
          rw [List.getElem?_append_left (List.getElem?_eq_some_iff.1 h9).1]
          exact h9
        · rw [List.mem_singleton] at hb
          cases hb
          rw [List.getElem?_append_right (Nat.le_refl _), Nat.sub_self]
          rfl
      · intro b i hb
        have h9 := h.idx2 b i hb; rw [List.getElem?_append_left (List.getElem?_eq_some_iff.1 h9).1]; exact h9
      · intro k hk
        rcases List.mem_append.1 hk with hk | hk
        · exact h.kk k hk
        · rw [List.mem_singleton] at hk
          rw [hk]
          exact ha
      · intro b hb
        obtain ⟨h1, c, e, h2⟩ := h.plain b hb
        exact ⟨h1, c, e, ((hlow.trans (keeps_set w4 n 0 v4 h.off.1)).block b h1).trans h2⟩
    have HLT : Hid ((ks ++ [(true, a)])[ks.length]? = some (true, a)) := by
      show (ks ++ [(true, a)])[ks.length]? = some (true, a)
      rw [List.getElem?_append_right (Nat.le_refl _), Nat.sub_self]
      rfl
    rw [hv4] at hbig
    clear hv4 hr4b h hf hm1 hbu hl2 hnm hcellm hcw2 hobj2 hrow2 hB2 hrow3 hi hz0 hz1 hz2 hr4 hown4 hgr4 hbk4 hcw4 hother4 hobj4 hm4 hmo4
    go_enter Tryz.func84, Tryz.ntmps84
    go_wp2_with (at_builtin; refine Lib.wpList_append_run _ rfl _ _ _ _ rfl _ _ rfl rfl _ _ HR4.out ?_)
    go_ret
    exact ⟨ks.length, [(true, a)], rfl, hbig.out.1, .inr rfl, HLT.out, hbig.out.2⟩

set_option maxHeartbeats 2000000 in
set_option maxRecDepth 100000 in
theorem placeOfDec_any {KP KS : Nat → Prop} {w : World} {n : Nat} {ks : List (Bool × Addr)} {L : Nat} (h : Net KP KS w n ks L) (hk : ks.length ≤ 50000000) (a : Addr) (ha : KP a.block) :
    Calls Tryz.prog 37 #[.pointer (some ⟨n, 0, none⟩), .pointer (some a)] w fun e w' => ∃ (i : Nat) (new : List (Bool × Addr)), e = .returned (.int .i64 (i : Int)) ∧ Net KP KS w' n (ks ++ new) L ∧ (new = [] ∨ new = [(false, a)]) ∧ (ks ++ new)[i]? = some (false, a) ∧ Keeps KS w w' := by
  obtain ⟨l1, l2, pv, me, md, ws, h⟩ := h
  have hlook := PMap.look2 Tryz.underlying88 ptr_dec zero_int h.m2 (h.plainAt ha) h.keys2
  obtain ⟨op, cp, hpv⟩ := owns_form h.row
  subst hpv
  have z0 := cell_of h.obj 0
  have z1 := cell_of h.obj 1
  have z2 := cell_of h.obj 2
  simp only [List.getElem?_toArray, List.getElem?_cons_succ, List.getElem?_cons_zero] at z0 z1 z2
  cases hf : findA l2 a 0 with
  | some x =>
    obtain ⟨j, h1, h2, -⟩ := findA_at l2 a 0 x hf
    have hg : getA l2 a = x.2 := by unfold getA; rw [hf]; rfl
    have hmem : (a, x.2) ∈ l2 := List.mem_of_getElem? h2
    have HI := hide (h.idx2 a x.2 hmem)
    rw [hf, hg] at hlook
    simp only [Option.isSome_some] at hlook
    have HN : Hid (Net KP KS w n ks L) := ⟨_, _, _, _, _, _, h⟩
    have hlt : x.2 < ks.length := (List.getElem?_eq_some_iff.1 HI.out).1
    clear h h1 h2 hf hg hmem
    go_enter Tryz.func37, Tryz.ntmps37
    go_wp2
    go_ret
    refine ⟨x.2, [], rfl, by rw [List.append_nil]; exact HN.out, .inl rfl, by rw [List.append_nil]; exact HI.out, Keeps.refl _ _⟩
  | none =>
    rw [hf] at hlook
    simp only [Option.isSome_none] at hlook
    obtain ⟨w2, hup, hm1, hbu, hs2⟩ := h.m2.update Tryz.underlying88 ptr_dec (a := a) ks.length (h.plainAt ha) h.keys2
    have hl2 := findA_no l2 a 0 hf
    have hnm : n ≠ md := fun e => by
      obtain ⟨es, c, h1, -⟩ := h.m2
      rw [← e, h.obj] at h1
      cases h1
    have hcellm : ∀ (g : Nat) (cur : Array Value) (t : TypeId), w.heap[g]? = some (.cells cur t (0, 0)) → g ≠ md := fun g cur t hg e => by
      obtain ⟨es, c, h1, -⟩ := h.m2
      rw [← e, hg] at h1
      cases h1
    have hcw2 : ∀ (g : Nat) (cur : Array Value) (t : TypeId), w.heap[g]? = some (.cells cur t (0, 0)) → w2.heap[g]? = w.heap[g]? := fun g cur t hg => hbu.block g ⟨heap_lt hg, hcellm g cur t hg⟩
    have hobj2 := (hcw2 n _ _ h.obj).trans h.obj
    have hrow2 : w2.ownsRow 0 94 4 (.slice op ks.length cp) ks.length (rowN ks ws) := by
      obtain ⟨hl, hc⟩ := h.row
      refine ⟨hl, ?_⟩
      rcases hc with hc | ⟨g, cap, cur, hv, hb1, hg, rest⟩
      · exact Or.inl hc
      · exact Or.inr ⟨g, cap, cur, hv, hb1, (hcw2 g cur _ hg).trans hg, rest⟩
    have hB2 : Below w2.heap.size w2 (w2.alloc (.cells #[.pointer none, .pointer (some a), .slice none 0 0, .int .i64 0] 94)) := (Below.refl _ w2).alloc (Nat.le_refl _) _
    have hrow3 := owns_block (w' := w2.alloc (.cells #[.pointer none, .pointer (some a), .slice none 0 0, .int .i64 0] 94)) hrow2 fun g hg => hB2.block g (owns_lt hrow2 g hg).1
    obtain ⟨i0, hi, hz0, hz1, hz2⟩ := info_parts place_info
    obtain ⟨v4, w4, hr4, hown4, hgr4, hbk4⟩ := app_run (P := Tryz.prog) Tryz.underlying86 hi hz0 hz1 hz2 rfl (by decide) (by decide) hrow3 (Nat.zero_le _) (some ⟨w2.heap.size, 0, none⟩) 1 1 [.pointer none, .pointer (some a), .slice none 0 0, .int .i64 0] rfl (fun _ => ⟨w2.heap.size, 0, rfl, fun j u hu => by
      rw [Nat.zero_add, cell_of (heap_alloc_new w2 (.cells #[.pointer none, .pointer (some a), .slice none 0 0, .int .i64 0] 94)), List.getElem?_toArray]
      exact hu⟩) (fun u hu => by
      simp only [List.mem_cons, List.not_mem_nil, or_false] at hu
      rcases hu with rfl | rfl | rfl | rfl <;> rfl) (by omega) 86
    obtain ⟨o4, c4, hv4⟩ := owns_form hown4
    have hr4b := hr4
    rw [hv4] at hr4b
    rw [hs2] at hr4b
    have HR4 := hide hr4b
    have hcw4 : ∀ (g : Nat) (cur : Array Value) (t : TypeId), t ≠ 94 → w.heap[g]? = some (.cells cur t (0, 0)) → w4.heap[g]? = w.heap[g]? := fun g cur t ht hg => by
      have hlt := heap_lt hg
      have e1 := hcw2 g cur t hg
      have e2 := hB2.block g (by omega)
      refine (hgr4.block g (by have := hB2.size; omega) fun e => ?_).trans (e2.trans e1)
      obtain ⟨hl, hc⟩ := hrow3
      rcases hc with ⟨hv, -⟩ | ⟨g', cap, cur', hv, hb1, hg', rest⟩
      · rw [hv] at e; cases e
      · rw [hv] at e
        cases e
        rw [e2, e1, hg] at hg'
        cases hg'
        exact ht rfl
    have hother4 : ∀ (g : Nat), g < w.heap.size → (∀ (cur : Array Value), w.heap[g]? ≠ some (.cells cur 94 (0, 0))) → g ≠ md → w4.heap[g]? = w.heap[g]? := fun g hlt hnc hne => by
      have e1 := hbu.block g ⟨hlt, hne⟩
      have e2 := hB2.block g (by omega)
      refine (hgr4.block g (by have := hB2.size; omega) fun e => ?_).trans (e2.trans e1)
      obtain ⟨hl, hc⟩ := hrow3
      rcases hc with ⟨hv, -⟩ | ⟨g', cap, cur', hv, hb1, hg', rest⟩
      · rw [hv] at e; cases e
      · rw [hv] at e
        cases e
        rw [e2, e1] at hg'
        exact hnc _ hg'
    have hobj4 := (hcw4 n _ _ (by decide) h.obj).trans h.obj
    have hm4 : PMap w4 md (setA l2 a ks.length) := by
      obtain ⟨es, c, g1, g2⟩ := hm1
      refine ⟨es, c, ?_, g2⟩
      have hlt := h.m2.lt
      refine (hgr4.block md (by have := hB2.size; omega) fun e => ?_).trans ((hB2.block md (by omega)).trans g1)
      obtain ⟨hl, hc⟩ := hrow3
      rcases hc with ⟨hv, -⟩ | ⟨g', cap, cur', hv, hb1, hg', rest⟩
      · rw [hv] at e; cases e
      · rw [hv] at e
        have e9 : md = g' := Option.some.inj e
        rw [← e9, hB2.block md (by omega), g1] at hg'
        cases hg'
    have hmo4 : PMap w4 me l1 := h.m1.keep (hother4 me h.m1.lt (fun cur hc => by
      obtain ⟨es, c, g1, -⟩ := h.m1
      rw [hc] at g1
      cases g1) (h.neq))
    have y0 := frozen_of hobj4 0
    have y1 := cell_of hobj4 0
    simp only [List.getElem?_toArray, List.getElem?_cons_zero] at y1
    have x0 := cell_of hobj2 0
    have x1 := cell_of hobj2 1
    simp only [List.getElem?_toArray, List.getElem?_cons_succ, List.getElem?_cons_zero] at x0 x1
    have hbig : Hid (Net KP KS (w4.setCell ⟨n, 0, none⟩ v4) n (ks ++ [(false, a)]) L ∧ Keeps KS w (w4.setCell ⟨n, 0, none⟩ v4)) := by
      have hset : ∀ g, g ≠ n → (w4.setCell ⟨n, 0, none⟩ v4).heap[g]? = w4.heap[g]? := fun g hg => heap_set_other v4 hg
      have hn4 : ∀ g, v4.ownBlock = some g → g ≠ n := fun g hg e => by
        subst e
        obtain ⟨hl, hc⟩ := hown4
        rcases hc with ⟨hv, -⟩ | ⟨g', cap, cur', hv, hb1, hg', rest⟩
        · rw [hv] at hg; cases hg
        · rw [hv] at hg
          cases hg
          rw [hobj4] at hg'
          cases hg'
      have hlow : Keeps KS w w4 := by
        have e0 : Keeps KS w w2 := ⟨hbu.os, hbu.tape, hbu.output, hbu.size, fun k hk => hbu.block k ⟨h.kslt k hk, fun e => by rw [e] at hk; exact h.off.2.2 hk⟩⟩
        have e1 : Keeps KS w2 (w2.alloc (.cells #[.pointer none, .pointer (some a), .slice none 0 0, .int .i64 0] 94)) := keeps_of hB2 fun k hk => by have := h.kslt k hk; omega
        have e2 : Keeps KS (w2.alloc (.cells #[.pointer none, .pointer (some a), .slice none 0 0, .int .i64 0] 94)) w4 := keeps_grown hgr4 (fun k hk => by have := h.kslt k hk; have := hB2.size; omega) fun k hk => h.offr k hk
        exact (e0.trans e1).trans e2
      have hlt4 : w.heap.size ≤ w4.heap.size := by have := hB2.size; have := hgr4.size; omega
      refine ⟨⟨l1, (setA l2 a ks.length), v4, me, md, ws ++ [.slice none 0 0], ⟨?_, ?_, ?_, ?_, ?_, h.neq, h.off, ?_, ?_, ?_, ?_, ?_, ?_, ?_, ?_, ?_⟩⟩, hlow.trans (keeps_set w4 n 0 v4 h.off.1)⟩
      · have h9 := heap_set_same (j := 0) v4 hobj4
        simpa using h9
      · rw [rowN_snoc ks ws _ _ h.lenw, List.length_append]
        refine owns_block ?_ fun g hg => hset g (hn4 g hg)
        exact hown4
      · rw [List.length_append, List.length_append, h.lenw]; rfl
      · exact hmo4.keep (hset me fun e => by
          have h9 := hmo4
          obtain ⟨es, c, g1, -⟩ := h9
          rw [e, hobj4] at g1
          cases g1)
      · exact hm4.keep (hset md fun e => by
          have h9 := hm4
          obtain ⟨es, c, g1, -⟩ := h9
          rw [e, hobj4] at g1
          cases g1)
      · intro g hg e
        rcases hbk4 with e1 | e1
        · rw [e1] at hg
          exact h.offr g hg e
        · rw [e1] at hg
          have e9 := Option.some.inj hg
          have := h.kslt g e
          have := hB2.size
          omega
      · intro v hv g hg e
        rcases List.mem_append.1 hv with hv | hv
        · exact h.offw v hv g hg e
        · rw [List.mem_singleton] at hv
          rw [hv] at hg
          cases hg
      · intro b hb
        have := h.kslt b hb
        have h9 : (w4.setCell ⟨n, 0, none⟩ v4).heap.size = w4.heap.size := by simp
        omega
      · intro v hv
        rcases List.mem_append.1 hv with hv | hv
        · refine (h.way v hv).keep fun g cur hg _ => (hset g fun e => ?_).trans (hcw4 g cur _ (by decide) hg)
          subst e
          rw [h.obj] at hg
          cases hg
        · rw [List.mem_singleton] at hv
          rw [hv]
          exact WayV.nil _ _
      · intro i j v v' g hij hv hv' hg
        rw [List.getElem?_append] at hv hv'
        split at hv <;> split at hv'
        · exact h.apart i j v v' g hij hv hv' hg
        · have hx : v' = .slice none 0 0 := by
            have := List.mem_of_getElem? hv'
            simpa using this
          rw [hx]
          intro hh
          cases hh
        · have hx : v = .slice none 0 0 := by
            have := List.mem_of_getElem? hv
            simpa using this
          rw [hx] at hg
          cases hg
        · have hx : v = .slice none 0 0 := by
            have := List.mem_of_getElem? hv
            simpa using this
          rw [hx] at hg
          cases hg
      · intro b i hb
        have h9 := h.idx1 b i hb; rw [List.getElem?_append_left (List.getElem?_eq_some_iff.1 h9).1]; exact h9
      · intro b i hb
        rw [hl2.2 ks.length] at hb
        rcases List.mem_append.1 hb with hb | hb
        · have h9 := h.idx2 b i hb
          rw [List.getElem?_append_left (List.getElem?_eq_some_iff.1 h9).1]
          exact h9
        · rw [List.mem_singleton] at hb
          cases hb
          rw [List.getElem?_append_right (Nat.le_refl _), Nat.sub_self]
          rfl
      · intro k hk
        rcases List.mem_append.1 hk with hk | hk
        · exact h.kk k hk
        · rw [List.mem_singleton] at hk
          rw [hk]
          exact ha
      · intro b hb
        obtain ⟨h1, c, e, h2⟩ := h.plain b hb
        exact ⟨h1, c, e, ((hlow.trans (keeps_set w4 n 0 v4 h.off.1)).block b h1).trans h2⟩
    have HLT : Hid ((ks ++ [(false, a)])[ks.length]? = some (false, a)) := by
      show (ks ++ [(false, a)])[ks.length]? = some (false, a)
      rw [List.getElem?_append_right (Nat.le_refl _), Nat.sub_self]
      rfl
    rw [hv4] at hbig
    clear hv4 hr4b h hf hm1 hbu hl2 hnm hcellm hcw2 hobj2 hrow2 hB2 hrow3 hi hz0 hz1 hz2 hr4 hown4 hgr4 hbk4 hcw4 hother4 hobj4 hm4 hmo4
    go_enter Tryz.func37, Tryz.ntmps37
    go_wp2_with (at_builtin; refine Lib.wpList_append_run _ rfl _ _ _ _ rfl _ _ rfl rfl _ _ HR4.out ?_)
    go_ret
    exact ⟨ks.length, [(false, a)], rfl, hbig.out.1, .inr rfl, HLT.out, hbig.out.2⟩
end Go.Proofs.YtihjpkldefllgakGreat.Nm
