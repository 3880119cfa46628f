/- The program's held.cons: a pair of makers. -/
import Derived.Test.YtegcebeaelpjhajHU
namespace Go.Proofs.Ytegcebeaelpjhaj
open Go.ChangeShapes Go.WideShapes Go.ChangeAt Go.RowKit

/-- More is kept: blocks that are new. -/
theorem held_more {T : Nat → TypeId} {w w1 : World} {K : Nat → Prop} {g : Nat} {ls ks : Nat → List (Addr × Addr)} (h : HeldMem T w K g ls ks) (hb : Below w.heap.size w w1) : HeldMem T w1 (fun k => K k ∨ (w.heap.size ≤ k ∧ k < w1.heap.size)) g ls ks := by
  have h1 := h.later hb
  have hgw := held_gw h
  obtain ⟨c, e, v, mo, hg, H⟩ := h
  refine ⟨c, e, v, mo, (hb.block g hgw).trans hg, ⟨H.rows, H.maps, fun i hi => ?_, H.apart⟩⟩
  have hm := H.mem i hi
  have hm1 := hm.later hb
  refine hm1.more ?_ ?_ ?_ ?_ fun k hk => Or.inl hk
  · rintro k (hk | hk)
    · exact hm1.kw k hk
    · exact hk.2
  · rintro (hk | hk)
    · exact hm.kg hk
    · omega
  · rintro k hk (h3 | h3)
    · exact hm.kr k hk h3
    · have := (hm.own_lt (Or.inl hk)).1
      omega
  · rintro k hk (h3 | h3)
    · exact hm.km k hk h3
    · have := (hm.own_lt (Or.inr hk)).1
      omega
/-- Less is kept, as long as the keys' blocks are. -/
theorem held_less {T : Nat → TypeId} {w : World} {K K' : Nat → Prop} {g : Nat} {ls ks : Nat → List (Addr × Addr)} (h : HeldMem T w K' g ls ks) (hk : ∀ k, K k → K' k) (hks : ∀ i, i < 4 → ∀ l ∈ ks i, K l.1.block ∧ K l.2.block) : HeldMem T w K g ls ks := by
  obtain ⟨c, e, v, mo, hg, H⟩ := h
  exact ⟨c, e, v, mo, hg, ⟨H.rows, H.maps, fun i hi => (H.mem i hi).less hk (hks i hi), H.apart⟩⟩
theorem held_keys {T : Nat → TypeId} {w : World} {K : Nat → Prop} {g : Nat} {ls ks : Nat → List (Addr × Addr)} (h : HeldMem T w K g ls ks) : ∀ i, i < 4 → ∀ l ∈ ks i, K l.1.block ∧ K l.2.block := by
  obtain ⟨c, e, v, mo, hg, H⟩ := h
  intro i hi l hl
  exact ⟨((H.mem i hi).keys l hl).1.1, ((H.mem i hi).keys l hl).2.1⟩
theorem puts_blocks {KP : Nat → Prop} {w : World} {R R' : Tr → List Value → Prop} {o p : Option Addr} {sz : Nat} {xs ys : List Tr} (ks : List (Addr × Addr)) (ha : RowOf KP w R sz o xs) (hb : RowOf KP w R' sz p ys) : ∀ l ∈ puts ks o p sz xs.length ys.length, KP l.1.block ∧ KP l.2.block := by
  intro l hl
  unfold puts at hl
  split at hl
  · rename_i he
    have hin := adds_sub _ _ l hl
    have hne : xs.length ≠ 0 := by
      intro e0
      rw [e0] at hin
      cases hin
    obtain ⟨b1, o1, rfl, k1, -, -⟩ := ha (fun e => hne (by rw [e]; rfl))
    obtain ⟨b2, o2, rfl, k2, -, -⟩ := hb (fun e => hne (by rw [he, e]; rfl))
    obtain ⟨e1, e2⟩ := places_in hin
    rw [e1, e2]
    exact ⟨k1, k2⟩
  · cases hl
/-- Two with a name and a row are the same, but for their parts. -/
def rootN (t u : Tr) : Bool := eqS t.s u.s && decide (t.l.length = u.l.length)

set_option maxHeartbeats 4000000 in
set_option maxRecDepth 100000 in
theorem held_cons {h : Nat} (g : Nat) (w : World) (K KP : Nat → Prop) (hKP : ∀ b, KP b → K b) (ls ks : Nat → List (Addr × Addr)) (hh : HeldMem TT w K g ls ks) (t u : Tr) (o1 p1 : Option Addr) (c1 d1 : Nat)
    (rt : coR KP w h t [.string t.s, .slice o1 t.l.length c1]) (ru : coR KP w h u [.string u.s, .slice p1 u.l.length d1]) (hp : ∀ b, KP b → PlainAt w ⟨b, 0, none⟩) (hn3 : (ls 3).length + t.l.length ≤ 10000000) :
    Calls Try.prog 59 #[.pointer (some ⟨g, 0, none⟩), .agg #[.string t.s, .slice o1 t.l.length c1], .agg #[.string u.s, .slice p1 u.l.length d1]] w fun e' w' => e' = .returned (.bool (rootN t u)) ∧ Keeps K w w' ∧ (rootN t u = true → HeldMem TT w' K g (upd ls 3 (ls 3 ++ puts (ks 3) o1 p1 4 t.l.length u.l.length)) (upd ks 3 (ks 3 ++ puts (ks 3) o1 p1 4 t.l.length u.l.length))) := by
  obtain ⟨-, -, -, -, -, o1', c1', e1, -, f1, r1⟩ := rt
  obtain ⟨-, -, -, -, -, p1', d1', e2, -, g1, q1⟩ := ru
  simp only [List.cons.injEq, Value.slice.injEq, true_and, and_true] at e1 e2
  obtain ⟨rfl, rfl⟩ := e1
  obtain ⟨rfl, rfl⟩ := e2
  generalize hV : ((w.alloc (.cells #[.string t.s, .slice o1 t.l.length c1] 117)).alloc (.cells #[.string u.s, .slice p1 u.l.length d1] 117)) = V
  have hbV : Below w.heap.size w V := by rw [← hV]; exact ((Below.refl _ w).alloc (Nat.le_refl _) _).alloc (by simp) _
  have hsV : V.heap.size = w.heap.size + 2 := by rw [← hV]; simp
  have ha : V.heap[w.heap.size]? = some (.cells #[.string t.s, .slice o1 t.l.length c1] 117 (0, 0)) := by rw [← hV]; exact (Below.heap_alloc _ _ _ (by simp)).trans (heap_alloc_new w _)
  have hb : V.heap[w.heap.size + 1]? = some (.cells #[.string u.s, .slice p1 u.l.length d1] 117 (0, 0)) := by rw [← hV]; exact heap_alloc2_new w _ _
  have hkw := held_kw hh
  have hkV : Keeps K w V := keeps_of hbV hkw
  have hK2 : ∀ k, KP k → (fun k => K k ∨ (w.heap.size ≤ k ∧ k < V.heap.size)) k := fun k hk => .inl (hKP k hk)
  have kx : K w.heap.size ∨ (w.heap.size ≤ w.heap.size ∧ w.heap.size < V.heap.size) := .inr ⟨Nat.le_refl _, by omega⟩
  have ky : K (w.heap.size + 1) ∨ (w.heap.size ≤ w.heap.size + 1 ∧ w.heap.size + 1 < V.heap.size) := .inr ⟨by omega, by omega⟩
  have ma0 := kept_cell (v := .string t.s) (K := fun k => K k ∨ (w.heap.size ≤ k ∧ k < V.heap.size)) kx ((cell_of ha 0).trans rfl)
  have ma1 := kept_cell (v := .slice o1 t.l.length c1) (K := fun k => K k ∨ (w.heap.size ≤ k ∧ k < V.heap.size)) kx ((cell_of ha 1).trans rfl)
  have mb0 := kept_cell (v := .string u.s) (K := fun k => K k ∨ (w.heap.size ≤ k ∧ k < V.heap.size)) ky ((cell_of hb 0).trans rfl)
  have mb1 := kept_cell (v := .slice p1 u.l.length d1) (K := fun k => K k ∨ (w.heap.size ≤ k ∧ k < V.heap.size)) ky ((cell_of hb 1).trans rfl)
  have HH2 := hide ((held_more hh hbV).later (w' := V.drewN 1) ⟨rfl, rfl, rfl, Nat.le_refl _, fun _ _ => rfl⟩)
  have HKEYS := hide (held_keys hh)
  have stp : Stays KP w (V.drewN 1) := ⟨hbV.size, fun b hb hl => hbV.block b hl⟩
  have R1 := hide (r1.frame stp (fun _ h => h) (R' := fun _ _ => True) fun _ _ _ => trivial)
  have Q1 := hide (q1.frame stp (fun _ h => h) (R' := fun _ _ => True) fun _ _ _ => trivial)
  have F1 := hide f1.1
  have G1 := hide g1.1
  have HP2 : Hid (∀ b, KP b → PlainAt (V.drewN 1) ⟨b, 0, none⟩) := fun b hb => (hp b hb).block (hbV.block b (hkw b (hKP b hb)))
  have HK2 := hide hK2
  have HKPP := hide hKP
  have HKV := hide hkV
  have HN3 := hide hn3
  clear r1 q1 f1 g1 hh hp hKP hn3 kx ky ha hb hkw hkV hK2 hbV stp
  have HIN : Hid (∀ k, K k → (fun k => K k ∨ (w.heap.size ≤ k ∧ k < V.heap.size)) k) := fun k hk => Or.inl hk
  generalize (fun k => K k ∨ (w.heap.size ≤ k ∧ k < V.heap.size)) = K2 at ma0 ma1 mb0 mb1 HH2 HK2 HIN
  have hne0 : Nonempty (KeptW K2 V) := kept_nonempty _ V
  go_enter Try.func59, Try.ntmps59
  go_upto_region 1 with fail
  refine wp_region_cuts (S := fun w' => ∃ q : KeptW K2 V, w' = q.w) [13] (by kernel_rfl) (by kernel_rfl) (by kernel_rfl) ⟨⟨_, keeps_drew _ V 1⟩, rfl⟩ ?_
  simp only [wpCuts, List.take_succ_cons, List.take_zero, List.drop_succ_cons, List.drop_zero]
  cases hq : (t.s.toList == u.s.toList)
  · have HRT : Hid (rootN t u = false) := by show rootN t u = false; unfold rootN eqS; rw [hq, Bool.false_and]
    repeat (first | go_big_quiet_skip | (go_big_quiet_want; go_big_quiet_op; go_big_quiet_on))
    refine wpQuiet_nil ?_
    go_wp2
    refine ⟨⟨⟨(V.drewN 1), (keeps_drew _ V 1)⟩, rfl⟩, ?_⟩
    repeat (first | go_big_quiet_skip | (go_big_quiet_want; go_big_quiet_op; go_big_quiet_on))
    refine wpQuiet_nil ?_
    go_wp2
    go_ret
    exact ⟨ret_bool HRT.out.symm, HKV.out.trans (keeps_drew K V 1), fun hx => (by rw [HRT.out] at hx; cases hx)⟩
  have HRT : Hid (rootN t u = decide (t.l.length = u.l.length)) := by show rootN t u = _; unfold rootN eqS; rw [hq, Bool.true_and]
  repeat (first | go_big_quiet_skip | (go_big_quiet_want; go_big_quiet_op; go_big_quiet_on))
  refine wpQuiet_nil ?_
  go_wp2_with fail
  refine (held_putAll_ty o1 p1 c1 d1 g t.l u.l (V.drewN 1) K2 _ _ HH2.out HK2.out R1.out Q1.out F1.out G1.out HP2.out HN3.out).mono ?_
  rintro e' w1 ⟨rfl, hm, hk⟩
  have HM1 := hide hm
  have HK1 := hide (Keeps.trans (keeps_drew K2 V 1) hk)
  clear hm hk
  go_wp2
  refine ⟨⟨⟨w1, HK1.out⟩, rfl⟩, ?_⟩
  repeat (first | go_big_quiet_skip | (go_big_quiet_want; go_big_quiet_op; go_big_quiet_on))
  refine wpQuiet_nil ?_
  go_wp2
  go_ret
  refine ⟨ret_bool HRT.out.symm, HKV.out.trans (HK1.out.mono HIN.out), fun _ => held_less HM1.out HIN.out fun i hi l hl => ?_⟩
  by_cases h3 : i = 3
  · subst h3
    rw [upd_at, List.mem_append] at hl
    rcases hl with hl | hl
    · exact HKEYS.out 3 (by omega) l hl
    · have hb := puts_blocks (ks 3) R1.out Q1.out l hl
      exact ⟨HKPP.out _ hb.1, HKPP.out _ hb.2⟩
  · rw [upd_other _ _ h3] at hl
    exact HKEYS.out i hi l hl
end Go.Proofs.Ytegcebeaelpjhaj
