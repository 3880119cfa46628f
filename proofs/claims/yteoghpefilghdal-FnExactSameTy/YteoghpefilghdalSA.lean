/- The program's SameTy: just if the two are one type. -/
import Derived.Test.YteoghpefilghdalHU
import Derived.Test.YteoghpefilghdalPQ
namespace Go.Proofs.Yteoghpefilghdal
open Go.ChangeShapes Go.WideShapes Go.ChangeAt Go.RowKit

theorem ty_in {K K' : Nat → Prop} {w : World} (hK : ∀ b, K b → b < w.heap.size → K' b) : ∀ h x cs, tyR K w h x cs → tyR K' w h x cs := by
  intro h
  induction h with
  | zero => exact fun _ _ h => h
  | succ h ih =>
    rintro x cs ⟨e0, e1, e2, o, c, e3, e4, e5, hm⟩
    refine ⟨e0, e1, e2, o, c, e3, e4, e5, fun hne => ?_⟩
    obtain ⟨b, off, e, hk, hl, hc⟩ := hm hne
    refine ⟨b, off, e, hK b hk hl, hl, fun i x hx => ?_⟩
    obtain ⟨cs, h1, h2, h3⟩ := hc i x hx
    exact ⟨cs, h1, h2, ih x cs h3⟩
theorem held_zero4 {w : World} {K : Nat → Prop} {e : TypeId} (hk : ∀ k, K k → k < w.heap.size) : HeldMem TT (w.alloc (.cells #[.slice none 0 0, .map none, .slice none 0 0, .map none, .slice none 0 0, .map none, .slice none 0 0, .map none] e)) K w.heap.size (fun _ => []) (fun _ => []) := by
  refine ⟨_, e, fun _ => .slice none 0 0, fun _ => none, heap_alloc_new w _, ⟨fun i hi => ?_, fun i hi => ?_, fun i hi => ?_, fun i j _ _ _ k hk => ?_⟩⟩
  · match i, hi with
    | 0, _ | 1, _ | 2, _ | 3, _ => rfl
  · match i, hi with
    | 0, _ | 1, _ | 2, _ | 3, _ => rfl
  · refine ⟨⟨rfl, .inl ⟨rfl, rfl⟩⟩, .inl ⟨rfl, rfl⟩, (fun h => by cases h), (fun h => by cases h), .inl rfl, fun h => ?_, (fun k h => by cases h), (fun k h => by cases h), fun k h => ?_, by simp, fun l hl => by cases hl⟩
    · have := hk _ h
      omega
    · have := hk k h
      simp
      omega
  · rcases hk with h | h <;> cases h
/-- One pair of types put to what is held. -/
theorem held_put_ty (x y : Addr) (g : Nat) (w : World) (K : Nat → Prop) (ls ks : Nat → List (Addr × Addr)) (h : HeldMem TT w K g ls ks) (kx : K x.block) (ky : K y.block) (px : PlainAt w x) (py : PlainAt w y) (hn : (ls 3).length ≤ 10000000) :
    Calls Try.prog 25 #[.pointer (some ⟨g, 6, none⟩), .pointer (some x), .pointer (some y)] w fun e' w' => e' = .returned (.tuple #[]) ∧ HeldMem TT w' K g (upd ls 3 (ls 3 ++ newOf (ks 3) (x, y))) (upd ks 3 (ks 3 ++ newOf (ks 3) (x, y))) ∧ Keeps K w w' := by
  obtain ⟨c, e, vl, mo, Kx, hg, hc0, hc1, hm, hK, hback⟩ := h.at 3 (by omega)
  refine (PT.put_any x y g 6 w c e Kx vl mo (ls 3) (ks 3) hg hc0 hc1 hm (hK _ kx) (hK _ ky) px py hn).mono ?_
  rintro e' w' ⟨rfl, hp⟩
  refine ⟨rfl, hback w' _ _ hp fun l hl => ?_⟩
  rw [List.mem_append] at hl
  rcases hl with hl | hl
  · obtain ⟨c2, e2, v, mo2, -, H⟩ := h
    exact ⟨((H.mem 3 (by omega)).keys l hl).1.1, ((H.mem 3 (by omega)).keys l hl).2.1⟩
  · unfold newOf at hl
    split at hl
    · cases hl
    · rw [List.mem_singleton.1 hl]
      exact ⟨kx, ky⟩

set_option maxHeartbeats 1000000 in
set_option maxRecDepth 100000 in
theorem implSameTy_any {w : World} {B h h' : Nat} {t u : Tr} {ca cb : List Value} (hB : B ≤ w.heap.size) (hpl : ∀ b, B ≤ b → b < w.heap.size → ∃ c e, w.heap[b]? = some (.cells c e (0, 0))) (ra : tyR (FromK B) w h t ca) (rb : tyR (FromK B) w h' u cb) (hn : ndh h t ≤ 3000000) :
    Calls Try.prog 13 #[.agg ca.toArray, .agg cb.toArray] w fun e w' => ∃ b, e = .returned (.bool b) ∧ (b = true ↔ t = u) ∧ Below w.heap.size w w' := by
  obtain ⟨o1, c1, rfl⟩ := ty_form ra
  obtain ⟨p1, d1, rfl⟩ := ty_form rb
  generalize hV : ((w.alloc (.cells #[.int .i64 t.k, .string t.s, .int .i64 t.n, .slice o1 t.l.length c1] 42)).alloc (.cells #[.int .i64 u.k, .string u.s, .int .i64 u.n, .slice p1 u.l.length d1] 42)) = V
  have hbV : Below w.heap.size w V := by rw [← hV]; exact ((Below.refl _ w).alloc (Nat.le_refl _) _).alloc (by simp) _
  have hsV : V.heap.size = w.heap.size + 2 := by rw [← hV]; simp
  have ha : V.heap[w.heap.size]? = some (.cells #[.int .i64 t.k, .string t.s, .int .i64 t.n, .slice o1 t.l.length c1] 42 (0, 0)) := by rw [← hV]; exact (Below.heap_alloc _ _ _ (by simp)).trans (heap_alloc_new w _)
  have hb : V.heap[w.heap.size + 1]? = some (.cells #[.int .i64 u.k, .string u.s, .int .i64 u.n, .slice p1 u.l.length d1] 42 (0, 0)) := by rw [← hV]; exact heap_alloc2_new w _ _
  have hbW : Below V.heap.size V (V.alloc (.cells #[.slice none 0 0, .map none, .slice none 0 0, .map none, .slice none 0 0, .map none, .slice none 0 0, .map none] 83)) := (Below.refl _ V).alloc (Nat.le_refl _) _
  have hKP : ∀ b, (B ≤ b ∧ b < w.heap.size + 2) → b < w.heap.size + 2 := fun b h => h.2
  have hzero : HeldMem TT (V.alloc (.cells #[.slice none 0 0, .map none, .slice none 0 0, .map none, .slice none 0 0, .map none, .slice none 0 0, .map none] 83)) (fun k => k < w.heap.size + 2) (w.heap.size + 2) (fun _ => []) (fun _ => []) := by
    have h9 := held_zero4 (w := V) (K := fun k => k < w.heap.size + 2) (e := 83) (fun k h => by rw [hsV]; exact h)
    rw [hsV] at h9
    exact h9
  have hp : ∀ b, (B ≤ b ∧ b < w.heap.size + 2) → PlainAt (V.alloc (.cells #[.slice none 0 0, .map none, .slice none 0 0, .map none, .slice none 0 0, .map none, .slice none 0 0, .map none] 83)) ⟨b, 0, none⟩ := by
    rintro b ⟨h1, h2⟩
    by_cases e1 : b < w.heap.size
    · obtain ⟨c, e, hc⟩ := hpl b h1 e1
      exact ⟨c, e, (hbW.block b (by omega)).trans ((hbV.block b e1).trans hc)⟩
    · by_cases e2 : b = w.heap.size
      · subst e2
        exact ⟨_, _, (hbW.block w.heap.size (by omega)).trans ha⟩
      · have e3 : b = w.heap.size + 1 := by omega
        subst e3
        exact ⟨_, _, (hbW.block (w.heap.size + 1) (by omega)).trans hb⟩
  have rin : ∀ b, FromK B b → b < w.heap.size → (B ≤ b ∧ b < w.heap.size + 2) := fun b h1 h2 => ⟨h1, by omega⟩
  have hbA : Below w.heap.size w (V.alloc (.cells #[.slice none 0 0, .map none, .slice none 0 0, .map none, .slice none 0 0, .map none, .slice none 0 0, .map none] 83)) := hbV.trans (hbW.mono (by omega))
  have at1 : AtH (V.alloc (.cells #[.slice none 0 0, .map none, .slice none 0 0, .map none, .slice none 0 0, .map none, .slice none 0 0, .map none] 83)) (fun b => B ≤ b ∧ b < w.heap.size + 2) 3 h ⟨w.heap.size, 0, none⟩ t := by
    refine ⟨rfl, ⟨hB, by simp⟩, _, rfl, fun j v hv => ?_, tyR_later hbA h _ _ (ty_in rin h _ _ ra)⟩
    have h9 := cell_of ((hbW.block w.heap.size (by omega)).trans ha) j
    simp only [Nat.zero_add]
    rw [h9, List.getElem?_toArray]
    exact hv
  have at2 : AtH (V.alloc (.cells #[.slice none 0 0, .map none, .slice none 0 0, .map none, .slice none 0 0, .map none, .slice none 0 0, .map none] 83)) (fun b => B ≤ b ∧ b < w.heap.size + 2) 3 h' ⟨w.heap.size + 1, 0, none⟩ u := by
    refine ⟨rfl, ⟨by show B ≤ w.heap.size + 1; omega, by simp⟩, _, rfl, fun j v hv => ?_, tyR_later hbA h' _ _ (ty_in rin h' _ _ rb)⟩
    have h9 := cell_of ((hbW.block (w.heap.size + 1) (by omega)).trans hb) j
    simp only [Nat.zero_add]
    rw [h9, List.getElem?_toArray]
    exact hv
  have hput := held_put_ty ⟨w.heap.size, 0, none⟩ ⟨w.heap.size + 1, 0, none⟩ (w.heap.size + 2) (V.alloc (.cells #[.slice none 0 0, .map none, .slice none 0 0, .map none, .slice none 0 0, .map none, .slice none 0 0, .map none] 83)) (fun k => k < w.heap.size + 2) (fun _ => []) (fun _ => []) hzero (by simp) (by simp) (hp w.heap.size ⟨hB, by omega⟩) (hp (w.heap.size + 1) ⟨by omega, by omega⟩) (by simp)
  have hnew : newOf [] ((⟨w.heap.size, 0, none⟩ : Addr), (⟨w.heap.size + 1, 0, none⟩ : Addr)) = [(⟨w.heap.size, 0, none⟩, ⟨w.heap.size + 1, 0, none⟩)] := newOf_put (by simp [hasK])
  simp only [hnew, List.nil_append] at hput
  have HPUT := hide hput
  have HKP := hide hKP
  have HP := hide hp
  have HA := hide (And.intro at1 at2)
  have HBA := hide hbA
  clear hput hKP hp at1 at2 hbA hzero hnew hbW hbV ha hb rin ra rb hpl
  go_enter Try.func13, Try.ntmps13
  go_wp2_with fail
  refine HPUT.out.mono ?_
  rintro e w1 ⟨rfl, hm, hk⟩
  have HM := hide hm
  have HK := hide hk
  clear hm hk
  have HG : Hid (Good (V.alloc (.cells #[.slice none 0 0, .map none, .slice none 0 0, .map none, .slice none 0 0, .map none, .slice none 0 0, .map none] 83)) (fun b => B ≤ b ∧ b < w.heap.size + 2) (t = u) (upd (fun _ => []) 3 [((⟨w.heap.size, 0, none⟩ : Addr), (⟨w.heap.size + 1, 0, none⟩ : Addr))]) (upd (fun _ => []) 3 [((⟨w.heap.size, 0, none⟩ : Addr), (⟨w.heap.size + 1, 0, none⟩ : Addr))]) (ndh h t)) := by
    refine ⟨⟨0, 0, 0, ndh h t, trivial, trivial, trivial, ⟨h, t, h', u, 0, HA.out.1, HA.out.2, id, by omega, trivial⟩, by omega⟩, fun i hi p hpi => .inl hpi⟩
  go_wp2_with fail
  refine (areSame_any (W := V.alloc (.cells #[.slice none 0 0, .map none, .slice none 0 0, .map none, .slice none 0 0, .map none, .slice none 0 0, .map none] 83)) (K := fun k => k < w.heap.size + 2) (KP := fun b => B ≤ b ∧ b < w.heap.size + 2) (F := t = u) (g := w.heap.size + 2) HKP.out HP.out w1 _ _ (ndh h t) HK.out HM.out HG.out hn).mono ?_
  rintro e w2 ⟨b, rfl, hk2, hf, ht⟩
  have HK2 := hide hk2
  have HF := hide hf
  have HT := hide ht
  clear hk2 hf ht
  go_wp2
  go_ret
  refine ⟨b, rfl, ⟨fun hb => ?_, fun he => ?_⟩, ?_⟩
  · obtain ⟨ks', hin, hd⟩ := HT.out hb
    exact all_same (W := V.alloc (.cells #[.slice none 0 0, .map none, .slice none 0 0, .map none, .slice none 0 0, .map none, .slice none 0 0, .map none] 83)) (K := fun b => B ≤ b ∧ b < w.heap.size + 2) hd _ 3 (by omega) ((⟨w.heap.size, 0, none⟩ : Addr), (⟨w.heap.size + 1, 0, none⟩ : Addr)) (hin 3 (by omega) _ (List.mem_singleton.2 rfl)) h h' t u (Nat.le_refl _) HA.out.1 HA.out.2
  · cases b with
    | true => rfl
    | false => exact absurd he (HF.out rfl)
  · have h1 := HBA.out
    have h2 := HK2.out
    exact h1.trans ⟨h2.os, h2.tape, h2.output, h2.size, fun k hk => h2.block k (by show k < w.heap.size + 2; omega)⟩
end Go.Proofs.Yteoghpefilghdal
