/- The program's listsUp: what it owns, and how that changes; slices.Clone of one list. -/
import Derived.Test.YtifambhfggodaaaZVF
namespace Go.Proofs.Ytifambhfggodaaa.Rs
open Go.ChangeShapes Go.WideShapes Go.ChangeAt Go.RowKit Go.Shelf Go.Proofs.Ytifambhfggodaaa.It Go.Proofs.Ytifambhfggodaaa.Vo
attribute [local go_sem] Oper.semAt_some
set_option linter.unusedVariables false

theorem least_any {α : Type} (G : Nat → α → Prop) : ∃ mu : α → Nat, ∀ w m, G m w → G (mu w) w ∧ mu w ≤ m := by
  have h : ∀ w, ∃ n, ∀ m, G m w → G n w ∧ n ≤ m := by
    intro w
    by_cases he : ∃ m, G m w
    · obtain ⟨m, hm⟩ := he
      induction m using Nat.strongRecOn with
      | ind m ih =>
        by_cases hl : ∃ k, k < m ∧ G k w
        · obtain ⟨k, hk, hg⟩ := hl
          exact ih k hk hg
        · refine ⟨m, fun k hk => ⟨hm, ?_⟩⟩
          rcases Nat.lt_or_ge k m with h1 | h1
          · exact absurd ⟨k, h1, hk⟩ hl
          · exact h1
    · exact ⟨0, fun m hm => absurd ⟨m, hm⟩ he⟩
  obtain ⟨f, hf⟩ := Classical.axiomOfChoice h
  exact ⟨f, fun w m hm => hf w m hm⟩

def PrU (K : Nat → Prop) (Bs mb : Nat) (v : Value) (k : Nat) : Prop := (K k ∨ k = Bs) ∨ k = mb ∨ k = mb + 1 ∨ v.ownBlock = some k
/-- What listsUp holds of the memory: the row of what is left, what has begun and what has ended. -/
structure UW (K : Nat → Prop) (Bs : Nat) (J : List Rl → (Nat → Prop) → World → Prop) (W : World) (v : Value) (lv : List Value) (ys : List Rl) (bs es : List Pk) (wr : World) : Prop where
  j : J ys (PrU K Bs W.heap.size v) wr
  row : RlRow W.heap.size wr v lv
  setb : SetAt wr W.heap.size kvP bs
  sete : SetAt wr (W.heap.size + 1) kvP es
  keep : KeptP (fun k => K k ∨ k = Bs) W wr
section
variable {K : Nat → Prop} {Bs : Nat} {J : List Rl → (Nat → Prop) → World → Prop} {W wr w1 : World} {v : Value} {lv : List Value} {ys : List Rl} {bs es : List Pk}
theorem UW.own (h : UW K Bs J W v lv ys bs es wr) {g : Nat} (hg : v.ownBlock = some g) : g < wr.heap.size ∧ W.heap.size + 1 < g := by
  obtain ⟨hN, cur, hc⟩ := ORow.own h.row hg
  refine ⟨heap_lt hc, ?_⟩
  have h1 : g ≠ W.heap.size := fun e => by
    obtain ⟨es, c5, hm5, -⟩ := h.setb
    rw [e, hm5] at hc
    cases hc
  have h2 : g ≠ W.heap.size + 1 := fun e => by
    obtain ⟨es, c5, hm5, -⟩ := h.sete
    rw [e, hm5] at hc
    cases hc
  omega
theorem UW.lt (h : UW K Bs J W v lv ys bs es wr) (hN : ∀ k, (K k ∨ k = Bs) → k < W.heap.size) : ∀ k, PrU K Bs W.heap.size v k → k < wr.heap.size := by
  intro k hk
  have h1 := h.sete.lt
  rcases hk with hk | hk | hk | hk
  · have := hN k hk
    omega
  · omega
  · omega
  · exact (h.own hk).1
theorem UW.below (hJ : Stab W.heap.size J) (h : UW K Bs J W v lv ys bs es wr) (hb : Below wr.heap.size wr w1) : UW K Bs J W v lv ys bs es w1 :=
  ⟨hJ _ _ _ _ _ (Chg.of hb h.keep.1) h.keep.1 (fun k hk => .inl hk) h.j, ORow.keep h.row fun g hg => hb.block g (h.own hg).1, h.setb.keep (hb.block _ h.setb.lt), h.sete.keep (hb.block _ h.sete.lt), h.keep.trans (KeptP.of hb)⟩
theorem UW.oth (hJ : Stab W.heap.size J) (hN : ∀ k, (K k ∨ k = Bs) → k < W.heap.size) (h : UW K Bs J W v lv ys bs es wr) {m : Nat} (hm : m = W.heap.size ∨ m = W.heap.size + 1) (ho : Oth m wr w1) {bs' es' : List Pk} (h1 : SetAt w1 W.heap.size kvP bs') (h2 : SetAt w1 (W.heap.size + 1) kvP es') : UW K Bs J W v lv ys bs' es' w1 := by
  have hk : ∀ k, k < wr.heap.size → k ≠ m → w1.heap[k]? = wr.heap[k]? := fun k h3 h4 => ho.block k ⟨h3, h4⟩
  have hNr := h.keep.1
  refine ⟨hJ _ _ _ _ _ ⟨⟨ho.os, ho.tape, ho.output, ho.size, fun k hkl => hk k (by omega) (by omega)⟩, fun k hkl hp => hk k hkl fun e => hp ?_⟩ hNr (fun k hk => .inl hk) h.j, ORow.keep h.row fun g hg => hk g (h.own hg).1 (by have := (h.own hg).2; omega), h1, h2, ⟨Nat.le_trans hNr ho.size, fun k hkk hkl => (hk k (by omega) (by omega)).trans (h.keep.2 k hkk hkl)⟩⟩
  unfold PrU
  rcases hm with hm | hm <;> simp [e, hm]
theorem UW.pop {v' : Value} {lv' : List Value} (h : UW K Bs J W v lv ys bs es wr) (hv : v'.ownBlock = v.ownBlock) (hr : RlRow W.heap.size wr v' lv') : UW K Bs J W v' lv' ys bs es wr :=
  ⟨by have := h.j; unfold PrU at this ⊢; rw [hv]; exact this, hr, h.setb, h.sete, h.keep⟩
theorem UW.grew (hJ : Stab W.heap.size J) (hN : ∀ k, (K k ∨ k = Bs) → k < W.heap.size) (h : UW K Bs J W v lv ys bs es wr) {v' : Value} {lv' : List Value} (hr : RlRow W.heap.size w1 v' lv') (hown : ∀ q, v'.ownBlock = some q → v.ownBlock = some q ∨ wr.heap.size ≤ q) (hg : Grew v.ownBlock wr w1) : UW K Bs J W v' lv' ys bs es w1 := by
  have hNr := h.keep.1
  have hk : ∀ k, k < wr.heap.size → v.ownBlock ≠ some k → w1.heap[k]? = wr.heap[k]? := hg.block
  have hno : ∀ k, k ≤ W.heap.size + 1 → v.ownBlock ≠ some k := fun k hk e => by have := (h.own e).2; omega
  refine ⟨hJ ys _ _ wr w1 ⟨⟨hg.os, hg.tape, hg.output, hg.size, fun k hkl => hk k (by omega) (hno k (by omega))⟩, fun k hkl hp => hk k hkl fun e => hp (.inr (.inr (.inr e)))⟩ hNr (fun k hk => ?_) h.j, hr, h.setb.keep (hk _ h.setb.lt (hno _ (by omega))), h.sete.keep (hk _ h.sete.lt (hno _ (by omega))), ⟨Nat.le_trans hNr hg.size, fun k hk1 hk2 => (hk k (by omega) (hno k (by omega))).trans (h.keep.2 k hk1 hk2)⟩⟩
  rcases hk with hk | hk | hk | hk
  · exact .inl (.inl hk)
  · exact .inl (.inr (.inl hk))
  · exact .inl (.inr (.inr (.inl hk)))
  · rcases hown k hk with h1 | h1
    · exact .inl (.inr (.inr (.inr h1)))
    · exact .inr h1
theorem UW.yielded {x : Rl} (hN : ∀ k, (K k ∨ k = Bs) → k < W.heap.size) (h : UW K Bs J W v lv ys bs es wr) (hj : J (ys ++ [x]) (PrU K Bs W.heap.size v) w1) (hk : KeptP (PrU K Bs W.heap.size v) wr w1) : UW K Bs J W v lv (ys ++ [x]) bs es w1 :=
  ⟨hj, ORow.keep h.row fun g hg => hk.2 g (.inr (.inr (.inr hg))) (h.own hg).1, h.setb.keep (hk.2 _ (.inr (.inl rfl)) h.setb.lt), h.sete.keep (hk.2 _ (.inr (.inr (.inl rfl))) h.sete.lt), h.keep.trans (hk.less fun k hk => .inl hk)⟩
end

set_option maxHeartbeats 1000000 in
set_option maxRecDepth 100000 in
theorem clone_one (w : World) (b c : Nat) (u : Value) (hu : w.cell? ⟨b, 0, none⟩ = some u) (h1 : u.oneCell' = true) :
    Calls Try.prog 16 #[.slice (some ⟨b, 0, none⟩) 1 c] w fun e w' => ∃ v, e = .returned v ∧ RlRow w.heap.size w' v [u] ∧ Below w.heap.size w w' := by
  have hbl : b < w.heap.size := by
    rcases Nat.lt_or_ge b w.heap.size with h | h
    · exact h
    · exfalso
      simp [World.cell?, Array.getElem?_eq_none h] at hu
  have hB1 : Below w.heap.size w (w.alloc (.cells #[] 36)) := (Below.refl _ w).alloc (Nat.le_refl _) _
  have hown0 : (w.alloc (.cells #[] 36)).ownsRow w.heap.size 36 1 (.slice (some ⟨w.heap.size, 0, none⟩) 0 0) 0 [] := owns_empty w 36 1
  obtain ⟨i0, hi0, hz0, hz1, hz2⟩ : ∃ i0, Try.prog.info? 36 = some i0 ∧ i0.zero = some (.slice none 0 0) ∧ i0.size = 1 ∧ i0.bytes = 24 := ⟨_, rfl, rfl, rfl, rfl⟩
  obtain ⟨v4, w4, hr4, hown4, hgr4, hbk4⟩ := Nm.app_run (P := Try.prog) Try.underlying46 hi0 hz0 hz1 hz2 rfl (by decide) (by decide) hown0 hB1.size (some ⟨b, 0, none⟩) 1 c [u] (by simp) (fun _ => ⟨b, 0, rfl, fun j y hj => by
    cases j with
    | zero =>
      simp at hj
      subst hj
      exact (hB1.cell (p := ⟨b, 0, none⟩) hbl).trans hu
    | succ j => simp at hj⟩) (fun y hy => by rw [List.mem_singleton.1 hy]; exact h1) (by omega) 46
  rw [Nat.zero_add, List.nil_append] at hown4
  obtain ⟨o4, c4, hv4⟩ := owns_form hown4
  subst hv4
  have HR4 := hide hr4
  have HF : Hid (∃ v, Ending.returned (.slice o4 1 c4) = .returned v ∧ RlRow w.heap.size w4 v [u] ∧ Below w.heap.size w w4) := ⟨_, rfl, hown4, hB1.trans (Nm.below_grown hgr4 hB1.size fun k hk => by cases hk; exact Nat.le_refl _)⟩
  have hnil : (binOp .eql 46 (.slice (some ⟨b, 0, none⟩) 1 c) (.slice none 0 0)).run Try.prog w = .ok (.bool false) w := by kernel_rfl
  clear hu hB1 hown0 hi0 hz0 hz1 hz2 hown4 hgr4 hbk4 hr4
  go_enter Try.func16, Try.ntmps16
  go_wp2_with (at_builtin; refine Lib.wpList_append_run _ rfl _ _ _ _ rfl _ _ rfl rfl _ _ HR4.out ?_)
  go_ret
  exact HF.out
end Go.Proofs.Ytifambhfggodaaa.Rs
