/- The program's netOfExp. -/
import Derived.Test.YtihjpkldefllgakGreatBN
namespace Go.Proofs.YtihjpkldefllgakGreat.Nm
open Go.ChangeShapes Go.WideShapes Go.ChangeAt Go.RowKit

/-- A net whose places bind just these names. -/
def NetOf (R : ByteArray → Prop) (w' : World) (n : Nat) : Prop := ∃ (K KP KS : Nat → Prop) (ks : List (Bool × Addr)) (L : Nat), Net KP KS w' n ks L ∧ (∀ k ∈ ks, ∃ h t, AtP w' K k h t) ∧ (∀ y, R y ↔ ∃ k ∈ ks, ∃ h t, AtP w' K k h t ∧ ownK k.1 t y) ∧ ks.length ≤ 5000000 ∧ (∀ k ∈ ks, ∀ h t, AtP w' K k h t → t.ss.length ≤ 5000000 ∧ t.al.length ≤ 5000000 ∧ (t.al.map fun a => a.ss.length).sum ≤ 5000000)
theorem AtP.stay {w w' : World} {K : Nat → Prop} {k : Bool × Addr} {h : Nat} {t : Tr} (hat : AtP w K k h t) (hst : Stays K w w') (hK : ∀ b, K b → b < w.heap.size) : AtP w' K k h t := by
  obtain ⟨h1, h2, cs, h3, h4, h5⟩ := hat
  refine ⟨h1, h2, cs, fun j u hu => (World.cell?_of_block (a := ⟨k.2.block, _, none⟩) (hst.block _ h2 (hK _ h2))).trans (h3 j u hu), h4, ?_⟩
  cases hk : k.1
  · rw [hk] at h5
    exact (reads_frame hst (fun _ h => h) h).2.1 _ _ h5
  · rw [hk] at h5
    exact (reads_frame hst (fun _ h => h) h).1 _ _ h5
theorem Spr.fin {w0 w' : World} {K : Nat → Prop} {R : ByteArray → Prop} {T L : Nat} {ks : List (Bool × Addr)} {k0 : Bool × Addr} {h0 : Nat} {t0 : Tr} (h : Spr w0 K R T ks ks.length L) (hk0 : k0 ∈ ks) (hat0 : AtP w0 K k0 h0 t0) (hR : ∀ y, R y ↔ bndK k0.1 h0 t0 y) (hst : Stays K w0 w') (hK : ∀ b, K b → b < w0.heap.size) :
    (∀ k ∈ ks, ∃ h t, AtP w' K k h t) ∧ (∀ y, R y ↔ ∃ k ∈ ks, ∃ h t, AtP w' K k h t ∧ ownK k.1 t y) := by
  have hall : ∀ k ∈ ks, Kids w0 K ks k := fun k hk => h.done k (by rw [List.take_length]; exact hk)
  refine ⟨fun k hk => ?_, fun y => ⟨fun hy => ?_, fun hy => ?_⟩⟩
  · obtain ⟨h1, t1, hat, -, -⟩ := h.snd k hk
    exact ⟨h1, t1, hat.stay hst hK⟩
  · obtain ⟨k', hk', h2, t2, hat2, hown⟩ := all_own hall h0 k0 hk0 h0 t0 hat0 y ((hR y).1 hy)
    exact ⟨k', hk', h2, t2, hat2.stay hst hK, hown⟩
  · obtain ⟨k', hk', h2, t2, hat2, hown⟩ := hy
    obtain ⟨h1, t1, hat, hs, -⟩ := h.snd k' hk'
    have e := at_fun (hat.stay hst hK) hat2
    subst e
    exact hs y (own_bnd hat hown)
end Go.Proofs.YtihjpkldefllgakGreat.Nm
