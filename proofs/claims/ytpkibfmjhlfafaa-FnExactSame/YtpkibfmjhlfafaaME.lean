/- Pairs put one behind the other. -/
import Derived.Test.YtpkibfmjhlfafaaMC
namespace Go.Proofs.Ytpkibfmjhlfafaa
open Go.RowKit

/-- What is new of a row of pairs. -/
def adds (ks : List (Addr × Addr)) : List (Addr × Addr) → List (Addr × Addr)
  | [] => []
  | k :: r => newOf ks k ++ adds (ks ++ newOf ks k) r
theorem adds_snoc (ks p : List (Addr × Addr)) (k : Addr × Addr) : adds ks (p ++ [k]) = adds ks p ++ newOf (ks ++ adds ks p) k := by
  induction p generalizing ks with
  | nil => simp [adds]
  | cons x r ih => simp [adds, ih, List.append_assoc]
theorem newOf_len (ks : List (Addr × Addr)) (k : Addr × Addr) : (newOf ks k).length ≤ 1 := by
  unfold newOf
  split <;> simp
theorem adds_len (ks p : List (Addr × Addr)) : (adds ks p).length ≤ p.length := by
  induction p generalizing ks with
  | nil => simp [adds]
  | cons x r ih =>
    have h1 := newOf_len ks x
    have h2 := ih (ks ++ newOf ks x)
    simp only [adds, List.length_append, List.length_cons]
    omega
/-- The places of two rows. -/
def places (ba pa bb pb sz n : Nat) : List (Addr × Addr) := (List.range n).map fun i => (⟨ba, pa + i * sz, none⟩, ⟨bb, pb + i * sz, none⟩)
theorem places_succ (ba pa bb pb sz n : Nat) : places ba pa bb pb sz (n + 1) = places ba pa bb pb sz n ++ [(⟨ba, pa + n * sz, none⟩, ⟨bb, pb + n * sz, none⟩)] := by
  unfold places
  rw [List.range_succ, List.map_append]
  rfl
theorem places_len (ba pa bb pb sz n : Nat) : (places ba pa bb pb sz n).length = n := by
  unfold places
  simp
theorem PairsNow.refl {T : TypeId} {w : World} {K : Nat → Prop} {g o : Nat} {c : Array Value} {e : TypeId} {vl : Value} {mo : Option Nat} {ls ks : List (Addr × Addr)} (hg : w.heap[g]? = some (.cells c e (0, 0))) (hc0 : c[o]? = some vl) (hc1 : c[o + 1]? = some (.map mo)) (h : PairsMem T w K g vl mo ls ks) : PairsNow T w w K g o c e ls ks :=
  ⟨c, vl, mo, hg, hc0, hc1, fun _ _ _ => rfl, h, Keeps.refl _ _⟩
theorem PairsNow.later {T : TypeId} {w w1 w2 : World} {K : Nat → Prop} {g o : Nat} {c : Array Value} {e : TypeId} {ls ks : List (Addr × Addr)} (h : PairsNow T w w1 K g o c e ls ks) (hb : Below w1.heap.size w1 w2) : PairsNow T w w2 K g o c e ls ks := by
  obtain ⟨c', vl', mo', h1, h2, h3, h4, h5, h6⟩ := h
  exact ⟨c', vl', mo', (hb.block g h5.gw).trans h1, h2, h3, h4, h5.later hb, h6.trans (keeps_of hb h5.kw)⟩
theorem PairsNow.on {T : TypeId} {w w1 w2 : World} {K : Nat → Prop} {g o : Nat} {c c1 : Array Value} {e : TypeId} {ls2 ks2 : List (Addr × Addr)} (hc : ∀ j, j ≠ o → j ≠ o + 1 → c1[j]? = c[j]?) (hk : Keeps K w w1) (k : PairsNow T w1 w2 K g o c1 e ls2 ks2) : PairsNow T w w2 K g o c e ls2 ks2 := by
  obtain ⟨c', vl', mo', h1, h2, h3, h4, h5, h6⟩ := k
  exact ⟨c', vl', mo', h1, h2, h3, fun j a b => (h4 j a b).trans (hc j a b), h5, hk.trans h6⟩
end Go.Proofs.Ytpkibfmjhlfafaa
