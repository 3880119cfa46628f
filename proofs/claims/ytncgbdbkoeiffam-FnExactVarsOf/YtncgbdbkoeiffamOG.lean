/- What the loop of VarsOf holds. -/
import Derived.Test.YtncgbdbkoeiffamOE
import Derived.RangeFuncWrites
namespace Go.Proofs.Ytncgbdbkoeiffam.Vo
open Go.RowKit Go.Shelf
set_option linter.unusedVariables false

/-- Marks of loops over iterators that have ended. -/
def Mks (B : Nat) (W : World) : List Deferred → Prop
  | [] => True
  | d :: r => (∃ D, d = { target := .collected D, args := #[] } ∧ B ≤ D ∧ W.heap[D]? = some (.deferred (some [])) ∧ ∀ d' ∈ r, d' ≠ d) ∧ Mks B W r
theorem Mks.keep {B : Nat} {W W' : World} : ∀ {ds : List Deferred}, Mks B W ds → (∀ D, B ≤ D → W.heap[D]? = some (.deferred (some [])) → { target := .collected D, args := #[] } ∈ ds → W'.heap[D]? = W.heap[D]?) → Mks B W' ds
  | [], _, _ => trivial
  | d :: r, ⟨⟨D, e, hB, hD, hn⟩, h⟩, hk => ⟨⟨D, e, hB, (hk D hB hD (by rw [e]; simp)).trans hD, hn⟩, Mks.keep h fun D' h1 h2 h3 => hk D' h1 h2 (by simp [h3])⟩
theorem Mks.of {B : Nat} {W : World} : ∀ {ds : List Deferred}, Mks B W ds → ∀ d ∈ ds, ∃ D, d = { target := .collected D, args := #[] } ∧ B ≤ D ∧ W.heap[D]? = some (.deferred (some []))
  | [], _, d, hd => by simp at hd
  | d0 :: r, ⟨⟨D, e, hB, hD, hn⟩, h⟩, d, hd => by
    rcases List.mem_cons.1 hd with rfl | hd
    · exact ⟨D, e, hB, hD⟩
    · exact Mks.of h d hd
/-- A function that is left with such marks. -/
theorem leaves_marks {P : Program} {n : Nat} {fn : Func} {tmps : Array Value} {R : Ending → World → Prop} {B : Nat}
    (Q : World → Prop) (hQ : ∀ W D, Q W → B ≤ D → W.heap[D]? = some (.deferred (some [])) → Q (W.putObj D (.deferred none))) (hfin : ∀ W, Q W → LeavesIn Fence.wide n P fn tmps R [] .returning W) :
    ∀ (ds : List Deferred) (W : World), Mks B W ds → Q W → LeavesInM Fence.wide n P fn tmps R ds .returning W := by
  intro ds
  induction ds with
  | nil => exact fun W _ h => hfin W h
  | cons d r ih =>
    intro W hm hq
    obtain ⟨⟨D, e, hB, hD, hn⟩, h⟩ := hm
    refine ⟨by simp, .inl ⟨D, _, by rw [e], run_takeDeferred hD, ih _ (h.keep fun D' h1 h2 h3 => ?_) (hQ W D hq hB hD)⟩⟩
    have hne : D' ≠ D := fun e' => hn _ h3 (by rw [e, e'])
    simp [World.putObj, Ne.symm hne]
/-- The loop's state: places that are still to be seen, numbers that are told, places that were seen. -/
def StL (K : Nat → Prop) (w1 : World) (R : List Int) (b6 m4 m5 : Nat) (v3 : Value) (W : World) (S : List Ent) (nums : List Int) (ks : List Addr) (vl : Value) : Prop :=
  Below w1.heap.size w1 W ∧ W.heap[b6]? = some (.cells #[vl] 54 (0, 0)) ∧ ORow 53 w1.heap.size W vl (S.map fun e => ptrV e.a) ∧ ORow 3 w1.heap.size W v3 (nums.map intV) ∧ SetAt W m4 intV nums ∧ SetAt W m5 ptrV ks ∧
  (∀ e ∈ S, T K w1 e) ∧ Seen K w1 nums S ks ∧ runE S.reverse nums = R ∧ nums.length + (S.map Ent.n).sum ≤ 1048577
/-- How many parts are left, off the world. -/
def Wt (K : Nat → Prop) (w1 : World) (b6 : Nat) (W : World) (n : Nat) : Prop := ∃ (S : List Ent) (vl : Value), W.heap[b6]? = some (.cells #[vl] 54 (0, 0)) ∧ ORow 53 w1.heap.size W vl (S.map fun e => ptrV e.a) ∧ (∀ e ∈ S, T K w1 e) ∧ n = (S.map Ent.n).sum
theorem ents_one {K : Nat → Prop} {w1 : World} : ∀ (S S' : List Ent), (∀ e ∈ S, T K w1 e) → (∀ e ∈ S', T K w1 e) → (S.map fun e => ptrV e.a) = (S'.map fun e => ptrV e.a) → S = S'
  | [], [], _, _, _ => rfl
  | [], _ :: _, _, _, h => by simp at h
  | _ :: _, [], _, _, h => by simp at h
  | e :: r, e' :: r', h1, h2, h => by
    simp only [List.map_cons, List.cons.injEq, ptrV, Value.pointer.injEq, Option.some.injEq] at h
    rw [(h1 e (by simp)).one (h2 e' (by simp)) h.1, ents_one r r' (fun d hd => h1 d (by simp [hd])) (fun d hd => h2 d (by simp [hd])) h.2]
theorem row_one {E : TypeId} {B : Nat} {W : World} {v : Value} {xs ys : List Value} (h : ORow E B W v xs) (h' : ORow E B W v ys) : xs = ys := by
  obtain ⟨l1, h⟩ := h
  obtain ⟨l2, h'⟩ := h'
  rcases h with ⟨rfl, h0⟩ | ⟨g, cap, cur, rfl, -, hg, -, -, -, ht⟩
  · rcases h' with ⟨-, h0'⟩ | ⟨g, cap, cur, e, -⟩
    · rw [List.eq_nil_of_length_eq_zero h0, List.eq_nil_of_length_eq_zero h0']
    · simp at e
  · rcases h' with ⟨e, -⟩ | ⟨g', cap', cur', e, -, hg', -, -, -, ht'⟩
    · simp at e
    · simp only [Value.slice.injEq, Option.some.injEq, Addr.mk.injEq, and_true] at e
      obtain ⟨rfl, el, -⟩ := e
      rw [hg] at hg'
      simp only [Option.some.injEq, Obj.cells.injEq, and_true] at hg'
      subst hg'
      rw [← ht, ← ht', el]
theorem wt_one {K : Nat → Prop} {w1 : World} {b6 : Nat} {W : World} {n m : Nat} (h : Wt K w1 b6 W n) (h' : Wt K w1 b6 W m) : n = m := by
  obtain ⟨S, vl, a1, a2, a3, a4⟩ := h
  obtain ⟨S', vl', c1, c2, c3, c4⟩ := h'
  rw [a1] at c1
  simp only [Option.some.injEq, Obj.cells.injEq, and_true, Array.mk.injEq, List.cons.injEq] at c1
  subst c1
  rw [a4, c4, ents_one S S' a3 c3 (row_one a2 c2)]
theorem StL.wt {K : Nat → Prop} {w1 : World} {R : List Int} {b6 m4 m5 : Nat} {v3 : Value} {W : World} {S : List Ent} {nums : List Int} {ks : List Addr} {vl : Value} (h : StL K w1 R b6 m4 m5 v3 W S nums ks vl) : Wt K w1 b6 W (S.map Ent.n).sum := ⟨S, vl, h.2.1, h.2.2.1, h.2.2.2.2.2.2.1, rfl⟩
theorem wt_eps {K : Nat → Prop} {w1 : World} {b6 : Nat} {W : World} {n : Nat} (h : Wt K w1 b6 W n) : Classical.epsilon (fun n => Wt K w1 b6 W n) = n := wt_one (Classical.epsilon_spec ⟨n, h⟩) h
end Go.Proofs.Ytncgbdbkoeiffam.Vo
