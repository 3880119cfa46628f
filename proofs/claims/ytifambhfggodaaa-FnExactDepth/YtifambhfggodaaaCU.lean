/- A range over a function whose iterator owns memory of its own: what the iterator asks to be kept grows as it goes, what the body owns is none of it; the law on such a loop. -/
import Derived.RangeFuncNested
import Derived.RangeFuncBound
import Derived.RangeFuncCalls
import Derived.RangeFuncLeaves
import Derived.Shelf.Abstract
import Derived.Shelf.RegionOpen
import Derived.WalkKit
import Derived.OwnWalkIn
import Derived.TacticsInMore
import Derived.LoopNIn
import Derived.LoopIn
import Derived.Test.YtifambhfggodaaaLA
namespace Go.Proofs.Ytifambhfggodaaa.It
open Go.RowKit Go.Shelf
set_option linter.unusedVariables false

/-- What an iterator does between two rounds: it changes nothing below N, and nothing but what is its own. -/
structure Chg (N : Nat) (Pr : Nat → Prop) (A B : World) : Prop where
  below : Below N A B
  rest : ∀ k, k < A.heap.size → ¬ Pr k → B.heap[k]? = A.heap[k]?
theorem Chg.of {N : Nat} {Pr : Nat → Prop} {A B : World} (h : Below A.heap.size A B) (hN : N ≤ A.heap.size) : Chg N Pr A B := ⟨h.mono hN, fun k hk _ => h.block k hk⟩
theorem Chg.refl (N : Nat) (Pr : Nat → Prop) (A : World) : Chg N Pr A A := ⟨Below.refl _ _, fun _ _ _ => rfl⟩
/-- What a round keeps of what is the iterator's own. -/
def KeptP (Pr : Nat → Prop) (A B : World) : Prop := A.heap.size ≤ B.heap.size ∧ ∀ k, Pr k → k < A.heap.size → B.heap[k]? = A.heap[k]?
theorem KeptP.refl (Pr : Nat → Prop) (A : World) : KeptP Pr A A := ⟨Nat.le_refl _, fun _ _ _ => rfl⟩
theorem KeptP.trans {Pr : Nat → Prop} {A B C : World} (h : KeptP Pr A B) (k : KeptP Pr B C) : KeptP Pr A C := ⟨Nat.le_trans h.1 k.1, fun i hi hl => (k.2 i hi (Nat.lt_of_lt_of_le hl h.1)).trans (h.2 i hi hl)⟩
theorem KeptP.less {Pr Pr' : Nat → Prop} {A B : World} (h : KeptP Pr A B) (hk : ∀ k, Pr' k → Pr k) : KeptP Pr' A B := ⟨h.1, fun i hi hl => h.2 i (hk i hi) hl⟩
theorem KeptP.of {Pr : Nat → Prop} {A B : World} (h : Below A.heap.size A B) : KeptP Pr A B := ⟨h.size, fun k _ hl => h.block k hl⟩
def Stab {α : Type} (N : Nat) (J : List α → (Nat → Prop) → World → Prop) : Prop :=
  ∀ (s : List α) (Pr Pr' : Nat → Prop) (A B : World), Chg N Pr A B → N ≤ A.heap.size → (∀ k, Pr' k → Pr k ∨ A.heap.size ≤ k) → J s Pr A → J s Pr' B

/-- An iterator's word. -/
def SeqOf {α : Type} (P : Program) (g : Nat) (lb : Array Value) (encs : α → Array Value) (K : Nat → Prop) (ok : List α → α → Prop) (S : List α → Prop) (w : World) : Prop :=
  ∀ (n l : Nat) (J : List α → (Nat → Prop) → World → Prop) (Jx : List α → World → Prop) (W : World), Below w.heap.size w W → Stab W.heap.size J →
    (∀ m pre x Pr W1, J pre Pr W1 → ok pre x → W.heap.size ≤ W1.heap.size → (∀ k, Pr k → k < W1.heap.size) → YieldAt Fence.wide m P l (encs x) W1 fun e W' =>
      (e = .returned (.bool true) ∧ J (pre ++ [x]) Pr W' ∧ KeptP Pr W1 W') ∨ (e = .returned (.bool false) ∧ Jx (pre ++ [x]) W')) →
    J [] K W →
    CallsIn Fence.wide n P g (#[.func (.yield l) #[] #[]] ++ lb) W fun e W' => (∃ v, e = .returned v) ∧ ((∃ xs, S xs ∧ J xs K W') ∨ ∃ pre, Jx pre W')

/-- All but one block is as it was. -/
structure But (b : Nat) (A B : World) : Prop where
  os : B.os = A.os
  tape : B.tape = A.tape
  output : B.output = A.output
  size : B.heap.size = A.heap.size
  block : ∀ k, k ≠ b → B.heap[k]? = A.heap[k]?
theorem But.put (W : World) (b : Nat) (o : Obj) : But b W (W.putObj b o) := ⟨rfl, rfl, rfl, by simp [World.putObj], fun k hk => World.putObj_heap_other hk⟩

def leftAs {α : Type} (B : Nat) (I : List α → (Nat → Prop) → World → Prop) (Ix : Code → List α → World → Prop) (Pr : Nat → Prop) (xs : List α) (W : World) : Exit → Act → World → Prop
  | .normal, _, W' => (W'.heap[B]? = W.heap[B]? ∧ W'.heap[B + 1]? = W.heap[B + 1]?) ∧ I xs Pr W' ∧ KeptP Pr W W'
  | .ret, _, W' => (W'.heap[B]? = W.heap[B]? ∧ W'.heap[B + 1]? = W.heap[B + 1]?) ∧ Ix .ret xs W'
  | .exit id, _, W' => (W'.heap[B]? = W.heap[B]? ∧ W'.heap[B + 1]? = W.heap[B + 1]?) ∧ Ix (.exit id) xs W'
  | .goto t, _, W' => (W'.heap[B]? = W.heap[B]? ∧ W'.heap[B + 1]? = W.heap[B + 1]?) ∧ Ix (.goto t) xs W'
  | .panic _, _, _ => False
  | .outgrown, _, _ => False

theorem loop_of {α : Type} {P : Program} {n : Nat} {g : Operand} {ps : Array Tmp} {assign body : Code} {Q : Exit → Act → World → Prop} {a : Act} {w : World}
    {gf : Nat} {lb : Array Value} (hg : a.eval g = .func (.func gf) #[] lb) (eg : ∀ args w, (callFunc gf args).run P w = .ok (.enter gf args) w)
    {encs : α → Array Value} {K : Nat → Prop} {ok : List α → α → Prop} {S : List α → Prop} {w0 : World} (hseq : SeqOf P gf lb encs K ok S w0) (hb0 : Below w0.heap.size w0 w) (hps : ∀ x, (encs x).size = ps.size)
    (hK0 : ∀ k, K k → k < w.heap.size)
    (I : List α → (Nat → Prop) → World → Prop) (Ix : Code → List α → World → Prop) (hI : Stab (w.heap.size + 2) I) (hH : ∀ s Pr A B, But (w.heap.size + 1) A B → I s Pr A → I s Pr B) (hHx : ∀ c s A B, But (w.heap.size + 1) A B → Ix c s A → Ix c s B)
    (h0 : ∀ W, Below w.heap.size w W → W.heap.size = w.heap.size + 2 → I [] K W) (a₁ : α → Act)
    (hassign : ∀ (x : α) (W : World) (Kn : Act → World → Prop), Kn (a₁ x) W →
      assign.wpIn (Fence.wide.inRound (w.heap.size + 1)) (n - 1 - 1) P (Exit.then Kn (fun _ _ _ => False)) { tmps := (ps.zip (encs x)).foldl (fun t (p, v) => t.setIfInBounds p v) a.tmps, defers := [] } W)
    (hbody : ∀ (pre : List α) (x : α) (Pr : Nat → Prop) (W : World), I pre Pr W → ok pre x → w.heap.size + 2 ≤ W.heap.size → (∀ k, Pr k → k < W.heap.size) → (∃ r, W.heap[w.heap.size + 1]? = some (.loop r)) → W.heap[w.heap.size]? = some (.deferred (some [])) → ¬ Pr w.heap.size → ¬ Pr (w.heap.size + 1) → body.wpIn (Fence.wide.inRound (w.heap.size + 1)) (n - 1 - 1) P (leftAs w.heap.size I Ix Pr (pre ++ [x]) W) (a₁ x) W)
    (hdone : ∀ (xs : List α) (W : World), S xs → I xs K W → W.heap[w.heap.size]? = some (.deferred (some [])) → Q .normal { a with defers := { target := .collected w.heap.size, args := #[] } :: a.defers } W)
    (hstop : ∀ (c : Code) (pre : List α) (W : World), Ix c pre W → W.heap[w.heap.size]? = some (.deferred (some [])) → c.wpIn Fence.wide n P Q { a with defers := { target := .collected w.heap.size, args := #[] } :: a.defers } W) :
    (Code.rangeFunc g ps assign body).wpIn Fence.wide n P Q a w := by
  refine wpIn_rangeFunc fun fn hfn => ?_
  obtain ⟨R, hR⟩ : ∃ R : LoopState → Option Code → Loop, R = fun st pe => { state := st, pending := pe, fn, tmps := a.tmps, params := ps, assign, body, defers := w.heap.size } := ⟨_, rfl⟩
  obtain ⟨V, hV⟩ : ∃ V, (w.alloc (.deferred (some []))).alloc (.loop (R .ready none)) = V := ⟨_, rfl⟩
  have hVb : Below w.heap.size w V := by rw [← hV]; exact ((Below.refl _ w).alloc (Nat.le_refl _) _).alloc (by simp) _
  have hVs : V.heap.size = w.heap.size + 2 := by rw [← hV]; simp
  have hVl : V.heap[w.heap.size + 1]? = some (.loop (R .ready none)) := by
    have h9 := World.alloc_heap_new (w.alloc (.deferred (some []))) (.loop (R .ready none))
    rw [World.size_alloc, hV] at h9
    exact h9
  have hVd : V.heap[w.heap.size]? = some (.deferred (some [])) := by
    rw [← hV]
    exact (Below.heap_alloc _ _ _ (by simp)).trans (World.alloc_heap_new w _)
  refine ⟨w.heap.size + 1, [{ target := .collected w.heap.size, args := #[] }], V, { target := .fn (.func gf) lb, args := #[.func (.yield (w.heap.size + 1)) #[] #[]] }, V, gf, #[.func (.yield (w.heap.size + 1)) #[] #[]] ++ lb, V, ?_, ?_, fun f' hf' => trivial, ?_, (fun h => by cases h), ?_⟩
  · rw [← hV, hR]
    exact run_enterLoop_outer _ _ _ _ _
  · simp only [resolve, hg]
    simp [go_sem]
  · simp [invoke, go_sem, eg]
  refine (hseq (n - 1) (w.heap.size + 1)
    (fun s Pr W => I s Pr W ∧ (W.heap[w.heap.size + 1]? = some (.loop (R .ready none)) ∧ W.heap[w.heap.size]? = some (.deferred (some []))) ∧ ¬ Pr w.heap.size ∧ ¬ Pr (w.heap.size + 1))
    (fun s W => ∃ c, Ix c s W ∧ W.heap[w.heap.size + 1]? = some (.loop (R .done (some c))) ∧ W.heap[w.heap.size]? = some (.deferred (some [])))
    V (hb0.trans (hVb.mono hb0.size)) ?_ ?_ ⟨h0 V hVb hVs, ⟨hVl, hVd⟩, fun h => absurd (hK0 _ h) (by omega), fun h => absurd (hK0 _ h) (by omega)⟩).mono ?_
  · rintro s Pr Pr' A B hc hN hp ⟨hi, ⟨hl, hd⟩, n1, n2⟩
    rw [hVs] at hc hN
    refine ⟨hI s Pr Pr' A B hc hN hp hi, ⟨(hc.below.block _ (by omega)).trans hl, (hc.below.block _ (by omega)).trans hd⟩, fun h => ?_, fun h => ?_⟩
    · rcases hp _ h with h | h
      · exact n1 h
      · omega
    · rcases hp _ h with h | h
      · exact n2 h
      · omega
  · rintro m pre x Pr W ⟨hi, ⟨hl, hd⟩, n1, n2⟩ hok hN hPl
    rw [hVs] at hN
    have hy := run_yield (P := P) (args := encs x) hl (by rw [hR]; exact hps x)
    rw [hR] at hy
    obtain ⟨U, hU⟩ : ∃ U, W.putObj (w.heap.size + 1) (.loop { R .ready none with state := .busy }) = U := ⟨_, rfl⟩
    have hbu : But (w.heap.size + 1) W U := by rw [← hU]; exact But.put _ _ _
    have hUl : U.heap[w.heap.size + 1]? = some (.loop { R .ready none with state := .busy }) := by rw [← hU]; exact World.putObj_heap_same (by omega)
    have hUd : U.heap[w.heap.size]? = some (.deferred (some [])) := (hbu.block _ (by omega)).trans hd
    have hany : ∀ {m m' : Nat} {f : FuncId} {tm : Array Value} {ac bo : Code} {Rr : Ending → World → Prop}, RoundIn Fence.wide m P (w.heap.size + 1) f tm ac bo W Rr → RoundIn Fence.wide m' P (w.heap.size + 1) f tm ac bo W Rr := fun h => ⟨h.1, fun c cs _ => h.2 c cs (room_wide _)⟩
    refine ⟨fn, _, assign, body, hy, hany (m := n - 1 - 1) (roundIn_of_wpIn hfn (hassign x W _ ⟨U, by rw [← hU]; exact run_beginRound hl (by rw [hR]), ?_⟩))⟩
    refine wpIn_mono (hbody pre x Pr U (hH _ _ _ _ hbu hi) hok (by rw [hbu.size]; exact hN) (by rw [hbu.size]; exact hPl) ⟨_, hUl⟩ hUd n1 n2) ?_
    have fin : ∀ (jump : Option Code) (Y : World), (Y.heap[w.heap.size]? = U.heap[w.heap.size]? ∧ Y.heap[w.heap.size + 1]? = U.heap[w.heap.size + 1]?) → ∃ Z, (Instr.endRound (w.heap.size + 1) jump).run P Y = .ok (.bool jump.isNone) Z ∧ But (w.heap.size + 1) Y Z ∧
        Z.heap[w.heap.size + 1]? = some (.loop (R (if jump.isNone then .ready else .done) jump)) ∧ Z.heap[w.heap.size]? = some (.deferred (some [])) := by
      rintro jump Y ⟨hk1, hk2⟩
      have hYl := hk2.trans hUl
      have hr := run_endRound (P := P) jump hYl
      have hsz : w.heap.size + 1 < Y.heap.size := (Array.getElem?_eq_some_iff.1 hYl).1
      rw [hR] at hr ⊢
      exact ⟨_, hr, But.put _ _ _, World.putObj_heap_same hsz, (World.putObj_heap_other (by omega)).trans (hk1.trans hUd)⟩
    rintro e a3 Y hp
    cases e with
    | normal =>
      obtain ⟨hk, hi3, hkp⟩ := hp
      obtain ⟨Z, hr, hbz, hl3, hd3⟩ := fin none Y hk
      refine ⟨_, _, hr, .inl ⟨rfl, ⟨hH _ _ _ _ hbz hi3, ⟨hl3, hd3⟩, n1, n2⟩, ⟨?_, fun k hk hlk => ?_⟩⟩⟩
      · have h1 := hkp.1
        rw [hbu.size] at h1
        rw [hbz.size]
        exact h1
      · have hne : k ≠ w.heap.size + 1 := fun e => n2 (e ▸ hk)
        exact (hbz.block k hne).trans ((hkp.2 k hk (by rw [hbu.size]; exact hlk)).trans (hbu.block k hne))
    | ret =>
      obtain ⟨hk, hi3⟩ := hp
      obtain ⟨Z, hr, hbz, hl3, hd3⟩ := fin (some .ret) Y hk
      exact ⟨_, _, hr, .inr ⟨rfl, .ret, hHx _ _ _ _ hbz hi3, hl3, hd3⟩⟩
    | exit id =>
      obtain ⟨hk, hi3⟩ := hp
      obtain ⟨Z, hr, hbz, hl3, hd3⟩ := fin (some (.exit id)) Y hk
      exact ⟨_, _, hr, .inr ⟨rfl, .exit id, hHx _ _ _ _ hbz hi3, hl3, hd3⟩⟩
    | goto t =>
      obtain ⟨hk, hi3⟩ := hp
      obtain ⟨Z, hr, hbz, hl3, hd3⟩ := fin (some (.goto t)) Y hk
      exact ⟨_, _, hr, .inr ⟨rfl, .goto t, hHx _ _ _ _ hbz hi3, hl3, hd3⟩⟩
    | panic ch => exact hp.elim
    | outgrown => exact hp.elim
  · rintro e Y ⟨⟨v, rfl⟩, ⟨xs, hS, hi, ⟨hl, hd⟩, -, -⟩ | ⟨pre, c, hi, hl, hd⟩⟩
    · have hr := run_endLoop (P := P) hl (by rw [hR]; simp)
      rw [hR] at hr
      exact ⟨none, _, hr, hdone xs _ hS (hH _ _ _ _ (But.put _ _ _) hi) ((World.putObj_heap_other (by omega)).trans hd)⟩
    · have hr := run_endLoop (P := P) hl (by rw [hR]; simp)
      rw [hR] at hr
      exact ⟨some c, _, hr, hstop c pre _ (hHx _ _ _ _ (But.put _ _ _) hi) ((World.putObj_heap_other (by omega)).trans hd)⟩
end Go.Proofs.Ytifambhfggodaaa.It
