/- A range over a function within a round of another: as loop_of (CU): one block is laid, no mark. -/
import Derived.Test.YtifambhfggodaaaCU
namespace Go.Proofs.Ytifambhfggodaaa.It
open Go.RowKit Go.Shelf
set_option linter.unusedVariables false

def leftIn {α : Type} (B : Nat) (I : List α → (Nat → Prop) → World → Prop) (Ix : Code → List α → World → Prop) (Pr : Nat → Prop) (xs : List α) (W : World) : Exit → Act → World → Prop
  | .normal, _, W' => W'.heap[B]? = W.heap[B]? ∧ I xs Pr W' ∧ KeptP Pr W W'
  | .ret, _, W' => W'.heap[B]? = W.heap[B]? ∧ Ix .ret xs W'
  | .exit id, _, W' => W'.heap[B]? = W.heap[B]? ∧ Ix (.exit id) xs W'
  | .goto t, _, W' => W'.heap[B]? = W.heap[B]? ∧ Ix (.goto t) xs W'
  | .panic _, _, _ => False
  | .outgrown, _, _ => False

theorem loop_in {α : Type} {P : Program} {n : Nat} {g : Operand} {ps : Array Tmp} {assign body : Code} {Q : Exit → Act → World → Prop} {a : Act} {w : World} {l₀ : Nat} {r₀ : Loop} (hl0 : w.heap[l₀]? = some (.loop r₀))
    {gf : Nat} {lb : Array Value} (hg : a.eval g = .func (.func gf) #[] lb) (eg : ∀ args w, (callFunc gf args).run P w = .ok (.enter gf args) w)
    {encs : α → Array Value} {K : Nat → Prop} {ok : List α → α → Prop} {S : List α → Prop} {w0 : World} (hseq : SeqOf P gf lb encs K ok S w0) (hb0 : Below w0.heap.size w0 w) (hps : ∀ x, (encs x).size = ps.size)
    (hK0 : ∀ k, K k → k < w.heap.size)
    (I : List α → (Nat → Prop) → World → Prop) (Ix : Code → List α → World → Prop) (hI : Stab (w.heap.size + 1) I) (hH : ∀ s Pr A B, But w.heap.size A B → I s Pr A → I s Pr B) (hHx : ∀ c s A B, But w.heap.size A B → Ix c s A → Ix c s B)
    (h0 : ∀ W, Below w.heap.size w W → W.heap.size = w.heap.size + 1 → I [] K W) (a₁ : α → Act)
    (hassign : ∀ (x : α) (W : World) (Kn : Act → World → Prop), Kn (a₁ x) W →
      assign.wpIn (Fence.wide.inRound w.heap.size) (n - 1 - 1) P (Exit.then Kn (fun _ _ _ => False)) { tmps := (ps.zip (encs x)).foldl (fun t (p, v) => t.setIfInBounds p v) a.tmps, defers := [] } W)
    (hbody : ∀ (pre : List α) (x : α) (Pr : Nat → Prop) (W : World), I pre Pr W → ok pre x → w.heap.size + 1 ≤ W.heap.size → (∀ k, Pr k → k < W.heap.size) → (∃ r, W.heap[w.heap.size]? = some (.loop r)) → ¬ Pr w.heap.size → body.wpIn (Fence.wide.inRound w.heap.size) (n - 1 - 1) P (leftIn w.heap.size I Ix Pr (pre ++ [x]) W) (a₁ x) W)
    (hdone : ∀ (xs : List α) (W : World), S xs → I xs K W → Q .normal a W)
    (hstop : ∀ (c : Code) (pre : List α) (W : World), Ix c pre W → c.wpIn (Fence.wide.inRound l₀) n P Q a W) :
    (Code.rangeFunc g ps assign body).wpIn (Fence.wide.inRound l₀) n P Q a w := by
  refine wpIn_rangeFunc fun fn hfn => ?_
  obtain ⟨R, hR⟩ : ∃ R : LoopState → Option Code → Loop, R = fun st pe => { state := st, pending := pe, fn, tmps := a.tmps, params := ps, assign, body, defers := r₀.defers } := ⟨_, rfl⟩
  obtain ⟨V, hV⟩ : ∃ V, w.alloc (.loop (R .ready none)) = V := ⟨_, rfl⟩
  have hVb : Below w.heap.size w V := by rw [← hV]; exact (Below.refl _ w).alloc (Nat.le_refl _) _
  have hVs : V.heap.size = w.heap.size + 1 := by rw [← hV]; simp
  have hVl : V.heap[w.heap.size]? = some (.loop (R .ready none)) := by rw [← hV]; exact World.alloc_heap_new w _
  refine ⟨w.heap.size, [], V, { target := .fn (.func gf) lb, args := #[.func (.yield w.heap.size) #[] #[]] }, V, gf, #[.func (.yield w.heap.size) #[] #[]] ++ lb, V, ?_, ?_, fun f' hf' => trivial, ?_, (fun h => by cases h), ?_⟩
  · rw [← hV, hR]
    exact run_enterLoop_inner hl0 _ _ _ _ _
  · simp only [resolve, hg]
    simp [go_sem]
  · simp [invoke, go_sem, eg]
  refine (hseq (n - 1) w.heap.size
    (fun s Pr W => I s Pr W ∧ W.heap[w.heap.size]? = some (.loop (R .ready none)) ∧ ¬ Pr w.heap.size)
    (fun s W => ∃ c, Ix c s W ∧ W.heap[w.heap.size]? = some (.loop (R .done (some c))))
    V (hb0.trans (hVb.mono hb0.size)) ?_ ?_ ⟨h0 V hVb hVs, hVl, fun h => absurd (hK0 _ h) (by omega)⟩).mono ?_
  · rintro s Pr Pr' A B hc hN hp ⟨hi, hl, n1⟩
    rw [hVs] at hc hN
    refine ⟨hI s Pr Pr' A B hc hN hp hi, (hc.below.block _ (by omega)).trans hl, fun h => ?_⟩
    rcases hp _ h with h | h
    · exact n1 h
    · omega
  · rintro m pre x Pr W ⟨hi, hl, n1⟩ hok hN hPl
    rw [hVs] at hN
    have hy := run_yield (P := P) (args := encs x) hl (by rw [hR]; exact hps x)
    rw [hR] at hy
    obtain ⟨U, hU⟩ : ∃ U, W.putObj w.heap.size (.loop { R .ready none with state := .busy }) = U := ⟨_, rfl⟩
    have hbu : But w.heap.size W U := by rw [← hU]; exact But.put _ _ _
    have hUl : U.heap[w.heap.size]? = some (.loop { R .ready none with state := .busy }) := by rw [← hU]; exact World.putObj_heap_same (by omega)
    have hany : ∀ {m m' : Nat} {f : FuncId} {tm : Array Value} {ac bo : Code} {Rr : Ending → World → Prop}, RoundIn Fence.wide m P w.heap.size f tm ac bo W Rr → RoundIn Fence.wide m' P w.heap.size f tm ac bo W Rr := fun h => ⟨h.1, fun c cs _ => h.2 c cs (room_wide _)⟩
    refine ⟨fn, _, assign, body, hy, hany (m := n - 1 - 1) (roundIn_of_wpIn hfn (hassign x W _ ⟨U, by rw [← hU]; exact run_beginRound hl (by rw [hR]), ?_⟩))⟩
    refine wpIn_mono (hbody pre x Pr U (hH _ _ _ _ hbu hi) hok (by rw [hbu.size]; exact hN) (by rw [hbu.size]; exact hPl) ⟨_, hUl⟩ n1) ?_
    have fin : ∀ (jump : Option Code) (Y : World), Y.heap[w.heap.size]? = U.heap[w.heap.size]? → ∃ Z, (Instr.endRound w.heap.size jump).run P Y = .ok (.bool jump.isNone) Z ∧ But w.heap.size Y Z ∧
        Z.heap[w.heap.size]? = some (.loop (R (if jump.isNone then .ready else .done) jump)) := by
      rintro jump Y hk2
      have hYl := hk2.trans hUl
      have hr := run_endRound (P := P) jump hYl
      have hsz : w.heap.size < Y.heap.size := (Array.getElem?_eq_some_iff.1 hYl).1
      rw [hR] at hr ⊢
      exact ⟨_, hr, But.put _ _ _, World.putObj_heap_same hsz⟩
    rintro e a3 Y hp
    cases e with
    | normal =>
      obtain ⟨hk, hi3, hkp⟩ := hp
      obtain ⟨Z, hr, hbz, hl3⟩ := fin none Y hk
      refine ⟨_, _, hr, .inl ⟨rfl, ⟨hH _ _ _ _ hbz hi3, hl3, n1⟩, ⟨?_, fun k hk hlk => ?_⟩⟩⟩
      · have h1 := hkp.1
        rw [hbu.size] at h1
        rw [hbz.size]
        exact h1
      · have hne : k ≠ w.heap.size := fun e => n1 (e ▸ hk)
        exact (hbz.block k hne).trans ((hkp.2 k hk (by rw [hbu.size]; exact hlk)).trans (hbu.block k hne))
    | ret =>
      obtain ⟨hk, hi3⟩ := hp
      obtain ⟨Z, hr, hbz, hl3⟩ := fin (some .ret) Y hk
      exact ⟨_, _, hr, .inr ⟨rfl, .ret, hHx _ _ _ _ hbz hi3, hl3⟩⟩
    | exit id =>
      obtain ⟨hk, hi3⟩ := hp
      obtain ⟨Z, hr, hbz, hl3⟩ := fin (some (.exit id)) Y hk
      exact ⟨_, _, hr, .inr ⟨rfl, .exit id, hHx _ _ _ _ hbz hi3, hl3⟩⟩
    | goto t =>
      obtain ⟨hk, hi3⟩ := hp
      obtain ⟨Z, hr, hbz, hl3⟩ := fin (some (.goto t)) Y hk
      exact ⟨_, _, hr, .inr ⟨rfl, .goto t, hHx _ _ _ _ hbz hi3, hl3⟩⟩
    | panic ch => exact hp.elim
    | outgrown => exact hp.elim
  · rintro e Y ⟨⟨v, rfl⟩, ⟨xs, hS, hi, hl, -⟩ | ⟨pre, c, hi, hl⟩⟩
    · have hr := run_endLoop (P := P) hl (by rw [hR]; simp)
      rw [hR] at hr
      exact ⟨none, _, hr, hdone xs _ hS (hH _ _ _ _ (But.put _ _ _) hi)⟩
    · have hr := run_endLoop (P := P) hl (by rw [hR]; simp)
      rw [hR] at hr
      exact ⟨some c, _, hr, hstop c pre _ (hHx _ _ _ _ (But.put _ _ _) hi)⟩
end Go.Proofs.Ytifambhfggodaaa.It
