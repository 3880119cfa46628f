/- Made of ZXA, ZXB, ZXC, ZXD. -/
import Derived.Test.YtgeckgdmkjddpaaQ06
import Derived.Test.YtgeckgdmkjddpaaQ12
import Derived.Test.YtgeckgdmkjddpaaShelf
import Derived.Test.YtgeckgdmkjddpaaQ11
import Derived.Test.YtgeckgdmkjddpaaQ02
import Derived.Laws.CopyRow
namespace Go.Proofs.Ytgeckgdmkjddpaa.Cp
open Go.ChangeShapes Go.WideShapes Go.ChangeAt Go.RowKit Go.Proofs.Ytgeckgdmkjddpaa.Rd Go.Proofs.Ytgeckgdmkjddpaa.Br
set_option linter.unusedVariables false

/-- A row that is made: of which kind, its slice, and what it is to be. -/
structure Pd where
  i : Nat
  v : Value
  ts : List Tr
/-- A row is as it is to be, in these blocks. -/
def Was (w : World) (p : Pd) (bs : List Nat) : Prop := ∃ H, RowS w (sp w H p.i) (tyK p.i) (lenK p.i) p.v p.ts bs
/-- Once the rows P are as they are to be, G holds, in their blocks and D. -/
def Owe (w : World) (G : World → List Nat → Prop) (D : List Nat) (P : List Pd) : Prop :=
  ∀ w' (Q : List (Pd × List Nat)), Q.map (·.1) = P → (∀ b ∈ D, w'.heap[b]? = w.heap[b]?) → (∀ q ∈ Q, Was w' q.1 q.2) → ∃ bs, G w' bs ∧ bs.Perm (D ++ (Q.map (·.2)).flatten)

theorem perm_map {α β : Type} {f : α → β} {P P' : List β} (h : P.Perm P') : ∀ Q : List α, Q.map f = P' → ∃ Q' : List α, Q'.map f = P ∧ Q'.Perm Q := by
  induction h with
  | nil => intro Q hq; exact ⟨Q, hq, .refl _⟩
  | cons x _ ih =>
    intro Q hq
    cases Q with
    | nil => cases hq
    | cons q Q =>
      simp only [List.map_cons, List.cons.injEq] at hq
      obtain ⟨Q', h1, h2⟩ := ih Q hq.2
      exact ⟨q :: Q', by rw [List.map_cons, hq.1, h1], h2.cons q⟩
  | swap x y l =>
    intro Q hq
    match Q, hq with
    | a :: b :: Q, hq =>
      simp only [List.map_cons, List.cons.injEq] at hq
      exact ⟨b :: a :: Q, by simp [hq.1, hq.2.1, hq.2.2], .swap _ _ _⟩
  | trans _ _ i1 i2 =>
    intro Q hq
    obtain ⟨Q1, a1, a2⟩ := i2 Q hq
    obtain ⟨Q2, b1, b2⟩ := i1 Q1 a1
    exact ⟨Q2, b1, b2.trans a2⟩
theorem perm_flat {α : Type} {l r : List (List α)} (h : l.Perm r) : l.flatten.Perm r.flatten := h.flatten

section
variable {w w2 : World} {G G' : World → List Nat → Prop} {D D' : List Nat} {P P' : List Pd}
theorem Owe.keep (h : Owe w G D P) (hk : ∀ b ∈ D, w2.heap[b]? = w.heap[b]?) : Owe w2 G D P := fun w' Q hq hd hw => h w' Q hq (fun b hb => (hd b hb).trans (hk b hb)) hw
theorem Owe.perm (h : Owe w G D P) (hp : P.Perm P') (hd : D.Perm D') : Owe w G D' P' := fun w' Q hq hD hw => by
  obtain ⟨Q', a1, a2⟩ := perm_map hp Q hq
  obtain ⟨bs, b1, b2⟩ := h w' Q' a1 (fun b hb => hD b (hd.mem_iff.1 hb)) fun q hq => hw q (a2.mem_iff.1 hq)
  exact ⟨bs, b1, b2.trans (hd.append (perm_flat (a2.map _)))⟩
theorem Owe.start (p : Pd) : Owe w (fun w' bs => Was w' p bs) [] [p] := fun w' Q hq _ hw => by
  match Q, hq with
  | [q], hq =>
    simp only [List.map_cons, List.map_nil, List.cons.injEq, and_true] at hq
    exact ⟨q.2, by rw [← hq]; exact hw q (by simp), by simp⟩
theorem Owe.none (h : ∀ w', ∃ bs, G w' bs ∧ bs.Perm []) : Owe w G [] [] := fun w' Q hq _ _ => by
  have : Q = [] := List.map_eq_nil_iff.1 hq
  subst this
  exact h w'
theorem Owe.done (h : Owe w G D []) : ∃ bs, G w bs ∧ bs.Perm D := by
  obtain ⟨bs, h1, h2⟩ := h w [] rfl (fun _ _ => rfl) fun q hq => (by cases hq)
  exact ⟨bs, h1, by simpa using h2⟩
/-- One row is paid. -/
theorem Owe.step {p : Pd} {Dn : List Nat} {Pn : List Pd} (h : Owe w G D (p :: P)) (k : Owe w (fun w' bs => Was w' p bs) Dn Pn) : Owe w G (D ++ Dn) (Pn ++ P) := fun w' Q hq hd hw => by
  obtain ⟨Q1, Q2, rfl, e1, e2⟩ := List.map_eq_append_iff.1 hq
  obtain ⟨b1, x1, y1⟩ := k w' Q1 e1 (fun b hb => hd b (List.mem_append_right _ hb)) fun q hq => hw q (List.mem_append_left _ hq)
  obtain ⟨b2, x2, y2⟩ := h w' ((p, b1) :: Q2) (by rw [List.map_cons, e2]) (fun b hb => hd b (List.mem_append_left _ hb)) (fun q hq => by
    rcases List.mem_cons.1 hq with rfl | hq
    · exact x1
    · exact hw q (List.mem_append_right _ hq))
  refine ⟨b2, x2, y2.trans ?_⟩
  rw [List.map_cons, List.flatten_cons, List.map_append, List.flatten_append]
  have e1 : (D ++ (b1 ++ (Q2.map (·.2)).flatten)).Perm (D ++ ((Dn ++ (Q1.map (·.2)).flatten) ++ (Q2.map (·.2)).flatten)) := List.Perm.append_left D (List.Perm.append_right _ y1)
  refine e1.trans ?_
  simp only [List.append_assoc]
  exact .refl _
/-- Two goals at once. -/
theorem Owe.both {G2 G3 : World → List Nat → Prop} {D2 : List Nat} {P2 : List Pd} (h : Owe w G D P) (k : Owe w G2 D2 P2) (hg : ∀ w' a b, G w' a → G2 w' b → G3 w' (a ++ b)) : Owe w G3 (D ++ D2) (P ++ P2) := fun w' Q hq hd hw => by
  obtain ⟨Q1, Q2, rfl, e1, e2⟩ := List.map_eq_append_iff.1 hq
  obtain ⟨b1, x1, y1⟩ := h w' Q1 e1 (fun b hb => hd b (List.mem_append_left _ hb)) fun q hq => hw q (List.mem_append_left _ hq)
  obtain ⟨b2, x2, y2⟩ := k w' Q2 e2 (fun b hb => hd b (List.mem_append_right _ hb)) fun q hq => hw q (List.mem_append_right _ hq)
  refine ⟨b1 ++ b2, hg _ _ _ x1 x2, (y1.append y2).trans ?_⟩
  rw [List.map_append, List.flatten_append]
  have e : ∀ a b c d : List Nat, ((a ++ b) ++ (c ++ d)).Perm ((a ++ c) ++ (b ++ d)) := fun a b c d => by
    rw [List.append_assoc, List.append_assoc]
    refine List.Perm.append_left a ?_
    rw [← List.append_assoc, ← List.append_assoc]
    exact List.Perm.append_right d List.perm_append_comm
  exact e _ _ _ _
theorem Owe.mono (h : Owe w G D P) (hg : ∀ w' a, (∀ b ∈ D, w'.heap[b]? = w.heap[b]?) → G w' a → ∃ b, G' w' b ∧ b.Perm (D' ++ a)) : Owe w G' (D' ++ D) P := fun w' Q hq hd hw => by
  obtain ⟨bs, x1, y1⟩ := h w' Q hq (fun b hb => hd b (List.mem_append_right _ hb)) hw
  obtain ⟨b2, x2, y2⟩ := hg w' bs (fun b hb => hd b (List.mem_append_right _ hb)) x1
  refine ⟨b2, x2, y2.trans ?_⟩
  rw [List.append_assoc]
  exact List.Perm.append_left D' y1
end
end Go.Proofs.Ytgeckgdmkjddpaa.Cp
namespace Go.Proofs.Ytgeckgdmkjddpaa.Cp
open Go.ChangeShapes Go.WideShapes Go.ChangeAt Go.RowKit Go.Proofs.Ytgeckgdmkjddpaa.Rd Go.Proofs.Ytgeckgdmkjddpaa.Br
set_option linter.unusedVariables false

/-- These cells are this tree, in these blocks. -/
def Isc (i : Nat) (t : Tr) (cs : List Value) (w : World) (bs : List Nat) : Prop := ∃ H, sp w H i t cs bs
def Wsr (i : Nat) (v : Value) (ts : List Tr) (w : World) (bs : List Nat) : Prop := Was w ⟨i, v, ts⟩ bs
/-- What a list owes: nothing, if it is empty. -/
def one (i : Nat) (v : Value) (ts : List Tr) : List Pd := if ts.isEmpty then [] else [⟨i, v, ts⟩]
theorem was_up {w : World} {H H' i : Nat} {v : Value} {ts : List Tr} {bs : List Nat} (hh : H ≤ H') (h : RowS w (sp w H i) (tyK i) (lenK i) v ts bs) : RowS w (sp w H' i) (tyK i) (lenK i) v ts bs := h.frame (fun _ _ => rfl) fun _ _ _ _ k => sp_up hh k
section
variable {w : World}
theorem owe_row (i : Nat) (v : Value) (ts : List Tr) (hv : ts = [] → v = .slice none 0 0) : Owe w (Wsr i v ts) [] (one i v ts) := by
  unfold one
  by_cases h : ts = []
  · subst h
    rw [hv rfl]
    exact Owe.none fun w' => ⟨[], ⟨0, RowS.nil w' _ _ _⟩, .refl _⟩
  · rw [if_neg (by simpa using h)]
    exact Owe.start _
theorem owe_exp {k n : Int} {s : ByteArray} {l ds al : List Tr} {v1 v2 v3 : Value} {D1 D2 D3 : List Nat} {P1 P2 P3 : List Pd} (hs : s.size ≤ maxLen) (h1 : Owe w (Wsr 0 v1 l) D1 P1) (h2 : Owe w (Wsr 1 v2 ds) D2 P2) (h3 : Owe w (Wsr 2 v3 al) D3 P3) :
    Owe w (Isc 0 ⟨k, s, n, [], l, ds, al⟩ [.int .i64 k, .string s, .int .i64 n, v1, v2, v3]) (D1 ++ D2 ++ D3) (P1 ++ P2 ++ P3) := by
  refine (h1.both (G3 := fun w' bs => ∃ a b, bs = a ++ b ∧ Wsr 0 v1 l w' a ∧ Wsr 1 v2 ds w' b) h2 fun w' a b x y => ⟨a, b, rfl, x, y⟩).both h3 ?_
  rintro w' ab c ⟨a, b, rfl, ⟨H1, x1⟩, ⟨H2, x2⟩⟩ ⟨H3, x3⟩
  exact ⟨H1 + H2 + H3 + 1, rfl, hs, v1, v2, v3, a, b, c, rfl, rfl, was_up (i := 0) (by omega) x1, was_up (i := 1) (by omega) x2, was_up (i := 2) (by omega) x3⟩
theorem owe_alt {s : ByteArray} {ss : List ByteArray} {e : Tr} {v : Value} {ce : List Value} {D bs : List Nat} {P : List Pd} (hs : s.size ≤ maxLen) (hv : RowS w strS 9 1 v ss bs) (h : Owe w (Isc 0 e ce) D P) :
    Owe w (Isc 2 (tAlt s ss e) ([.string s, v] ++ ce)) (bs ++ D) P := by
  intro w' Q hq hd hw
  obtain ⟨b2, ⟨H, x2⟩, y2⟩ := h w' Q hq (fun b hb => hd b (List.mem_append_right _ hb)) hw
  refine ⟨bs ++ b2, ⟨H + 1, rfl, rfl, rfl, rfl, hs, e, v, ce, bs, b2, rfl, rfl, rfl, hv.frame (fun b hb => hd b (List.mem_append_left _ hb)) fun _ _ _ _ h => h, x2⟩, ?_⟩
  rw [List.append_assoc]
  exact List.Perm.append_left bs y2
theorem owe_dec {s : ByteArray} {e : Tr} {ce : List Value} {D : List Nat} {P : List Pd} (hs : s.size ≤ maxLen) (h : Owe w (Isc 0 e ce) D P) :
    Owe w (Isc 1 (tDec s [] e []) ([.string s, .slice none 0 0] ++ ce ++ [.slice none 0 0])) D P := by
  intro w' Q hq hd hw
  obtain ⟨b2, ⟨H, x2⟩, y2⟩ := h w' Q hq hd hw
  exact ⟨b2, ⟨H + 1, rfl, rfl, rfl, hs, e, _, ce, _, [], b2, [], rfl, rfl, by simp, RowS.nil w' _ _ _, x2, RowS.nil w' _ _ _⟩, y2⟩
/-- The elements of a row, so far. -/
def Isr (i : Nat) (ts : List Tr) (css : List (List Value)) (w : World) (bs : List Nat) : Prop := ∃ H bss, All3 (sp w H i) ts css bss ∧ bs = bss.flatten
theorem owe_rows0 (i : Nat) : Owe w (Isr i [] []) [] [] := Owe.none fun w' => ⟨[], ⟨0, [], trivial, rfl⟩, .refl _⟩
theorem owe_rows {i : Nat} {ts : List Tr} {css : List (List Value)} {t : Tr} {cs : List Value} {D D2 : List Nat} {P P2 : List Pd} (h : Owe w (Isr i ts css) D P) (h2 : Owe w (Isc i t cs) D2 P2) : Owe w (Isr i (ts ++ [t]) (css ++ [cs])) (D ++ D2) (P ++ P2) := by
  refine h.both h2 ?_
  rintro w' a b ⟨H, bss, x1, rfl⟩ ⟨H2, x2⟩
  exact ⟨H + H2, bss ++ [b], (x1.mono fun _ _ _ _ k => sp_up (by omega) k).snoc (sp_up (by omega) x2), by simp⟩
theorem owe_close {i g : Nat} {ts : List Tr} {css : List (List Value)} {D : List Nat} {P : List Pd} (h : Owe w (Isr i ts css) D P) (hg : w.heap[g]? = some (.cells css.flatten.toArray (tyK i) (0, 0))) (hn : ts.length ≤ 4000000) : Owe w (Wsr i (.slice (some ⟨g, 0, none⟩) ts.length ts.length) ts) (g :: D) P := by
  intro w' Q hq hd hw
  obtain ⟨bs, ⟨H, bss, x1, rfl⟩, y1⟩ := h w' Q hq (fun b hb => hd b (List.mem_cons_of_mem _ hb)) hw
  have hl : ∀ c ∈ css, c.length = lenK i := fun c hc => by
    obtain ⟨j, hj⟩ := List.mem_iff_getElem?.1 hc
    have hlt : j < ts.length := by
      have := (List.getElem?_eq_some_iff.1 hj).1
      rw [x1.len.1] at this
      exact this
    obtain ⟨b, c2, e1, e2, e3⟩ := x1.get j _ (List.getElem?_eq_getElem hlt)
    rw [hj] at e1
    cases e1
    exact (sp_one e3).1
  have hr := Row.lit (w := w') (E := tyK i) (sz := lenK i) (g := g) css hl ((hd g (List.mem_cons_self ..)).trans hg) (by rw [x1.len.1]; exact hn)
  rw [x1.len.1] at hr
  exact ⟨g :: bss.flatten, ⟨H, hn, css, bss, hr, x1, rfl⟩, y1.cons g⟩
/-- A row of one, in a block of its own. -/
theorem owe_wrap {g : Nat} {t : Tr} {cs : List Value} {D : List Nat} {P : List Pd} (h : Owe w (Isc 0 t cs) D P) (hg : w.heap[g]? = some (.cells cs.toArray 32 (0, 0))) : Owe w (Wsr 0 (.slice (some ⟨g, 0, none⟩) 1 1) [t]) (g :: D) P := by
  have h1 := owe_rows (owe_rows0 (w := w) 0) h
  exact owe_close (i := 0) (g := g) h1 (by rw [show ([] ++ [cs] : List (List Value)).flatten = cs by simp]; exact hg) (by simp)
end
end Go.Proofs.Ytgeckgdmkjddpaa.Cp
namespace Go.Proofs.Ytgeckgdmkjddpaa.Cp
open Go.ChangeShapes Go.WideShapes Go.ChangeAt Go.RowKit Go.Proofs.Ytgeckgdmkjddpaa.Vo Go.Proofs.Ytgeckgdmkjddpaa.Rd
open Go.ChangeMaps (setBlock heap_setBlock_same heap_setBlock_other)
set_option linter.unusedVariables false

/-- A cell that is set to what stands there. -/
theorem set_self {w : World} {g j : Nat} {cur : Array Value} {e : TypeId} {fz : Nat × Nat} {v : Value} (h : w.heap[g]? = some (.cells cur e fz)) (hv : cur[j]? = some v) : w.setCell ⟨g, j, none⟩ v = w := by
  have h1 : (w.setCell ⟨g, j, none⟩ v).heap = w.heap := by
    apply Array.ext_getElem?
    intro k
    by_cases hk : k = g
    · subst hk
      rw [heap_set_same v h, h]
      congr 2
      apply Array.ext_getElem?
      intro i
      rw [Array.set!_eq_setIfInBounds, Array.getElem?_setIfInBounds]
      split
      · rename_i e
        subst e
        split
        · exact hv.symm
        · rename_i h9
          rw [Array.getElem?_eq_none (by omega)] at hv
          cases hv
      · rfl
    · exact heap_set_other v hk
  show ({ w with heap := (w.setCell ⟨g, j, none⟩ v).heap } : World) = w
  rw [h1]
theorem clone_any (s : ByteArray) (w : World) (hs : s.size ≤ 1048576) :
    Calls Try.prog 78 #[.string s] w fun e w' => e = .returned (.string s) ∧ Below w.heap.size w w' := by
  go_enter Try.func78, Try.ntmps78
  go_wp2_with fail
  refine (Try.stringslite_Clone _ _ (by omega)).mono ?_
  rintro e w1 ⟨rfl, hb⟩
  have HB := hide hb
  clear hb
  go_wp2
  go_ret
  exact ⟨rfl, HB.out⟩
def txV (s : ByteArray) : Value := .agg #[.string s]
def kvS (s : ByteArray) : Value := .string s
/-- A map of texts, each to itself. -/
def Txs (w : World) (m : Nat) : Prop := ∃ ks, MpAt w m kvS txV ks
theorem Txs.keep {w w' : World} {m : Nat} (h : Txs w m) (hb : w'.heap[m]? = w.heap[m]?) : Txs w' m := by
  obtain ⟨ks, h⟩ := h
  exact ⟨ks, h.keep hb⟩
theorem Txs.lt {w : World} {m : Nat} (h : Txs w m) : m < w.heap.size := by
  obtain ⟨ks, h⟩ := h
  exact h.lt
theorem ba_eq (a b : ByteArray) : (a == b) = decide (a = b) := by
  have h1 : (a == b) = (a.data == b.data) := by
    cases a
    cases b
    rfl
  rw [h1, Bool.eq_iff_iff, decide_eq_true_iff, beq_iff_eq]
  cases a
  cases b
  simp
theorem now_str (s : ByteArray) : ∀ (es : List MapEntry) (ks : List ByteArray) (i : Nat), es.map (fun e => (e.key, e.val)) = ks.map (fun k => (kvS k, txV k)) →
    (s ∉ ks ∧ Instr.findNow .string (kvS s) es i = some none) ∨ (s ∈ ks ∧ ∃ j, j < es.length ∧ es[j]?.map (fun e => (e.key, e.val)) = some (kvS s, txV s) ∧ Instr.findNow .string (kvS s) es i = some (some (i + j, txV s))) := by
  intro es
  induction es with
  | nil =>
    intro ks i hk
    have : ks = [] := by
      simp at hk
      exact hk
    subst this
    exact .inl ⟨by simp, rfl⟩
  | cons e r ih =>
    intro ks i hk
    cases ks with
    | nil => simp at hk
    | cons b ls =>
      simp only [List.map_cons, List.cons.injEq] at hk
      have hkey : e.key = kvS b := congrArg Prod.fst hk.1
      have hval : e.val = txV b := congrArg Prod.snd hk.1
      have hn : Instr.sameNow .string (kvS s) e.key = some (decide (s = b)) := by rw [hkey, ← ba_eq]; rfl
      by_cases hc : s = b
      · subst hc
        refine .inr ⟨by simp, 0, by simp, by simp [hkey, hval], ?_⟩
        rw [decide_eq_true rfl] at hn
        simp [Instr.findNow, hn, hval]
      · rw [decide_eq_false hc] at hn
        have hstep : Instr.findNow .string (kvS s) (e :: r) i = Instr.findNow .string (kvS s) r (i + 1) := by
          simp [Instr.findNow, hn]
        rw [hstep]
        rcases ih ls (i + 1) hk.2 with ⟨h2, h3⟩ | ⟨h2, j, h3, h4, h5⟩
        · exact .inl ⟨by simp [hc, h2], h3⟩
        · exact .inr ⟨by simp [h2], j + 1, by simp; omega, by simpa using h4, by rw [h5]; simp; omega⟩
theorem finds_str {w : World} {s : ByteArray} {es : Array MapEntry} {ks : List ByteArray} (hs : MpIs kvS txV es ks) : FindsV Try.prog 9 w kvS txV s es.toList ks := by
  rcases now_str s es.toList ks 0 hs with ⟨h1, h2⟩ | ⟨h1, j, h2, h3, h4⟩
  · exact .inl ⟨h1, by simp [Instr.findKey, run_underlying Try.underlying9, h2]⟩
  · exact .inr ⟨h1, j, h2, h3, by simp [Instr.findKey, run_underlying Try.underlying9, h4]⟩
theorem check_str (b : Bool) (w : World) (s : ByteArray) : (Instr.checkKey b 10000 9 (kvS s)).run Try.prog w = .ok () w := by
  rw [show (10000 : Nat) = 9999 + 1 from rfl, Instr.checkKey]
  simp [run_underlying Try.underlying9, kvS]
theorem stays_str (w : World) (s : ByteArray) : (Instr.keyThatStays (kvS s) (kvS s)).run Try.prog w = .ok (kvS s) w := by
  have h : Instr.sameBits 10000 (kvS s) (kvS s) = true := by
    unfold kvS
    rw [Instr.sameBits, ba_eq]
    simp
  simp [Instr.keyThatStays, h]
theorem zero_txt (w : World) : (zeroValue 170).run Try.prog w = .ok (.agg #[.string ⟨#[]⟩]) w := by
  have hi : (Try.prog.info? 170).map (fun i => (i.zero, i.size, i.bytes)) = some (some (.agg #[.string ⟨#[]⟩]), 1, 16) := by kernel_rfl
  obtain ⟨i0, h1, h2, -, -⟩ := info_parts hi
  simp [zeroValue, typeInfo, h1, h2]
theorem look_txt {w : World} {m : Nat} {s : ByteArray} {ks : List ByteArray} (h : MpAt w m kvS txV ks) :
    (s ∈ ks ∧ (Instr.lookup 80 (.map (some m)) (.string s) true).run Try.prog w = .ok (.tuple #[.agg #[.string s], .bool true]) w) ∨ (s ∉ ks ∧ (Instr.lookup 80 (.map (some m)) (.string s) true).run Try.prog w = .ok (.tuple #[.agg #[.string ⟨#[]⟩], .bool false]) w) := by
  obtain ⟨es, c, hm, hs⟩ := h
  have hf := finds_str (w := w) (s := s) hs
  by_cases hk : s ∈ ks
  · exact .inl ⟨hk, (look_mp (V := txV) Try.underlying80 (fun b => check_str b w s) hm hf hk).1⟩
  · refine .inr ⟨hk, ?_⟩
    have hg : (getObj m).run Try.prog w = .ok (.map es c) w := by simp [getObj, Sem.run, hm]
    have hc := check_str es.isEmpty w s
    rcases hf with ⟨h1, h2⟩ | ⟨h1, -⟩
    · unfold kvS at hc h2
      simp [Instr.lookup, run_underlying Try.underlying80, hg, hc, h2]
    · exact absurd h1 hk
theorem put_txt {w : World} {m : Nat} {s : ByteArray} {ks : List ByteArray} (h : MpAt w m kvS txV ks) :
    ∃ w', (Instr.mapUpdate 80 (.map (some m)) (.string s) (.agg #[.string s])).run Try.prog w = .ok () w' ∧ Txs w' m ∧ Mv m w w' := by
  obtain ⟨es, c, hm, hs⟩ := h
  obtain ⟨es', c', hu, hi⟩ := put_mp (V := txV) Try.underlying80 (fun b => check_str b w s) (stays_str w s) hm hs (finds_str hs)
  exact ⟨_, hu, ⟨_, es', c', heap_setBlock_same hm _, hi⟩, rfl, rfl, rfl, by simp [setBlock], fun k hk => heap_setBlock_other hm _ hk.2⟩

set_option maxHeartbeats 1000000 in
set_option maxRecDepth 100000 in
theorem of_any (m : Nat) (s : ByteArray) (w : World) (hs : s.size ≤ 1048576) (h : Txs w m) :
    Calls Try.prog 63 #[.map (some m), .string s] w fun e w' => e = .returned (.string s) ∧ Txs w' m ∧ Mv m w w' := by
  have hlt := h.lt
  obtain ⟨ks, hk⟩ := h
  by_cases h0 : s = ⟨#[]⟩
  · subst h0
    have HK := hide hk
    clear hk
    go_enter Try.func63, Try.ntmps63
    go_wp2
    go_ret
    exact ⟨rfl, ⟨_, HK.out⟩, Mv.refl _ _⟩
  have hne : s.toList.isEmpty = false := by
    rw [ByteArray.toList_eq]
    cases s with
    | mk a =>
      cases he : a.toList with
      | nil =>
        have : a = #[] := by simpa using he
        exact absurd (by rw [this]) h0
      | cons x r => rfl
  rcases look_txt (s := s) hk with ⟨h1, h2⟩ | ⟨h1, h2⟩
  · have HK := hide hk
    clear hk h1
    go_enter Try.func63, Try.ntmps63
    go_wp2
    go_ret
    have hb : Below w.heap.size w (w.alloc (.cells #[.string s] 170)) := (Below.refl _ w).alloc (Nat.le_refl _) _
    exact ⟨rfl, ⟨_, HK.out.keep (hb.block _ HK.out.lt)⟩, Mv.of hb⟩
  · obtain ⟨W, hW⟩ : ∃ W, w.alloc (.cells #[.string ⟨#[]⟩] 170) = W := ⟨_, rfl⟩
    have hb : Below w.heap.size w W := by rw [← hW]; exact (Below.refl _ w).alloc (Nat.le_refl _) _
    have hx : W.heap[w.heap.size]? = some (.cells #[.string ⟨#[]⟩] 170 (0, 0)) := by rw [← hW]; exact heap_alloc_new w _
    have HC := hide (clone_any s W hs)
    have HB := hide hb
    have HX := hide hx
    have HK := hide hk
    have u0 := cell_of hx 0
    have g0 := frozen_of hx 0
    simp only [List.getElem?_toArray, List.getElem?_cons_zero] at u0
    have hst : W.setCell ⟨w.heap.size, 0, none⟩ (.string ⟨#[]⟩) = W := set_self hx rfl
    clear hk hb hx h1
    go_enter Try.func63, Try.ntmps63
    go_wp2_with fail
    refine HC.out.mono ?_
    rintro e w1 ⟨rfl, hb1⟩
    have hx1 : w1.heap[w.heap.size]? = some (.cells #[.string ⟨#[]⟩] 170 (0, 0)) := (hb1.block _ (heap_lt HX.out)).trans HX.out
    have hx2 : (w1.setCell ⟨w.heap.size, 0, none⟩ (.string s)).heap[w.heap.size]? = some (.cells #[.string s] 170 (0, 0)) := heap_set_same _ hx1
    have hm2 := HK.out.keep (w' := w1.setCell ⟨w.heap.size, 0, none⟩ (.string s)) ((heap_set_other (.string s) (by omega)).trans ((hb1.block _ (Nat.lt_of_lt_of_le hlt HB.out.size)).trans (HB.out.block _ hlt)))
    obtain ⟨w3, hu, ht3, hm3⟩ := put_txt (s := s) hm2
    have x0 := cell_of hx1 0
    have f0 := frozen_of hx1 0
    have y0 := cell_of hx2 0
    simp only [List.getElem?_toArray, List.getElem?_cons_zero] at x0 y0
    have hx3 : w3.heap[w.heap.size]? = some (.cells #[.string s] 170 (0, 0)) := (hm3.block _ ⟨heap_lt hx2, by omega⟩).trans hx2
    have z0 := cell_of hx3 0
    simp only [List.getElem?_toArray, List.getElem?_cons_zero] at z0
    have HT3 := hide ht3
    have hks := Mv.set w.heap.size 0 w1 (.string s)
    have HM : Hid (Mv m w w3) := ⟨hm3.os.trans (hks.os.trans (hb1.os.trans HB.out.os)), hm3.tape.trans (hks.tape.trans (hb1.tape.trans HB.out.tape)), hm3.output.trans (hks.output.trans (hb1.output.trans HB.out.output)), Nat.le_trans HB.out.size (Nat.le_trans hb1.size (Nat.le_trans hks.size hm3.size)), fun k hk => by
      have h1 := HB.out.size
      have h2 := hb1.size
      have h3 := hks.size
      have h4 := hk.1
      exact (hm3.block k ⟨by omega, hk.2⟩).trans ((hks.block k ⟨by omega, by omega⟩).trans ((hb1.block k (by omega)).trans (HB.out.block k hk.1)))⟩
    clear hb1 hx1 hx2 hm2 ht3 hm3 hks hx3 HC
    go_wp2
    go_ret
    exact ⟨rfl, HT3.out, HM.out⟩
end Go.Proofs.Ytgeckgdmkjddpaa.Cp
namespace Go.Proofs.Ytgeckgdmkjddpaa.Cp
open Go.ChangeShapes Go.WideShapes Go.ChangeAt Go.RowKit Go.Proofs.Ytgeckgdmkjddpaa.Vo Go.Proofs.Ytgeckgdmkjddpaa.Rd Go.Proofs.Ytgeckgdmkjddpaa.Br
set_option linter.unusedVariables false

/-- A row that is read, cell by cell. -/
theorem row_css {α : Type} {K : Nat → Prop} {w : World} {R : α → List Value → Prop} {sz : Nat} {o : Option Addr} {xs : List α} (h : RowOf K w R sz o xs) (hne : xs ≠ []) (hz : 0 < sz) :
    ∃ (b off : Nat) (css : List (List Value)), o = some ⟨b, off, none⟩ ∧ K b ∧ b < w.heap.size ∧ css.length = xs.length ∧ (∀ c ∈ css, c.length = sz) ∧ (∀ k u, css.flatten[k]? = some u → w.cell? ⟨b, off + k, none⟩ = some u) ∧ ∀ (j : Nat) x, xs[j]? = some x → ∃ cs, css[j]? = some cs ∧ R x cs := by
  obtain ⟨b, off, e, hk, hl, hc⟩ := h hne
  obtain ⟨css, h1, h2⟩ := list_of2 (α := List Value) (n := xs.length) (p := fun i cs => cs.length = sz ∧ (∀ j u, cs[j]? = some u → w.cell? ⟨b, off + i * sz + j, none⟩ = some u) ∧ ∀ x, xs[i]? = some x → R x cs) (fun i hi => by
    obtain ⟨cs, a1, a2, a3⟩ := hc i _ (List.getElem?_eq_getElem hi)
    exact ⟨cs, a1, a2, fun x hx => by rw [List.getElem?_eq_getElem hi] at hx; cases hx; exact a3⟩)
  have hl2 : ∀ c ∈ css, c.length = sz := fun c hc => by
    obtain ⟨i, hi⟩ := List.mem_iff_getElem?.1 hc
    exact (h2 i c hi).1
  refine ⟨b, off, css, e, hk, hl, h1, hl2, fun k u hu => ?_, fun j x hx => ?_⟩
  · have hlt : k < css.length * sz := by
      have := (List.getElem?_eq_some_iff.1 hu).1
      rw [flat_len css hl2] at this
      exact this
    have hi : k / sz < css.length := (Nat.div_lt_iff_lt_mul hz).2 hlt
    have hj : k % sz < sz := Nat.mod_lt _ hz
    have hcs := h2 (k / sz) _ (List.getElem?_eq_getElem hi)
    obtain ⟨v, hv⟩ : ∃ v, css[k / sz][k % sz]? = some v := ⟨_, List.getElem?_eq_getElem (by rw [hcs.1]; exact hj)⟩
    have h3 := flat_get css hl2 (k / sz) _ (k % sz) v (List.getElem?_eq_getElem hi) hv
    have e2 : k / sz * sz + k % sz = k := by rw [Nat.mul_comm]; exact Nat.div_add_mod k sz
    rw [e2, hu] at h3
    cases h3
    have h4 := hcs.2.1 (k % sz) u hv
    rw [show off + k / sz * sz + k % sz = off + k by omega] at h4
    exact h4
  · have hj : j < css.length := by rw [h1]; exact (List.getElem?_eq_some_iff.1 hx).1
    exact ⟨_, List.getElem?_eq_getElem hj, (h2 j _ (List.getElem?_eq_getElem hj)).2.2 x hx⟩

/-- All of a row is copied into a row that is as long. -/
theorem run_copy_big {P : Program} (w : World) (dT sT ty elem : TypeId) (g n dCap sz : Nat) (a : Addr) (sCap : Nat) (cur : Array Value) (t : TypeId) (cs : List Value)
    (hu : P.underlying dT = some (.slice elem)) (hs : (P.info? elem).map (·.size) = some sz)
    (hg : w.heap[g]? = some (.cells cur t (0, 0))) (hn : cs.length = n * sz) (hcur : cur.size = n * sz)
    (hsrc : ∀ j v, cs[j]? = some v → w.cell? (a.add j) = some v) (h1 : ∀ v ∈ cs, v.oneCell' = true) :
    (Builtin.copy_ #[dT, sT] ty #[.slice (some ⟨g, 0, none⟩) n dCap, .slice (some a) n sCap]).run P w = .ok (goInt n) (w.setRow g cs.toArray) := by
  have hl := run_loadCells_list (P := P) w a cs hsrc
  have hst := run_storeCells_at P g 0 t cs 0 cur w hg (by simp; omega) h1
  have e : (cur.toList.take 0 ++ cs ++ cur.toList.drop (0 + cs.length)).toArray = cs.toArray := by
    rw [List.drop_of_length_le (by simp; omega)]
    simp
  simp only [Nat.add_zero] at hst
  rw [e] at hst
  cases hq : P.info? elem with
  | none => simp [hq] at hs
  | some i =>
    have hi : i.size = sz := by simpa [hq] using hs
    have hmin : Nat.min n n = n := Nat.min_self n
    rw [hn] at hl
    simp [Builtin.copy_, run_underlying hu, Builtin.lenOf, Builtin.firstCells, sizeOf, typeInfo, hq, hi, hmin, hl, hst]

theorem rdI_one {K : Nat → Prop} {w : World} {h i : Nat} {x : Tr} {cs : List Value} (hr : rdI K w h i x cs) : ∀ u ∈ cs, u.oneCell' = true := by
  unfold rdI at hr
  split at hr
  · obtain ⟨_, _, _, _, _, _, rfl⟩ := ex_form hr
    intro u hu
    simp only [List.mem_cons, List.not_mem_nil, or_false] at hu
    rcases hu with rfl | rfl | rfl | rfl | rfl | rfl <;> rfl
  · split at hr
    · obtain ⟨_, _, _, _, _, _, _, _, _, _, _, rfl⟩ := de_form hr
      intro u hu
      simp only [List.mem_cons, List.not_mem_nil, or_false] at hu
      rcases hu with rfl | rfl | rfl | rfl | rfl | rfl | rfl | rfl | rfl <;> rfl
    · obtain ⟨_, _, _, _, _, _, _, _, _, rfl⟩ := al_form hr
      intro u hu
      simp only [List.mem_cons, List.not_mem_nil, or_false] at hu
      rcases hu with rfl | rfl | rfl | rfl | rfl | rfl | rfl | rfl <;> rfl

/-- What a tree becomes. -/
def tgt (i h : Nat) : Tr → Tr := if i = 0 then (brs h).ex else if i = 1 then (fun d => tDec d.s [] ((brs h).de d) []) else (brs h).al
/-- A row that is left: of which kind, its block, up to which height its trees are read, and these. -/
structure Pe where
  i : Nat
  g : Nat
  h : Nat
  xs : List Tr
def Pe.v (p : Pe) : Value := .slice (some ⟨p.g, 0, none⟩) p.xs.length p.xs.length
def Pe.pd (p : Pe) : Pd := ⟨p.i, p.v, p.xs.map (tgt p.i p.h)⟩
def Pe.cells (p : Pe) : List Value := [p.v, .bool false]
def Pe.wt (p : Pe) : Nat := lw (wtI p.h p.i) p.xs
def wtP (l : List Pe) : Nat := (l.map Pe.wt).sum
/-- A row of names that is left. -/
structure Ne where
  g : Nat
  ss : List ByteArray
def Ne.cells (p : Ne) : List Value := [.slice (some ⟨p.g, 0, none⟩) p.ss.length p.ss.length, .bool false]
theorem wtP_app (a b : List Pe) : wtP (a ++ b) = wtP a + wtP b := by unfold wtP; rw [List.map_append, List.sum_append]
theorem wtP_len {K : Nat → Prop} : ∀ (l : List Pe), (∀ p ∈ l, p.xs ≠ []) → l.length ≤ wtP l := by
  intro l
  induction l with
  | nil => intro _; exact Nat.zero_le _
  | cons p r ih =>
    intro h
    have h1 := ih fun q hq => h q (by simp [hq])
    have h2 : 1 ≤ p.wt := lw_pos (h p (by simp))
    have e : wtP (p :: r) = p.wt + wtP r := by unfold wtP; simp
    rw [e, List.length_cons]
    omega
/-- In its block stands what the argument has there. -/
def PeOk (K : Nat → Prop) (w0 w : World) (p : Pe) : Prop := p.xs ≠ [] ∧ p.xs.length ≤ 1048576 ∧ ∃ css : List (List Value), w.heap[p.g]? = some (.cells css.flatten.toArray (tyK p.i) (0, 0)) ∧ css.length = p.xs.length ∧ (∀ c ∈ css, c.length = lenK p.i) ∧ ∀ (j : Nat) x, p.xs[j]? = some x → ∃ cs, css[j]? = some cs ∧ rdI K w0 p.h p.i x cs
theorem PeOk.keep {K : Nat → Prop} {w0 w w' : World} {p : Pe} (h : PeOk K w0 w p) (hk : w'.heap[p.g]? = w.heap[p.g]?) : PeOk K w0 w' p := by
  obtain ⟨h1, h2, css, h3, h4⟩ := h
  exact ⟨h1, h2, css, hk.trans h3, h4⟩
def NeOk (w : World) (p : Ne) : Prop := p.ss ≠ [] ∧ p.ss.length ≤ 1048576 ∧ (∀ s ∈ p.ss, s.size ≤ 1048576) ∧ w.heap[p.g]? = some (.cells (p.ss.map Value.string).toArray 9 (0, 0))
theorem NeOk.keep {w w' : World} {p : Ne} (h : NeOk w p) (hk : w'.heap[p.g]? = w.heap[p.g]?) : NeOk w' p := by
  obtain ⟨a1, a2, a4, a3⟩ := h
  exact ⟨a1, a2, a4, hk.trans a3⟩
/-- The cells of what copies: four rows of what is left, the texts; no name is turned. -/
def ecv (vE vD vA vN : Value) (M : Nat) : Array Value := #[vE, .map none, vD, .map none, vA, .map none, vN, .map none, .map (some M), .string ⟨#[]⟩, .string ⟨#[]⟩, .map none]
/-- Its blocks: its own, its texts', its rows', the rows' that are left; and X. -/
def blks (C M : Nat) (vE vD vA vN : Value) (E D A : List Pe) (N : List Ne) (X : List Nat) : List Nat := C :: M :: (ownL vE ++ (ownL vD ++ (ownL vA ++ (ownL vN ++ (E.map Pe.g ++ (D.map Pe.g ++ (A.map Pe.g ++ (N.map Ne.g ++ X))))))))
structure MemV (K : Nat → Prop) (w0 : World) (C M : Nat) (E D A : List Pe) (N : List Ne) (X : List Nat) (w : World) (vE vD vA vN : Value) : Prop where
  box : w.heap[C]? = some (.cells (ecv vE vD vA vN M) 85 (0, 0))
  rE : Row w 126 2 vE (E.map Pe.cells)
  rD : Row w 147 2 vD (D.map Pe.cells)
  rA : Row w 159 2 vA (A.map Pe.cells)
  rN : Row w 164 2 vN (N.map Ne.cells)
  txs : Txs w M
  pE : ∀ p ∈ E, p.i = 0 ∧ PeOk K w0 w p
  pD : ∀ p ∈ D, p.i = 1 ∧ PeOk K w0 w p
  pA : ∀ p ∈ A, p.i = 2 ∧ PeOk K w0 w p
  pN : ∀ p ∈ N, NeOk w p
  apart : InR w0.heap.size w.heap.size (blks C M vE vD vA vN E D A N X)
  old : Below w0.heap.size w0 w
def Mem (K : Nat → Prop) (w0 : World) (C M : Nat) (E D A : List Pe) (N : List Ne) (X : List Nat) (w : World) : Prop := ∃ vE vD vA vN, MemV K w0 C M E D A N X w vE vD vA vN
/-- What calls keep: what was there, and X. -/
abbrev KX (w0 : World) (X : List Nat) : Nat → Prop := fun b => b < w0.heap.size ∨ b ∈ X
section
variable {K : Nat → Prop} {w0 w w' : World} {C M : Nat} {E D A : List Pe} {N : List Ne} {X : List Nat} {vE vD vA vN : Value}
/-- Whatever leaves its blocks but X as they are. -/
theorem MemV.frame {X' : List Nat} (h : MemV K w0 C M E D A N X w vE vD vA vN) (hb : Below w0.heap.size w w') (hk : ∀ b ∈ blks C M vE vD vA vN E D A N [], w'.heap[b]? = w.heap[b]?) (hX : InR w0.heap.size w'.heap.size (blks C M vE vD vA vN E D A N X')) : MemV K w0 C M E D A N X' w' vE vD vA vN := by
  have kE : ∀ b ∈ ownL vE, w'.heap[b]? = w.heap[b]? := fun b hb => hk b (by simp [blks, hb])
  have kD : ∀ b ∈ ownL vD, w'.heap[b]? = w.heap[b]? := fun b hb => hk b (by simp [blks, hb])
  have kA : ∀ b ∈ ownL vA, w'.heap[b]? = w.heap[b]? := fun b hb => hk b (by simp [blks, hb])
  have kN : ∀ b ∈ ownL vN, w'.heap[b]? = w.heap[b]? := fun b hb => hk b (by simp [blks, hb])
  refine ⟨(hk C (by simp [blks])).trans h.box, h.rE.frame kE, h.rD.frame kD, h.rA.frame kA, h.rN.frame kN, h.txs.keep (hk M (by simp [blks])), fun p hp => ⟨(h.pE p hp).1, (h.pE p hp).2.keep (hk _ ?_)⟩, fun p hp => ⟨(h.pD p hp).1, (h.pD p hp).2.keep (hk _ ?_)⟩, fun p hp => ⟨(h.pA p hp).1, (h.pA p hp).2.keep (hk _ ?_)⟩, fun p hp => ?_, hX, h.old.trans hb⟩
  · have : p.g ∈ E.map Pe.g := List.mem_map_of_mem hp
    simp only [blks, List.mem_cons, List.mem_append]
    simp [this]
  · have : p.g ∈ D.map Pe.g := List.mem_map_of_mem hp
    simp only [blks, List.mem_cons, List.mem_append]
    simp [this]
  · have : p.g ∈ A.map Pe.g := List.mem_map_of_mem hp
    simp only [blks, List.mem_cons, List.mem_append]
    simp [this]
  · have : p.g ∈ N.map Ne.g := List.mem_map_of_mem hp
    obtain ⟨a1, a2, a4, a3⟩ := h.pN p hp
    refine ⟨a1, a2, a4, (hk _ ?_).trans a3⟩
    simp only [blks, List.mem_cons, List.mem_append]
    simp [this]
theorem blks_split (C M : Nat) (vE vD vA vN : Value) (E D A : List Pe) (N : List Ne) (X : List Nat) : blks C M vE vD vA vN E D A N X = blks C M vE vD vA vN E D A N [] ++ X := by simp [blks]
/-- New memory alone. -/
theorem MemV.below (h : MemV K w0 C M E D A N X w vE vD vA vN) (hb : Below w.heap.size w w') : MemV K w0 C M E D A N X w' vE vD vA vN := by
  have hs : w0.heap.size ≤ w.heap.size := h.old.size
  refine h.frame (hb.mono hs) (fun b hm => hb.block b (h.apart.2 b ?_).2) (h.apart.wide (Nat.le_refl _) hb.size)
  rw [blks_split]
  exact List.mem_append_left _ hm
/-- A cell of X is set. -/
theorem MemV.set (h : MemV K w0 C M E D A N X w vE vD vA vN) {g j : Nat} {v : Value} (hg : g ∈ X) : MemV K w0 C M E D A N X (w.setCell ⟨g, j, none⟩ v) vE vD vA vN := by
  have hr := h.apart.2 g (by rw [blks_split]; exact List.mem_append_right _ hg)
  have hn := h.apart.1
  rw [blks_split] at hn
  have hne : ∀ b ∈ blks C M vE vD vA vN E D A N [], b ≠ g := fun b hb e => (List.nodup_append.1 hn).2.2 b hb g hg e
  have hs : (w.setCell ⟨g, j, none⟩ v).heap.size = w.heap.size := by simp
  exact h.frame ((Below.refl _ w).setCell hr.1 v |> fun k => k) (fun b hb => heap_set_other v (hne b hb)) (by rw [hs]; exact h.apart)
/-- A new block joins X. -/
theorem MemV.add (h : MemV K w0 C M E D A N X w vE vD vA vN) {g : Nat} (hg : g ∉ blks C M vE vD vA vN E D A N X) (h1 : w0.heap.size ≤ g) (h2 : g < w.heap.size) : MemV K w0 C M E D A N (g :: X) w vE vD vA vN := by
  refine h.frame (Below.refl _ _) (fun _ _ => rfl) ⟨?_, fun b hb => ?_⟩
  · have hn := h.apart.1
    rw [blks_split] at hn hg ⊢
    obtain ⟨n1, n2, n3⟩ := List.nodup_append.1 hn
    rw [List.mem_append, not_or] at hg
    refine List.nodup_append.2 ⟨n1, List.nodup_cons.2 ⟨hg.2, n2⟩, fun a ha b hb e => ?_⟩
    rcases List.mem_cons.1 hb with rfl | hb
    · exact hg.1 (e ▸ ha)
    · exact n3 a ha b hb e
  · rw [blks_split] at hb
    rcases List.mem_append.1 hb with hb | hb
    · exact h.apart.2 b (by rw [blks_split]; exact List.mem_append_left _ hb)
    · rcases List.mem_cons.1 hb with rfl | hb
      · exact ⟨h1, h2⟩
      · exact h.apart.2 b (by rw [blks_split]; exact List.mem_append_right _ hb)
theorem Mem.below (h : Mem K w0 C M E D A N X w) (hb : Below w.heap.size w w') : Mem K w0 C M E D A N X w' := by
  obtain ⟨vE, vD, vA, vN, h⟩ := h
  exact ⟨vE, vD, vA, vN, h.below hb⟩
theorem Mem.set (h : Mem K w0 C M E D A N X w) {g j : Nat} {v : Value} (hg : g ∈ X) : Mem K w0 C M E D A N X (w.setCell ⟨g, j, none⟩ v) := by
  obtain ⟨vE, vD, vA, vN, h⟩ := h
  exact ⟨vE, vD, vA, vN, h.set hg⟩
theorem Mem.x_lt (h : Mem K w0 C M E D A N X w) {g : Nat} (hg : g ∈ X) : w0.heap.size ≤ g ∧ g < w.heap.size := by
  obtain ⟨vE, vD, vA, vN, h⟩ := h
  exact h.apart.2 g (by rw [blks_split]; exact List.mem_append_right _ hg)
theorem Mem.size (h : Mem K w0 C M E D A N X w) : w0.heap.size ≤ w.heap.size := by
  obtain ⟨vE, vD, vA, vN, h⟩ := h
  exact h.old.size
/-- A block that is newly made joins X. -/
theorem Mem.new (h : Mem K w0 C M E D A N X w) (hb : Below w.heap.size w w') {g : Nat} (h1 : w.heap.size ≤ g) (h2 : g < w'.heap.size) : Mem K w0 C M E D A N (g :: X) w' := by
  obtain ⟨vE, vD, vA, vN, h⟩ := h
  refine ⟨vE, vD, vA, vN, (h.below hb).add (fun hm => ?_) (Nat.le_trans h.old.size h1) h2⟩
  have := (h.apart.2 g hm).2
  omega
end
end Go.Proofs.Ytgeckgdmkjddpaa.Cp
