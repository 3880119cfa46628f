/- Sets: maps whose elements stand for nothing. -/
import Derived.Test.YtifambhfggodaaaNA
namespace Go.Proofs.Ytifambhfggodaaa.Vo
set_option linter.unusedVariables false
open Go.RowKit
open Go.ChangeMaps (setBlock heap_setBlock_same heap_setBlock_other)

set_option linter.unusedSectionVars false
section
variable {κ : Type} [DecidableEq κ]
/-- A map's entries, by their keys. -/
structure SetIs (kv : κ → Value) (es : Array MapEntry) (ks : List κ) : Prop where
  keys : es.toList.map (·.key) = ks.map kv
  vals : ∀ e ∈ es.toList, e.val = .agg #[]
def addK (ks : List κ) (k : κ) : List κ := if k ∈ ks then ks else ks ++ [k]
theorem mem_addK (ks : List κ) (k x : κ) : x ∈ addK ks k ↔ x ∈ ks ∨ x = k := by
  unfold addK
  split
  · rename_i h
    exact ⟨.inl, fun h' => h'.elim id fun e => e ▸ h⟩
  · simp
/-- How a key is found among a map's entries. -/
def Finds (P : Program) (t : TypeId) (w : World) (kv : κ → Value) (k : κ) (es : List MapEntry) (ks : List κ) : Prop :=
  (k ∉ ks ∧ (Instr.findKey t (kv k) es).run P w = .ok none w) ∨ (k ∈ ks ∧ ∃ j, j < es.length ∧ es[j]?.map (·.key) = some (kv k) ∧ (Instr.findKey t (kv k) es).run P w = .ok (some (j, .agg #[])) w)
theorem asks {P : Program} {t : TypeId} {w : World} {kv : κ → Value} {k : κ} : ∀ (es : List MapEntry) (ks : List κ) (i : Nat), es.map (·.key) = ks.map kv → (∀ e ∈ es, e.val = .agg #[]) → (∀ b ∈ ks, (Op.equal t (kv k) (kv b)).run P w = .ok (decide (k = b)) w) →
    (k ∉ ks ∧ (Instr.findAsking t (kv k) es i).run P w = .ok none w) ∨ (k ∈ ks ∧ ∃ j, j < es.length ∧ es[j]?.map (·.key) = some (kv k) ∧ (Instr.findAsking t (kv k) es i).run P w = .ok (some (i + j, .agg #[])) w) := by
  intro es
  induction es with
  | nil =>
    intro ks i hk _ _
    have : ks = [] := by
      simp at hk
      exact hk
    subst this
    exact .inl ⟨by simp, by simp [Instr.findAsking]⟩
  | cons e r ih =>
    intro ks i hk hv hq
    cases ks with
    | nil => simp at hk
    | cons b ls =>
      simp only [List.map_cons, List.cons.injEq] at hk
      have h1 := hq b (by simp)
      have hval := hv e (by simp)
      by_cases hc : k = b
      · subst hc
        simp only [decide_true] at h1
        refine .inr ⟨by simp, 0, by simp, by simp [hk.1], ?_⟩
        simp [Instr.findAsking, hk.1, h1, hval]
      · rw [decide_eq_false hc] at h1
        have hstep : (Instr.findAsking t (kv k) (e :: r) i).run P w = (Instr.findAsking t (kv k) r (i + 1)).run P w := by
          simp [Instr.findAsking, hk.1, h1]
        rw [hstep]
        rcases ih ls (i + 1) hk.2 (fun e he => hv e (by simp [he])) (fun b hb => hq b (by simp [hb])) with ⟨h2, h3⟩ | ⟨h2, j, h3, h4, h5⟩
        · exact .inl ⟨by simp [hc, h2], h3⟩
        · exact .inr ⟨by simp [h2], j + 1, by simp; omega, by simpa using h4, by rw [h5]; simp; omega⟩
/-- A set in memory. -/
def SetAt (w : World) (m : Nat) (kv : κ → Value) (ks : List κ) : Prop := ∃ es c, w.heap[m]? = some (.map es c) ∧ SetIs kv es ks
theorem SetAt.lt {w : World} {m : Nat} {kv : κ → Value} {ks : List κ} (h : SetAt w m kv ks) : m < w.heap.size := by
  obtain ⟨es, c, h1, -⟩ := h
  exact (Array.getElem?_eq_some_iff.1 h1).1
theorem SetAt.keep {w w' : World} {m : Nat} {kv : κ → Value} {ks : List κ} (h : SetAt w m kv ks) (hb : w'.heap[m]? = w.heap[m]?) : SetAt w' m kv ks := by
  obtain ⟨es, c, h1, h2⟩ := h
  exact ⟨es, c, hb.trans h1, h2⟩
theorem look_set {P : Program} {T t u : TypeId} (hT : P.underlying T = some (.map t u)) (hz : ∀ w, (zeroValue u).run P w = .ok (.agg #[]) w) {w : World} {kv : κ → Value} {k : κ} (hc : ∀ b, (Instr.checkKey b 10000 t (kv k)).run P w = .ok () w) {m : Nat} {es : Array MapEntry} {c : Nat} {ks : List κ} (hm : w.heap[m]? = some (.map es c)) (hf : Finds P t w kv k es.toList ks) :
    (Instr.lookup T (.map (some m)) (kv k) true).run P w = .ok (.tuple #[.agg #[], .bool (decide (k ∈ ks))]) w := by
  have hg : (getObj m).run P w = .ok (.map es c) w := by simp [getObj, Sem.run, hm]
  rcases hf with ⟨h1, h2⟩ | ⟨h1, j, -, -, h2⟩
  · simp [Instr.lookup, run_underlying hT, hg, hc, h2, hz, h1]
  · simp [Instr.lookup, run_underlying hT, hg, hc, h2, h1]
theorem put_set {P : Program} {T t u : TypeId} (hT : P.underlying T = some (.map t u)) {w : World} {kv : κ → Value} {k : κ} (hc : ∀ b, (Instr.checkKey b 10000 t (kv k)).run P w = .ok () w) (hst : (Instr.keyThatStays (kv k) (kv k)).run P w = .ok (kv k) w) {m : Nat} {es : Array MapEntry} {c : Nat} {ks : List κ} (hm : w.heap[m]? = some (.map es c)) (hs : SetIs kv es ks) (hf : Finds P t w kv k es.toList ks) :
    ∃ es' c', (Instr.mapUpdate T (.map (some m)) (kv k) (.agg #[])).run P w = .ok () (setBlock w m (.map es' c')) ∧ SetIs kv es' (addK ks k) := by
  have hg : (getObj m).run P w = .ok (.map es c) w := by simp [getObj, Sem.run, hm]
  have hset : ∀ o, (setObj m o).run P w = .ok () (setBlock w m o) := fun o => by simp [setObj, Sem.run, hm, setBlock]
  rcases hf with ⟨h1, h2⟩ | ⟨h1, j, hj, hkey, h2⟩
  · refine ⟨es.push ⟨kv k, .agg #[], c⟩, c + 1, by simp [Instr.mapUpdate, run_underlying hT, hg, hc, h2, hset], ?_⟩
    unfold addK
    rw [if_neg h1]
    refine ⟨?_, ?_⟩
    · rw [Array.toList_push, List.map_append, List.map_append, hs.keys]
      rfl
    · intro e he
      rw [Array.toList_push, List.mem_append] at he
      rcases he with he | he
      · exact hs.vals e he
      · simp at he
        rw [he]
  · unfold addK
    rw [if_pos h1]
    have hjs : j < es.size := by simpa using hj
    have hkey' : es[j]?.map (·.key) = some (kv k) := by rw [← Array.getElem?_toList]; exact hkey
    refine ⟨es.modify j fun e => { e with key := kv k, val := .agg #[] }, c, by simp [Instr.mapUpdate, run_underlying hT, hg, hc, h2, hkey', hst, hset], ?_, ?_⟩
    · rw [← hs.keys]
      apply List.ext_getElem?
      intro i
      simp only [List.getElem?_map, Array.getElem?_toList, Array.getElem?_modify]
      by_cases hij : j = i
      · subst hij
        rw [if_pos rfl, hkey', Array.getElem?_eq_getElem hjs]
        rfl
      · rw [if_neg hij]
    · intro e he
      obtain ⟨i, hi⟩ := List.mem_iff_getElem?.1 he
      rw [Array.getElem?_toList, Array.getElem?_modify] at hi
      by_cases hij : j = i
      · subst hij
        rw [if_pos rfl, Array.getElem?_eq_getElem hjs] at hi
        simp at hi
        rw [← hi]
      · rw [if_neg hij] at hi
        exact hs.vals e (List.mem_of_getElem? (i := i) (by rw [Array.getElem?_toList]; exact hi))
end
theorem finds_ptr {P : Program} {t : TypeId} (ht : PtrTy P t) {w : World} {a : Addr} (ha : PlainAt w a) {es : Array MapEntry} {ks : List Addr} (hs : SetIs ptrV es ks) (hp : ∀ b ∈ ks, PlainAt w b) : Finds P t w ptrV a es.toList ks := by
  have key := asks (P := P) (t := t) (w := w) (kv := ptrV) (k := a) es.toList ks 0 hs.keys hs.vals fun b hb => by
    rw [eqKey ht w ha (hp b hb)]
    congr 1
  obtain ⟨te, j, hu, -⟩ := ht
  cases hes : es.toList with
  | nil =>
    have hk := hs.keys
    rw [hes] at hk
    have : ks = [] := by
      simp at hk
      exact hk
    subst this
    exact .inl ⟨by simp, by simp [Instr.findKey, run_underlying hu, Instr.findNow]⟩
  | cons e r =>
    rw [hes] at key
    have hn : Instr.findNow (.pointer te) (ptrV a) (e :: r) 0 = none := by simp [Instr.findNow, Instr.sameNow]
    have hstep : (Instr.findKey t (ptrV a) (e :: r)).run P w = (Instr.findAsking t (ptrV a) (e :: r) 0).run P w := by
      simp [Instr.findKey, run_underlying hu, hn]
    rcases key with ⟨h1, h2⟩ | ⟨h1, j, h2, h3, h4⟩
    · exact .inl ⟨h1, hstep.trans h2⟩
    · exact .inr ⟨h1, j, h2, h3, by rw [hstep, h4]; simp⟩
def intV (n : Int) : Value := .int .i64 n
theorem finds_int {P : Program} {t : TypeId} {q : IntKind} (ht : P.underlying t = some (.int q)) {w : World} {n : Int} : ∀ (es : List MapEntry) (ks : List Int) (i : Nat), es.map (·.key) = ks.map intV → (∀ e ∈ es, e.val = .agg #[]) →
    (n ∉ ks ∧ Instr.findNow (.int q) (intV n) es i = some none) ∨ (n ∈ ks ∧ ∃ j, j < es.length ∧ es[j]?.map (·.key) = some (intV n) ∧ Instr.findNow (.int q) (intV n) es i = some (some (i + j, .agg #[]))) := by
  intro es
  induction es with
  | nil =>
    intro ks i hk _
    have : ks = [] := by
      simp at hk
      exact hk
    subst this
    exact .inl ⟨by simp, rfl⟩
  | cons e r ih =>
    intro ks i hk hv
    cases ks with
    | nil => simp at hk
    | cons b ls =>
      simp only [List.map_cons, List.cons.injEq] at hk
      have hval := hv e (by simp)
      by_cases hc : n = b
      · subst hc
        refine .inr ⟨by simp, 0, by simp, by simp [hk.1], ?_⟩
        simp [Instr.findNow, hk.1, intV, Instr.sameNow, hval]
      · have hstep : Instr.findNow (.int q) (intV n) (e :: r) i = Instr.findNow (.int q) (intV n) r (i + 1) := by
          have hb : (n == b) = false := by simp [hc]
          simp only [Instr.findNow, hk.1, intV, Instr.sameNow, hb, if_true]
        rw [hstep]
        rcases ih ls (i + 1) hk.2 (fun e he => hv e (by simp [he])) with ⟨h2, h3⟩ | ⟨h2, j, h3, h4, h5⟩
        · exact .inl ⟨by simp [hc, h2], h3⟩
        · exact .inr ⟨by simp [h2], j + 1, by simp; omega, by simpa using h4, by rw [h5]; simp; omega⟩
theorem finds_n {P : Program} {t : TypeId} {q : IntKind} (ht : P.underlying t = some (.int q)) {w : World} {n : Int} {es : Array MapEntry} {ks : List Int} (hs : SetIs intV es ks) : Finds P t w intV n es.toList ks := by
  rcases finds_int (w := w) (n := n) ht es.toList ks 0 hs.keys hs.vals with ⟨h1, h2⟩ | ⟨h1, j, h2, h3, h4⟩
  · exact .inl ⟨h1, by simp [Instr.findKey, run_underlying ht, h2]⟩
  · exact .inr ⟨h1, j, h2, h3, by simp [Instr.findKey, run_underlying ht, h4]⟩
end Go.Proofs.Ytifambhfggodaaa.Vo
