/- Made of NA, OA, JA, JB, CV. -/
import Derived.Test.YtgeckgdmkjddpaaQ03
import Derived.Maps.RangeRun
import Derived.Test.YtgeckgdmkjddpaaQ05
import Derived.Test.YtgeckgdmkjddpaaXF
import Derived.Test.YtgeckgdmkjddpaaQ01
namespace Go.Proofs.Ytgeckgdmkjddpaa
open Go.RowKit
open Go.ChangeMaps (setBlock heap_setBlock_same heap_setBlock_other)

/-- A type of pointers to what is not of size 0. -/
def PtrTy (P : Program) (t : TypeId) : Prop := ∃ te j, P.underlying t = some (.pointer te) ∧ P.info? te = some j ∧ j.size ≠ 0
def ptrV (a : Addr) : Value := .pointer (some a)
theorem eqKey {P : Program} {t : TypeId} (ht : PtrTy P t) (w : World) {a b : Addr} (ha : PlainAt w a) (hb : PlainAt w b) : (Op.equal t (ptrV a) (ptrV b)).run P w = .ok (a == b) w := by
  obtain ⟨te, j, hp, hj, hs⟩ := ht
  unfold Op.equal Op.maxDepth ptrV
  rw [show (10000 : Nat) = 9999 + 1 from rfl]
  exact eqPtr w 9999 hp hj hs ha hb
def entV (p : Addr × Nat) : Value × Value := (ptrV p.1, .int .i64 (p.2 : Int))
def keysOf (l : List (Addr × Nat)) : List Addr := l.map Prod.fst
/-- A map's entries: pointers, and how often each stands. -/
structure EntsAre (es : Array MapEntry) (clock : Nat) (l : List (Addr × Nat)) : Prop where
  ents : es.toList.map (fun e => (e.key, e.val)) = l.map entV
  keys : (keysOf l).Nodup
  born : (es.toList.map (·.born)).Nodup
  old : ∀ x ∈ es.toList, x.born < clock
theorem EntsAre.none : EntsAre #[] 0 [] := ⟨rfl, List.nodup_nil, List.nodup_nil, fun x hx => by simp at hx⟩
theorem EntsAre.len {es : Array MapEntry} {clock : Nat} {l : List (Addr × Nat)} (h : EntsAre es clock l) : es.size = l.length := by
  have h1 := congrArg List.length h.ents
  simpa using h1
/-- What stands at a key, and a key's place. -/
def findA : List (Addr × Nat) → Addr → Nat → Option (Nat × Nat)
  | [], _, _ => none
  | p :: r, a, i => if a = p.1 then some (i, p.2) else findA r a (i + 1)
def getA (l : List (Addr × Nat)) (a : Addr) : Nat := ((findA l a 0).map Prod.snd).getD 0
def setA : List (Addr × Nat) → Addr → Nat → List (Addr × Nat)
  | [], a, v => [(a, v)]
  | p :: r, a, v => if a = p.1 then (p.1, v) :: r else p :: setA r a v
theorem findA_run {P : Program} {t : TypeId} (ht : PtrTy P t) (w : World) {a : Addr} (ha : PlainAt w a) : ∀ (es : List MapEntry) (l : List (Addr × Nat)) (i : Nat), es.map (fun e => (e.key, e.val)) = l.map entV → (∀ b ∈ keysOf l, PlainAt w b) →
    (Instr.findAsking t (ptrV a) es i).run P w = .ok ((findA l a i).map fun x => (x.1, .int .i64 (x.2 : Int))) w := by
  intro es
  induction es with
  | nil =>
    intro l i he _
    have : l = [] := by
      simp at he
      exact he
    subst this
    simp [Instr.findAsking, findA]
  | cons e r ih =>
    intro l i he hp
    cases l with
    | nil => simp at he
    | cons p l =>
      simp only [List.map_cons, List.cons.injEq] at he
      obtain ⟨h1, h2⟩ := he
      have hk : e.key = ptrV p.1 := congrArg Prod.fst h1
      have hv : e.val = .int .i64 (p.2 : Int) := congrArg Prod.snd h1
      have heq := eqKey ht w ha (hp p.1 (by simp [keysOf]))
      have hrec := ih l (i + 1) h2 fun b hb => hp b (by simp only [keysOf, List.map_cons, List.mem_cons] at hb ⊢; exact Or.inr hb)
      by_cases hc : a = p.1
      · obtain ⟨b, n⟩ := p
        subst hc
        have hb : (a == a) = true := by simp
        simp only [hb] at heq
        simp [Instr.findAsking, hk, hv, heq, findA]
      · have hb : (a == p.1) = false := by simp [hc]
        rw [hb] at heq
        simp [Instr.findAsking, hk, heq, findA, hc, hrec]
theorem findKey_run {P : Program} {t : TypeId} (ht : PtrTy P t) (w : World) {a : Addr} (ha : PlainAt w a) (es : List MapEntry) (l : List (Addr × Nat)) (he : es.map (fun e => (e.key, e.val)) = l.map entV) (hp : ∀ b ∈ keysOf l, PlainAt w b) :
    (Instr.findKey t (ptrV a) es).run P w = .ok ((findA l a 0).map fun x => (x.1, .int .i64 (x.2 : Int))) w := by
  have key := findA_run ht w ha es l 0 he hp
  obtain ⟨te, j, hu, -⟩ := ht
  cases es with
  | nil =>
    have : l = [] := by
      simp at he
      exact he
    subst this
    simp [Instr.findKey, run_underlying hu, Instr.findNow, findA]
  | cons e r =>
    have hn : Instr.findNow (.pointer te) (ptrV a) (e :: r) 0 = none := by simp [Instr.findNow, Instr.sameNow]
    have hstep : (Instr.findKey t (ptrV a) (e :: r)).run P w = (Instr.findAsking t (ptrV a) (e :: r) 0).run P w := by
      simp [Instr.findKey, run_underlying hu, hn]
    rw [hstep]
    exact key
theorem check_ptr_n {P : Program} {t : TypeId} (ht : PtrTy P t) (b : Bool) (w : World) (a : Addr) (n : Nat) : (Instr.checkKey b (n + 1) t (ptrV a)).run P w = .ok () w := by
  obtain ⟨te, j, hu, -⟩ := ht
  unfold ptrV
  simp [Instr.checkKey, run_underlying hu]
theorem check_ptr {P : Program} {t : TypeId} (ht : PtrTy P t) (b : Bool) (w : World) (a : Addr) : (Instr.checkKey b 10000 t (ptrV a)).run P w = .ok () w := check_ptr_n ht b w a 9999
/-- A map that is asked how often a pointer stands in it. -/
theorem look_ptr {P : Program} {T t u : TypeId} (hT : P.underlying T = some (.map t u)) (ht : PtrTy P t) (hz : ∀ w, (zeroValue u).run P w = .ok (.int .i64 0) w) (w : World) {a : Addr} {m : Nat} {es : Array MapEntry} {clock : Nat} {l : List (Addr × Nat)} (hm : w.heap[m]? = some (.map es clock)) (hk : EntsAre es clock l) (ha : PlainAt w a) (hp : ∀ b ∈ keysOf l, PlainAt w b) :
    (Instr.lookup T (.map (some m)) (.pointer (some a)) false).run P w = .ok (.int .i64 (getA l a : Int)) w := by
  have hg : (getObj m).run P w = .ok (.map es clock) w := by simp [getObj, Sem.run, hm]
  have hf := findKey_run ht w ha es.toList l hk.ents hp
  have hc := fun b => check_ptr ht b w a
  unfold ptrV at hf hc
  unfold getA
  cases hx : findA l a 0 with
  | none =>
    rw [hx] at hf
    simp [Instr.lookup, run_underlying hT, hg, hc, hf, hz]
  | some x =>
    rw [hx] at hf
    simp [Instr.lookup, run_underlying hT, hg, hc, hf]
theorem findA_at : ∀ (l : List (Addr × Nat)) (a : Addr) (i : Nat) (x : Nat × Nat), findA l a i = some x → ∃ j, x.1 = i + j ∧ l[j]? = some (a, x.2) ∧ setA l a = fun v => l.set j (a, v) := by
  intro l
  induction l with
  | nil => intro a i x h; cases h
  | cons p r ih =>
    intro a i x h
    unfold findA at h
    by_cases hc : a = p.1
    · rw [if_pos hc] at h
      cases h
      refine ⟨0, rfl, by rw [hc]; rfl, ?_⟩
      funext v
      simp [setA, hc]
    · rw [if_neg hc] at h
      obtain ⟨j, h1, h2, h3⟩ := ih a (i + 1) x h
      refine ⟨j + 1, by omega, by simpa using h2, ?_⟩
      funext v
      have h4 := congrFun h3 v
      simp [setA, hc, h4]
theorem findA_no : ∀ (l : List (Addr × Nat)) (a : Addr) (i : Nat), findA l a i = none → a ∉ keysOf l ∧ ∀ v, setA l a v = l ++ [(a, v)] := by
  intro l
  induction l with
  | nil => intro a i _; exact ⟨by simp [keysOf], fun v => rfl⟩
  | cons p r ih =>
    intro a i h
    unfold findA at h
    by_cases hc : a = p.1
    · rw [if_pos hc] at h
      cases h
    · rw [if_neg hc] at h
      obtain ⟨h1, h2⟩ := ih a (i + 1) h
      refine ⟨?_, fun v => ?_⟩
      · simp only [keysOf, List.map_cons, List.mem_cons, not_or]
        exact ⟨hc, h1⟩
      · simp [setA, hc, h2 v]
theorem setA_keys (l : List (Addr × Nat)) (a : Addr) (v : Nat) : (a ∈ keysOf l ∧ keysOf (setA l a v) = keysOf l) ∨ (a ∉ keysOf l ∧ keysOf (setA l a v) = keysOf l ++ [a]) := by
  cases hx : findA l a 0 with
  | none =>
    obtain ⟨h1, h2⟩ := findA_no l a 0 hx
    refine .inr ⟨h1, ?_⟩
    rw [h2 v]
    simp [keysOf]
  | some x =>
    obtain ⟨j, h1, h2, h3⟩ := findA_at l a 0 x hx
    refine .inl ⟨?_, ?_⟩
    · exact List.mem_map.2 ⟨_, List.mem_of_getElem? h2, rfl⟩
    · rw [congrFun h3 v]
      unfold keysOf
      rw [List.map_set]
      apply List.ext_getElem?
      intro k
      rw [List.getElem?_set]
      by_cases hk : j = k
      · subst hk
        simp [h2]
        exact (List.getElem?_eq_some_iff.1 h2).1
      · simp [hk]
theorem setA_mem (l : List (Addr × Nat)) (a b : Addr) (v : Nat) : b ∈ keysOf (setA l a v) ↔ b ∈ keysOf l ∨ b = a := by
  rcases setA_keys l a v with ⟨h1, h2⟩ | ⟨h1, h2⟩
  · rw [h2]
    exact ⟨.inl, fun h => h.elim id fun e => e ▸ h1⟩
  · rw [h2]
    simp
theorem setA_nodup {l : List (Addr × Nat)} (h : (keysOf l).Nodup) (a : Addr) (v : Nat) : (keysOf (setA l a v)).Nodup := by
  rcases setA_keys l a v with ⟨h1, h2⟩ | ⟨h1, h2⟩
  · rw [h2]; exact h
  · rw [h2, List.nodup_append]
    exact ⟨h, by simp, fun x hx y hy e => by simp at hy; subst hy; exact h1 (e ▸ hx)⟩
/-- How often a pointer stands, put into a map. -/
theorem update_ptr {P : Program} {T t u : TypeId} (hT : P.underlying T = some (.map t u)) (ht : PtrTy P t) (w : World) {a : Addr} (v : Nat) {m : Nat} {es : Array MapEntry} {clock : Nat} {l : List (Addr × Nat)} (hm : w.heap[m]? = some (.map es clock)) (hk : EntsAre es clock l) (ha : PlainAt w a) (hp : ∀ b ∈ keysOf l, PlainAt w b) :
    ∃ es' c', (Instr.mapUpdate T (.map (some m)) (.pointer (some a)) (.int .i64 (v : Int))).run P w = .ok () (setBlock w m (.map es' c')) ∧ EntsAre es' c' (setA l a v) := by
  have hg : (getObj m).run P w = .ok (.map es clock) w := by simp [getObj, Sem.run, hm]
  have hf := findKey_run ht w ha es.toList l hk.ents hp
  have hc := fun b => check_ptr ht b w a
  unfold ptrV at hf hc
  have hset : ∀ o, (setObj m o).run P w = .ok () (setBlock w m o) := fun o => by simp [setObj, Sem.run, hm, setBlock]
  cases hx : findA l a 0 with
  | none =>
    rw [hx] at hf
    obtain ⟨h1, h2⟩ := findA_no l a 0 hx
    refine ⟨es.push ⟨ptrV a, .int .i64 (v : Int), clock⟩, clock + 1, ?_, ?_⟩
    · simp [Instr.mapUpdate, run_underlying hT, hg, hc, hf, hset, ptrV]
    · refine ⟨?_, setA_nodup hk.keys a v, ?_, ?_⟩
      · rw [h2 v, Array.toList_push, List.map_append, List.map_append, hk.ents]
        rfl
      · rw [Array.toList_push, List.map_append, List.nodup_append]
        refine ⟨hk.born, by simp, fun x hx y hy e => ?_⟩
        simp at hy
        obtain ⟨z, hz, hz2⟩ := List.mem_map.1 hx
        have := hk.old z hz
        omega
      · intro x hx
        rw [Array.toList_push, List.mem_append] at hx
        rcases hx with hx | hx
        · have := hk.old x hx
          omega
        · simp at hx
          rw [hx]
          show clock < clock + 1
          omega
  | some x =>
    rw [hx] at hf
    obtain ⟨j, h1, h2, h3⟩ := findA_at l a 0 x hx
    have hj1 : x.1 = j := by omega
    have hlen := hk.len
    have hjl : j < es.size := by
      have := (List.getElem?_eq_some_iff.1 h2).1
      omega
    have hkey : es[j]?.map (·.key) = some (ptrV a) := by
      have h4 := congrArg (fun q => q[j]?) hk.ents
      simp only [List.getElem?_map, h2, Option.map_some, Array.getElem?_toList] at h4
      rw [Array.getElem?_eq_getElem hjl] at h4 ⊢
      simp only [Option.map_some, Option.some.injEq, entV, Prod.mk.injEq] at h4 ⊢
      exact h4.1
    have hstay : (Instr.keyThatStays (ptrV a) (ptrV a)).run P w = .ok (ptrV a) w := by
      simp [Instr.keyThatStays, ptrV, Instr.sameBits]
    refine ⟨es.modify j fun e => { e with key := ptrV a, val := .int .i64 (v : Int) }, clock, ?_, ?_⟩
    · unfold ptrV at hkey hstay
      simp [Instr.mapUpdate, run_underlying hT, hg, hc, hf, hj1, hkey, hstay, hset, ptrV]
    · refine ⟨?_, setA_nodup hk.keys a v, ?_, ?_⟩
      · rw [congrFun h3 v]
        apply List.ext_getElem?
        intro k
        have h4 := congrArg (fun q => q[k]?) hk.ents
        simp only [List.getElem?_map, Array.getElem?_toList] at h4
        simp only [List.getElem?_map, Array.getElem?_toList, Array.getElem?_modify, List.getElem?_set]
        by_cases hjk : j = k
        · subst hjk
          have h5 : j < l.length := (List.getElem?_eq_some_iff.1 h2).1
          simp [h5, hjl, entV]
        · simp only [if_neg hjk]
          exact h4
      · have h6 : (es.modify j fun e => { e with key := ptrV a, val := .int .i64 (v : Int) }).toList.map (·.born) = es.toList.map (·.born) := by
          apply List.ext_getElem?
          intro k
          simp only [List.getElem?_map, Array.getElem?_toList, Array.getElem?_modify]
          by_cases hjk : j = k
          · subst hjk
            simp [hjl]
          · simp only [if_neg hjk]
        rw [h6]
        exact hk.born
      · intro y hy
        obtain ⟨k, hk1⟩ := List.mem_iff_getElem?.1 hy
        rw [Array.getElem?_toList, Array.getElem?_modify] at hk1
        by_cases hjk : j = k
        · subst hjk
          rw [if_pos rfl, Array.getElem?_eq_getElem hjl] at hk1
          simp at hk1
          rw [← hk1]
          exact hk.old es[j] (by simp)
        · rw [if_neg hjk] at hk1
          exact hk.old y (List.mem_of_getElem? (i := k) (by rw [Array.getElem?_toList]; exact hk1))
/-- The sum over all of them. -/
def wsum (f : Addr → Nat) (l : List (Addr × Nat)) : Nat := (l.map fun p => p.2 * f p.1).sum
theorem wsum_add (f : Addr → Nat) : ∀ (l : List (Addr × Nat)) (a : Addr) (n : Nat), wsum f (setA l a (getA l a + n)) = wsum f l + n * f a := by
  intro l a n
  have key : ∀ (l : List (Addr × Nat)) (i : Nat), wsum f (setA l a (((findA l a i).map Prod.snd).getD 0 + n)) = wsum f l + n * f a := by
    intro l
    induction l with
    | nil =>
      intro i
      simp [wsum, setA, findA]
    | cons p r ih =>
      intro i
      by_cases hc : a = p.1
      · subst hc
        simp [wsum, setA, findA, Nat.add_mul]
        omega
      · have h1 := ih (i + 1)
        simp only [wsum, setA, findA, hc, if_false, List.map_cons, List.sum_cons] at h1 ⊢
        omega
  exact key l 0
end Go.Proofs.Ytgeckgdmkjddpaa
namespace Go.Proofs.Ytgeckgdmkjddpaa.Vo
set_option linter.unusedVariables false
open Go.RowKit
open Go.ChangeMaps (setBlock heap_setBlock_same heap_setBlock_other)

set_option linter.unusedSectionVars false
section
variable {κ : Type} [DecidableEq κ]
/-- A map's entries, by their keys. -/
structure SetIs (kv : κ → Value) (es : Array MapEntry) (ks : List κ) : Prop where
  keys : es.toList.map (·.key) = ks.map kv
  vals : ∀ e ∈ es.toList, e.val = .agg #[]
def addK (ks : List κ) (k : κ) : List κ := if k ∈ ks then ks else ks ++ [k]
theorem mem_addK (ks : List κ) (k x : κ) : x ∈ addK ks k ↔ x ∈ ks ∨ x = k := by
  unfold addK
  split
  · rename_i h
    exact ⟨.inl, fun h' => h'.elim id fun e => e ▸ h⟩
  · simp
/-- How a key is found among a map's entries. -/
def Finds (P : Program) (t : TypeId) (w : World) (kv : κ → Value) (k : κ) (es : List MapEntry) (ks : List κ) : Prop :=
  (k ∉ ks ∧ (Instr.findKey t (kv k) es).run P w = .ok none w) ∨ (k ∈ ks ∧ ∃ j, j < es.length ∧ es[j]?.map (·.key) = some (kv k) ∧ (Instr.findKey t (kv k) es).run P w = .ok (some (j, .agg #[])) w)
theorem asks {P : Program} {t : TypeId} {w : World} {kv : κ → Value} {k : κ} : ∀ (es : List MapEntry) (ks : List κ) (i : Nat), es.map (·.key) = ks.map kv → (∀ e ∈ es, e.val = .agg #[]) → (∀ b ∈ ks, (Op.equal t (kv k) (kv b)).run P w = .ok (decide (k = b)) w) →
    (k ∉ ks ∧ (Instr.findAsking t (kv k) es i).run P w = .ok none w) ∨ (k ∈ ks ∧ ∃ j, j < es.length ∧ es[j]?.map (·.key) = some (kv k) ∧ (Instr.findAsking t (kv k) es i).run P w = .ok (some (i + j, .agg #[])) w) := by
  intro es
  induction es with
  | nil =>
    intro ks i hk _ _
    have : ks = [] := by
      simp at hk
      exact hk
    subst this
    exact .inl ⟨by simp, by simp [Instr.findAsking]⟩
  | cons e r ih =>
    intro ks i hk hv hq
    cases ks with
    | nil => simp at hk
    | cons b ls =>
      simp only [List.map_cons, List.cons.injEq] at hk
      have h1 := hq b (by simp)
      have hval := hv e (by simp)
      by_cases hc : k = b
      · subst hc
        simp only [decide_true] at h1
        refine .inr ⟨by simp, 0, by simp, by simp [hk.1], ?_⟩
        simp [Instr.findAsking, hk.1, h1, hval]
      · rw [decide_eq_false hc] at h1
        have hstep : (Instr.findAsking t (kv k) (e :: r) i).run P w = (Instr.findAsking t (kv k) r (i + 1)).run P w := by
          simp [Instr.findAsking, hk.1, h1]
        rw [hstep]
        rcases ih ls (i + 1) hk.2 (fun e he => hv e (by simp [he])) (fun b hb => hq b (by simp [hb])) with ⟨h2, h3⟩ | ⟨h2, j, h3, h4, h5⟩
        · exact .inl ⟨by simp [hc, h2], h3⟩
        · exact .inr ⟨by simp [h2], j + 1, by simp; omega, by simpa using h4, by rw [h5]; simp; omega⟩
/-- A set in memory. -/
def SetAt (w : World) (m : Nat) (kv : κ → Value) (ks : List κ) : Prop := ∃ es c, w.heap[m]? = some (.map es c) ∧ SetIs kv es ks
theorem SetAt.lt {w : World} {m : Nat} {kv : κ → Value} {ks : List κ} (h : SetAt w m kv ks) : m < w.heap.size := by
  obtain ⟨es, c, h1, -⟩ := h
  exact (Array.getElem?_eq_some_iff.1 h1).1
theorem SetAt.keep {w w' : World} {m : Nat} {kv : κ → Value} {ks : List κ} (h : SetAt w m kv ks) (hb : w'.heap[m]? = w.heap[m]?) : SetAt w' m kv ks := by
  obtain ⟨es, c, h1, h2⟩ := h
  exact ⟨es, c, hb.trans h1, h2⟩
theorem look_set {P : Program} {T t u : TypeId} (hT : P.underlying T = some (.map t u)) (hz : ∀ w, (zeroValue u).run P w = .ok (.agg #[]) w) {w : World} {kv : κ → Value} {k : κ} (hc : ∀ b, (Instr.checkKey b 10000 t (kv k)).run P w = .ok () w) {m : Nat} {es : Array MapEntry} {c : Nat} {ks : List κ} (hm : w.heap[m]? = some (.map es c)) (hf : Finds P t w kv k es.toList ks) :
    (Instr.lookup T (.map (some m)) (kv k) true).run P w = .ok (.tuple #[.agg #[], .bool (decide (k ∈ ks))]) w := by
  have hg : (getObj m).run P w = .ok (.map es c) w := by simp [getObj, Sem.run, hm]
  rcases hf with ⟨h1, h2⟩ | ⟨h1, j, -, -, h2⟩
  · simp [Instr.lookup, run_underlying hT, hg, hc, h2, hz, h1]
  · simp [Instr.lookup, run_underlying hT, hg, hc, h2, h1]
theorem put_set {P : Program} {T t u : TypeId} (hT : P.underlying T = some (.map t u)) {w : World} {kv : κ → Value} {k : κ} (hc : ∀ b, (Instr.checkKey b 10000 t (kv k)).run P w = .ok () w) (hst : (Instr.keyThatStays (kv k) (kv k)).run P w = .ok (kv k) w) {m : Nat} {es : Array MapEntry} {c : Nat} {ks : List κ} (hm : w.heap[m]? = some (.map es c)) (hs : SetIs kv es ks) (hf : Finds P t w kv k es.toList ks) :
    ∃ es' c', (Instr.mapUpdate T (.map (some m)) (kv k) (.agg #[])).run P w = .ok () (setBlock w m (.map es' c')) ∧ SetIs kv es' (addK ks k) := by
  have hg : (getObj m).run P w = .ok (.map es c) w := by simp [getObj, Sem.run, hm]
  have hset : ∀ o, (setObj m o).run P w = .ok () (setBlock w m o) := fun o => by simp [setObj, Sem.run, hm, setBlock]
  rcases hf with ⟨h1, h2⟩ | ⟨h1, j, hj, hkey, h2⟩
  · refine ⟨es.push ⟨kv k, .agg #[], c⟩, c + 1, by simp [Instr.mapUpdate, run_underlying hT, hg, hc, h2, hset], ?_⟩
    unfold addK
    rw [if_neg h1]
    refine ⟨?_, ?_⟩
    · rw [Array.toList_push, List.map_append, List.map_append, hs.keys]
      rfl
    · intro e he
      rw [Array.toList_push, List.mem_append] at he
      rcases he with he | he
      · exact hs.vals e he
      · simp at he
        rw [he]
  · unfold addK
    rw [if_pos h1]
    have hjs : j < es.size := by simpa using hj
    have hkey' : es[j]?.map (·.key) = some (kv k) := by rw [← Array.getElem?_toList]; exact hkey
    refine ⟨es.modify j fun e => { e with key := kv k, val := .agg #[] }, c, by simp [Instr.mapUpdate, run_underlying hT, hg, hc, h2, hkey', hst, hset], ?_, ?_⟩
    · rw [← hs.keys]
      apply List.ext_getElem?
      intro i
      simp only [List.getElem?_map, Array.getElem?_toList, Array.getElem?_modify]
      by_cases hij : j = i
      · subst hij
        rw [if_pos rfl, hkey', Array.getElem?_eq_getElem hjs]
        rfl
      · rw [if_neg hij]
    · intro e he
      obtain ⟨i, hi⟩ := List.mem_iff_getElem?.1 he
      rw [Array.getElem?_toList, Array.getElem?_modify] at hi
      by_cases hij : j = i
      · subst hij
        rw [if_pos rfl, Array.getElem?_eq_getElem hjs] at hi
        simp at hi
        rw [← hi]
      · rw [if_neg hij] at hi
        exact hs.vals e (List.mem_of_getElem? (i := i) (by rw [Array.getElem?_toList]; exact hi))
end
theorem finds_ptr {P : Program} {t : TypeId} (ht : PtrTy P t) {w : World} {a : Addr} (ha : PlainAt w a) {es : Array MapEntry} {ks : List Addr} (hs : SetIs ptrV es ks) (hp : ∀ b ∈ ks, PlainAt w b) : Finds P t w ptrV a es.toList ks := by
  have key := asks (P := P) (t := t) (w := w) (kv := ptrV) (k := a) es.toList ks 0 hs.keys hs.vals fun b hb => by
    rw [eqKey ht w ha (hp b hb)]
    congr 1
  obtain ⟨te, j, hu, -⟩ := ht
  cases hes : es.toList with
  | nil =>
    have hk := hs.keys
    rw [hes] at hk
    have : ks = [] := by
      simp at hk
      exact hk
    subst this
    exact .inl ⟨by simp, by simp [Instr.findKey, run_underlying hu, Instr.findNow]⟩
  | cons e r =>
    rw [hes] at key
    have hn : Instr.findNow (.pointer te) (ptrV a) (e :: r) 0 = none := by simp [Instr.findNow, Instr.sameNow]
    have hstep : (Instr.findKey t (ptrV a) (e :: r)).run P w = (Instr.findAsking t (ptrV a) (e :: r) 0).run P w := by
      simp [Instr.findKey, run_underlying hu, hn]
    rcases key with ⟨h1, h2⟩ | ⟨h1, j, h2, h3, h4⟩
    · exact .inl ⟨h1, hstep.trans h2⟩
    · exact .inr ⟨h1, j, h2, h3, by rw [hstep, h4]; simp⟩
def intV (n : Int) : Value := .int .i64 n
theorem finds_int {P : Program} {t : TypeId} {q : IntKind} (ht : P.underlying t = some (.int q)) {w : World} {n : Int} : ∀ (es : List MapEntry) (ks : List Int) (i : Nat), es.map (·.key) = ks.map intV → (∀ e ∈ es, e.val = .agg #[]) →
    (n ∉ ks ∧ Instr.findNow (.int q) (intV n) es i = some none) ∨ (n ∈ ks ∧ ∃ j, j < es.length ∧ es[j]?.map (·.key) = some (intV n) ∧ Instr.findNow (.int q) (intV n) es i = some (some (i + j, .agg #[]))) := by
  intro es
  induction es with
  | nil =>
    intro ks i hk _
    have : ks = [] := by
      simp at hk
      exact hk
    subst this
    exact .inl ⟨by simp, rfl⟩
  | cons e r ih =>
    intro ks i hk hv
    cases ks with
    | nil => simp at hk
    | cons b ls =>
      simp only [List.map_cons, List.cons.injEq] at hk
      have hval := hv e (by simp)
      by_cases hc : n = b
      · subst hc
        refine .inr ⟨by simp, 0, by simp, by simp [hk.1], ?_⟩
        simp [Instr.findNow, hk.1, intV, Instr.sameNow, hval]
      · have hstep : Instr.findNow (.int q) (intV n) (e :: r) i = Instr.findNow (.int q) (intV n) r (i + 1) := by
          have hb : (n == b) = false := by simp [hc]
          simp only [Instr.findNow, hk.1, intV, Instr.sameNow, hb, if_true]
        rw [hstep]
        rcases ih ls (i + 1) hk.2 (fun e he => hv e (by simp [he])) with ⟨h2, h3⟩ | ⟨h2, j, h3, h4, h5⟩
        · exact .inl ⟨by simp [hc, h2], h3⟩
        · exact .inr ⟨by simp [h2], j + 1, by simp; omega, by simpa using h4, by rw [h5]; simp; omega⟩
theorem finds_n {P : Program} {t : TypeId} {q : IntKind} (ht : P.underlying t = some (.int q)) {w : World} {n : Int} {es : Array MapEntry} {ks : List Int} (hs : SetIs intV es ks) : Finds P t w intV n es.toList ks := by
  rcases finds_int (w := w) (n := n) ht es.toList ks 0 hs.keys hs.vals with ⟨h1, h2⟩ | ⟨h1, j, h2, h3, h4⟩
  · exact .inl ⟨h1, by simp [Instr.findKey, run_underlying ht, h2]⟩
  · exact .inr ⟨h1, j, h2, h3, by simp [Instr.findKey, run_underlying ht, h4]⟩
end Go.Proofs.Ytgeckgdmkjddpaa.Vo
namespace Go.Proofs.Ytgeckgdmkjddpaa.Br
open Go.ChangeShapes Go.WideShapes Go.ChangeAt Go.RowKit

/-- Whether no definition anywhere has names ahead or something behind. -/
structure Ibs where
  ex : Tr → Bool
  de : Tr → Bool
  al : Tr → Bool
def ibs : Nat → Ibs
  | 0 => ⟨fun _ => true, fun _ => true, fun _ => true⟩
  | h + 1 => ⟨fun e => e.l.all (ibs h).ex && (e.al.all (ibs h).al && e.ds.all (ibs h).de), fun d => d.ss.isEmpty && (d.ds.isEmpty && d.l.all (ibs h).ex), fun a => a.l.all (ibs h).ex⟩
theorem all_take {α : Type} (f : α → Bool) (xs : List α) (i : Nat) (x : α) (hx : xs[i]? = some x) : (xs.take (i + 1)).all f = ((xs.take i).all f && f x) := by
  rw [List.take_add_one, hx]
  simp
theorem all_no {α : Type} {f : α → Bool} {xs : List α} {i : Nat} {x : α} (hx : xs[i]? = some x) (h : f x = false) : xs.all f = false := by
  rw [List.all_eq_false]
  exact ⟨x, List.mem_of_getElem? hx, by rw [h]; simp⟩
end Go.Proofs.Ytgeckgdmkjddpaa.Br
namespace Go.Proofs.Ytgeckgdmkjddpaa.Br
open Go.ChangeShapes Go.WideShapes Go.ChangeAt Go.RowKit

end Go.Proofs.Ytgeckgdmkjddpaa.Br
namespace Go.Proofs.Ytgeckgdmkjddpaa.Br
open Go.ChangeShapes Go.WideShapes Go.ChangeAt Go.RowKit
set_option linter.unusedVariables false

/-- A list by its kind (expressions, definitions, alternatives), where it is, how long, and with which room. -/
structure Ls where
  i : Nat
  o : Option Addr
  n : Nat
  c : Nat
def szI (i : Nat) : Nat := if i = 0 then 6 else if i = 1 then 9 else 8
def rdI (K : Nat → Prop) (w : World) (h i : Nat) : Tr → List Value → Prop := if i = 0 then (reads K w h).ex else if i = 1 then (reads K w h).de else (reads K w h).al
def ibI (h i : Nat) : Tr → Bool := if i = 0 then (ibs h).ex else if i = 1 then (ibs h).de else (ibs h).al
def wtI (h i : Nat) : Tr → Nat := if i = 0 then (wts h).ex else if i = 1 then (wts h).de else (wts h).al
/-- The list whose slice lies at a place. -/
def slAt (w : World) (b p i : Nat) : List Ls := match w.cell? ⟨b, p, none⟩ with
  | some (.slice o n c) => if n = 0 then [] else [⟨i, o, n, c⟩]
  | _ => []
def kE (w : World) (b p : Nat) : List Ls := slAt w b (p + 3) 0 ++ slAt w b (p + 4) 1 ++ slAt w b (p + 5) 2
def kOne (w : World) (i b p : Nat) : List Ls := if i = 0 then kE w b p else if i = 1 then kE w b (p + 2) ++ slAt w b (p + 8) 1 else kE w b (p + 2)
/-- The lists that lie in a list. -/
def kids (w : World) (x : Ls) : List Ls := match x.o with
  | some a => (List.range x.n).flatMap fun j => kOne w x.i a.block (a.off + j * szI x.i)
  | none => []
def lenAt (w : World) (b p : Nat) : Nat := match w.cell? ⟨b, p, none⟩ with
  | some (.slice _ n _) => n
  | _ => 0
/-- A definition with Pars or with a Where stands in it. -/
def bad (w : World) (x : Ls) : Prop := x.i = 1 ∧ ∃ a, x.o = some a ∧ ∃ j, j < x.n ∧ (lenAt w a.block (a.off + j * 9 + 1) ≠ 0 ∨ lenAt w a.block (a.off + j * 9 + 8) ≠ 0)
def Bad (w : World) (x : Ls) : Prop := ∀ P : Ls → Prop, (∀ x, bad w x → P x) → (∀ x y, y ∈ kids w x → P y → P x) → P x
theorem Bad.here {w : World} (x : Ls) (h : bad w x) : Bad w x := fun _ h1 _ => h1 x h
theorem Bad.kid {w : World} (x y : Ls) (hy : y ∈ kids w x) (h : Bad w y) : Bad w x := fun P h1 h2 => h2 x y hy (h P h1 h2)
theorem Bad.inv {w : World} {x : Ls} (h : Bad w x) : bad w x ∨ ∃ y, y ∈ kids w x ∧ Bad w y :=
  (h (fun x => Bad w x ∧ (bad w x ∨ ∃ y, y ∈ kids w x ∧ Bad w y)) (fun x hx => ⟨.here x hx, .inl hx⟩) (fun x y hy hp => ⟨.kid x y hy hp.1, .inr ⟨y, hy, hp.1⟩⟩)).2
/-- In a list of this place stand these trees. -/
def Rd (K : Nat → Prop) (w : World) (h : Nat) (x : Ls) (xs : List Tr) : Prop := x.i < 3 ∧ xs ≠ [] ∧ x.n = xs.length ∧ Fits xs.length x.c ∧ RowOf K w (rdI K w h x.i) (szI x.i) x.o xs
/-- What is left, and how much it weighs at most. -/
def WtL (K : Nat → Prop) (w : World) : List Ls → Nat → Prop
  | [], _ => True
  | x :: l, n => ∃ h xs m, Rd K w h x xs ∧ lw (wtI h x.i) xs + m ≤ n ∧ WtL K w l m
section
variable {K : Nat → Prop} {w : World}
theorem WtL.mono {l : List Ls} {n m : Nat} (h : WtL K w l n) (hn : n ≤ m) : WtL K w l m := by
  cases l with
  | nil => trivial
  | cons p l =>
    obtain ⟨a, t, k, h1, h2, h3⟩ := h
    exact ⟨a, t, k, h1, by omega, h3⟩
theorem WtL.join {l r : List Ls} {n m : Nat} (h : WtL K w l n) (k : WtL K w r m) : WtL K w (l ++ r) (n + m) := by
  induction l generalizing n with
  | nil => exact k.mono (by omega)
  | cons p l ih =>
    obtain ⟨a, t, q, h1, h2, h3⟩ := h
    exact ⟨a, t, q + m, h1, by omega, ih h3⟩
theorem WtL.split {l r : List Ls} {n : Nat} (h : WtL K w (l ++ r) n) : ∃ a b, WtL K w l a ∧ WtL K w r b ∧ a + b ≤ n := by
  induction l generalizing n with
  | nil => exact ⟨0, n, trivial, h, by omega⟩
  | cons p l ih =>
    obtain ⟨a, t, q, h1, h2, h3⟩ := h
    obtain ⟨x, y, e1, e2, e3⟩ := ih h3
    exact ⟨lw (wtI a p.i) t + x, y, ⟨a, t, x, h1, Nat.le_refl _, e1⟩, e2, by omega⟩
theorem lw_pos {f : Tr → Nat} {xs : List Tr} (h : xs ≠ []) : 1 ≤ lw f xs := by
  cases xs with
  | nil => exact absurd rfl h
  | cons x r => unfold lw; simp; omega
theorem WtL.len {l : List Ls} {n : Nat} (h : WtL K w l n) : l.length ≤ n := by
  induction l generalizing n with
  | nil => exact Nat.zero_le _
  | cons p l ih =>
    obtain ⟨a, t, q, h1, h2, h3⟩ := h
    have h4 := ih h3
    have h5 := lw_pos (f := wtI a p.i) h1.2.1
    rw [List.length_cons]
    omega
theorem WtL.all {l : List Ls} {n : Nat} (h : WtL K w l n) : ∀ x ∈ l, ∃ h xs, Rd K w h x xs ∧ lw (wtI h x.i) xs ≤ n := by
  induction l generalizing n with
  | nil => intro x hx; cases hx
  | cons p l ih =>
    obtain ⟨a, t, q, h1, h2, h3⟩ := h
    intro x hx
    rcases List.mem_cons.1 hx with rfl | hx
    · exact ⟨a, t, h1, by omega⟩
    · obtain ⟨h', xs, h4, h5⟩ := ih h3 x hx
      exact ⟨h', xs, h4, by omega⟩
/-- What holds of one list that lies somewhere. -/
theorem one_facts {h i b p : Nat} {o : Option Addr} {c : Nat} {l : List Tr} (hi : i < 3) (hc : w.cell? ⟨b, p, none⟩ = some (.slice o l.length c)) (hf : Fits l.length c) (hr : RowOf K w (rdI K w h i) (szI i) o l) :
    ((∀ y ys, Rd K w h y ys → (ys.all (ibI h y.i) = true ↔ ¬ Bad w y)) → ((∀ y ∈ slAt w b p i, ¬ Bad w y) ↔ l.all (ibI h i) = true)) ∧ WtL K w (slAt w b p i) (lw (wtI h i) l) ∧ lenAt w b p = l.length := by
  unfold slAt lenAt
  rw [hc]
  simp only
  by_cases hl : l.length = 0
  · have e : l = [] := List.length_eq_zero_iff.1 hl
    rw [if_pos hl]
    subst e
    exact ⟨fun _ => ⟨fun _ => rfl, fun _ y hy => by cases hy⟩, trivial, by simp⟩
  · rw [if_neg hl]
    have hrd : Rd K w h ⟨i, o, l.length, c⟩ l := ⟨hi, fun e => hl (by rw [e]; rfl), rfl, hf, hr⟩
    refine ⟨fun ih => ?_, ⟨h, l, 0, hrd, Nat.le_refl _, trivial⟩, trivial⟩
    have := ih _ _ hrd
    constructor
    · exact fun hy => this.2 (hy _ (by simp))
    · intro ha y hy
      rw [List.mem_singleton] at hy
      subst hy
      exact this.1 ha
theorem kE_facts {h b p : Nat} {e : Tr} {ce : List Value} (hc : ∀ j u, ce[j]? = some u → w.cell? ⟨b, p + j, none⟩ = some u) (hr : (reads K w (h + 1)).ex e ce) :
    ((∀ y ys, Rd K w h y ys → (ys.all (ibI h y.i) = true ↔ ¬ Bad w y)) → ((∀ y ∈ kE w b p, ¬ Bad w y) ↔ (ibs (h + 1)).ex e = true)) ∧ WtL K w (kE w b p) ((wts (h + 1)).ex e) := by
  obtain ⟨-, o1, c1, o2, c2, o3, c3, rfl, -, f1, f2, f3, r1, r2, r3⟩ := hr
  obtain ⟨a1, a2, -⟩ := one_facts (h := h) (i := 0) (b := b) (p := p + 3) (by omega) (hc 3 _ rfl) f1 r1
  obtain ⟨b1, b2, -⟩ := one_facts (h := h) (i := 1) (b := b) (p := p + 4) (by omega) (hc 4 _ rfl) f2 r2
  obtain ⟨d1, d2, -⟩ := one_facts (h := h) (i := 2) (b := b) (p := p + 5) (by omega) (hc 5 _ rfl) f3 r3
  refine ⟨fun ih => ?_, ?_⟩
  · have x1 := a1 ih
    have x2 := b1 ih
    have x3 := d1 ih
    show _ ↔ (e.l.all (ibs h).ex && (e.al.all (ibs h).al && e.ds.all (ibs h).de)) = true
    rw [Bool.and_eq_true, Bool.and_eq_true]
    unfold kE
    constructor
    · intro hy
      exact ⟨x1.1 fun y h => hy y (by simp [h]), x3.1 fun y h => hy y (by simp [h]), x2.1 fun y h => hy y (by simp [h])⟩
    · rintro ⟨y1, y3, y2⟩ y hy
      rw [List.mem_append, List.mem_append] at hy
      rcases hy with (hy | hy) | hy
      · exact x1.2 y1 y hy
      · exact x2.2 y2 y hy
      · exact x3.2 y3 y hy
  · unfold kE
    refine ((a2.join b2).join d2).mono ?_
    show lw (wts h).ex e.l + lw (wts h).de e.ds + lw (wts h).al e.al ≤ e.s.size + lw (wts h).ex e.l + lw (wts h).de e.ds + lw (wts h).al e.al
    omega
/-- What is known of one element of a list. -/
theorem kOne_facts {h i b p : Nat} {t : Tr} {cs : List Value} (hi : i < 3) (hc : ∀ j u, cs[j]? = some u → w.cell? ⟨b, p + j, none⟩ = some u) (hr : rdI K w h i t cs) :
    ((∀ h', h' < h → ∀ y ys, Rd K w h' y ys → (ys.all (ibI h' y.i) = true ↔ ¬ Bad w y)) →
      (((∀ y ∈ kOne w i b p, ¬ Bad w y) ∧ (i = 1 → lenAt w b (p + 1) = 0 ∧ lenAt w b (p + 8) = 0)) ↔ ibI h i t = true)) ∧ WtL K w (kOne w i b p) (wtI h i t) := by
  have hcases : i = 0 ∨ i = 1 ∨ i = 2 := by omega
  rcases hcases with rfl | rfl | rfl
  · cases h with
    | zero => exact hr.elim
    | succ h =>
      obtain ⟨x1, x2⟩ := kE_facts hc hr
      refine ⟨fun ih => ?_, x2⟩
      rw [← show ((∀ y ∈ kE w b p, ¬ Bad w y) ↔ ibI (h + 1) 0 t = true) from x1 (ih h (by omega))]
      exact ⟨fun q => q.1, fun q => ⟨q, fun e => by omega⟩⟩
  · cases h with
    | zero => exact hr.elim
    | succ h =>
      obtain ⟨-, -, -, e, o1, c1, ce, o2, c2, hl, rfl, -, f1, f2, -, lce, rce, r2⟩ := hr
      have hce : ∀ j u, ce[j]? = some u → w.cell? ⟨b, (p + 2) + j, none⟩ = some u := by
        intro j u hj
        have hj2 : j < ce.length := (List.getElem?_eq_some_iff.1 hj).1
        have h9 := hc (2 + j) u (by
          rw [List.getElem?_append_left (by simp; omega), List.getElem?_append_right (by simp)]
          simpa using hj)
        rw [show p + 2 + j = p + (2 + j) by omega]
        exact h9
      have hw8 := hc 8 (.slice o2 t.ds.length c2) (by
        rw [List.getElem?_append_right (by simp [lce])]
        simp [lce])
      have hw1 := hc 1 (.slice o1 t.ss.length c1) rfl
      obtain ⟨d1, d2, d3⟩ := one_facts (h := h) (i := 1) (b := b) (p := p + 8) (by omega) hw8 f2 r2
      have l1 : lenAt w b (p + 1) = t.ss.length := by unfold lenAt; rw [hw1]
      cases h with
      | zero => exact rce.elim
      | succ h =>
        obtain ⟨x1, x2⟩ := kE_facts hce rce
        refine ⟨fun ih => ?_, ?_⟩
        · have y1 := x1 (ih h (by omega))
          show _ ↔ (t.ss.isEmpty && (t.ds.isEmpty && t.l.all (ibs (h + 1)).ex)) = true
          rw [Bool.and_eq_true, Bool.and_eq_true, List.isEmpty_iff, List.isEmpty_iff, hl]
          simp only [List.all_cons, List.all_nil, Bool.and_true]
          rw [l1, d3, ← y1]
          constructor
          · rintro ⟨q1, q2⟩
            obtain ⟨q3, q4⟩ := q2 (by simp)
            exact ⟨List.length_eq_zero_iff.1 q3, List.length_eq_zero_iff.1 q4, fun y hy => q1 y (by show y ∈ kE w b (p + 2) ++ slAt w b (p + 8) 1; simp [hy])⟩
          · rintro ⟨q3, q4, q5⟩
            refine ⟨fun y hy => ?_, fun _ => ⟨by rw [q3]; rfl, by rw [q4]; rfl⟩⟩
            have hy2 : y ∈ kE w b (p + 2) ++ slAt w b (p + 8) 1 := hy
            rw [List.mem_append] at hy2
            rcases hy2 with hy2 | hy2
            · exact q5 y hy2
            · unfold slAt at hy2
              rw [hw8, q4] at hy2
              simp at hy2
        · show WtL K w (kE w b (p + 2) ++ slAt w b (p + 8) 1) _
          refine (x2.join d2).mono ?_
          show (wts (h + 1)).ex e + lw (wts (h + 1)).de t.ds ≤ t.s.size + sw t.ss + (t.l.map (wts (h + 1)).ex).sum + lw (wts (h + 1)).de t.ds
          rw [hl]
          simp only [List.map_cons, List.map_nil, List.sum_cons, List.sum_nil]
          omega
  · cases h with
    | zero => exact hr.elim
    | succ h =>
      obtain ⟨-, -, -, -, e, o1, c1, ce, hl, rfl, -, f1, -, lce, rce⟩ := hr
      have hce : ∀ j u, ce[j]? = some u → w.cell? ⟨b, (p + 2) + j, none⟩ = some u := by
        intro j u hj
        have h9 := hc (2 + j) u (by
          rw [List.getElem?_append_right (by simp)]
          simpa using hj)
        rw [show p + 2 + j = p + (2 + j) by omega]
        exact h9
      cases h with
      | zero => exact rce.elim
      | succ h =>
        obtain ⟨x1, x2⟩ := kE_facts hce rce
        refine ⟨fun ih => ?_, ?_⟩
        · have y1 := x1 (ih h (by omega))
          show _ ↔ (t.l.all (ibs (h + 1)).ex) = true
          rw [hl]
          simp only [List.all_cons, List.all_nil, Bool.and_true]
          rw [← y1]
          exact ⟨fun q => q.1, fun q => ⟨q, fun e => by omega⟩⟩
        · show WtL K w (kE w b (p + 2)) _
          refine x2.mono ?_
          show (wts (h + 1)).ex e ≤ t.s.size + sw t.ss + (t.l.map (wts (h + 1)).ex).sum
          rw [hl]
          simp only [List.map_cons, List.map_nil, List.sum_cons, List.sum_nil]
          omega
theorem Rd.at {h : Nat} {x : Ls} {xs : List Tr} (hr : Rd K w h x xs) : ∃ b off, x.o = some ⟨b, off, none⟩ ∧ K b ∧ b < w.heap.size ∧ ∀ j t, xs[j]? = some t → ∃ cs, cs.length = szI x.i ∧ (∀ q u, cs[q]? = some u → w.cell? ⟨b, off + j * szI x.i + q, none⟩ = some u) ∧ rdI K w h x.i t cs := by
  obtain ⟨h1, h2, h3, h4, h5⟩ := hr
  obtain ⟨b, off, e1, e2, e3, e4⟩ := h5 h2
  exact ⟨b, off, e1, e2, e3, e4⟩
/-- What lies in a list weighs less than the list. -/
theorem Rd.kids {h : Nat} {x : Ls} {xs : List Tr} (hr : Rd K w h x xs) : WtL K w (kids w x) (xs.map (wtI h x.i)).sum ∧ (xs.map (wtI h x.i)).sum + 1 ≤ lw (wtI h x.i) xs := by
  have hx := hr
  obtain ⟨b, off, e1, -, -, e4⟩ := hr.at
  refine ⟨?_, by have h1 := List.length_pos_iff.2 hx.2.1; unfold lw; omega⟩
  unfold Br.kids
  rw [e1, hx.2.2.1]
  simp only
  have key : ∀ n, n ≤ xs.length → WtL K w ((List.range n).flatMap fun j => kOne w x.i b (off + j * szI x.i)) ((xs.take n).map (wtI h x.i)).sum := by
    intro n
    induction n with
    | zero => intro _; trivial
    | succ n ih =>
      intro hn
      have h1 : xs[n]? = some xs[n] := List.getElem?_eq_getElem (by omega)
      obtain ⟨cs, -, c1, c2⟩ := e4 n _ h1
      rw [List.range_succ, List.flatMap_append, List.take_add_one, h1, List.map_append, List.sum_append]
      refine (ih (by omega)).join ?_
      simp only [List.flatMap_cons, List.flatMap_nil, List.append_nil, Option.toList_some, List.map_cons, List.map_nil, List.sum_cons, List.sum_nil, Nat.add_zero]
      exact (kOne_facts hx.1 c1 c2).2
  have h2 := key xs.length (Nat.le_refl _)
  rw [List.take_length] at h2
  exact h2
/-- What stands in a list is bare just if nothing of it is bad. -/
theorem rd_bad : ∀ (h : Nat) (x : Ls) (xs : List Tr), Rd K w h x xs → (xs.all (ibI h x.i) = true ↔ ¬ Bad w x) := by
  intro h
  induction h using Nat.strongRecOn with
  | ind h ih =>
    intro x xs hr
    have hx := hr
    obtain ⟨b, off, e1, -, -, e4⟩ := hr.at
    have each : ∀ (j : Nat) (t : Tr), xs[j]? = some t → (((∀ y ∈ kOne w x.i b (off + j * szI x.i), ¬ Bad w y) ∧ (x.i = 1 → lenAt w b (off + j * szI x.i + 1) = 0 ∧ lenAt w b (off + j * szI x.i + 8) = 0)) ↔ ibI h x.i t = true) := by
      intro j t ht
      obtain ⟨cs, -, c1, c2⟩ := e4 j t ht
      exact (kOne_facts hx.1 c1 c2).1 ih
    have hk : ∀ y, y ∈ kids w x ↔ ∃ j, j < xs.length ∧ y ∈ kOne w x.i b (off + j * szI x.i) := by
      intro y
      unfold Br.kids
      rw [e1, hx.2.2.1]
      simp [List.mem_flatMap]
    rw [List.all_eq_true]
    constructor
    · intro hall hb
      rcases hb.inv with hb | ⟨y, hy, hb⟩
      · obtain ⟨b1, a, ea, j, hj, hl⟩ := hb
        rw [e1] at ea
        cases ea
        rw [hx.2.2.1] at hj
        have h1 := (each j _ (List.getElem?_eq_getElem hj)).2 (hall _ (List.getElem_mem hj))
        have h2 := h1.2 b1
        have hs : szI x.i = 9 := by rw [b1]; rfl
        rw [hs] at h2
        rcases hl with hl | hl
        · exact hl h2.1
        · exact hl h2.2
      · obtain ⟨j, hj, hy2⟩ := (hk y).1 hy
        exact ((each j _ (List.getElem?_eq_getElem hj)).2 (hall _ (List.getElem_mem hj))).1 y hy2 hb
    · intro hb t ht
      obtain ⟨j, hj⟩ := List.mem_iff_getElem?.1 ht
      have hj2 : j < xs.length := (List.getElem?_eq_some_iff.1 hj).1
      refine (each j t hj).1 ⟨fun y hy hby => hb (.kid x y ((hk y).2 ⟨j, hj2, hy⟩) hby), fun e => ?_⟩
      have hs : szI x.i = 9 := by rw [e]; rfl
      rw [hs]
      refine ⟨Classical.byContradiction fun hl => hb (.here x ⟨e, _, e1, j, by rw [hx.2.2.1]; exact hj2, .inl hl⟩), Classical.byContradiction fun hl => hb (.here x ⟨e, _, e1, j, by rw [hx.2.2.1]; exact hj2, .inr hl⟩)⟩
end
/-- Two lists of one kind at one place. -/
def key (x : Ls) : Nat × Option Addr × Nat := (x.i, x.o, x.n)
theorem kids_key {w : World} {x y : Ls} (h : key x = key y) : kids w x = kids w y := by
  unfold key at h
  simp only [Prod.mk.injEq] at h
  unfold kids
  rw [h.1, h.2.1, h.2.2]
theorem bad_key {w : World} {x y : Ls} (h : key x = key y) (hb : bad w x) : bad w y := by
  unfold key at h
  simp only [Prod.mk.injEq] at h
  unfold bad at hb ⊢
  rw [← h.1, ← h.2.1, ← h.2.2]
  exact hb
/-- Lists none of which is bad, and with each all that lie in it: nothing of them is bad. -/
theorem closed_fine {w : World} {ys : List Ls} (hn : ∀ x ∈ ys, ¬ bad w x) (hc : ∀ x ∈ ys, ∀ y ∈ kids w x, ∃ z ∈ ys, key z = key y) : ∀ x, Bad w x → ∀ z ∈ ys, key z = key x → False := by
  intro x hb
  refine hb (fun x => ∀ z ∈ ys, key z = key x → False) (fun x hb z hz e => hn z hz (bad_key e.symm hb)) fun x y hy ih z hz e => ?_
  rw [← kids_key e] at hy
  obtain ⟨v, hv, ev⟩ := hc z hz y hy
  exact ih v hv ev
end Go.Proofs.Ytgeckgdmkjddpaa.Br
