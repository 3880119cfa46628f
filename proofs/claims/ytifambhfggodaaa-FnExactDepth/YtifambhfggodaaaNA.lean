/- Maps of counts whose keys are pointers. -/
import Derived.Test.YtifambhfggodaaaMA
import Derived.Maps.RangeRun
namespace Go.Proofs.Ytifambhfggodaaa
open Go.RowKit
open Go.ChangeMaps (setBlock heap_setBlock_same heap_setBlock_other)

/-- A type of pointers to what is not of size 0. -/
def PtrTy (P : Program) (t : TypeId) : Prop := ∃ te j, P.underlying t = some (.pointer te) ∧ P.info? te = some j ∧ j.size ≠ 0
def ptrV (a : Addr) : Value := .pointer (some a)
theorem eqKey {P : Program} {t : TypeId} (ht : PtrTy P t) (w : World) {a b : Addr} (ha : PlainAt w a) (hb : PlainAt w b) : (Op.equal t (ptrV a) (ptrV b)).run P w = .ok (a == b) w := by
  obtain ⟨te, j, hp, hj, hs⟩ := ht
  unfold Op.equal Op.maxDepth ptrV
  rw [show (10000 : Nat) = 9999 + 1 from rfl]
  exact eqPtr w 9999 hp hj hs ha hb
def entV (p : Addr × Nat) : Value × Value := (ptrV p.1, .int .i64 (p.2 : Int))
def keysOf (l : List (Addr × Nat)) : List Addr := l.map Prod.fst
/-- A map's entries: pointers, and how often each stands. -/
structure EntsAre (es : Array MapEntry) (clock : Nat) (l : List (Addr × Nat)) : Prop where
  ents : es.toList.map (fun e => (e.key, e.val)) = l.map entV
  keys : (keysOf l).Nodup
  born : (es.toList.map (·.born)).Nodup
  old : ∀ x ∈ es.toList, x.born < clock
theorem EntsAre.none : EntsAre #[] 0 [] := ⟨rfl, List.nodup_nil, List.nodup_nil, fun x hx => by simp at hx⟩
theorem EntsAre.len {es : Array MapEntry} {clock : Nat} {l : List (Addr × Nat)} (h : EntsAre es clock l) : es.size = l.length := by
  have h1 := congrArg List.length h.ents
  simpa using h1
/-- What stands at a key, and a key's place. -/
def findA : List (Addr × Nat) → Addr → Nat → Option (Nat × Nat)
  | [], _, _ => none
  | p :: r, a, i => if a = p.1 then some (i, p.2) else findA r a (i + 1)
def getA (l : List (Addr × Nat)) (a : Addr) : Nat := ((findA l a 0).map Prod.snd).getD 0
def setA : List (Addr × Nat) → Addr → Nat → List (Addr × Nat)
  | [], a, v => [(a, v)]
  | p :: r, a, v => if a = p.1 then (p.1, v) :: r else p :: setA r a v
theorem findA_run {P : Program} {t : TypeId} (ht : PtrTy P t) (w : World) {a : Addr} (ha : PlainAt w a) : ∀ (es : List MapEntry) (l : List (Addr × Nat)) (i : Nat), es.map (fun e => (e.key, e.val)) = l.map entV → (∀ b ∈ keysOf l, PlainAt w b) →
    (Instr.findAsking t (ptrV a) es i).run P w = .ok ((findA l a i).map fun x => (x.1, .int .i64 (x.2 : Int))) w := by
  intro es
  induction es with
  | nil =>
    intro l i he _
    have : l = [] := by
      simp at he
      exact he
    subst this
    simp [Instr.findAsking, findA]
  | cons e r ih =>
    intro l i he hp
    cases l with
    | nil => simp at he
    | cons p l =>
      simp only [List.map_cons, List.cons.injEq] at he
      obtain ⟨h1, h2⟩ := he
      have hk : e.key = ptrV p.1 := congrArg Prod.fst h1
      have hv : e.val = .int .i64 (p.2 : Int) := congrArg Prod.snd h1
      have heq := eqKey ht w ha (hp p.1 (by simp [keysOf]))
      have hrec := ih l (i + 1) h2 fun b hb => hp b (by simp only [keysOf, List.map_cons, List.mem_cons] at hb ⊢; exact Or.inr hb)
      by_cases hc : a = p.1
      · obtain ⟨b, n⟩ := p
        subst hc
        have hb : (a == a) = true := by simp
        simp only [hb] at heq
        simp [Instr.findAsking, hk, hv, heq, findA]
      · have hb : (a == p.1) = false := by simp [hc]
        rw [hb] at heq
        simp [Instr.findAsking, hk, heq, findA, hc, hrec]
theorem findKey_run {P : Program} {t : TypeId} (ht : PtrTy P t) (w : World) {a : Addr} (ha : PlainAt w a) (es : List MapEntry) (l : List (Addr × Nat)) (he : es.map (fun e => (e.key, e.val)) = l.map entV) (hp : ∀ b ∈ keysOf l, PlainAt w b) :
    (Instr.findKey t (ptrV a) es).run P w = .ok ((findA l a 0).map fun x => (x.1, .int .i64 (x.2 : Int))) w := by
  have key := findA_run ht w ha es l 0 he hp
  obtain ⟨te, j, hu, -⟩ := ht
  cases es with
  | nil =>
    have : l = [] := by
      simp at he
      exact he
    subst this
    simp [Instr.findKey, run_underlying hu, Instr.findNow, findA]
  | cons e r =>
    have hn : Instr.findNow (.pointer te) (ptrV a) (e :: r) 0 = none := by simp [Instr.findNow, Instr.sameNow]
    have hstep : (Instr.findKey t (ptrV a) (e :: r)).run P w = (Instr.findAsking t (ptrV a) (e :: r) 0).run P w := by
      simp [Instr.findKey, run_underlying hu, hn]
    rw [hstep]
    exact key
theorem check_ptr_n {P : Program} {t : TypeId} (ht : PtrTy P t) (b : Bool) (w : World) (a : Addr) (n : Nat) : (Instr.checkKey b (n + 1) t (ptrV a)).run P w = .ok () w := by
  obtain ⟨te, j, hu, -⟩ := ht
  unfold ptrV
  simp [Instr.checkKey, run_underlying hu]
theorem check_ptr {P : Program} {t : TypeId} (ht : PtrTy P t) (b : Bool) (w : World) (a : Addr) : (Instr.checkKey b 10000 t (ptrV a)).run P w = .ok () w := check_ptr_n ht b w a 9999
/-- A map that is asked how often a pointer stands in it. -/
theorem look_ptr {P : Program} {T t u : TypeId} (hT : P.underlying T = some (.map t u)) (ht : PtrTy P t) (hz : ∀ w, (zeroValue u).run P w = .ok (.int .i64 0) w) (w : World) {a : Addr} {m : Nat} {es : Array MapEntry} {clock : Nat} {l : List (Addr × Nat)} (hm : w.heap[m]? = some (.map es clock)) (hk : EntsAre es clock l) (ha : PlainAt w a) (hp : ∀ b ∈ keysOf l, PlainAt w b) :
    (Instr.lookup T (.map (some m)) (.pointer (some a)) false).run P w = .ok (.int .i64 (getA l a : Int)) w := by
  have hg : (getObj m).run P w = .ok (.map es clock) w := by simp [getObj, Sem.run, hm]
  have hf := findKey_run ht w ha es.toList l hk.ents hp
  have hc := fun b => check_ptr ht b w a
  unfold ptrV at hf hc
  unfold getA
  cases hx : findA l a 0 with
  | none =>
    rw [hx] at hf
    simp [Instr.lookup, run_underlying hT, hg, hc, hf, hz]
  | some x =>
    rw [hx] at hf
    simp [Instr.lookup, run_underlying hT, hg, hc, hf]
theorem findA_at : ∀ (l : List (Addr × Nat)) (a : Addr) (i : Nat) (x : Nat × Nat), findA l a i = some x → ∃ j, x.1 = i + j ∧ l[j]? = some (a, x.2) ∧ setA l a = fun v => l.set j (a, v) := by
  intro l
  induction l with
  | nil => intro a i x h; cases h
  | cons p r ih =>
    intro a i x h
    unfold findA at h
    by_cases hc : a = p.1
    · rw [if_pos hc] at h
      cases h
      refine ⟨0, rfl, by rw [hc]; rfl, ?_⟩
      funext v
      simp [setA, hc]
    · rw [if_neg hc] at h
      obtain ⟨j, h1, h2, h3⟩ := ih a (i + 1) x h
      refine ⟨j + 1, by omega, by simpa using h2, ?_⟩
      funext v
      have h4 := congrFun h3 v
      simp [setA, hc, h4]
theorem findA_no : ∀ (l : List (Addr × Nat)) (a : Addr) (i : Nat), findA l a i = none → a ∉ keysOf l ∧ ∀ v, setA l a v = l ++ [(a, v)] := by
  intro l
  induction l with
  | nil => intro a i _; exact ⟨by simp [keysOf], fun v => rfl⟩
  | cons p r ih =>
    intro a i h
    unfold findA at h
    by_cases hc : a = p.1
    · rw [if_pos hc] at h
      cases h
    · rw [if_neg hc] at h
      obtain ⟨h1, h2⟩ := ih a (i + 1) h
      refine ⟨?_, fun v => ?_⟩
      · simp only [keysOf, List.map_cons, List.mem_cons, not_or]
        exact ⟨hc, h1⟩
      · simp [setA, hc, h2 v]
theorem setA_keys (l : List (Addr × Nat)) (a : Addr) (v : Nat) : (a ∈ keysOf l ∧ keysOf (setA l a v) = keysOf l) ∨ (a ∉ keysOf l ∧ keysOf (setA l a v) = keysOf l ++ [a]) := by
  cases hx : findA l a 0 with
  | none =>
    obtain ⟨h1, h2⟩ := findA_no l a 0 hx
    refine .inr ⟨h1, ?_⟩
    rw [h2 v]
    simp [keysOf]
  | some x =>
    obtain ⟨j, h1, h2, h3⟩ := findA_at l a 0 x hx
    refine .inl ⟨?_, ?_⟩
    · exact List.mem_map.2 ⟨_, List.mem_of_getElem? h2, rfl⟩
    · rw [congrFun h3 v]
      unfold keysOf
      rw [List.map_set]
      apply List.ext_getElem?
      intro k
      rw [List.getElem?_set]
      by_cases hk : j = k
      · subst hk
        simp [h2]
        exact (List.getElem?_eq_some_iff.1 h2).1
      · simp [hk]
theorem setA_mem (l : List (Addr × Nat)) (a b : Addr) (v : Nat) : b ∈ keysOf (setA l a v) ↔ b ∈ keysOf l ∨ b = a := by
  rcases setA_keys l a v with ⟨h1, h2⟩ | ⟨h1, h2⟩
  · rw [h2]
    exact ⟨.inl, fun h => h.elim id fun e => e ▸ h1⟩
  · rw [h2]
    simp
theorem setA_nodup {l : List (Addr × Nat)} (h : (keysOf l).Nodup) (a : Addr) (v : Nat) : (keysOf (setA l a v)).Nodup := by
  rcases setA_keys l a v with ⟨h1, h2⟩ | ⟨h1, h2⟩
  · rw [h2]; exact h
  · rw [h2, List.nodup_append]
    exact ⟨h, by simp, fun x hx y hy e => by simp at hy; subst hy; exact h1 (e ▸ hx)⟩
/-- How often a pointer stands, put into a map. -/
theorem update_ptr {P : Program} {T t u : TypeId} (hT : P.underlying T = some (.map t u)) (ht : PtrTy P t) (w : World) {a : Addr} (v : Nat) {m : Nat} {es : Array MapEntry} {clock : Nat} {l : List (Addr × Nat)} (hm : w.heap[m]? = some (.map es clock)) (hk : EntsAre es clock l) (ha : PlainAt w a) (hp : ∀ b ∈ keysOf l, PlainAt w b) :
    ∃ es' c', (Instr.mapUpdate T (.map (some m)) (.pointer (some a)) (.int .i64 (v : Int))).run P w = .ok () (setBlock w m (.map es' c')) ∧ EntsAre es' c' (setA l a v) := by
  have hg : (getObj m).run P w = .ok (.map es clock) w := by simp [getObj, Sem.run, hm]
  have hf := findKey_run ht w ha es.toList l hk.ents hp
  have hc := fun b => check_ptr ht b w a
  unfold ptrV at hf hc
  have hset : ∀ o, (setObj m o).run P w = .ok () (setBlock w m o) := fun o => by simp [setObj, Sem.run, hm, setBlock]
  cases hx : findA l a 0 with
  | none =>
    rw [hx] at hf
    obtain ⟨h1, h2⟩ := findA_no l a 0 hx
    refine ⟨es.push ⟨ptrV a, .int .i64 (v : Int), clock⟩, clock + 1, ?_, ?_⟩
    · simp [Instr.mapUpdate, run_underlying hT, hg, hc, hf, hset, ptrV]
    · refine ⟨?_, setA_nodup hk.keys a v, ?_, ?_⟩
      · rw [h2 v, Array.toList_push, List.map_append, List.map_append, hk.ents]
        rfl
      · rw [Array.toList_push, List.map_append, List.nodup_append]
        refine ⟨hk.born, by simp, fun x hx y hy e => ?_⟩
        simp at hy
        obtain ⟨z, hz, hz2⟩ := List.mem_map.1 hx
        have := hk.old z hz
        omega
      · intro x hx
        rw [Array.toList_push, List.mem_append] at hx
        rcases hx with hx | hx
        · have := hk.old x hx
          omega
        · simp at hx
          rw [hx]
          show clock < clock + 1
          omega
  | some x =>
    rw [hx] at hf
    obtain ⟨j, h1, h2, h3⟩ := findA_at l a 0 x hx
    have hj1 : x.1 = j := by omega
    have hlen := hk.len
    have hjl : j < es.size := by
      have := (List.getElem?_eq_some_iff.1 h2).1
      omega
    have hkey : es[j]?.map (·.key) = some (ptrV a) := by
      have h4 := congrArg (fun q => q[j]?) hk.ents
      simp only [List.getElem?_map, h2, Option.map_some, Array.getElem?_toList] at h4
      rw [Array.getElem?_eq_getElem hjl] at h4 ⊢
      simp only [Option.map_some, Option.some.injEq, entV, Prod.mk.injEq] at h4 ⊢
      exact h4.1
    have hstay : (Instr.keyThatStays (ptrV a) (ptrV a)).run P w = .ok (ptrV a) w := by
      simp [Instr.keyThatStays, ptrV, Instr.sameBits]
    refine ⟨es.modify j fun e => { e with key := ptrV a, val := .int .i64 (v : Int) }, clock, ?_, ?_⟩
    · unfold ptrV at hkey hstay
      simp [Instr.mapUpdate, run_underlying hT, hg, hc, hf, hj1, hkey, hstay, hset, ptrV]
    · refine ⟨?_, setA_nodup hk.keys a v, ?_, ?_⟩
      · rw [congrFun h3 v]
        apply List.ext_getElem?
        intro k
        have h4 := congrArg (fun q => q[k]?) hk.ents
        simp only [List.getElem?_map, Array.getElem?_toList] at h4
        simp only [List.getElem?_map, Array.getElem?_toList, Array.getElem?_modify, List.getElem?_set]
        by_cases hjk : j = k
        · subst hjk
          have h5 : j < l.length := (List.getElem?_eq_some_iff.1 h2).1
          simp [h5, hjl, entV]
        · simp only [if_neg hjk]
          exact h4
      · have h6 : (es.modify j fun e => { e with key := ptrV a, val := .int .i64 (v : Int) }).toList.map (·.born) = es.toList.map (·.born) := by
          apply List.ext_getElem?
          intro k
          simp only [List.getElem?_map, Array.getElem?_toList, Array.getElem?_modify]
          by_cases hjk : j = k
          · subst hjk
            simp [hjl]
          · simp only [if_neg hjk]
        rw [h6]
        exact hk.born
      · intro y hy
        obtain ⟨k, hk1⟩ := List.mem_iff_getElem?.1 hy
        rw [Array.getElem?_toList, Array.getElem?_modify] at hk1
        by_cases hjk : j = k
        · subst hjk
          rw [if_pos rfl, Array.getElem?_eq_getElem hjl] at hk1
          simp at hk1
          rw [← hk1]
          exact hk.old es[j] (by simp)
        · rw [if_neg hjk] at hk1
          exact hk.old y (List.mem_of_getElem? (i := k) (by rw [Array.getElem?_toList]; exact hk1))
/-- The sum over all of them. -/
def wsum (f : Addr → Nat) (l : List (Addr × Nat)) : Nat := (l.map fun p => p.2 * f p.1).sum
theorem wsum_add (f : Addr → Nat) : ∀ (l : List (Addr × Nat)) (a : Addr) (n : Nat), wsum f (setA l a (getA l a + n)) = wsum f l + n * f a := by
  intro l a n
  have key : ∀ (l : List (Addr × Nat)) (i : Nat), wsum f (setA l a (((findA l a i).map Prod.snd).getD 0 + n)) = wsum f l + n * f a := by
    intro l
    induction l with
    | nil =>
      intro i
      simp [wsum, setA, findA]
    | cons p r ih =>
      intro i
      by_cases hc : a = p.1
      · subst hc
        simp [wsum, setA, findA, Nat.add_mul]
        omega
      · have h1 := ih (i + 1)
        simp only [wsum, setA, findA, hc, if_false, List.map_cons, List.sum_cons] at h1 ⊢
        omega
  exact key l 0
end Go.Proofs.Ytifambhfggodaaa
