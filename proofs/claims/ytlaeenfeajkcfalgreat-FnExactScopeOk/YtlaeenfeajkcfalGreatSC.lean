/- Made of MA, NA, NB. -/
import Derived.Test.YtlaeenfeajkcfalGreatSA
import Derived.LaidEql
import Derived.LaidEqlPtr
import Derived.Laws.StructEq
import Derived.Maps.OwnSet
import Derived.MapKept
import Derived.Maps.RangeRun
namespace Go.Proofs.YtlaeenfeajkcfalGreat
open Go.RowKit

def PlainAt (w : World) (a : Addr) : Prop := ∃ c e, w.heap[a.block]? = some (.cells c e (0, 0))
theorem eqPtr {P : Program} (w : World) (d : Nat) {tp te : TypeId} {j : TypeInfo} {a b : Addr} (hp : P.underlying tp = some (.pointer te)) (hte : P.info? te = some j) (hsz : j.size ≠ 0) (ha : PlainAt w a) (hb : PlainAt w b) :
    (Op.equalIn (d + 1) tp (.pointer (some a)) (.pointer (some b))).run P w = .ok (a == b) w := by
  obtain ⟨ca, ta, ha⟩ := ha
  obtain ⟨cb, tb, hb⟩ := hb
  by_cases e : a = b
  · subst e
    simp [Op.equalIn, run_underlying hp, typeInfo, sizeOf, run_sameAddr_same, hte]
  · simp [Op.equalIn, run_underlying hp, typeInfo, sizeOf, hte, hsz, run_sameAddr_other w e ha hb, e]
def keyV (k : Addr × Addr) : Value := .agg #[.pointer (some k.1), .pointer (some k.2)]
/-- A type of two pointers to what is not of size 0. -/
structure PairTy (P : Program) (t : TypeId) : Prop where
  fields : ∃ f0 f1 tp te j, P.underlying t = some (.struct #[f0, f1]) ∧ f0.name ≠ "_" ∧ f1.name ≠ "_" ∧ f0.type = tp ∧ f1.type = tp ∧ f0.offset = 0 ∧ f1.offset = 1 ∧ P.underlying tp = some (.pointer te) ∧ P.info? te = some j ∧ j.size ≠ 0
  plain : P.stoodInHeld t = false
theorem eqPair {P : Program} {t : TypeId} (ht : PairTy P t) (w : World) (k l : Addr × Addr) (h1 : PlainAt w k.1) (h2 : PlainAt w k.2) (h3 : PlainAt w l.1) (h4 : PlainAt w l.2) :
    (Op.equal t (keyV k) (keyV l)).run P w = .ok (k.1 == l.1 && k.2 == l.2) w := by
  obtain ⟨f0, f1, tp, te, j, hu, n0, n1, rfl, e1, o0, o1, hp, hj, hs⟩ := ht.fields
  have hf : P.fieldsOf t = #[f0, f1] := by unfold Program.fieldsOf; rw [hu]
  have hu2 : P.underlying t = some (.struct (P.fieldsOf t)) := by rw [hf]; exact hu
  unfold Op.equal Op.maxDepth keyV
  rw [show (10000 : Nat) = 9999 + 1 from rfl, run_equalIn_struct w 9999 t _ _ hu2 ht.plain, hf]
  have ia : ∀ w, (isAgg f0.type).run P w = .ok false w := fun w => by simp [isAgg, run_underlying hp]
  have pa : ∀ (x y : Addr), (part f0.type #[.pointer (some x), .pointer (some y)] 0).run P w = .ok (.pointer (some x)) w := fun x y => by simp [part, ia]
  have pb : ∀ (x y : Addr), (part f0.type #[.pointer (some x), .pointer (some y)] 1).run P w = .ok (.pointer (some y)) w := fun x y => by simp [part, ia]
  simp only [Op.eqFields, e1, o0, o1, n0, n1, ne_eq, not_false_eq_true, if_true, Sem.run_bind, pa, pb, Result.andThen_ok, eqPtr w 9998 hp hj hs h1 h3, eqPtr w 9998 hp hj hs h2 h4, Sem.run_ite, Sem.run_pure]
  cases (k.1 == l.1) <;> cases (k.2 == l.2) <;> simp

/-- A map's entries, by their keys, each of which stands for nothing. -/
def KeysAre (es : List MapEntry) (ks : List (Addr × Addr)) : Prop := es.map (·.key) = ks.map keyV ∧ ∀ e ∈ es, e.val = .agg #[]
def hasK (ks : List (Addr × Addr)) (k : Addr × Addr) : Bool := ks.any fun l => k.1 == l.1 && k.2 == l.2
theorem asking {P : Program} {t : TypeId} (ht : PairTy P t) (w : World) (k : Addr × Addr) (h1 : PlainAt w k.1) (h2 : PlainAt w k.2) : ∀ (es : List MapEntry) (ks : List (Addr × Addr)) (i : Nat), KeysAre es ks → (∀ l ∈ ks, PlainAt w l.1 ∧ PlainAt w l.2) →
    (hasK ks k = false ∧ (Instr.findAsking t (keyV k) es i).run P w = .ok none w) ∨ (hasK ks k = true ∧ ∃ j, (Instr.findAsking t (keyV k) es i).run P w = .ok (some (j, .agg #[])) w) := by
  intro es
  induction es with
  | nil =>
    intro ks i hk _
    have : ks = [] := by
      have h := hk.1
      simp at h
      exact h
    subst this
    exact Or.inl ⟨rfl, by simp [Instr.findAsking]⟩
  | cons e r ih =>
    intro ks i hk hp
    cases ks with
    | nil => have h := hk.1; simp at h
    | cons l ls =>
      have hkey : e.key = keyV l := by have h := hk.1; simp at h; exact h.1
      have hval : e.val = .agg #[] := hk.2 e (by simp)
      have hp0 := hp l (by simp)
      have hr : KeysAre r ls := ⟨by have h := hk.1; simp at h; exact h.2, fun x hx => hk.2 x (by simp [hx])⟩
      have heq := eqPair ht w k l h1 h2 hp0.1 hp0.2
      have hex : hasK (l :: ls) k = ((k.1 == l.1 && k.2 == l.2) || hasK ls k) := rfl
      cases hc : (k.1 == l.1 && k.2 == l.2)
      · rw [hc] at heq
        rw [hex, hc, Bool.false_or]
        have hstep : (Instr.findAsking t (keyV k) (e :: r) i).run P w = (Instr.findAsking t (keyV k) r (i + 1)).run P w := by
          simp [Instr.findAsking, hkey, heq]
        rw [hstep]
        exact ih ls (i + 1) hr (fun l hl => hp l (by simp [hl]))
      · rw [hc] at heq
        rw [hex, hc, Bool.true_or]
        exact Or.inr ⟨rfl, i, by simp [Instr.findAsking, hkey, heq, hval]⟩
theorem find_pair {P : Program} {t : TypeId} (ht : PairTy P t) (w : World) (k : Addr × Addr) (h1 : PlainAt w k.1) (h2 : PlainAt w k.2) (es : List MapEntry) (ks : List (Addr × Addr)) (hk : KeysAre es ks) (hp : ∀ l ∈ ks, PlainAt w l.1 ∧ PlainAt w l.2) :
    (hasK ks k = false ∧ (Instr.findKey t (keyV k) es).run P w = .ok none w) ∨ (hasK ks k = true ∧ ∃ j, (Instr.findKey t (keyV k) es).run P w = .ok (some (j, .agg #[])) w) := by
  obtain ⟨f0, f1, tp, te, j, hu, -⟩ := ht.fields
  have key := asking ht w k h1 h2 es ks 0 hk hp
  cases es with
  | nil =>
    have : ks = [] := by
      have h := hk.1
      simp at h
      exact h
    subst this
    exact Or.inl ⟨rfl, by simp [Instr.findKey, run_underlying hu, Instr.findNow]⟩
  | cons e r =>
    have hn : Instr.findNow (.struct #[f0, f1]) (keyV k) (e :: r) 0 = none := by simp [Instr.findNow, Instr.sameNow]
    have hstep : (Instr.findKey t (keyV k) (e :: r)).run P w = (Instr.findAsking t (keyV k) (e :: r) 0).run P w := by
      simp [Instr.findKey, run_underlying hu, hn]
    rw [hstep]
    exact key
theorem check_pair_n {P : Program} {t : TypeId} (ht : PairTy P t) (b : Bool) (w : World) (k : Addr × Addr) (n : Nat) : (Instr.checkKey b (n + 2) t (keyV k)).run P w = .ok () w := by
  obtain ⟨f0, f1, tp, te, j, hu, n0, n1, rfl, e1, o0, o1, hp, hj, hs⟩ := ht.fields
  have ia : ∀ w, (isAgg f0.type).run P w = .ok false w := fun w => by simp [isAgg, run_underlying hp]
  have pa : ∀ (x y : Addr), (part f0.type #[.pointer (some x), .pointer (some y)] 0).run P w = .ok (.pointer (some x)) w := fun x y => by simp [part, ia]
  have pb : ∀ (x y : Addr), (part f0.type #[.pointer (some x), .pointer (some y)] 1).run P w = .ok (.pointer (some y)) w := fun x y => by simp [part, ia]
  have cp : ∀ x : Addr, (Instr.checkKey b (n + 1) f0.type (.pointer (some x))).run P w = .ok () w := fun x => by simp [Instr.checkKey, run_underlying hp]
  unfold keyV
  rw [Instr.checkKey]
  simp [run_underlying hu, n0, n1, e1, o0, o1, pa, pb, cp]
theorem check_pair {P : Program} {t : TypeId} (ht : PairTy P t) (b : Bool) (w : World) (k : Addr × Addr) : (Instr.checkKey b 10000 t (keyV k)).run P w = .ok () w := check_pair_n ht b w k 9998

/-- Two pointers put into a map in which they don't stand. -/
theorem put_new {P : Program} {T t u : TypeId} (hT : P.underlying T = some (.map t u)) (ht : PairTy P t) (w : World) (k : Addr × Addr) (m : Nat) (es : Array MapEntry) (clock : Nat) (ks : List (Addr × Addr)) (hm : w.heap[m]? = some (.map es clock)) (hk : KeysAre es.toList ks) (h1 : PlainAt w k.1) (h2 : PlainAt w k.2) (hp : ∀ l ∈ ks, PlainAt w l.1 ∧ PlainAt w l.2) (hno : hasK ks k = false) :
    (Instr.mapUpdate T (.map (some m)) (keyV k) (.agg #[])).run P w = (setObj m (.map (es.push ⟨keyV k, .agg #[], clock⟩) (clock + 1))).run P w := by
  have hg : (getObj m).run P w = .ok (.map es clock) w := by simp [getObj, Sem.run, hm]
  rcases find_pair ht w k h1 h2 es.toList ks hk hp with ⟨e, hf⟩ | ⟨e, j, hf⟩
  · simp [Instr.mapUpdate, run_underlying hT, hg, check_pair ht, hf]
  · rw [hno] at e
    cases e
end Go.Proofs.YtlaeenfeajkcfalGreat
namespace Go.Proofs.YtlaeenfeajkcfalGreat
open Go.RowKit
open Go.ChangeMaps (setBlock heap_setBlock_same heap_setBlock_other)

/-- A type of pointers to what is not of size 0. -/
def PtrTy (P : Program) (t : TypeId) : Prop := ∃ te j, P.underlying t = some (.pointer te) ∧ P.info? te = some j ∧ j.size ≠ 0
def ptrV (a : Addr) : Value := .pointer (some a)
theorem eqKey {P : Program} {t : TypeId} (ht : PtrTy P t) (w : World) {a b : Addr} (ha : PlainAt w a) (hb : PlainAt w b) : (Op.equal t (ptrV a) (ptrV b)).run P w = .ok (a == b) w := by
  obtain ⟨te, j, hp, hj, hs⟩ := ht
  unfold Op.equal Op.maxDepth ptrV
  rw [show (10000 : Nat) = 9999 + 1 from rfl]
  exact eqPtr w 9999 hp hj hs ha hb
def entV (p : Addr × Nat) : Value × Value := (ptrV p.1, .int .i64 (p.2 : Int))
def keysOf (l : List (Addr × Nat)) : List Addr := l.map Prod.fst
/-- A map's entries: pointers, and how often each stands. -/
structure EntsAre (es : Array MapEntry) (clock : Nat) (l : List (Addr × Nat)) : Prop where
  ents : es.toList.map (fun e => (e.key, e.val)) = l.map entV
  keys : (keysOf l).Nodup
  born : (es.toList.map (·.born)).Nodup
  old : ∀ x ∈ es.toList, x.born < clock
theorem EntsAre.none : EntsAre #[] 0 [] := ⟨rfl, List.nodup_nil, List.nodup_nil, fun x hx => by simp at hx⟩
theorem EntsAre.len {es : Array MapEntry} {clock : Nat} {l : List (Addr × Nat)} (h : EntsAre es clock l) : es.size = l.length := by
  have h1 := congrArg List.length h.ents
  simpa using h1
/-- What stands at a key, and a key's place. -/
def findA : List (Addr × Nat) → Addr → Nat → Option (Nat × Nat)
  | [], _, _ => none
  | p :: r, a, i => if a = p.1 then some (i, p.2) else findA r a (i + 1)
def getA (l : List (Addr × Nat)) (a : Addr) : Nat := ((findA l a 0).map Prod.snd).getD 0
def setA : List (Addr × Nat) → Addr → Nat → List (Addr × Nat)
  | [], a, v => [(a, v)]
  | p :: r, a, v => if a = p.1 then (p.1, v) :: r else p :: setA r a v
theorem findA_run {P : Program} {t : TypeId} (ht : PtrTy P t) (w : World) {a : Addr} (ha : PlainAt w a) : ∀ (es : List MapEntry) (l : List (Addr × Nat)) (i : Nat), es.map (fun e => (e.key, e.val)) = l.map entV → (∀ b ∈ keysOf l, PlainAt w b) →
    (Instr.findAsking t (ptrV a) es i).run P w = .ok ((findA l a i).map fun x => (x.1, .int .i64 (x.2 : Int))) w := by
  intro es
  induction es with
  | nil =>
    intro l i he _
    have : l = [] := by
      simp at he
      exact he
    subst this
    simp [Instr.findAsking, findA]
  | cons e r ih =>
    intro l i he hp
    cases l with
    | nil => simp at he
    | cons p l =>
      simp only [List.map_cons, List.cons.injEq] at he
      obtain ⟨h1, h2⟩ := he
      have hk : e.key = ptrV p.1 := congrArg Prod.fst h1
      have hv : e.val = .int .i64 (p.2 : Int) := congrArg Prod.snd h1
      have heq := eqKey ht w ha (hp p.1 (by simp [keysOf]))
      have hrec := ih l (i + 1) h2 fun b hb => hp b (by simp only [keysOf, List.map_cons, List.mem_cons] at hb ⊢; exact Or.inr hb)
      by_cases hc : a = p.1
      · obtain ⟨b, n⟩ := p
        subst hc
        have hb : (a == a) = true := by simp
        simp only [hb] at heq
        simp [Instr.findAsking, hk, hv, heq, findA]
      · have hb : (a == p.1) = false := by simp [hc]
        rw [hb] at heq
        simp [Instr.findAsking, hk, heq, findA, hc, hrec]
theorem findKey_run {P : Program} {t : TypeId} (ht : PtrTy P t) (w : World) {a : Addr} (ha : PlainAt w a) (es : List MapEntry) (l : List (Addr × Nat)) (he : es.map (fun e => (e.key, e.val)) = l.map entV) (hp : ∀ b ∈ keysOf l, PlainAt w b) :
    (Instr.findKey t (ptrV a) es).run P w = .ok ((findA l a 0).map fun x => (x.1, .int .i64 (x.2 : Int))) w := by
  have key := findA_run ht w ha es l 0 he hp
  obtain ⟨te, j, hu, -⟩ := ht
  cases es with
  | nil =>
    have : l = [] := by
      simp at he
      exact he
    subst this
    simp [Instr.findKey, run_underlying hu, Instr.findNow, findA]
  | cons e r =>
    have hn : Instr.findNow (.pointer te) (ptrV a) (e :: r) 0 = none := by simp [Instr.findNow, Instr.sameNow]
    have hstep : (Instr.findKey t (ptrV a) (e :: r)).run P w = (Instr.findAsking t (ptrV a) (e :: r) 0).run P w := by
      simp [Instr.findKey, run_underlying hu, hn]
    rw [hstep]
    exact key
theorem check_ptr_n {P : Program} {t : TypeId} (ht : PtrTy P t) (b : Bool) (w : World) (a : Addr) (n : Nat) : (Instr.checkKey b (n + 1) t (ptrV a)).run P w = .ok () w := by
  obtain ⟨te, j, hu, -⟩ := ht
  unfold ptrV
  simp [Instr.checkKey, run_underlying hu]
theorem check_ptr {P : Program} {t : TypeId} (ht : PtrTy P t) (b : Bool) (w : World) (a : Addr) : (Instr.checkKey b 10000 t (ptrV a)).run P w = .ok () w := check_ptr_n ht b w a 9999
/-- A map that is asked how often a pointer stands in it. -/
theorem look_ptr {P : Program} {T t u : TypeId} (hT : P.underlying T = some (.map t u)) (ht : PtrTy P t) (hz : ∀ w, (zeroValue u).run P w = .ok (.int .i64 0) w) (w : World) {a : Addr} {m : Nat} {es : Array MapEntry} {clock : Nat} {l : List (Addr × Nat)} (hm : w.heap[m]? = some (.map es clock)) (hk : EntsAre es clock l) (ha : PlainAt w a) (hp : ∀ b ∈ keysOf l, PlainAt w b) :
    (Instr.lookup T (.map (some m)) (.pointer (some a)) false).run P w = .ok (.int .i64 (getA l a : Int)) w := by
  have hg : (getObj m).run P w = .ok (.map es clock) w := by simp [getObj, Sem.run, hm]
  have hf := findKey_run ht w ha es.toList l hk.ents hp
  have hc := fun b => check_ptr ht b w a
  unfold ptrV at hf hc
  unfold getA
  cases hx : findA l a 0 with
  | none =>
    rw [hx] at hf
    simp [Instr.lookup, run_underlying hT, hg, hc, hf, hz]
  | some x =>
    rw [hx] at hf
    simp [Instr.lookup, run_underlying hT, hg, hc, hf]
theorem findA_at : ∀ (l : List (Addr × Nat)) (a : Addr) (i : Nat) (x : Nat × Nat), findA l a i = some x → ∃ j, x.1 = i + j ∧ l[j]? = some (a, x.2) ∧ setA l a = fun v => l.set j (a, v) := by
  intro l
  induction l with
  | nil => intro a i x h; cases h
  | cons p r ih =>
    intro a i x h
    unfold findA at h
    by_cases hc : a = p.1
    · rw [if_pos hc] at h
      cases h
      refine ⟨0, rfl, by rw [hc]; rfl, ?_⟩
      funext v
      simp [setA, hc]
    · rw [if_neg hc] at h
      obtain ⟨j, h1, h2, h3⟩ := ih a (i + 1) x h
      refine ⟨j + 1, by omega, by simpa using h2, ?_⟩
      funext v
      have h4 := congrFun h3 v
      simp [setA, hc, h4]
theorem findA_no : ∀ (l : List (Addr × Nat)) (a : Addr) (i : Nat), findA l a i = none → a ∉ keysOf l ∧ ∀ v, setA l a v = l ++ [(a, v)] := by
  intro l
  induction l with
  | nil => intro a i _; exact ⟨by simp [keysOf], fun v => rfl⟩
  | cons p r ih =>
    intro a i h
    unfold findA at h
    by_cases hc : a = p.1
    · rw [if_pos hc] at h
      cases h
    · rw [if_neg hc] at h
      obtain ⟨h1, h2⟩ := ih a (i + 1) h
      refine ⟨?_, fun v => ?_⟩
      · simp only [keysOf, List.map_cons, List.mem_cons, not_or]
        exact ⟨hc, h1⟩
      · simp [setA, hc, h2 v]
theorem setA_keys (l : List (Addr × Nat)) (a : Addr) (v : Nat) : (a ∈ keysOf l ∧ keysOf (setA l a v) = keysOf l) ∨ (a ∉ keysOf l ∧ keysOf (setA l a v) = keysOf l ++ [a]) := by
  cases hx : findA l a 0 with
  | none =>
    obtain ⟨h1, h2⟩ := findA_no l a 0 hx
    refine .inr ⟨h1, ?_⟩
    rw [h2 v]
    simp [keysOf]
  | some x =>
    obtain ⟨j, h1, h2, h3⟩ := findA_at l a 0 x hx
    refine .inl ⟨?_, ?_⟩
    · exact List.mem_map.2 ⟨_, List.mem_of_getElem? h2, rfl⟩
    · rw [congrFun h3 v]
      unfold keysOf
      rw [List.map_set]
      apply List.ext_getElem?
      intro k
      rw [List.getElem?_set]
      by_cases hk : j = k
      · subst hk
        simp [h2]
        exact (List.getElem?_eq_some_iff.1 h2).1
      · simp [hk]
theorem setA_nodup {l : List (Addr × Nat)} (h : (keysOf l).Nodup) (a : Addr) (v : Nat) : (keysOf (setA l a v)).Nodup := by
  rcases setA_keys l a v with ⟨h1, h2⟩ | ⟨h1, h2⟩
  · rw [h2]; exact h
  · rw [h2, List.nodup_append]
    exact ⟨h, by simp, fun x hx y hy e => by simp at hy; subst hy; exact h1 (e ▸ hx)⟩
/-- How often a pointer stands, put into a map. -/
theorem update_ptr {P : Program} {T t u : TypeId} (hT : P.underlying T = some (.map t u)) (ht : PtrTy P t) (w : World) {a : Addr} (v : Nat) {m : Nat} {es : Array MapEntry} {clock : Nat} {l : List (Addr × Nat)} (hm : w.heap[m]? = some (.map es clock)) (hk : EntsAre es clock l) (ha : PlainAt w a) (hp : ∀ b ∈ keysOf l, PlainAt w b) :
    ∃ es' c', (Instr.mapUpdate T (.map (some m)) (.pointer (some a)) (.int .i64 (v : Int))).run P w = .ok () (setBlock w m (.map es' c')) ∧ EntsAre es' c' (setA l a v) := by
  have hg : (getObj m).run P w = .ok (.map es clock) w := by simp [getObj, Sem.run, hm]
  have hf := findKey_run ht w ha es.toList l hk.ents hp
  have hc := fun b => check_ptr ht b w a
  unfold ptrV at hf hc
  have hset : ∀ o, (setObj m o).run P w = .ok () (setBlock w m o) := fun o => by simp [setObj, Sem.run, hm, setBlock]
  cases hx : findA l a 0 with
  | none =>
    rw [hx] at hf
    obtain ⟨h1, h2⟩ := findA_no l a 0 hx
    refine ⟨es.push ⟨ptrV a, .int .i64 (v : Int), clock⟩, clock + 1, ?_, ?_⟩
    · simp [Instr.mapUpdate, run_underlying hT, hg, hc, hf, hset, ptrV]
    · refine ⟨?_, setA_nodup hk.keys a v, ?_, ?_⟩
      · rw [h2 v, Array.toList_push, List.map_append, List.map_append, hk.ents]
        rfl
      · rw [Array.toList_push, List.map_append, List.nodup_append]
        refine ⟨hk.born, by simp, fun x hx y hy e => ?_⟩
        simp at hy
        obtain ⟨z, hz, hz2⟩ := List.mem_map.1 hx
        have := hk.old z hz
        omega
      · intro x hx
        rw [Array.toList_push, List.mem_append] at hx
        rcases hx with hx | hx
        · have := hk.old x hx
          omega
        · simp at hx
          rw [hx]
          show clock < clock + 1
          omega
  | some x =>
    rw [hx] at hf
    obtain ⟨j, h1, h2, h3⟩ := findA_at l a 0 x hx
    have hj1 : x.1 = j := by omega
    have hlen := hk.len
    have hjl : j < es.size := by
      have := (List.getElem?_eq_some_iff.1 h2).1
      omega
    have hkey : es[j]?.map (·.key) = some (ptrV a) := by
      have h4 := congrArg (fun q => q[j]?) hk.ents
      simp only [List.getElem?_map, h2, Option.map_some, Array.getElem?_toList] at h4
      rw [Array.getElem?_eq_getElem hjl] at h4 ⊢
      simp only [Option.map_some, Option.some.injEq, entV, Prod.mk.injEq] at h4 ⊢
      exact h4.1
    have hstay : (Instr.keyThatStays (ptrV a) (ptrV a)).run P w = .ok (ptrV a) w := by
      simp [Instr.keyThatStays, ptrV, Instr.sameBits]
    refine ⟨es.modify j fun e => { e with key := ptrV a, val := .int .i64 (v : Int) }, clock, ?_, ?_⟩
    · unfold ptrV at hkey hstay
      simp [Instr.mapUpdate, run_underlying hT, hg, hc, hf, hj1, hkey, hstay, hset, ptrV]
    · refine ⟨?_, setA_nodup hk.keys a v, ?_, ?_⟩
      · rw [congrFun h3 v]
        apply List.ext_getElem?
        intro k
        have h4 := congrArg (fun q => q[k]?) hk.ents
        simp only [List.getElem?_map, Array.getElem?_toList] at h4
        simp only [List.getElem?_map, Array.getElem?_toList, Array.getElem?_modify, List.getElem?_set]
        by_cases hjk : j = k
        · subst hjk
          have h5 : j < l.length := (List.getElem?_eq_some_iff.1 h2).1
          simp [h5, hjl, entV]
        · simp only [if_neg hjk]
          exact h4
      · have h6 : (es.modify j fun e => { e with key := ptrV a, val := .int .i64 (v : Int) }).toList.map (·.born) = es.toList.map (·.born) := by
          apply List.ext_getElem?
          intro k
          simp only [List.getElem?_map, Array.getElem?_toList, Array.getElem?_modify]
          by_cases hjk : j = k
          · subst hjk
            simp [hjl]
          · simp only [if_neg hjk]
        rw [h6]
        exact hk.born
      · intro y hy
        obtain ⟨k, hk1⟩ := List.mem_iff_getElem?.1 hy
        rw [Array.getElem?_toList, Array.getElem?_modify] at hk1
        by_cases hjk : j = k
        · subst hjk
          rw [if_pos rfl, Array.getElem?_eq_getElem hjl] at hk1
          simp at hk1
          rw [← hk1]
          exact hk.old es[j] (by simp)
        · rw [if_neg hjk] at hk1
          exact hk.old y (List.mem_of_getElem? (i := k) (by rw [Array.getElem?_toList]; exact hk1))
end Go.Proofs.YtlaeenfeajkcfalGreat
namespace Go.Proofs.YtlaeenfeajkcfalGreat
open Go.RowKit
open Go.ChangeMaps (setBlock heap_setBlock_same heap_setBlock_other)

/-- In block m lies a map of these counts. -/
def PMap (w : World) (m : Nat) (l : List (Addr × Nat)) : Prop := ∃ es clock, w.heap[m]? = some (.map es clock) ∧ EntsAre es clock l
theorem PMap.keep {w w' : World} {m : Nat} {l : List (Addr × Nat)} (h : PMap w m l) (hb : w'.heap[m]? = w.heap[m]?) : PMap w' m l := by
  obtain ⟨es, c, h1, h2⟩ := h
  exact ⟨es, c, hb.trans h1, h2⟩
theorem PMap.lt {w : World} {m : Nat} {l : List (Addr × Nat)} (h : PMap w m l) : m < w.heap.size := by
  obtain ⟨es, c, h1, -⟩ := h
  rcases Nat.lt_or_ge m w.heap.size with h2 | h2
  · exact h2
  · simp [Array.getElem?_eq_none h2] at h1
theorem PMap.new (w : World) : PMap (w.alloc (.map #[] 0)) w.heap.size [] := ⟨#[], 0, heap_alloc_new w _, EntsAre.none⟩
/-- All is kept but one block. -/
def But (m : Nat) (w w' : World) : Prop := Keeps (fun k => k < w.heap.size ∧ k ≠ m) w w'
theorem But.refl (m : Nat) (w : World) : But m w w := Keeps.refl _ _
theorem But.trans {m : Nat} {a b c : World} (h : But m a b) (k : But m b c) : But m a c :=
  ⟨k.os.trans h.os, k.tape.trans h.tape, k.output.trans h.output, Nat.le_trans h.size k.size, fun i hi => (k.block i ⟨Nat.lt_of_lt_of_le hi.1 h.size, hi.2⟩).trans (h.block i hi)⟩
theorem But.of {m : Nat} {w w' : World} (h : Below w.heap.size w w') : But m w w' := ⟨h.os, h.tape, h.output, h.size, fun k hk => h.block k hk.1⟩
theorem But.set {w : World} {m : Nat} {es es' : Array MapEntry} {c c' : Nat} (hm : w.heap[m]? = some (.map es c)) : But m w (setBlock w m (.map es' c')) :=
  ⟨rfl, rfl, rfl, by simp [setBlock], fun _ hk => heap_setBlock_other hm _ hk.2⟩
theorem PMap.update {P : Program} {T t u : TypeId} (hT : P.underlying T = some (.map t u)) (ht : PtrTy P t) {w : World} {m : Nat} {l : List (Addr × Nat)} (h : PMap w m l) {a : Addr} (v : Nat) (ha : PlainAt w a) (hp : ∀ b ∈ keysOf l, PlainAt w b) :
    ∃ w', (Instr.mapUpdate T (.map (some m)) (.pointer (some a)) (.int .i64 (v : Int))).run P w = .ok () w' ∧ PMap w' m (setA l a v) ∧ But m w w' ∧ w'.heap.size = w.heap.size := by
  obtain ⟨es, c, h1, h2⟩ := h
  obtain ⟨es', c', h3, h4⟩ := update_ptr hT ht w v h1 h2 ha hp
  exact ⟨_, h3, ⟨es', c', heap_setBlock_same h1 _, h4⟩, But.set h1, by simp [setBlock]⟩
theorem PMap.look {P : Program} {T t u : TypeId} (hT : P.underlying T = some (.map t u)) (ht : PtrTy P t) (hz : ∀ w, (zeroValue u).run P w = .ok (.int .i64 0) w) {w : World} {m : Nat} {l : List (Addr × Nat)} (h : PMap w m l) {a : Addr} (ha : PlainAt w a) (hp : ∀ b ∈ keysOf l, PlainAt w b) :
    (Instr.lookup T (.map (some m)) (.pointer (some a)) false).run P w = .ok (.int .i64 (getA l a : Int)) w := by
  obtain ⟨es, c, h1, h2⟩ := h
  exact look_ptr hT ht hz w h1 h2 ha hp

def pairOf (e : MapEntry) : Addr × Nat := (match e.key with | .pointer (some a) => a | _ => ⟨0, 0, none⟩, match e.val with | .int _ v => v.toNat | _ => 0)
theorem EntsAre.pairs {es : Array MapEntry} {clock : Nat} {l : List (Addr × Nat)} (h : EntsAre es clock l) : es.toList.map pairOf = l ∧ ∀ e ∈ es.toList, e.key = ptrV (pairOf e).1 ∧ e.val = .int .i64 ((pairOf e).2 : Int) := by
  have key : ∀ (es : List MapEntry) (l : List (Addr × Nat)), es.map (fun e => (e.key, e.val)) = l.map entV → es.map pairOf = l ∧ ∀ e ∈ es, e.key = ptrV (pairOf e).1 ∧ e.val = .int .i64 ((pairOf e).2 : Int) := by
    intro es
    induction es with
    | nil =>
      intro l h
      simp at h
      subst h
      exact ⟨rfl, fun e he => by cases he⟩
    | cons e r ih =>
      intro l h
      cases l with
      | nil => simp at h
      | cons p l =>
        simp only [List.map_cons, List.cons.injEq] at h
        obtain ⟨h1, h2⟩ := h
        obtain ⟨h3, h4⟩ := ih l h2
        have hk : e.key = ptrV p.1 := congrArg Prod.fst h1
        have hv : e.val = .int .i64 (p.2 : Int) := congrArg Prod.snd h1
        have hp : pairOf e = p := by
          unfold pairOf
          rw [hk, hv]
          simp [ptrV]
        refine ⟨by rw [List.map_cons, hp, h3], fun x hx => ?_⟩
        rcases List.mem_cons.1 hx with rfl | hx
        · rw [hp]; exact ⟨hk, hv⟩
        · exact h4 x hx
  exact key _ _ h.ents
theorem perm_born (e : MapEntry) : ∀ (l : List MapEntry), (l.map (·.born)).Nodup → e ∈ l → l.Perm (e :: l.filter fun x => !(x.born == e.born)) := by
  intro l
  induction l with
  | nil => intro _ h; cases h
  | cons x r ih =>
    intro hn he
    have hn' : x.born ∉ r.map (·.born) ∧ (r.map (·.born)).Nodup := List.nodup_cons.1 hn
    rcases List.mem_cons.1 he with rfl | he
    · have h1 : r.filter (fun x => !(x.born == e.born)) = r := by
        rw [List.filter_eq_self]
        intro y hy
        have : y.born ≠ e.born := fun hc => hn'.1 (List.mem_map.2 ⟨y, hy, hc⟩)
        simpa using this
      rw [List.filter_cons_of_neg (by simp), h1]
    · have h2 : x.born ≠ e.born := fun hc => hn'.1 (List.mem_map.2 ⟨e, he, hc.symm⟩)
      rw [List.filter_cons_of_pos (by simpa using h2)]
      exact ((ih hn'.2 he).cons x).trans (List.Perm.swap _ _ _)
def restL (es : Array MapEntry) (seen : Array Nat) : List (Addr × Nat) := (leftOf es seen).toList.map pairOf
/-- A map is gone through: what is done, and what is left. -/
structure Goes (w : World) (r m : Nat) (l done rest : List (Addr × Nat)) : Prop where
  mem : ∃ es clock seen, w.heap[r]? = some (.mapIter (some m) clock seen clock) ∧ w.heap[m]? = some (.map es clock) ∧ EntsAre es clock l ∧ rest = restL es seen
  perm : (done ++ rest).Perm l
theorem Goes.keep {w w' : World} {r m : Nat} {l done rest : List (Addr × Nat)} (h : Goes w r m l done rest) (hr : w'.heap[r]? = w.heap[r]?) (hm : w'.heap[m]? = w.heap[m]?) : Goes w' r m l done rest := by
  obtain ⟨⟨es, c, seen, h1, h2, h3, h4⟩, h5⟩ := h
  exact ⟨⟨es, c, seen, hr.trans h1, hm.trans h2, h3, h4⟩, h5⟩
theorem Goes.map {w : World} {r m : Nat} {l done rest : List (Addr × Nat)} (h : Goes w r m l done rest) : PMap w m l := by
  obtain ⟨⟨es, c, seen, h1, h2, h3, h4⟩, h5⟩ := h
  exact ⟨es, c, h2, h3⟩
theorem Goes.lt {w : World} {r m : Nat} {l done rest : List (Addr × Nat)} (h : Goes w r m l done rest) : r < w.heap.size := by
  obtain ⟨⟨es, c, seen, h1, h2, h3, h4⟩, h5⟩ := h
  rcases Nat.lt_or_ge r w.heap.size with h2 | h2
  · exact h2
  · simp [Array.getElem?_eq_none h2] at h1
/-- How many are left, read off the memory. -/
def restLen (w : World) (r m : Nat) : Nat := match w.heap[r]?, w.heap[m]? with | some (.mapIter _ _ seen _), some (.map es _) => (leftOf es seen).size | _, _ => 0
theorem Goes.left {w : World} {r m : Nat} {l done rest : List (Addr × Nat)} (h : Goes w r m l done rest) : restLen w r m = rest.length := by
  obtain ⟨⟨es, c, seen, h1, h2, h3, h4⟩, h5⟩ := h
  unfold restLen
  rw [h1, h2, h4]
  simp [restL]
theorem PMap.range {P : Program} {T t u : TypeId} (hT : P.underlying T = some (.map t u)) {w : World} {m : Nat} {l : List (Addr × Nat)} (h : PMap w m l) :
    ∃ w' rest, (Instr.range T (.map (some m))).run P w = .ok (.pointer (some ⟨w.heap.size, 0, none⟩)) w' ∧ Goes w' w.heap.size m l [] rest ∧ Below w.heap.size w w' ∧ w'.heap.size = w.heap.size + 1 := by
  have hlt := h.lt
  obtain ⟨es, c, h1, h2⟩ := h
  refine ⟨_, restL es #[], run_range_map w T t u m es c hT h1, ⟨⟨es, c, #[], heap_alloc_new w _, (heap_alloc_old w _ hlt).trans h1, h2, rfl⟩, ?_⟩, (Below.refl _ w).alloc (Nat.le_refl _) _, by simp⟩
  have h3 : restL es #[] = l := by
    unfold restL leftOf
    rw [Array.filter_eq_self.2 (fun x _ => by simp)]
    exact h2.pairs.1
  rw [h3]
  exact List.Perm.refl _
theorem Goes.next {P : Program} {w : World} {r m : Nat} {l done rest : List (Addr × Nat)} (h : Goes w r m l done rest) :
    (rest = [] ∧ ∀ ty, (Instr.next (.pointer (some ⟨r, 0, none⟩)) false ty).run P w = .ok (.tuple #[.bool false]) w) ∨
    ∃ p rest' w', rest.Perm (p :: rest') ∧ (∀ ty, (Instr.next (.pointer (some ⟨r, 0, none⟩)) false ty).run P w = .ok (.tuple #[.bool true, .pointer (some p.1), .int .i64 (p.2 : Int)]) w') ∧ Goes w' r m l (done ++ [p]) rest' ∧ But r w w' ∧ w'.heap.size = w.heap.size ∧ (Instr.entry (.pointer (some ⟨r, 0, none⟩))).run P w' = .ok (.tuple #[.pointer (some p.1), .int .i64 (p.2 : Int)]) w' := by
  obtain ⟨⟨es, c, seen, h1, h2, h3, h4⟩, h5⟩ := h
  have hp := h3.pairs
  have hne : m ≠ r := by
    intro e
    rw [e, h1] at h2
    cases h2
  rcases run_next_at (P := P) w 0 r m c c seen es c h1 h2 h3.old (Nat.le_refl _) with ⟨h6, h7⟩ | ⟨e, he, w1, hw, h7⟩
  · refine .inl ⟨?_, fun ty => h7⟩
    rw [h4]
    unfold restL
    rw [Array.eq_empty_of_size_eq_zero h6]
    rfl
  · have hw1r : w1.heap = w.heap := by rcases hw with rfl | rfl <;> rfl
    obtain ⟨he1, he2⟩ := mem_left he
    obtain ⟨k1, k2⟩ := hp.2 e he1
    rw [k1, k2] at h7
    have hr1 : w1.heap[r]? = some (.mapIter (some m) c seen c) := by rw [hw1r]; exact h1
    have hset1 : (setBlock w1 r (.mapIter (some m) c (seen.push e.born) c)).heap[r]? = some (.mapIter (some m) c (seen.push e.born) c) := by
      have hlt : r < w1.heap.size := by
        rcases Nat.lt_or_ge r w1.heap.size with h2 | h2
        · exact h2
        · simp [Array.getElem?_eq_none h2] at hr1
      unfold setBlock
      simp [hlt]
    have hset2 : ∀ k, k ≠ r → (setBlock w1 r (.mapIter (some m) c (seen.push e.born) c)).heap[k]? = w.heap[k]? := by
      intro k hk
      unfold setBlock
      simp only [hw1r]
      exact Array.getElem?_setIfInBounds_ne (fun e => hk e.symm)
    have hm1 := (hset2 m hne).trans h2
    have hperm : rest.Perm (pairOf e :: restL es (seen.push e.born)) := by
      rw [h4]
      have h8 : (leftOf es (seen.push e.born)).toList = ((leftOf es seen).toList).filter fun x => !(x.born == e.born) := by
        unfold leftOf
        rw [Array.toList_filter, Array.toList_filter, List.filter_filter]
        congr 1
        funext x
        rw [contains_push]
        cases seen.contains x.born <;> cases (x.born == e.born) <;> rfl
      have hnd : (((leftOf es seen).toList).map (·.born)).Nodup := by
        unfold leftOf
        rw [Array.toList_filter]
        exact h3.born.sublist (List.Sublist.map _ List.filter_sublist)
      have h9 := (perm_born e _ hnd he).map pairOf
      rw [← h8] at h9
      exact h9
    refine .inr ⟨pairOf e, restL es (seen.push e.born), _, hperm, fun ty => h7, ⟨⟨es, c, seen.push e.born, hset1, hm1, h3, rfl⟩, ?_⟩, ?_, ?_, ?_⟩
    · refine List.Perm.trans ?_ h5
      rw [List.append_assoc]
      exact List.Perm.append_left _ hperm.symm
    · refine ⟨?_, ?_, ?_, ?_, fun k hk => hset2 k hk.2⟩
      · rcases hw with rfl | rfl <;> rfl
      · rcases hw with rfl | rfl <;> rfl
      · rcases hw with rfl | rfl <;> rfl
      · simp [setBlock, hw1r]
    · simp [setBlock, hw1r]
    · have h10 := run_entry_at (P := P) _ r m c seen es c e hset1 hm1 he1 h3.born
      rw [k1, k2] at h10
      exact h10
end Go.Proofs.YtlaeenfeajkcfalGreat
