/- Maps whose keys are two pointers. -/
import Derived.Test.YtifambhfggodaaaBase
import Derived.LaidEql
import Derived.LaidEqlPtr
import Derived.Laws.StructEq
import Derived.Maps.OwnSet
import Derived.MapKept
namespace Go.Proofs.Ytifambhfggodaaa
open Go.RowKit

def PlainAt (w : World) (a : Addr) : Prop := ∃ c e, w.heap[a.block]? = some (.cells c e (0, 0))
theorem eqPtr {P : Program} (w : World) (d : Nat) {tp te : TypeId} {j : TypeInfo} {a b : Addr} (hp : P.underlying tp = some (.pointer te)) (hte : P.info? te = some j) (hsz : j.size ≠ 0) (ha : PlainAt w a) (hb : PlainAt w b) :
    (Op.equalIn (d + 1) tp (.pointer (some a)) (.pointer (some b))).run P w = .ok (a == b) w := by
  obtain ⟨ca, ta, ha⟩ := ha
  obtain ⟨cb, tb, hb⟩ := hb
  by_cases e : a = b
  · subst e
    simp [Op.equalIn, run_underlying hp, typeInfo, sizeOf, run_sameAddr_same, hte]
  · simp [Op.equalIn, run_underlying hp, typeInfo, sizeOf, hte, hsz, run_sameAddr_other w e ha hb, e]
def keyV (k : Addr × Addr) : Value := .agg #[.pointer (some k.1), .pointer (some k.2)]
/-- A type of two pointers to what is not of size 0. -/
structure PairTy (P : Program) (t : TypeId) : Prop where
  fields : ∃ f0 f1 tp te j, P.underlying t = some (.struct #[f0, f1]) ∧ f0.name ≠ "_" ∧ f1.name ≠ "_" ∧ f0.type = tp ∧ f1.type = tp ∧ f0.offset = 0 ∧ f1.offset = 1 ∧ P.underlying tp = some (.pointer te) ∧ P.info? te = some j ∧ j.size ≠ 0
  plain : P.stoodInHeld t = false
theorem eqPair {P : Program} {t : TypeId} (ht : PairTy P t) (w : World) (k l : Addr × Addr) (h1 : PlainAt w k.1) (h2 : PlainAt w k.2) (h3 : PlainAt w l.1) (h4 : PlainAt w l.2) :
    (Op.equal t (keyV k) (keyV l)).run P w = .ok (k.1 == l.1 && k.2 == l.2) w := by
  obtain ⟨f0, f1, tp, te, j, hu, n0, n1, rfl, e1, o0, o1, hp, hj, hs⟩ := ht.fields
  have hf : P.fieldsOf t = #[f0, f1] := by unfold Program.fieldsOf; rw [hu]
  have hu2 : P.underlying t = some (.struct (P.fieldsOf t)) := by rw [hf]; exact hu
  unfold Op.equal Op.maxDepth keyV
  rw [show (10000 : Nat) = 9999 + 1 from rfl, run_equalIn_struct w 9999 t _ _ hu2 ht.plain, hf]
  have ia : ∀ w, (isAgg f0.type).run P w = .ok false w := fun w => by simp [isAgg, run_underlying hp]
  have pa : ∀ (x y : Addr), (part f0.type #[.pointer (some x), .pointer (some y)] 0).run P w = .ok (.pointer (some x)) w := fun x y => by simp [part, ia]
  have pb : ∀ (x y : Addr), (part f0.type #[.pointer (some x), .pointer (some y)] 1).run P w = .ok (.pointer (some y)) w := fun x y => by simp [part, ia]
  simp only [Op.eqFields, e1, o0, o1, n0, n1, ne_eq, not_false_eq_true, if_true, Sem.run_bind, pa, pb, Result.andThen_ok, eqPtr w 9998 hp hj hs h1 h3, eqPtr w 9998 hp hj hs h2 h4, Sem.run_ite, Sem.run_pure]
  cases (k.1 == l.1) <;> cases (k.2 == l.2) <;> simp

/-- A map's entries, by their keys, each of which stands for nothing. -/
def KeysAre (es : List MapEntry) (ks : List (Addr × Addr)) : Prop := es.map (·.key) = ks.map keyV ∧ ∀ e ∈ es, e.val = .agg #[]
def hasK (ks : List (Addr × Addr)) (k : Addr × Addr) : Bool := ks.any fun l => k.1 == l.1 && k.2 == l.2
theorem asking {P : Program} {t : TypeId} (ht : PairTy P t) (w : World) (k : Addr × Addr) (h1 : PlainAt w k.1) (h2 : PlainAt w k.2) : ∀ (es : List MapEntry) (ks : List (Addr × Addr)) (i : Nat), KeysAre es ks → (∀ l ∈ ks, PlainAt w l.1 ∧ PlainAt w l.2) →
    (hasK ks k = false ∧ (Instr.findAsking t (keyV k) es i).run P w = .ok none w) ∨ (hasK ks k = true ∧ ∃ j, (Instr.findAsking t (keyV k) es i).run P w = .ok (some (j, .agg #[])) w) := by
  intro es
  induction es with
  | nil =>
    intro ks i hk _
    have : ks = [] := by
      have h := hk.1
      simp at h
      exact h
    subst this
    exact Or.inl ⟨rfl, by simp [Instr.findAsking]⟩
  | cons e r ih =>
    intro ks i hk hp
    cases ks with
    | nil => have h := hk.1; simp at h
    | cons l ls =>
      have hkey : e.key = keyV l := by have h := hk.1; simp at h; exact h.1
      have hval : e.val = .agg #[] := hk.2 e (by simp)
      have hp0 := hp l (by simp)
      have hr : KeysAre r ls := ⟨by have h := hk.1; simp at h; exact h.2, fun x hx => hk.2 x (by simp [hx])⟩
      have heq := eqPair ht w k l h1 h2 hp0.1 hp0.2
      have hex : hasK (l :: ls) k = ((k.1 == l.1 && k.2 == l.2) || hasK ls k) := rfl
      cases hc : (k.1 == l.1 && k.2 == l.2)
      · rw [hc] at heq
        rw [hex, hc, Bool.false_or]
        have hstep : (Instr.findAsking t (keyV k) (e :: r) i).run P w = (Instr.findAsking t (keyV k) r (i + 1)).run P w := by
          simp [Instr.findAsking, hkey, heq]
        rw [hstep]
        exact ih ls (i + 1) hr (fun l hl => hp l (by simp [hl]))
      · rw [hc] at heq
        rw [hex, hc, Bool.true_or]
        exact Or.inr ⟨rfl, i, by simp [Instr.findAsking, hkey, heq, hval]⟩
theorem find_pair {P : Program} {t : TypeId} (ht : PairTy P t) (w : World) (k : Addr × Addr) (h1 : PlainAt w k.1) (h2 : PlainAt w k.2) (es : List MapEntry) (ks : List (Addr × Addr)) (hk : KeysAre es ks) (hp : ∀ l ∈ ks, PlainAt w l.1 ∧ PlainAt w l.2) :
    (hasK ks k = false ∧ (Instr.findKey t (keyV k) es).run P w = .ok none w) ∨ (hasK ks k = true ∧ ∃ j, (Instr.findKey t (keyV k) es).run P w = .ok (some (j, .agg #[])) w) := by
  obtain ⟨f0, f1, tp, te, j, hu, -⟩ := ht.fields
  have key := asking ht w k h1 h2 es ks 0 hk hp
  cases es with
  | nil =>
    have : ks = [] := by
      have h := hk.1
      simp at h
      exact h
    subst this
    exact Or.inl ⟨rfl, by simp [Instr.findKey, run_underlying hu, Instr.findNow]⟩
  | cons e r =>
    have hn : Instr.findNow (.struct #[f0, f1]) (keyV k) (e :: r) 0 = none := by simp [Instr.findNow, Instr.sameNow]
    have hstep : (Instr.findKey t (keyV k) (e :: r)).run P w = (Instr.findAsking t (keyV k) (e :: r) 0).run P w := by
      simp [Instr.findKey, run_underlying hu, hn]
    rw [hstep]
    exact key
theorem check_pair_n {P : Program} {t : TypeId} (ht : PairTy P t) (b : Bool) (w : World) (k : Addr × Addr) (n : Nat) : (Instr.checkKey b (n + 2) t (keyV k)).run P w = .ok () w := by
  obtain ⟨f0, f1, tp, te, j, hu, n0, n1, rfl, e1, o0, o1, hp, hj, hs⟩ := ht.fields
  have ia : ∀ w, (isAgg f0.type).run P w = .ok false w := fun w => by simp [isAgg, run_underlying hp]
  have pa : ∀ (x y : Addr), (part f0.type #[.pointer (some x), .pointer (some y)] 0).run P w = .ok (.pointer (some x)) w := fun x y => by simp [part, ia]
  have pb : ∀ (x y : Addr), (part f0.type #[.pointer (some x), .pointer (some y)] 1).run P w = .ok (.pointer (some y)) w := fun x y => by simp [part, ia]
  have cp : ∀ x : Addr, (Instr.checkKey b (n + 1) f0.type (.pointer (some x))).run P w = .ok () w := fun x => by simp [Instr.checkKey, run_underlying hp]
  unfold keyV
  rw [Instr.checkKey]
  simp [run_underlying hu, n0, n1, e1, o0, o1, pa, pb, cp]
theorem check_pair {P : Program} {t : TypeId} (ht : PairTy P t) (b : Bool) (w : World) (k : Addr × Addr) : (Instr.checkKey b 10000 t (keyV k)).run P w = .ok () w := check_pair_n ht b w k 9998

/-- A map that is asked whether two pointers stand in it. -/
theorem look_none {P : Program} {T t u : TypeId} (hT : P.underlying T = some (.map t u)) (ht : PairTy P t) (hz : ∀ w, (zeroValue u).run P w = .ok (.agg #[]) w) (w : World) (k : Addr × Addr) :
    (Instr.lookup T (.map none) (keyV k) true).run P w = .ok (.tuple #[.agg #[], .bool false]) w := by
  obtain ⟨f0, f1, tp, te, j, hu, -⟩ := ht.fields
  have hf : (Instr.findKey t (keyV k) []).run P w = .ok none w := by simp [Instr.findKey, run_underlying hu, Instr.findNow]
  simp [Instr.lookup, run_underlying hT, check_pair ht, hf, hz]
theorem look_some {P : Program} {T t u : TypeId} (hT : P.underlying T = some (.map t u)) (ht : PairTy P t) (hz : ∀ w, (zeroValue u).run P w = .ok (.agg #[]) w) (w : World) (k : Addr × Addr) (m : Nat) (es : Array MapEntry) (clock : Nat) (ks : List (Addr × Addr)) (hm : w.heap[m]? = some (.map es clock)) (hk : KeysAre es.toList ks) (h1 : PlainAt w k.1) (h2 : PlainAt w k.2) (hp : ∀ l ∈ ks, PlainAt w l.1 ∧ PlainAt w l.2) :
    (Instr.lookup T (.map (some m)) (keyV k) true).run P w = .ok (.tuple #[.agg #[], .bool (hasK ks k)]) w := by
  have hg : (getObj m).run P w = .ok (.map es clock) w := by simp [getObj, Sem.run, hm]
  rcases find_pair ht w k h1 h2 es.toList ks hk hp with ⟨e, hf⟩ | ⟨e, j, hf⟩
  · rw [e]
    simp [Instr.lookup, run_underlying hT, hg, check_pair ht, hf, hz]
  · rw [e]
    simp [Instr.lookup, run_underlying hT, hg, check_pair ht, hf]

/-- Two pointers put into a map in which they don't stand. -/
theorem put_new {P : Program} {T t u : TypeId} (hT : P.underlying T = some (.map t u)) (ht : PairTy P t) (w : World) (k : Addr × Addr) (m : Nat) (es : Array MapEntry) (clock : Nat) (ks : List (Addr × Addr)) (hm : w.heap[m]? = some (.map es clock)) (hk : KeysAre es.toList ks) (h1 : PlainAt w k.1) (h2 : PlainAt w k.2) (hp : ∀ l ∈ ks, PlainAt w l.1 ∧ PlainAt w l.2) (hno : hasK ks k = false) :
    (Instr.mapUpdate T (.map (some m)) (keyV k) (.agg #[])).run P w = (setObj m (.map (es.push ⟨keyV k, .agg #[], clock⟩) (clock + 1))).run P w := by
  have hg : (getObj m).run P w = .ok (.map es clock) w := by simp [getObj, Sem.run, hm]
  rcases find_pair ht w k h1 h2 es.toList ks hk hp with ⟨e, hf⟩ | ⟨e, j, hf⟩
  · simp [Instr.mapUpdate, run_underlying hT, hg, check_pair ht, hf]
  · rw [hno] at e
    cases e
theorem keys_push {es : Array MapEntry} {ks : List (Addr × Addr)} (hk : KeysAre es.toList ks) (k : Addr × Addr) (c : Nat) : KeysAre (es.push ⟨keyV k, .agg #[], c⟩).toList (ks ++ [k]) := by
  refine ⟨?_, ?_⟩
  · rw [Array.toList_push, List.map_append, List.map_append, hk.1]
    rfl
  · intro e he
    rw [Array.toList_push, List.mem_append] at he
    rcases he with he | he
    · exact hk.2 e he
    · simp at he
      rw [he]
end Go.Proofs.Ytifambhfggodaaa
