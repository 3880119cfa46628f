/- Maps whose keys are a name and a number, and so are their values. -/
import Derived.Test.YtlaeenfeajkcfakBase
import Derived.LaidEql
import Derived.Laws.StructEq
import Derived.Maps.OwnSet
import Derived.MapKept
namespace Go.Proofs.Ytlaeenfeajkcfak.Kn
open Go.RowKit

/-- A name and a number, as a value. -/
def prV (k : ByteArray × Int) : Value := .agg #[.string k.1, .int .i64 k.2]
/-- A type of a name and a number. -/
structure NameNum (P : Program) (t : TypeId) : Prop where
  fields : ∃ f0 f1, P.underlying t = some (.struct #[f0, f1]) ∧ f0.name ≠ "_" ∧ f1.name ≠ "_" ∧ f0.offset = 0 ∧ f1.offset = 1 ∧ P.underlying f0.type = some .string ∧ P.underlying f1.type = some (.int .i64)
  plain : P.stoodInHeld t = false
theorem eqStr {P : Program} (w : World) (d : Nat) {t : TypeId} (hp : P.underlying t = some .string) (x y : ByteArray) : (Op.equalIn (d + 1) t (.string x) (.string y)).run P w = .ok (x == y) w := by
  simp [Op.equalIn, run_underlying hp]
theorem eqInt {P : Program} (w : World) (d : Nat) {t : TypeId} (hp : P.underlying t = some (.int .i64)) (x y : Int) : (Op.equalIn (d + 1) t (.int .i64 x) (.int .i64 y)).run P w = .ok (x == y) w := by
  simp [Op.equalIn, run_underlying hp]
theorem eqPair {P : Program} {t : TypeId} (ht : NameNum P t) (w : World) (k l : ByteArray × Int) :
    (Op.equal t (prV k) (prV l)).run P w = .ok (k.1 == l.1 && k.2 == l.2) w := by
  obtain ⟨f0, f1, hu, n0, n1, o0, o1, hp, hq⟩ := ht.fields
  have hf : P.fieldsOf t = #[f0, f1] := by unfold Program.fieldsOf; rw [hu]
  have hu2 : P.underlying t = some (.struct (P.fieldsOf t)) := by rw [hf]; exact hu
  unfold Op.equal Op.maxDepth prV
  rw [show (10000 : Nat) = 9999 + 1 from rfl, run_equalIn_struct w 9999 t _ _ hu2 ht.plain, hf]
  have ia : ∀ w, (isAgg f0.type).run P w = .ok false w := fun w => by simp [isAgg, run_underlying hp]
  have ib : ∀ w, (isAgg f1.type).run P w = .ok false w := fun w => by simp [isAgg, run_underlying hq]
  have pa : ∀ (x y : Value), (part f0.type #[x, y] 0).run P w = .ok x w := fun x y => by simp [part, ia]
  have pb : ∀ (x y : Value), (part f1.type #[x, y] 1).run P w = .ok y w := fun x y => by simp [part, ib]
  simp only [Op.eqFields, o0, o1, n0, n1, ne_eq, not_false_eq_true, if_true, Sem.run_bind, pa, pb, Result.andThen_ok, eqStr w 9998 hp, eqInt w 9998 hq, Sem.run_ite, Sem.run_pure]
  cases (k.1 == l.1) <;> cases (k.2 == l.2) <;> simp

/-- A map's entries. -/
def EntAre (es : List MapEntry) (L : List ((ByteArray × Int) × (ByteArray × Int))) : Prop := es.map (fun e => (e.key, e.val)) = L.map fun p => (prV p.1, prV p.2)
def look (L : List ((ByteArray × Int) × (ByteArray × Int))) (k : ByteArray × Int) : Option (ByteArray × Int) := (L.find? fun p => k.1 == p.1.1 && k.2 == p.1.2).map (·.2)
theorem asking {P : Program} {t : TypeId} (ht : NameNum P t) (w : World) (k : ByteArray × Int) : ∀ (es : List MapEntry) (L : List ((ByteArray × Int) × (ByteArray × Int))) (i : Nat), EntAre es L →
    (look L k = none ∧ (Instr.findAsking t (prV k) es i).run P w = .ok none w) ∨ (∃ v j, look L k = some v ∧ (Instr.findAsking t (prV k) es i).run P w = .ok (some (j, prV v)) w) := by
  intro es
  induction es with
  | nil =>
    intro L i hk
    have : L = [] := by
      have h := hk
      simp [EntAre] at h
      exact h
    subst this
    exact Or.inl ⟨rfl, by simp [Instr.findAsking]⟩
  | cons e r ih =>
    intro L i hk
    cases L with
    | nil => have h := hk; simp [EntAre] at h
    | cons l ls =>
      have h := hk
      unfold EntAre at h
      rw [List.map_cons, List.map_cons] at h
      injection h with h1 h2
      have hkey : e.key = prV l.1 := (Prod.mk.inj h1).1
      have hval : e.val = prV l.2 := (Prod.mk.inj h1).2
      have heq := eqPair ht w k l.1
      have hex : look (l :: ls) k = cond (k.1 == l.1.1 && k.2 == l.1.2) (some l.2) (look ls k) := by
        unfold look
        rw [List.find?_cons]
        cases (k.1 == l.1.1 && k.2 == l.1.2) <;> rfl
      cases hc : (k.1 == l.1.1 && k.2 == l.1.2)
      · rw [hc] at heq
        rw [hex, hc, cond_false]
        have hstep : (Instr.findAsking t (prV k) (e :: r) i).run P w = (Instr.findAsking t (prV k) r (i + 1)).run P w := by
          simp [Instr.findAsking, hkey, heq]
        rw [hstep]
        exact ih ls (i + 1) h2
      · rw [hc] at heq
        rw [hex, hc, cond_true]
        exact Or.inr ⟨l.2, i, rfl, by simp [Instr.findAsking, hkey, heq, hval]⟩
theorem find_pair {P : Program} {t : TypeId} (ht : NameNum P t) (w : World) (k : ByteArray × Int) (es : List MapEntry) (L : List ((ByteArray × Int) × (ByteArray × Int))) (hk : EntAre es L) :
    (look L k = none ∧ (Instr.findKey t (prV k) es).run P w = .ok none w) ∨ (∃ v j, look L k = some v ∧ (Instr.findKey t (prV k) es).run P w = .ok (some (j, prV v)) w) := by
  obtain ⟨f0, f1, hu, -⟩ := ht.fields
  have key := asking ht w k es L 0 hk
  cases es with
  | nil =>
    have : L = [] := by
      have h := hk
      simp [EntAre] at h
      exact h
    subst this
    exact Or.inl ⟨rfl, by simp [Instr.findKey, run_underlying hu, Instr.findNow]⟩
  | cons e r =>
    have hn : Instr.findNow (.struct #[f0, f1]) (prV k) (e :: r) 0 = none := by simp [Instr.findNow, Instr.sameNow]
    have hstep : (Instr.findKey t (prV k) (e :: r)).run P w = (Instr.findAsking t (prV k) (e :: r) 0).run P w := by
      simp [Instr.findKey, run_underlying hu, hn]
    rw [hstep]
    exact key
theorem check_pair_n {P : Program} {t : TypeId} (ht : NameNum P t) (b : Bool) (w : World) (k : ByteArray × Int) (n : Nat) : (Instr.checkKey b (n + 2) t (prV k)).run P w = .ok () w := by
  obtain ⟨f0, f1, hu, n0, n1, o0, o1, hp, hq⟩ := ht.fields
  have ia : ∀ w, (isAgg f0.type).run P w = .ok false w := fun w => by simp [isAgg, run_underlying hp]
  have ib : ∀ w, (isAgg f1.type).run P w = .ok false w := fun w => by simp [isAgg, run_underlying hq]
  have pa : ∀ (x y : Value), (part f0.type #[x, y] 0).run P w = .ok x w := fun x y => by simp [part, ia]
  have pb : ∀ (x y : Value), (part f1.type #[x, y] 1).run P w = .ok y w := fun x y => by simp [part, ib]
  have ca : ∀ x : ByteArray, (Instr.checkKey b (n + 1) f0.type (.string x)).run P w = .ok () w := fun x => by simp [Instr.checkKey, run_underlying hp]
  have cb : ∀ x : Int, (Instr.checkKey b (n + 1) f1.type (.int .i64 x)).run P w = .ok () w := fun x => by simp [Instr.checkKey, run_underlying hq]
  unfold prV
  rw [Instr.checkKey]
  simp [run_underlying hu, n0, n1, o0, o1, pa, pb, ca, cb]
theorem check_pair {P : Program} {t : TypeId} (ht : NameNum P t) (b : Bool) (w : World) (k : ByteArray × Int) : (Instr.checkKey b 10000 t (prV k)).run P w = .ok () w := check_pair_n ht b w k 9998

/-- What a map answers, with the word whether it is there. -/
theorem look_ok {P : Program} {T t u : TypeId} (hT : P.underlying T = some (.map t u)) (ht : NameNum P t) (hz : ∀ w, (zeroValue u).run P w = .ok (prV (⟨#[]⟩, 0)) w) (w : World) (k : ByteArray × Int) (m : Nat) (es : Array MapEntry) (clock : Nat) (L : List ((ByteArray × Int) × (ByteArray × Int))) (hm : w.heap[m]? = some (.map es clock)) (hk : EntAre es.toList L) :
    (Instr.lookup T (.map (some m)) (prV k) true).run P w = .ok (.tuple #[prV ((look L k).getD (⟨#[]⟩, 0)), .bool (look L k).isSome]) w := by
  have hg : (getObj m).run P w = .ok (.map es clock) w := by simp [getObj, Sem.run, hm]
  rcases find_pair ht w k es.toList L hk with ⟨e, hf⟩ | ⟨v, j, e, hf⟩
  · rw [e]
    simp [Instr.lookup, run_underlying hT, hg, check_pair ht, hf, hz]
  · rw [e]
    simp [Instr.lookup, run_underlying hT, hg, check_pair ht, hf]
theorem look_at {P : Program} {T t u : TypeId} (hT : P.underlying T = some (.map t u)) (ht : NameNum P t) (hz : ∀ w, (zeroValue u).run P w = .ok (prV (⟨#[]⟩, 0)) w) (w : World) (k : ByteArray × Int) (m : Nat) (es : Array MapEntry) (clock : Nat) (L : List ((ByteArray × Int) × (ByteArray × Int))) (hm : w.heap[m]? = some (.map es clock)) (hk : EntAre es.toList L) :
    (Instr.lookup T (.map (some m)) (prV k) false).run P w = .ok (prV ((look L k).getD (⟨#[]⟩, 0))) w := by
  have hg : (getObj m).run P w = .ok (.map es clock) w := by simp [getObj, Sem.run, hm]
  rcases find_pair ht w k es.toList L hk with ⟨e, hf⟩ | ⟨v, j, e, hf⟩
  · rw [e]
    simp [Instr.lookup, run_underlying hT, hg, check_pair ht, hf, hz]
  · rw [e]
    simp [Instr.lookup, run_underlying hT, hg, check_pair ht, hf]
/-- Something new put into a map. -/
theorem put_new {P : Program} {T t u : TypeId} (hT : P.underlying T = some (.map t u)) (ht : NameNum P t) (w : World) (k v : ByteArray × Int) (m : Nat) (es : Array MapEntry) (clock : Nat) (L : List ((ByteArray × Int) × (ByteArray × Int))) (hm : w.heap[m]? = some (.map es clock)) (hk : EntAre es.toList L) (hno : look L k = none) :
    (Instr.mapUpdate T (.map (some m)) (prV k) (prV v)).run P w = (setObj m (.map (es.push ⟨prV k, prV v, clock⟩) (clock + 1))).run P w := by
  have hg : (getObj m).run P w = .ok (.map es clock) w := by simp [getObj, Sem.run, hm]
  rcases find_pair ht w k es.toList L hk with ⟨e, hf⟩ | ⟨v, j, e, hf⟩
  · simp [Instr.mapUpdate, run_underlying hT, hg, check_pair ht, hf]
  · rw [hno] at e
    cases e
theorem ent_push {es : Array MapEntry} {L : List ((ByteArray × Int) × (ByteArray × Int))} (hk : EntAre es.toList L) (k v : ByteArray × Int) (c : Nat) : EntAre (es.push ⟨prV k, prV v, c⟩).toList (L ++ [(k, v)]) := by
  unfold EntAre
  rw [Array.toList_push, List.map_append, List.map_append, hk]
  rfl
end Go.Proofs.Ytlaeenfeajkcfak.Kn
