/- Made of AA, AB. -/
import Derived.Test.YtlaeenfeajkcfalGreatSA
import Derived.LaidEql
import Derived.Laws.StructEq
import Derived.Maps.OwnSet
import Derived.MapKept
import Derived.Deep.RegionLaw
import Derived.Deep.QuietTactic
import Derived.WalkSmall
namespace Go.Proofs.YtlaeenfeajkcfalGreat.Kn
open Go.RowKit

/-- A name and a number, as a value. -/
def prV (k : ByteArray × Int) : Value := .agg #[.string k.1, .int .i64 k.2]
/-- A type of a name and a number. -/
structure NameNum (P : Program) (t : TypeId) : Prop where
  fields : ∃ f0 f1, P.underlying t = some (.struct #[f0, f1]) ∧ f0.name ≠ "_" ∧ f1.name ≠ "_" ∧ f0.offset = 0 ∧ f1.offset = 1 ∧ P.underlying f0.type = some .string ∧ P.underlying f1.type = some (.int .i64)
  plain : P.stoodInHeld t = false
theorem eqStr {P : Program} (w : World) (d : Nat) {t : TypeId} (hp : P.underlying t = some .string) (x y : ByteArray) : (Op.equalIn (d + 1) t (.string x) (.string y)).run P w = .ok (x == y) w := by
  simp [Op.equalIn, run_underlying hp]
theorem eqInt {P : Program} (w : World) (d : Nat) {t : TypeId} (hp : P.underlying t = some (.int .i64)) (x y : Int) : (Op.equalIn (d + 1) t (.int .i64 x) (.int .i64 y)).run P w = .ok (x == y) w := by
  simp [Op.equalIn, run_underlying hp]
theorem eqPair {P : Program} {t : TypeId} (ht : NameNum P t) (w : World) (k l : ByteArray × Int) :
    (Op.equal t (prV k) (prV l)).run P w = .ok (k.1 == l.1 && k.2 == l.2) w := by
  obtain ⟨f0, f1, hu, n0, n1, o0, o1, hp, hq⟩ := ht.fields
  have hf : P.fieldsOf t = #[f0, f1] := by unfold Program.fieldsOf; rw [hu]
  have hu2 : P.underlying t = some (.struct (P.fieldsOf t)) := by rw [hf]; exact hu
  unfold Op.equal Op.maxDepth prV
  rw [show (10000 : Nat) = 9999 + 1 from rfl, run_equalIn_struct w 9999 t _ _ hu2 ht.plain, hf]
  have ia : ∀ w, (isAgg f0.type).run P w = .ok false w := fun w => by simp [isAgg, run_underlying hp]
  have ib : ∀ w, (isAgg f1.type).run P w = .ok false w := fun w => by simp [isAgg, run_underlying hq]
  have pa : ∀ (x y : Value), (part f0.type #[x, y] 0).run P w = .ok x w := fun x y => by simp [part, ia]
  have pb : ∀ (x y : Value), (part f1.type #[x, y] 1).run P w = .ok y w := fun x y => by simp [part, ib]
  simp only [Op.eqFields, o0, o1, n0, n1, ne_eq, not_false_eq_true, if_true, Sem.run_bind, pa, pb, Result.andThen_ok, eqStr w 9998 hp, eqInt w 9998 hq, Sem.run_ite, Sem.run_pure]
  cases (k.1 == l.1) <;> cases (k.2 == l.2) <;> simp

/-- A map's entries. -/
def EntAre (es : List MapEntry) (L : List ((ByteArray × Int) × (ByteArray × Int))) : Prop := es.map (fun e => (e.key, e.val)) = L.map fun p => (prV p.1, prV p.2)
def look (L : List ((ByteArray × Int) × (ByteArray × Int))) (k : ByteArray × Int) : Option (ByteArray × Int) := (L.find? fun p => k.1 == p.1.1 && k.2 == p.1.2).map (·.2)
theorem asking {P : Program} {t : TypeId} (ht : NameNum P t) (w : World) (k : ByteArray × Int) : ∀ (es : List MapEntry) (L : List ((ByteArray × Int) × (ByteArray × Int))) (i : Nat), EntAre es L →
    (look L k = none ∧ (Instr.findAsking t (prV k) es i).run P w = .ok none w) ∨ (∃ v j, look L k = some v ∧ (Instr.findAsking t (prV k) es i).run P w = .ok (some (j, prV v)) w) := by
  intro es
  induction es with
  | nil =>
    intro L i hk
    have : L = [] := by
      have h := hk
      simp [EntAre] at h
      exact h
    subst this
    exact Or.inl ⟨rfl, by simp [Instr.findAsking]⟩
  | cons e r ih =>
    intro L i hk
    cases L with
    | nil => have h := hk; simp [EntAre] at h
    | cons l ls =>
      have h := hk
      unfold EntAre at h
      rw [List.map_cons, List.map_cons] at h
      injection h with h1 h2
      have hkey : e.key = prV l.1 := (Prod.mk.inj h1).1
      have hval : e.val = prV l.2 := (Prod.mk.inj h1).2
      have heq := eqPair ht w k l.1
      have hex : look (l :: ls) k = cond (k.1 == l.1.1 && k.2 == l.1.2) (some l.2) (look ls k) := by
        unfold look
        rw [List.find?_cons]
        cases (k.1 == l.1.1 && k.2 == l.1.2) <;> rfl
      cases hc : (k.1 == l.1.1 && k.2 == l.1.2)
      · rw [hc] at heq
        rw [hex, hc, cond_false]
        have hstep : (Instr.findAsking t (prV k) (e :: r) i).run P w = (Instr.findAsking t (prV k) r (i + 1)).run P w := by
          simp [Instr.findAsking, hkey, heq]
        rw [hstep]
        exact ih ls (i + 1) h2
      · rw [hc] at heq
        rw [hex, hc, cond_true]
        exact Or.inr ⟨l.2, i, rfl, by simp [Instr.findAsking, hkey, heq, hval]⟩
theorem find_pair {P : Program} {t : TypeId} (ht : NameNum P t) (w : World) (k : ByteArray × Int) (es : List MapEntry) (L : List ((ByteArray × Int) × (ByteArray × Int))) (hk : EntAre es L) :
    (look L k = none ∧ (Instr.findKey t (prV k) es).run P w = .ok none w) ∨ (∃ v j, look L k = some v ∧ (Instr.findKey t (prV k) es).run P w = .ok (some (j, prV v)) w) := by
  obtain ⟨f0, f1, hu, -⟩ := ht.fields
  have key := asking ht w k es L 0 hk
  cases es with
  | nil =>
    have : L = [] := by
      have h := hk
      simp [EntAre] at h
      exact h
    subst this
    exact Or.inl ⟨rfl, by simp [Instr.findKey, run_underlying hu, Instr.findNow]⟩
  | cons e r =>
    have hn : Instr.findNow (.struct #[f0, f1]) (prV k) (e :: r) 0 = none := by simp [Instr.findNow, Instr.sameNow]
    have hstep : (Instr.findKey t (prV k) (e :: r)).run P w = (Instr.findAsking t (prV k) (e :: r) 0).run P w := by
      simp [Instr.findKey, run_underlying hu, hn]
    rw [hstep]
    exact key
theorem check_pair_n {P : Program} {t : TypeId} (ht : NameNum P t) (b : Bool) (w : World) (k : ByteArray × Int) (n : Nat) : (Instr.checkKey b (n + 2) t (prV k)).run P w = .ok () w := by
  obtain ⟨f0, f1, hu, n0, n1, o0, o1, hp, hq⟩ := ht.fields
  have ia : ∀ w, (isAgg f0.type).run P w = .ok false w := fun w => by simp [isAgg, run_underlying hp]
  have ib : ∀ w, (isAgg f1.type).run P w = .ok false w := fun w => by simp [isAgg, run_underlying hq]
  have pa : ∀ (x y : Value), (part f0.type #[x, y] 0).run P w = .ok x w := fun x y => by simp [part, ia]
  have pb : ∀ (x y : Value), (part f1.type #[x, y] 1).run P w = .ok y w := fun x y => by simp [part, ib]
  have ca : ∀ x : ByteArray, (Instr.checkKey b (n + 1) f0.type (.string x)).run P w = .ok () w := fun x => by simp [Instr.checkKey, run_underlying hp]
  have cb : ∀ x : Int, (Instr.checkKey b (n + 1) f1.type (.int .i64 x)).run P w = .ok () w := fun x => by simp [Instr.checkKey, run_underlying hq]
  unfold prV
  rw [Instr.checkKey]
  simp [run_underlying hu, n0, n1, o0, o1, pa, pb, ca, cb]
theorem check_pair {P : Program} {t : TypeId} (ht : NameNum P t) (b : Bool) (w : World) (k : ByteArray × Int) : (Instr.checkKey b 10000 t (prV k)).run P w = .ok () w := check_pair_n ht b w k 9998

/-- What a map answers, with the word whether it is there. -/
theorem look_ok {P : Program} {T t u : TypeId} (hT : P.underlying T = some (.map t u)) (ht : NameNum P t) (hz : ∀ w, (zeroValue u).run P w = .ok (prV (⟨#[]⟩, 0)) w) (w : World) (k : ByteArray × Int) (m : Nat) (es : Array MapEntry) (clock : Nat) (L : List ((ByteArray × Int) × (ByteArray × Int))) (hm : w.heap[m]? = some (.map es clock)) (hk : EntAre es.toList L) :
    (Instr.lookup T (.map (some m)) (prV k) true).run P w = .ok (.tuple #[prV ((look L k).getD (⟨#[]⟩, 0)), .bool (look L k).isSome]) w := by
  have hg : (getObj m).run P w = .ok (.map es clock) w := by simp [getObj, Sem.run, hm]
  rcases find_pair ht w k es.toList L hk with ⟨e, hf⟩ | ⟨v, j, e, hf⟩
  · rw [e]
    simp [Instr.lookup, run_underlying hT, hg, check_pair ht, hf, hz]
  · rw [e]
    simp [Instr.lookup, run_underlying hT, hg, check_pair ht, hf]
/-- Something new put into a map. -/
theorem put_new {P : Program} {T t u : TypeId} (hT : P.underlying T = some (.map t u)) (ht : NameNum P t) (w : World) (k v : ByteArray × Int) (m : Nat) (es : Array MapEntry) (clock : Nat) (L : List ((ByteArray × Int) × (ByteArray × Int))) (hm : w.heap[m]? = some (.map es clock)) (hk : EntAre es.toList L) (hno : look L k = none) :
    (Instr.mapUpdate T (.map (some m)) (prV k) (prV v)).run P w = (setObj m (.map (es.push ⟨prV k, prV v, clock⟩) (clock + 1))).run P w := by
  have hg : (getObj m).run P w = .ok (.map es clock) w := by simp [getObj, Sem.run, hm]
  rcases find_pair ht w k es.toList L hk with ⟨e, hf⟩ | ⟨v, j, e, hf⟩
  · simp [Instr.mapUpdate, run_underlying hT, hg, check_pair ht, hf]
  · rw [hno] at e
    cases e
theorem ent_push {es : Array MapEntry} {L : List ((ByteArray × Int) × (ByteArray × Int))} (hk : EntAre es.toList L) (k v : ByteArray × Int) (c : Nat) : EntAre (es.push ⟨prV k, prV v, c⟩).toList (L ++ [(k, v)]) := by
  unfold EntAre
  rw [Array.toList_push, List.map_append, List.map_append, hk]
  rfl
end Go.Proofs.YtlaeenfeajkcfalGreat.Kn
namespace Go.Proofs.YtlaeenfeajkcfalGreat.Kn
open Go.RowKit

theorem ba_inj {a b : ByteArray} (h : a.toList = b.toList) : a = b := by
  rw [ByteArray.toList_eq, ByteArray.toList_eq] at h
  cases a
  cases b
  exact congrArg ByteArray.mk (Array.toList_inj.1 h)
theorem ba_data (a b : ByteArray) : (a == b) = (a.data == b.data) := by
  cases a
  cases b
  rfl
theorem ba_beq (a b : ByteArray) : (a == b) = (a.toList == b.toList) := by
  rw [ba_data, ByteArray.toList_eq, ByteArray.toList_eq]
  by_cases h : a.data = b.data
  · rw [h]
    simp
  · have h2 : ¬ a.data.toList = b.data.toList := fun e => h (Array.toList_inj.1 e)
    rw [beq_eq_false_iff_ne.2 h, beq_eq_false_iff_ne.2 h2]
theorem ba_ne {a b : ByteArray} (h : ¬ a = b) : (a == b) = false := by
  rw [ba_beq, beq_eq_false_iff_ne]
  exact fun e => h (ba_inj e)
theorem ba_eq {a b : ByteArray} (h : (a == b) = true) : a = b := by
  rw [ba_beq] at h
  exact ba_inj (by simpa using h)
/-- A maker: its great name, its data's, how many parts. -/
abbrev Mk := ByteArray × ByteArray × Nat
def ent2 (p : Mk) : List ((ByteArray × Int) × (ByteArray × Int)) := [((p.1, -1), (p.2.1, (p.2.2 : Int))), ((p.1, (p.2.2 : Int)), (p.2.1, (p.2.2 : Int)))]
def ents (L : List Mk) : List ((ByteArray × Int) × (ByteArray × Int)) := L.flatMap ent2
def findM (L : List Mk) (g : ByteArray) : Option Mk := L.find? fun p => g.toList == p.1.toList
def putL (L : List Mk) (e : Mk) : List Mk := cond (findM L e.1).isSome L (L ++ [e])
theorem findM_none {L : List Mk} {g : ByteArray} (h : findM L g = none) : ∀ p ∈ L, ¬ g = p.1 := by
  intro p hp e
  have := List.find?_eq_none.1 h p hp
  rw [e] at this
  simp at this
theorem find_put (L : List Mk) (e : Mk) (g : ByteArray) : findM (putL L e) g = findM (L ++ [e]) g := by
  unfold putL
  cases h : findM L e.1 with
  | none => rfl
  | some p =>
    show findM L g = findM (L ++ [e]) g
    unfold findM at h ⊢
    rw [List.find?_append]
    cases h2 : L.find? fun p => g.toList == p.1.toList with
    | some q => rfl
    | none =>
      rw [Option.none_or, List.find?_cons]
      cases h3 : (g.toList == e.1.toList) with
      | false => rfl
      | true =>
        exfalso
        have e3 : g = e.1 := ba_inj (by simpa using h3)
        rw [e3, h] at h2
        cases h2
theorem find_app (L M : List Mk) (g : ByteArray) : findM (L ++ M) g = (findM L g).or (findM M g) := by
  unfold findM
  rw [List.find?_append]
theorem find_puts : ∀ (M L : List Mk) (g : ByteArray), findM (M.foldl putL L) g = findM (L ++ M) g := by
  intro M
  induction M with
  | nil => intro L g; rw [List.append_nil]; rfl
  | cons e r ih =>
    intro L g
    rw [List.foldl_cons, ih, find_app, find_put, find_app, find_app, show findM (e :: r) g = findM ([e] ++ r) g from rfl, find_app, Option.or_assoc]
theorem puts_snoc (M : List Mk) (L : List Mk) (e : Mk) : (M ++ [e]).foldl putL L = putL (M.foldl putL L) e := by rw [List.foldl_append]; rfl
def Dist (L : List Mk) : Prop := L.Pairwise fun p q => p.1 ≠ q.1
theorem dist_put {L : List Mk} (h : Dist L) (e : Mk) : Dist (putL L e) := by
  unfold putL
  cases hf : findM L e.1 with
  | some p => exact h
  | none =>
    refine List.pairwise_append.2 ⟨h, List.pairwise_singleton _ _, fun p hp q hq => ?_⟩
    rw [List.mem_singleton] at hq
    subst hq
    exact fun e2 => findM_none hf p hp e2.symm

theorem look_app (L M : List ((ByteArray × Int) × (ByteArray × Int))) (k : ByteArray × Int) : look (L ++ M) k = (look L k).or (look M k) := by
  unfold look
  rw [List.find?_append]
  cases L.find? fun p => k.1 == p.1.1 && k.2 == p.1.2 <;> rfl
theorem look_one (p v k : ByteArray × Int) : look [(p, v)] k = cond (k.1 == p.1 && k.2 == p.2) (some v) none := by
  unfold look
  rw [List.find?_cons]
  cases (k.1 == p.1 && k.2 == p.2) <;> rfl
theorem look_cons2 (e : Mk) (L : List Mk) (k : ByteArray × Int) : look (ents (e :: L)) k = (look (ent2 e) k).or (look (ents L) k) := by
  show look (ent2 e ++ ents L) k = _
  rw [look_app]
theorem look_ent2 (e : Mk) (k : ByteArray × Int) : look (ent2 e) k = cond (k.1 == e.1 && (k.2 == -1 || k.2 == (e.2.2 : Int))) (some (e.2.1, (e.2.2 : Int))) none := by
  show look ([((e.1, -1), (e.2.1, (e.2.2 : Int)))] ++ [((e.1, (e.2.2 : Int)), (e.2.1, (e.2.2 : Int)))]) k = _
  rw [look_app, look_one, look_one]
  cases (k.1 == e.1) <;> cases (k.2 == -1) <;> cases (k.2 == (e.2.2 : Int)) <;> rfl
/-- A great name that nobody counts. -/
theorem look_un : ∀ (L : List Mk) (g : ByteArray), look (ents L) (g, -1) = (findM L g).map fun p => (p.2.1, (p.2.2 : Int)) := by
  intro L
  induction L with
  | nil => intro g; rfl
  | cons e r ih =>
    intro g
    rw [look_cons2, look_ent2, ih, show findM (e :: r) g = findM ([e] ++ r) g from rfl, find_app]
    have h1 : findM [e] g = cond (g == e.1) (some e) none := by
      unfold findM
      rw [List.find?_cons, ba_beq]
      cases (g.toList == e.1.toList) <;> rfl
    rw [h1]
    cases (g == e.1) <;> simp
/-- What is not there at all is not there with any count. -/
theorem look_no {L : List Mk} {g : ByteArray} (h : findM L g = none) (k : Int) : Kn.look (ents L) (g, k) = none := by
  induction L with
  | nil => rfl
  | cons e r ih =>
    have h2 : findM ([e] ++ r) g = none := h
    rw [find_app] at h2
    have hn := findM_none h e (by simp)
    have hr : findM r g = none := by
      cases h3 : findM [e] g with
      | none => rw [h3] at h2; simpa using h2
      | some q => rw [h3] at h2; cases h2
    rw [look_cons2, look_ent2, ih hr]
    rw [show ((g, k).1 == e.1) = false from ba_ne hn]
    rfl
/-- A great name with a count. -/
theorem look_cnt : ∀ {L : List Mk}, Dist L → ∀ (g : ByteArray) (k : Nat), (look (ents L) (g, (k : Int))).isSome = ((findM L g).map fun p => p.2.2 == k).getD false := by
  intro L
  induction L with
  | nil => intro _ g k; rfl
  | cons e r ih =>
    intro hd g k
    obtain ⟨h1, h2⟩ := List.pairwise_cons.1 hd
    rw [look_cons2, look_ent2, show findM (e :: r) g = findM ([e] ++ r) g from rfl, find_app]
    have h3 : findM [e] g = cond (g == e.1) (some e) none := by
      unfold findM
      rw [List.find?_cons, ba_beq]
      cases (g.toList == e.1.toList) <;> rfl
    rw [h3]
    have h4 : ((g, (k : Int)).2 == -1) = false := beq_eq_false_iff_ne.2 (by omega)
    rw [h4, Bool.false_or]
    cases h5 : (g == e.1) with
    | false =>
      have := ih h2 g k
      simpa using this
    | true =>
      have e5 : g = e.1 := ba_eq h5
      have hr : findM r g = none := by
        cases h6 : findM r g with
        | none => rfl
        | some q =>
          exfalso
          have hq := List.find?_some h6
          have hm := List.mem_of_find?_eq_some h6
          exact h1 q hm (e5.symm.trans (ba_inj (by simpa using hq)))
      have hl := look_no hr (k : Int)
      rw [hl]
      by_cases h7 : k = e.2.2
      · subst h7
        simp
      · have h8 : ((k : Int) == (e.2.2 : Int)) = false := beq_eq_false_iff_ne.2 (by omega)
        have h9 : (e.2.2 == k) = false := beq_eq_false_iff_ne.2 (by omega)
        rw [h8]
        simp [h9]

theorem keyT : NameNum Tryz.prog 129 := ⟨⟨_, _, Tryz.underlying129, by decide, by decide, rfl, rfl, Tryz.underlying9, Tryz.underlying3⟩, by kernel_rfl⟩
theorem zeroM (w : World) : (zeroValue 88).run Tryz.prog w = .ok (prV (⟨#[]⟩, 0)) w := by
  have hi : (Tryz.prog.info? 88).map (fun i => (i.zero, i.size, i.bytes)) = some (some (.agg #[.string ⟨#[]⟩, .int .i64 0]), 2, 24) := by kernel_rfl
  obtain ⟨i0, h1, h2, -, -⟩ := info_parts hi
  simp [zeroValue, typeInfo, h1, h2, prV]
/-- In a block lies the map of these makers. -/
def MkMap (w : World) (m : Nat) (L : List Mk) : Prop := Dist L ∧ ∃ es clock, w.heap[m]? = some (.map es clock) ∧ EntAre es.toList (ents L)
theorem MkMap.lt {w : World} {m : Nat} {L : List Mk} (h : MkMap w m L) : m < w.heap.size := by
  obtain ⟨-, es, c, h, -⟩ := h
  exact heap_lt h
theorem MkMap.keep {w w' : World} {m : Nat} {L : List Mk} (h : MkMap w m L) (hb : w'.heap[m]? = w.heap[m]?) : MkMap w' m L := by
  obtain ⟨hd, es, c, h, he⟩ := h
  exact ⟨hd, es, c, hb.trans h, he⟩
theorem MkMap.later {w w' : World} {m : Nat} {L : List Mk} (h : MkMap w m L) (hb : Below w.heap.size w w') : MkMap w' m L := h.keep (hb.block m h.lt)
theorem MkMap.look {w : World} {m : Nat} {L : List Mk} (h : MkMap w m L) (g : ByteArray) (k : Int) :
    (Instr.lookup 53 (.map (some m)) (.agg #[.string g, .int .i64 k]) true).run Tryz.prog w = .ok (.tuple #[prV ((Kn.look (ents L) (g, k)).getD (⟨#[]⟩, 0)), .bool (Kn.look (ents L) (g, k)).isSome]) w := by
  obtain ⟨-, es, c, h, he⟩ := h
  exact look_ok Tryz.underlying53 keyT zeroM w (g, k) m es c (ents L) h he
set_option maxHeartbeats 1000000 in
set_option maxRecDepth 100000 in
theorem know_any {w : World} {m : Nat} {L : List Mk} (h : MkMap w m L) (g : ByteArray) (k : Int) (o : Bool) (ho : (Kn.look (ents L) (g, k)).isSome = o) :
    Calls Tryz.prog 71 #[.map (some m), .agg #[.string g, .int .i64 k]] w fun e w' => e = .returned (.bool o) ∧ Below w.heap.size w w' := by
  generalize hv : (Kn.look (ents L) (g, k)).getD (⟨#[]⟩, 0) = v
  obtain ⟨d, n⟩ := v
  have HB0 : Hid (Below w.heap.size w (w.alloc (.cells #[.string g, .int .i64 k] 129))) := (Below.refl _ w).alloc (Nat.le_refl _) _
  have hl1 := (h.later HB0.out).look g k
  have hl2 := (h.later HB0.out.drew).look g k
  have HB2 : Hid (Below w.heap.size w ((w.alloc (.cells #[.string g, .int .i64 k] 129)).alloc (.cells #[.string ⟨#[]⟩, .int .i64 0] 88))) := HB0.out.alloc (by simp) _
  have hl3 := (h.later HB2.out).look g k
  have hl4 := (h.later HB2.out.drew).look g k
  rw [hv, ho] at hl1 hl2 hl3 hl4
  unfold prV at hl1 hl2 hl3 hl4
  clear h hv ho
  go_enter Tryz.func71, Tryz.ntmps71
  go_wp2
  go_ret
  exact ⟨rfl, HB0.out.alloc (by simp) _⟩

/-- A map's entries in a block. -/
def EntMap (w : World) (m : Nat) (E : List ((ByteArray × Int) × (ByteArray × Int))) : Prop := ∃ es clock, w.heap[m]? = some (.map es clock) ∧ EntAre es.toList E
theorem EntMap.put {w : World} {m : Nat} {E : List ((ByteArray × Int) × (ByteArray × Int))} (h : EntMap w m E) {k v : ByteArray × Int} (hno : Kn.look E k = none) :
    ∃ w', (Instr.mapUpdate 53 (.map (some m)) (.agg #[.string k.1, .int .i64 k.2]) (.agg #[.string v.1, .int .i64 v.2])).run Tryz.prog w = .ok () w' ∧ EntMap w' m (E ++ [(k, v)]) ∧ w.grownBy w' (some m) ∧ w'.heap.size = w.heap.size := by
  obtain ⟨es, c, hm, he⟩ := h
  have hset : ∀ o, (setObj m o).run Tryz.prog w = .ok () (Go.ChangeMaps.setBlock w m o) := fun o => by simp [setObj, Sem.run, hm, Go.ChangeMaps.setBlock]
  refine ⟨_, (put_new Tryz.underlying53 keyT w k v m es c E hm he hno).trans (hset _), ⟨_, _, Go.ChangeMaps.heap_setBlock_same hm _, ent_push he k v c⟩, ⟨rfl, rfl, rfl, by simp [Go.ChangeMaps.setBlock], fun i _ hi => Go.ChangeMaps.heap_setBlock_other hm _ (fun e => hi (by rw [e]))⟩, by simp [Go.ChangeMaps.setBlock]⟩
theorem grown_trans {w w' w'' : World} {r : Option Nat} (h : w.grownBy w' r) (k : w'.grownBy w'' r) : w.grownBy w'' r :=
  ⟨k.os.trans h.os, k.tape.trans h.tape, k.output.trans h.output, Nat.le_trans h.size k.size, fun i hi hne => (k.block i (Nat.lt_of_lt_of_le hi h.size) hne).trans (h.block i hi hne)⟩
theorem grown_below {w w' : World} {r : Option Nat} (h : Below w.heap.size w w') : w.grownBy w' r := ⟨h.os, h.tape, h.output, h.size, fun i hi _ => h.block i hi⟩

set_option maxHeartbeats 1000000 in
set_option maxRecDepth 100000 in
theorem put_any {w : World} {m : Nat} {L : List Mk} (h : MkMap w m L) (g d : ByteArray) (a : Nat) :
    Calls Tryz.prog 40 #[.map (some m), .string g, .agg #[.string d, .int .i64 (a : Int)]] w fun e w' => e = .returned (.tuple #[]) ∧ MkMap w' m (putL L (g, d, a)) ∧ w.grownBy w' (some m) := by
  have HB0 : Hid (Below w.heap.size w (w.alloc (.cells #[.string d, .int .i64 (a : Int)] 88))) := (Below.refl _ w).alloc (Nat.le_refl _) _
  have HX0 : Hid ((w.alloc (.cells #[.string d, .int .i64 (a : Int)] 88)).heap[w.heap.size]? = some (.cells #[.string d, .int .i64 (a : Int)] 88 (0, 0))) := heap_alloc_new w _
  have HM0 := hide (h.later HB0.out)
  have hlt := h.lt
  have HK := hide fun (o : Bool) (ho : (Kn.look (ents L) (g, -1)).isSome = o) => know_any HM0.out g (-1) o ho
  cases hf : findM L g with
  | some p =>
    have HP : Hid (putL L (g, d, a) = L) := by show putL L (g, d, a) = L; unfold putL; rw [hf]; rfl
    have HO : Hid ((Kn.look (ents L) (g, -1)).isSome = true) := by show _ = true; rw [look_un, hf]; rfl
    clear hf h
    go_enter Tryz.func40, Tryz.ntmps40
    go_wp2_with fail
    refine (HK.out true HO.out).mono ?_
    rintro e w1 ⟨rfl, hb⟩
    have HB1 := hide hb
    clear hb
    go_wp2
    exact bodyPost_ret (results_none rfl _ _ _) rfl ⟨rfl, by rw [HP.out]; exact HM0.out.later HB1.out, grown_trans (grown_below HB0.out) (grown_below HB1.out)⟩
  | none =>
    have HP : Hid (putL L (g, d, a) = L ++ [(g, d, a)] ∧ Dist (L ++ [(g, d, a)])) := by
      have e : putL L (g, d, a) = L ++ [(g, d, a)] := by unfold putL; rw [hf]; rfl
      exact ⟨e, e ▸ dist_put h.1 _⟩
    have HO : Hid ((Kn.look (ents L) (g, -1)).isSome = false) := by show _ = false; rw [look_un, hf]; rfl
    have HN := hide fun k => look_no hf k
    clear hf h
    go_enter Tryz.func40, Tryz.ntmps40
    go_wp2_with fail
    refine (HK.out false HO.out).mono ?_
    rintro e w1 ⟨rfl, hb⟩
    have HX1 := hide ((hb.block w.heap.size (heap_lt HX0.out)).trans HX0.out)
    have HM1 := hide (HM0.out.later hb)
    have HG1 : Hid (w.grownBy w1 (some m)) := grown_trans (grown_below HB0.out) (grown_below hb)
    clear hb
    obtain ⟨w2, hr2, he2, hg2, hs2⟩ := EntMap.put (k := (g, -1)) (v := (d, (a : Int))) HM1.out.2 (HN.out (-1))
    have hne : (some w.heap.size) ≠ (some m) := by intro e; have := Option.some.inj e; omega
    have HX2 := hide ((hg2.block w.heap.size (heap_lt HX1.out) hne).trans HX1.out)
    obtain ⟨w3, hr3, he3, hg3, hs3⟩ := EntMap.put (k := (g, (a : Int))) (v := (d, (a : Int))) he2 (by
      rw [look_app, HN.out, Option.none_or, look_one]
      have h4 : ((a : Int) == -1) = false := beq_eq_false_iff_ne.2 (by omega)
      show cond (_ && ((a : Int) == -1)) _ _ = none
      rw [h4, Bool.and_false]
      rfl)
    have HG3 : Hid (w.grownBy w3 (some m)) := grown_trans HG1.out (grown_trans hg2 hg3)
    have HM3 : Hid (MkMap w3 m (L ++ [(g, d, a)])) := by
      refine ⟨HP.out.2, ?_⟩
      obtain ⟨es, c, h1, h2⟩ := he3
      refine ⟨es, c, h1, ?_⟩
      rw [List.append_assoc] at h2
      have e : ents (L ++ [(g, d, a)]) = ents L ++ ([((g, -1), (d, (a : Int)))] ++ [((g, (a : Int)), (d, (a : Int)))]) := by unfold ents; rw [List.flatMap_append]; rfl
      rw [e]
      exact h2
    have x0 := cell_of HX1.out 0
    have x1 := cell_of HX1.out 1
    have y0 := cell_of HX2.out 0
    have y1 := cell_of HX2.out 1
    simp only [List.getElem?_toArray, List.getElem?_cons_succ, List.getElem?_cons_zero] at x0 x1 y0 y1
    clear he2 hg2 he3 hg3 hne hs2 hs3
    go_wp2
    go_end0
    exact ⟨rfl, by rw [HP.out.1]; exact HM3.out, HG3.out⟩
end Go.Proofs.YtlaeenfeajkcfalGreat.Kn
