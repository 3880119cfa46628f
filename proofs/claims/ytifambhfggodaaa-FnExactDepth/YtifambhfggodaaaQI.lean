/- Maps whose values are told by their keys (the same value is put again, or nothing). -/
import Derived.Test.YtifambhfggodaaaOA
namespace Go.Proofs.Ytifambhfggodaaa.Vo
set_option linter.unusedVariables false
open Go.RowKit
open Go.ChangeMaps (setBlock heap_setBlock_same heap_setBlock_other)

set_option linter.unusedSectionVars false
section
variable {κ : Type} [DecidableEq κ]
/-- A map's entries, by their keys and what stands at each. -/
def MpIs (kv V : κ → Value) (es : Array MapEntry) (ks : List κ) : Prop := es.toList.map (fun e => (e.key, e.val)) = ks.map fun k => (kv k, V k)
theorem MpIs.keys {kv V : κ → Value} {es : Array MapEntry} {ks : List κ} (h : MpIs kv V es ks) : es.toList.map (·.key) = ks.map kv := by
  have := congrArg (List.map Prod.fst) h
  simpa [List.map_map, Function.comp_def] using this
/-- How a key is found. -/
def FindsV (P : Program) (t : TypeId) (w : World) (kv V : κ → Value) (k : κ) (es : List MapEntry) (ks : List κ) : Prop :=
  (k ∉ ks ∧ (Instr.findKey t (kv k) es).run P w = .ok none w) ∨ (k ∈ ks ∧ ∃ j, j < es.length ∧ es[j]?.map (fun e => (e.key, e.val)) = some (kv k, V k) ∧ (Instr.findKey t (kv k) es).run P w = .ok (some (j, V k)) w)
theorem asksV {P : Program} {t : TypeId} {w : World} {kv V : κ → Value} {k : κ} : ∀ (es : List MapEntry) (ks : List κ) (i : Nat), es.map (fun e => (e.key, e.val)) = ks.map (fun k => (kv k, V k)) → (∀ b ∈ ks, (Op.equal t (kv k) (kv b)).run P w = .ok (decide (k = b)) w) →
    (k ∉ ks ∧ (Instr.findAsking t (kv k) es i).run P w = .ok none w) ∨ (k ∈ ks ∧ ∃ j, j < es.length ∧ es[j]?.map (fun e => (e.key, e.val)) = some (kv k, V k) ∧ (Instr.findAsking t (kv k) es i).run P w = .ok (some (i + j, V k)) w) := by
  intro es
  induction es with
  | nil =>
    intro ks i hk _
    have : ks = [] := by
      simp at hk
      exact hk
    subst this
    exact .inl ⟨by simp, by simp [Instr.findAsking]⟩
  | cons e r ih =>
    intro ks i hk hq
    cases ks with
    | nil => simp at hk
    | cons b ls =>
      simp only [List.map_cons, List.cons.injEq] at hk
      have h1 := hq b (by simp)
      have hkey : e.key = kv b := congrArg Prod.fst hk.1
      have hval : e.val = V b := congrArg Prod.snd hk.1
      by_cases hc : k = b
      · subst hc
        simp only [decide_true] at h1
        refine .inr ⟨by simp, 0, by simp, by simp [hkey, hval], ?_⟩
        simp [Instr.findAsking, hkey, h1, hval]
      · rw [decide_eq_false hc] at h1
        have hstep : (Instr.findAsking t (kv k) (e :: r) i).run P w = (Instr.findAsking t (kv k) r (i + 1)).run P w := by
          simp [Instr.findAsking, hkey, h1]
        rw [hstep]
        rcases ih ls (i + 1) hk.2 (fun b hb => hq b (by simp [hb])) with ⟨h2, h3⟩ | ⟨h2, j, h3, h4, h5⟩
        · exact .inl ⟨by simp [hc, h2], h3⟩
        · exact .inr ⟨by simp [h2], j + 1, by simp; omega, by simpa using h4, by rw [h5]; simp; omega⟩
/-- Such a map in memory. -/
def MpAt (w : World) (m : Nat) (kv V : κ → Value) (ks : List κ) : Prop := ∃ es c, w.heap[m]? = some (.map es c) ∧ MpIs kv V es ks
theorem MpAt.lt {w : World} {m : Nat} {kv V : κ → Value} {ks : List κ} (h : MpAt w m kv V ks) : m < w.heap.size := by
  obtain ⟨es, c, h1, -⟩ := h
  exact (Array.getElem?_eq_some_iff.1 h1).1
theorem MpAt.keep {w w' : World} {m : Nat} {kv V : κ → Value} {ks : List κ} (h : MpAt w m kv V ks) (hb : w'.heap[m]? = w.heap[m]?) : MpAt w' m kv V ks := by
  obtain ⟨es, c, h1, h2⟩ := h
  exact ⟨es, c, hb.trans h1, h2⟩
theorem look_mp {P : Program} {T t u : TypeId} (hT : P.underlying T = some (.map t u)) {w : World} {kv V : κ → Value} {k : κ} (hc : ∀ b, (Instr.checkKey b 10000 t (kv k)).run P w = .ok () w) {m : Nat} {es : Array MapEntry} {c : Nat} {ks : List κ} (hm : w.heap[m]? = some (.map es c)) (hf : FindsV P t w kv V k es.toList ks) (hk : k ∈ ks) :
    (Instr.lookup T (.map (some m)) (kv k) true).run P w = .ok (.tuple #[V k, .bool true]) w ∧ (Instr.lookup T (.map (some m)) (kv k) false).run P w = .ok (V k) w := by
  have hg : (getObj m).run P w = .ok (.map es c) w := by simp [getObj, Sem.run, hm]
  rcases hf with ⟨h1, h2⟩ | ⟨h1, j, -, -, h2⟩
  · exact absurd hk h1
  · exact ⟨by simp [Instr.lookup, run_underlying hT, hg, hc, h2], by simp [Instr.lookup, run_underlying hT, hg, hc, h2]⟩
theorem put_mp {P : Program} {T t u : TypeId} (hT : P.underlying T = some (.map t u)) {w : World} {kv V : κ → Value} {k : κ} (hc : ∀ b, (Instr.checkKey b 10000 t (kv k)).run P w = .ok () w) (hst : (Instr.keyThatStays (kv k) (kv k)).run P w = .ok (kv k) w) {m : Nat} {es : Array MapEntry} {c : Nat} {ks : List κ} (hm : w.heap[m]? = some (.map es c)) (hs : MpIs kv V es ks) (hf : FindsV P t w kv V k es.toList ks) :
    ∃ es' c', (Instr.mapUpdate T (.map (some m)) (kv k) (V k)).run P w = .ok () (setBlock w m (.map es' c')) ∧ MpIs kv V es' (addK ks k) := by
  have hg : (getObj m).run P w = .ok (.map es c) w := by simp [getObj, Sem.run, hm]
  have hset : ∀ o, (setObj m o).run P w = .ok () (setBlock w m o) := fun o => by simp [setObj, Sem.run, hm, setBlock]
  rcases hf with ⟨h1, h2⟩ | ⟨h1, j, hj, hkey, h2⟩
  · refine ⟨es.push ⟨kv k, V k, c⟩, c + 1, by simp [Instr.mapUpdate, run_underlying hT, hg, hc, h2, hset], ?_⟩
    unfold addK MpIs
    rw [if_neg h1, Array.toList_push, List.map_append, List.map_append, hs]
    rfl
  · unfold addK
    rw [if_pos h1]
    have hjs : j < es.size := by simpa using hj
    have hkv : es[j]?.map (fun e => (e.key, e.val)) = some (kv k, V k) := by rw [← Array.getElem?_toList]; exact hkey
    have hkey' : es[j]?.map (·.key) = some (kv k) := by
      rw [Array.getElem?_eq_getElem hjs] at hkv ⊢
      have := congrArg (Option.map Prod.fst) hkv
      simpa using this
    refine ⟨es.modify j fun e => { e with key := kv k, val := V k }, c, by simp [Instr.mapUpdate, run_underlying hT, hg, hc, h2, hkey', hst, hset], ?_⟩
    unfold MpIs at hs ⊢
    rw [← hs]
    apply List.ext_getElem?
    intro i
    simp only [List.getElem?_map, Array.getElem?_toList, Array.getElem?_modify]
    by_cases hij : j = i
    · subst hij
      rw [if_pos rfl, hkv, Array.getElem?_eq_getElem hjs]
      rfl
    · rw [if_neg hij]
end
end Go.Proofs.Ytifambhfggodaaa.Vo
