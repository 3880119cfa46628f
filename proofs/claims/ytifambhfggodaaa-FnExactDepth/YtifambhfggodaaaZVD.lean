/- A map from places of lists to numbers. -/
import Derived.Test.YtifambhfggodaaaQI
import Derived.Test.YtifambhfggodaaaZVC
namespace Go.Proofs.Ytifambhfggodaaa.Rs
open Go.ChangeShapes Go.WideShapes Go.ChangeAt Go.RowKit Go.Proofs.Ytifambhfggodaaa.Vo
open Go.ChangeMaps (setBlock heap_setBlock_same heap_setBlock_other)
set_option linter.unusedVariables false

theorem findsV_place {w : World} {V : Pk → Value} {k : Pk} (ha : PlainAt w k.1) {es : Array MapEntry} {ks : List Pk} (hs : MpIs kvP V es ks) (hp : ∀ b ∈ ks, PlainAt w b.1) : FindsV Try.prog 43 w kvP V k es.toList ks := by
  have key := asksV (P := Try.prog) (t := 43) (w := w) (kv := kvP) (V := V) (k := k) es.toList ks 0 hs fun b hb => eqPlace w ha (hp b hb)
  obtain ⟨fs, hu⟩ : ∃ fs, Try.prog.underlying 43 = some (.struct fs) := ⟨_, Try.underlying43⟩
  cases hes : es.toList with
  | nil =>
    have hk2 := hs.keys
    rw [hes] at hk2
    have : ks = [] := by
      simp at hk2
      exact hk2
    subst this
    exact .inl ⟨by simp, by simp [Instr.findKey, run_underlying hu, Instr.findNow]⟩
  | cons e r =>
    rw [hes] at key
    have hn : Instr.findNow (.struct fs) (kvP k) (e :: r) 0 = none := by simp [Instr.findNow, Instr.sameNow]
    have hstep : (Instr.findKey 43 (kvP k) (e :: r)).run Try.prog w = (Instr.findAsking 43 (kvP k) (e :: r) 0).run Try.prog w := by
      simp [Instr.findKey, run_underlying hu, hn]
    rcases key with ⟨h1, h2⟩ | ⟨h1, j, h2, h3, h4⟩
    · exact .inl ⟨h1, hstep.trans h2⟩
    · exact .inr ⟨h1, j, h2, h3, by rw [hstep, h4]; simp⟩
def numV (D : Pk → Nat) (k : Pk) : Value := .int .i64 (D k : Int)
/-- Depths by places. -/
def DMap (w : World) (m : Nat) (D : Pk → Nat) (ks : List Pk) : Prop := MpAt w m kvP (numV D) ks
theorem DMap.look {w : World} {m : Nat} {D : Pk → Nat} {ks : List Pk} (h : DMap w m D ks) {k : Pk} (ha : PlainAt w k.1) (hp : ∀ b ∈ ks, PlainAt w b.1) (hk : k ∈ ks) :
    (Instr.lookup 35 (.map (some m)) (kvP k) true).run Try.prog w = .ok (.tuple #[.int .i64 (D k : Int), .bool true]) w ∧ (Instr.lookup 35 (.map (some m)) (kvP k) false).run Try.prog w = .ok (.int .i64 (D k : Int)) w := by
  obtain ⟨es, c, hm, hi⟩ := h
  exact look_mp (V := numV D) Try.underlying35 (fun b => check_place b w k) hm (findsV_place ha hi hp) hk
theorem DMap.put {w : World} {m : Nat} {D : Pk → Nat} {ks : List Pk} (h : DMap w m D ks) {k : Pk} (ha : PlainAt w k.1) (hp : ∀ b ∈ ks, PlainAt w b.1) :
    ∃ w', (Instr.mapUpdate 35 (.map (some m)) (kvP k) (.int .i64 (D k : Int))).run Try.prog w = .ok () w' ∧ DMap w' m D (addK ks k) ∧ Oth m w w' := by
  obtain ⟨es, c, hm, hi⟩ := h
  obtain ⟨es', c', hu, hi'⟩ := put_mp (V := numV D) Try.underlying35 (fun b => check_place b w k) (stays_place w k) hm hi (findsV_place ha hi hp)
  exact ⟨_, hu, ⟨es', c', heap_setBlock_same hm _, hi'⟩, oth_of (Below.refl _ w) hm rfl⟩
end Go.Proofs.Ytifambhfggodaaa.Rs
