/- The plain lexer: what the document's Lex computes, on lists of bytes. -/
import Derived.Test.YtndlhdeipicbpaaD
namespace Go.Proofs.Ytndlhdeipicbpaa

def digB (c : UInt8) : Bool := inB c.toNat 48 57
def abcB (c : UInt8) : Bool := inB c.toNat 97 122 || inB c.toNat 65 90
def lodB (c : UInt8) : Bool := letB c.toNat
def numB (l : List UInt8) : Bool := l.all digB && inB l.length 1 6 && (l.length == 1 || !(l.headD 0 == 48))
def kindL (l : List UInt8) : Nat := if isW l then 4 else if nameB l then 1 else if greatB l then 2 else 0
def kindD (l : List UInt8) : Nat := if numB l then 3 else 0
def dashB (l : List UInt8) : Bool := l.take 2 == [45, 45]
def twoB (l : List UInt8) : Bool := l.take 2 == [45, 62] || l.take 2 == [61, 61]
def marksL : List UInt8 := [40, 41, 123, 125, 59, 61, 92, 124, 43, 45, 42, 60, 95]
def markB (c : UInt8) : Bool := marksL.any fun m => m == c
def nextK (l : List UInt8) : Nat :=
  if digB (l.headD 0) then kindD (l.takeWhile digB)
  else if abcB (l.headD 0) then kindL (l.takeWhile lodB)
  else if twoB l then 5
  else if markB (l.headD 0) then 5
  else 0
def nextLen (l : List UInt8) : Nat :=
  if digB (l.headD 0) then (l.takeWhile digB).length
  else if abcB (l.headD 0) then (l.takeWhile lodB).length
  else if twoB l then 2
  else 1
structure TokP where
  k : Nat
  s : List UInt8
  line : Nat
  col : Nat
def lineAt (L : List UInt8) : Nat → Nat
  | 0 => 1
  | p + 1 => if L[p]? = some 10 then lineAt L p + 1 else lineAt L p
def begAt (L : List UInt8) : Nat → Nat
  | 0 => 0
  | p + 1 => if L[p]? = some 10 then p + 1 else begAt L p
theorem begAt_le (L : List UInt8) (p : Nat) : begAt L p ≤ p := by
  induction p with
  | zero => exact Nat.le_refl _
  | succ p ih => unfold begAt; split <;> omega
theorem lineAt_pos (L : List UInt8) (p : Nat) : 1 ≤ lineAt L p ∧ lineAt L p ≤ p + 1 := by
  induction p with
  | zero => exact ⟨Nat.le_refl _, Nat.le_refl _⟩
  | succ p ih => unfold lineAt; split <;> omega
theorem flat_stretch (L : List UInt8) (p : Nat) : ∀ d, (∀ i, p ≤ i → i < p + d → L[i]? ≠ some 10) → lineAt L (p + d) = lineAt L p ∧ begAt L (p + d) = begAt L p := by
  intro d
  induction d with
  | zero => intro _; exact ⟨rfl, rfl⟩
  | succ d ih =>
    intro h
    obtain ⟨h1, h2⟩ := ih (fun i a b => h i a (by omega))
    have hn := h (p + d) (by omega) (by omega)
    refine ⟨?_, ?_⟩
    · show lineAt L (p + d + 1) = _
      rw [lineAt, if_neg hn, h1]
    · show begAt L (p + d + 1) = _
      rw [begAt, if_neg hn, h2]
def tokAt (L : List UInt8) (at' : Nat) : TokP := ⟨nextK (L.drop at'), (L.drop at').take (nextLen (L.drop at')), lineAt L at', at' - begAt L at' + 1⟩
def asideLen (l : List UInt8) : Nat := (l.takeWhile fun c => c != 10).length
def lexF (L : List UInt8) : Nat → Nat → Option (List TokP)
  | 0, _ => some []
  | f + 1, at' =>
    if at' < L.length then
      if L[at']? = some 10 ∨ L[at']? = some 32 then lexF L f (at' + 1)
      else if dashB (L.drop at') then lexF L f (at' + asideLen (L.drop at'))
      else if nextK (L.drop at') = 0 then none
      else (lexF L f (at' + nextLen (L.drop at'))).map (tokAt L at' :: ·)
    else some []
theorem takeWhile_pos (p : UInt8 → Bool) (l : List UInt8) (h : 0 < l.length) (h1 : p (l.headD 0) = true) : 1 ≤ (l.takeWhile p).length := by
  cases l with
  | nil => simp at h
  | cons c r =>
    have h1' : p c = true := h1
    rw [List.takeWhile_cons, if_pos h1']
    simp
theorem lod_of_abc (c : UInt8) (h : abcB c = true) : lodB c = true := by
  unfold abcB at h; unfold lodB letB; rw [h]; rfl
theorem nextLen_pos (l : List UInt8) (h : 0 < l.length) : 1 ≤ nextLen l := by
  unfold nextLen
  split
  · exact takeWhile_pos _ _ h ‹_›
  · split
    · exact takeWhile_pos _ _ h (lod_of_abc _ ‹_›)
    · split <;> omega
theorem asideLen_pos (l : List UInt8) (h : 0 < l.length) (h1 : l.headD 0 ≠ 10) : 1 ≤ asideLen l := takeWhile_pos _ _ h (by simpa using h1)
theorem head_drop (L : List UInt8) (p : Nat) (h : p < L.length) : (L.drop p).headD 0 = L[p] := by
  rw [List.headD_eq_head?_getD, List.head?_drop, List.getElem?_eq_getElem h]
  rfl
theorem drop_pos (L : List UInt8) (p : Nat) (h : p < L.length) : 0 < (L.drop p).length := by
  rw [List.length_drop]; omega
theorem lexF_fuel (L : List UInt8) : ∀ f at', L.length ≤ at' + f → lexF L f at' = lexF L (f + 1) at' := by
  intro f
  induction f with
  | zero =>
    intro a h
    have h' : ¬ a < L.length := by omega
    simp [lexF, h']
  | succ f ih =>
    intro a h
    rw [lexF, lexF]
    by_cases ha : a < L.length
    · rw [if_pos ha, if_pos ha]
      by_cases hb : L[a]? = some 10 ∨ L[a]? = some 32
      · rw [if_pos hb, if_pos hb]
        exact ih _ (by omega)
      · rw [if_neg hb, if_neg hb]
        have hne : (L.drop a).headD 0 ≠ 10 := by
          rw [head_drop L a ha]
          intro e
          exact hb (Or.inl (by rw [List.getElem?_eq_getElem ha, e]))
        by_cases hd : dashB (L.drop a) = true
        · rw [if_pos hd, if_pos hd]
          have := asideLen_pos (L.drop a) (drop_pos L a ha) hne
          exact ih _ (by omega)
        · rw [if_neg hd, if_neg hd]
          by_cases hk : nextK (L.drop a) = 0
          · rw [if_pos hk, if_pos hk]
          · rw [if_neg hk, if_neg hk]
            have := nextLen_pos (L.drop a) (drop_pos L a ha)
            rw [ih _ (by omega)]
    · rw [if_neg ha, if_neg ha]
def lexAt (L : List UInt8) (at' : Nat) : Option (List TokP) := lexF L L.length at'
theorem lexF_step (L : List UInt8) (b : Nat) (h : 1 ≤ b) : lexF L (L.length - 1) b = lexAt L b := by
  by_cases h0 : L.length = 0
  · unfold lexAt; rw [h0]
  · have e : L.length = (L.length - 1) + 1 := by omega
    have e2 : lexAt L b = lexF L ((L.length - 1) + 1) b := by unfold lexAt; rw [← e]
    rw [e2]
    exact lexF_fuel L _ _ (by omega)
theorem lexAt_eq (L : List UInt8) (a : Nat) (ha : a < L.length) : lexAt L a =
    if L[a]? = some 10 ∨ L[a]? = some 32 then lexAt L (a + 1)
    else if dashB (L.drop a) then lexAt L (a + asideLen (L.drop a))
    else if nextK (L.drop a) = 0 then none
    else (lexAt L (a + nextLen (L.drop a))).map (tokAt L a :: ·) := by
  have e : L.length = (L.length - 1) + 1 := by omega
  have e2 : lexAt L a = lexF L ((L.length - 1) + 1) a := by unfold lexAt; rw [← e]
  rw [e2, lexF, if_pos ha]
  by_cases hb : L[a]? = some 10 ∨ L[a]? = some 32
  · rw [if_pos hb, if_pos hb]
    exact lexF_step L _ (by omega)
  · rw [if_neg hb, if_neg hb]
    have hne : (L.drop a).headD 0 ≠ 10 := by
      rw [head_drop L a ha]
      intro e
      exact hb (Or.inl (by rw [List.getElem?_eq_getElem ha, e]))
    have h1 := asideLen_pos (L.drop a) (drop_pos L a ha) hne
    have h2 := nextLen_pos (L.drop a) (drop_pos L a ha)
    rw [lexF_step L _ (by omega), lexF_step L _ (by omega)]
theorem lexAt_end (L : List UInt8) (a : Nat) (ha : ¬ a < L.length) : lexAt L a = some [] := by
  unfold lexAt
  cases h : L.length with
  | zero => rfl
  | succ n => rw [lexF, if_neg ha]
/-- What Lex answers: the Toks with TkEnd, or nothing. -/
def lexR (L : List UInt8) : Option (List TokP) :=
  if L.length ≤ 1500 then
    match lexAt L 0 with
    | some ts => if ts.length < 400 then some (ts ++ [⟨6, [], lineAt L L.length, L.length - begAt L L.length + 1⟩]) else none
    | none => none
  else none
end Go.Proofs.Ytndlhdeipicbpaa
