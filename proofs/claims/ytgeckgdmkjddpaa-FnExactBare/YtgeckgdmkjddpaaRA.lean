/- Reading, plainly: expressions and definitions out of signs. -/
import Derived.Test.YtgeckgdmkjddpaaQ00
namespace Go.Proofs.Ytgeckgdmkjddpaa.Rd
open Go.RowKit

def sLam : ByteArray := ⟨#[92]⟩
def sArr : ByteArray := ⟨#[45, 62]⟩
def sLet : ByteArray := ⟨#[108, 101, 116]⟩
def sIn : ByteArray := ⟨#[105, 110]⟩
def sWhere : ByteArray := ⟨#[119, 104, 101, 114, 101]⟩
def sCase : ByteArray := ⟨#[99, 97, 115, 101]⟩
def sOf : ByteArray := ⟨#[111, 102]⟩
def sIf : ByteArray := ⟨#[105, 102]⟩
def sThen : ByteArray := ⟨#[116, 104, 101, 110]⟩
def sElse : ByteArray := ⟨#[101, 108, 115, 101]⟩
def sData : ByteArray := ⟨#[100, 97, 116, 97]⟩
def sBeg : ByteArray := ⟨#[123]⟩
def sEnd : ByteArray := ⟨#[125]⟩
def sSem : ByteArray := ⟨#[59]⟩
def sPl : ByteArray := ⟨#[40]⟩
def sPr : ByteArray := ⟨#[41]⟩
def sEq : ByteArray := ⟨#[61]⟩
def sBar : ByteArray := ⟨#[124]⟩
def sPlus : ByteArray := ⟨#[43]⟩
def sMinus : ByteArray := ⟨#[45]⟩
def sStar : ByteArray := ⟨#[42]⟩
def sEqq : ByteArray := ⟨#[61, 61]⟩
def sLt : ByteArray := ⟨#[60]⟩
def sNo : ByteArray := ⟨#[95]⟩
def wordsS : List ByteArray := [sLet, sIn, sWhere, sCase, sOf, sIf, sThen, sElse, sData]
def marksS : List ByteArray := [sLam, sArr, sBeg, sEnd, sSem, sPl, sPr, sEq, sBar, sPlus, sMinus, sStar, sEqq, sLt, sNo]

/-- A sign as it comes: marks and words are of their kinds, numbers are digits. -/
structure Gd (t : TokZ) : Prop where
  mark : t.s ∈ marksS → t.k = 5
  word : t.s ∈ wordsS → t.k = 4
  num : t.k = 3 → 1 ≤ t.s.size ∧ t.s.size ≤ 6 ∧ ∀ c ∈ t.s.data.toList, 48 ≤ c.toNat ∧ c.toNat ≤ 57
  size : t.s.size ≤ 1500
/-- Signs up to their end. -/
def Ends : List TokZ → Prop
  | [] => False
  | t :: r => if r = [] then t.k = 6 ∧ t.s = ⟨#[]⟩ else t.k ≠ 6 ∧ Gd t ∧ Ends r
theorem Ends.ne {ts : List TokZ} (h : Ends ts) : ts ≠ [] := by
  intro e
  rw [e] at h
  exact h
theorem Ends.form {ts : List TokZ} (h : Ends ts) : ∃ t r, ts = t :: r := by
  cases ts with
  | nil => exact h.elim
  | cons t r => exact ⟨t, r, rfl⟩
theorem Ends.gd {t : TokZ} {r : List TokZ} (h : Ends (t :: r)) : Gd t := by
  unfold Ends at h
  split at h
  · obtain ⟨h1, h2⟩ := h
    refine ⟨fun e => ?_, fun e => ?_, fun e => ?_, ?_⟩
    · rw [h2] at e; simp [marksS, sLam, sArr, sBeg, sEnd, sSem, sPl, sPr, sEq, sBar, sPlus, sMinus, sStar, sEqq, sLt, sNo] at e
    · rw [h2] at e; simp [wordsS, sLet, sIn, sWhere, sCase, sOf, sIf, sThen, sElse, sData] at e
    · omega
    · rw [h2]; decide
  · exact h.2.1
/-- Behind a sign that is not the end. -/
theorem Ends.next {t : TokZ} {r : List TokZ} (h : Ends (t :: r)) (ht : t.k ≠ 6 ∨ t.s ≠ ⟨#[]⟩) : Ends r := by
  unfold Ends at h
  split at h
  · rcases ht with e | e
    · exact absurd h.1 e
    · exact absurd h.2 e
  · exact h.2.2
theorem Ends.last {t : TokZ} {r : List TokZ} (h : Ends (t :: r)) : t.k = 6 ↔ r = [] := by
  unfold Ends at h
  split at h
  · rename_i e; exact ⟨fun _ => e, fun _ => h.1⟩
  · rename_i e; exact ⟨fun k => absurd k h.1, fun k => absurd k e⟩

def isS (ts : List TokZ) (s : ByteArray) : Bool := match ts with
  | t :: _ => decide (t.s = s)
  | [] => false
def isK (ts : List TokZ) (k : Int) : Bool := match ts with
  | t :: _ => decide (t.k = k)
  | [] => false
def hdS (ts : List TokZ) : ByteArray := match ts with
  | t :: _ => t.s
  | [] => ⟨#[]⟩
def sgnP (s : ByteArray) (ts : List TokZ) : Option (List TokZ) := if isS ts s then some ts.tail else none
def kindP (k : Int) (ts : List TokZ) : Option (ByteArray × List TokZ) := if isK ts k then some (hdS ts, ts.tail) else none
def isPar (ts : List TokZ) : Bool := isK ts 1 || isS ts sNo
def parP (ts : List TokZ) : Option (ByteArray × List TokZ) := if isPar ts then some (hdS ts, ts.tail) else none
def parsP : List TokZ → List ByteArray × List TokZ
  | [] => ([], [])
  | t :: r => if isPar (t :: r) then (t.s :: (parsP r).1, (parsP r).2) else ([], t :: r)
def numZ (s : ByteArray) : Int := s.data.toList.foldl (fun n c => n * 10 + ((c.toNat : Int) - 48)) 0

def sNil : ByteArray := ⟨#[]⟩
def tVar (s : ByteArray) : Tr := ⟨1, s, 0, [], [], [], []⟩
def tGreat (s : ByteArray) : Tr := ⟨2, s, 0, [], [], [], []⟩
def tNum (n : Int) : Tr := ⟨3, sNil, n, [], [], [], []⟩
def tApp (f x : Tr) : Tr := ⟨4, sNil, 0, [], [f, x], [], []⟩
def tLam (s : ByteArray) (b : Tr) : Tr := ⟨5, s, 0, [], [b], [], []⟩
def tLet (ds : List Tr) (b : Tr) : Tr := ⟨6, sNil, 0, [], [b], ds, []⟩
def tCase (x : Tr) (al : List Tr) : Tr := ⟨7, sNil, 0, [], [x], [], al⟩
def tIf (a b c : Tr) : Tr := ⟨8, sNil, 0, [], [a, b, c], [], []⟩
def tOp (s : ByteArray) (a b : Tr) : Tr := ⟨9, s, 0, [], [a, b], [], []⟩
def tDec (s : ByteArray) (ss : List ByteArray) (e : Tr) (ds : List Tr) : Tr := ⟨0, s, 0, ss, [e], ds, []⟩
def tAlt (s : ByteArray) (ss : List ByteArray) (e : Tr) : Tr := ⟨0, s, 0, ss, [e], [], []⟩

abbrev One := List TokZ → Option (Tr × List TokZ)
def listP (one : One) (sep : ByteArray) : Nat → List TokZ → Option (List Tr × List TokZ)
  | 0, _ => none
  | n + 1, ts => (one ts).bind fun p => if isS p.2 sep then (listP one sep n p.2.tail).bind fun q => some (p.1 :: q.1, q.2) else some ([p.1], p.2)
def blockP (one : One) (ts : List TokZ) : Option (List Tr × List TokZ) :=
  (sgnP sBeg ts).bind fun r => (listP one sSem r.length r).bind fun q => (sgnP sEnd q.2).bind fun r2 => some (q.1, r2)
def leftP (one : One) (ops : List ByteArray) : Nat → Tr → List TokZ → Option (Tr × List TokZ)
  | 0, e, ts => some (e, ts)
  | n + 1, e, ts => if ops.any (isS ts) then (one ts.tail).bind fun p => leftP one ops n (tOp (hdS ts) e p.1) p.2 else some (e, ts)
def isAtom (ts : List TokZ) : Bool := isK ts 1 || isK ts 2 || isK ts 3 || isS ts sPl
def appP (one : One) : Nat → Tr → List TokZ → Option (Tr × List TokZ)
  | 0, e, ts => some (e, ts)
  | n + 1, e, ts => if isAtom ts then (one ts).bind fun p => appP one n (tApp e p.1) p.2 else some (e, ts)
def parenP (ex : One) (ts : List TokZ) : Option (Tr × List TokZ) := (ex ts).bind fun p => (sgnP sPr p.2).bind fun r => some (p.1, r)
def atomP (ex : One) (ts : List TokZ) : Option (Tr × List TokZ) :=
  if isK ts 1 then some (tVar (hdS ts), ts.tail)
  else if isK ts 2 then some (tGreat (hdS ts), ts.tail)
  else if isK ts 3 then some (tNum (numZ (hdS ts)), ts.tail)
  else if isS ts sPl then parenP ex ts.tail
  else none
def callP (ex : One) (ts : List TokZ) : Option (Tr × List TokZ) := (atomP ex ts).bind fun p => appP (atomP ex) p.2.length p.1 p.2
def mulP (ex : One) (ts : List TokZ) : Option (Tr × List TokZ) := (callP ex ts).bind fun p => leftP (callP ex) [sStar] p.2.length p.1 p.2
def sumP (ex : One) (ts : List TokZ) : Option (Tr × List TokZ) := (mulP ex ts).bind fun p => leftP (mulP ex) [sPlus, sMinus] p.2.length p.1 p.2
def cmpP (ex : One) (ts : List TokZ) : Option (Tr × List TokZ) :=
  (sumP ex ts).bind fun p => if isS p.2 sEqq || isS p.2 sLt then (sumP ex p.2.tail).bind fun q => some (tOp (hdS p.2) p.1 q.1, q.2) else some p
def patP (ts : List TokZ) : Option ((ByteArray × List ByteArray) × List TokZ) :=
  if isK ts 2 then some ((hdS ts, (parsP ts.tail).1), (parsP ts.tail).2) else (parP ts).bind fun p => some ((sNil, [p.1]), p.2)
def altP (ex : One) (ts : List TokZ) : Option (Tr × List TokZ) :=
  (patP ts).bind fun p => (sgnP sArr p.2).bind fun r => (ex r).bind fun q => some (tAlt p.1.1 p.1.2 q.1, q.2)
def lamP (ex : One) (ts : List TokZ) : Option (Tr × List TokZ) :=
  (parP ts).bind fun p => (sgnP sArr p.2).bind fun r => (ex r).bind fun q => some (tLam p.1 q.1, q.2)
def letP (ex de : One) (ts : List TokZ) : Option (Tr × List TokZ) :=
  (blockP de ts).bind fun p => (sgnP sIn p.2).bind fun r => (ex r).bind fun q => some (tLet p.1 q.1, q.2)
def caseP (ex : One) (ts : List TokZ) : Option (Tr × List TokZ) :=
  (ex ts).bind fun p => (sgnP sOf p.2).bind fun r => (blockP (altP ex) r).bind fun q => some (tCase p.1 q.1, q.2)
def ifP (ex : One) (ts : List TokZ) : Option (Tr × List TokZ) :=
  (ex ts).bind fun p => (sgnP sThen p.2).bind fun r => (ex r).bind fun q => (sgnP sElse q.2).bind fun r2 => (ex r2).bind fun u => some (tIf p.1 q.1 u.1, u.2)
def wholeP (ex de : One) (ts : List TokZ) : Option (Tr × List TokZ) :=
  if isS ts sLam then lamP ex ts.tail
  else if isS ts sLet then letP ex de ts.tail
  else if isS ts sCase then caseP ex ts.tail
  else if isS ts sIf then ifP ex ts.tail
  else cmpP ex ts
def whereP (de : One) (ts : List TokZ) : Option (List Tr × List TokZ) := if isS ts sWhere then blockP de ts.tail else some ([], ts)
def decP (ex de : One) (ts : List TokZ) : Option (Tr × List TokZ) :=
  (kindP 1 ts).bind fun p => (sgnP sEq (parsP p.2).2).bind fun r => (ex r).bind fun e => (whereP de e.2).bind fun b => some (tDec p.1 (parsP p.2).1 e.1 b.1, b.2)
structure Ps where
  ex : Nat → One
  de : Nat → One
/-- By fuel; a: in how many others an expression stands. -/
def ps : Nat → Ps
  | 0 => ⟨fun _ _ => none, fun _ _ => none⟩
  | f + 1 => ⟨fun a ts => if a < 60 then wholeP ((ps f).ex (a + 1)) ((ps f).de (a + 1)) ts else none, fun a => decP ((ps f).ex a) ((ps f).de a)⟩

/-- What is read leaves signs up to their end, and fewer. -/
def Down (one : One) : Prop := ∀ ts t r, Ends ts → one ts = some (t, r) → Ends r ∧ r.length < ts.length
theorem isS_cons {ts : List TokZ} {s : ByteArray} (h : isS ts s = true) : ∃ t r, ts = t :: r ∧ t.s = s := by
  cases ts with
  | nil => cases h
  | cons t r => exact ⟨t, r, rfl, by simpa [isS] using h⟩
theorem isK_cons {ts : List TokZ} {k : Int} (h : isK ts k = true) : ∃ t r, ts = t :: r ∧ t.k = k := by
  cases ts with
  | nil => cases h
  | cons t r => exact ⟨t, r, rfl, by simpa [isK] using h⟩
theorem tail_s {ts : List TokZ} {s : ByteArray} (h : isS ts s = true) (he : Ends ts) (hs : s ≠ ⟨#[]⟩) : Ends ts.tail ∧ ts.tail.length + 1 = ts.length := by
  obtain ⟨t, r, rfl, e⟩ := isS_cons h
  exact ⟨he.next (.inr (by rw [e]; exact hs)), rfl⟩
theorem tail_k {ts : List TokZ} {k : Int} (h : isK ts k = true) (he : Ends ts) (hk : k ≠ 6) : Ends ts.tail ∧ ts.tail.length + 1 = ts.length := by
  obtain ⟨t, r, rfl, e⟩ := isK_cons h
  exact ⟨he.next (.inl (by rw [e]; exact hk)), rfl⟩
theorem tail_par {ts : List TokZ} (h : isPar ts = true) (he : Ends ts) : Ends ts.tail ∧ ts.tail.length + 1 = ts.length := by
  unfold isPar at h
  cases h1 : isK ts 1 with
  | true => exact tail_k h1 he (by decide)
  | false => rw [h1, Bool.false_or] at h; exact tail_s h he (by decide)
theorem sgnP_down {s : ByteArray} {ts r : List TokZ} (hs : s ≠ ⟨#[]⟩) (he : Ends ts) (h : sgnP s ts = some r) : Ends r ∧ r.length + 1 = ts.length := by
  unfold sgnP at h
  split at h
  · rename_i e
    cases h
    exact tail_s e he hs
  · cases h
theorem kindP_down {k : Int} {ts r : List TokZ} {s : ByteArray} (hk : k ≠ 6) (he : Ends ts) (h : kindP k ts = some (s, r)) : Ends r ∧ r.length + 1 = ts.length := by
  unfold kindP at h
  split at h
  · rename_i e
    cases h
    exact tail_k e he hk
  · cases h
theorem parP_down {ts r : List TokZ} {s : ByteArray} (he : Ends ts) (h : parP ts = some (s, r)) : Ends r ∧ r.length + 1 = ts.length := by
  unfold parP at h
  split at h
  · rename_i e
    cases h
    exact tail_par e he
  · cases h
theorem parsP_down : ∀ (ts : List TokZ), Ends ts → Ends (parsP ts).2 ∧ (parsP ts).2.length ≤ ts.length := by
  intro ts
  induction ts with
  | nil => intro h; exact h.elim
  | cons t r ih =>
    intro h
    unfold parsP
    split
    · rename_i e
      obtain ⟨h1, h2⟩ := ih (tail_par e h).1
      exact ⟨h1, by simp only [List.length_cons]; omega⟩
    · exact ⟨h, Nat.le_refl _⟩
theorem listP_down {one : One} (h1 : Down one) {sep : ByteArray} (hs : sep ≠ ⟨#[]⟩) : ∀ n ts l r, Ends ts → listP one sep n ts = some (l, r) → Ends r ∧ r.length < ts.length := by
  intro n
  induction n with
  | zero => intro ts l r _ h; cases h
  | succ n ih =>
    intro ts l r he h
    unfold listP at h
    obtain ⟨⟨t, r1⟩, e1, h⟩ := Option.bind_eq_some_iff.1 h
    obtain ⟨a1, a2⟩ := h1 ts t r1 he e1
    split at h
    · rename_i e2
      obtain ⟨⟨l2, r2⟩, e3, h⟩ := Option.bind_eq_some_iff.1 h
      cases h
      obtain ⟨b1, b2⟩ := tail_s e2 a1 hs
      obtain ⟨c1, c2⟩ := ih _ _ _ b1 e3
      exact ⟨c1, by (try simp only at *); omega⟩
    · cases h
      exact ⟨a1, a2⟩
theorem blockP_down {one : One} (h1 : Down one) {ts r : List TokZ} {l : List Tr} (he : Ends ts) (h : blockP one ts = some (l, r)) : Ends r ∧ r.length < ts.length := by
  obtain ⟨r1, e1, h⟩ := Option.bind_eq_some_iff.1 h
  obtain ⟨⟨l2, r2⟩, e2, h⟩ := Option.bind_eq_some_iff.1 h
  obtain ⟨r3, e3, h⟩ := Option.bind_eq_some_iff.1 h
  cases h
  obtain ⟨a1, a2⟩ := sgnP_down (by decide) he e1
  obtain ⟨b1, b2⟩ := listP_down h1 (by decide) _ _ _ _ a1 e2
  obtain ⟨c1, c2⟩ := sgnP_down (by decide) b1 e3
  exact ⟨c1, by (try simp only at *); omega⟩
theorem leftP_down {one : One} (h1 : Down one) {ops : List ByteArray} (hs : ∀ s ∈ ops, s ≠ ⟨#[]⟩) : ∀ n e ts t r, Ends ts → leftP one ops n e ts = some (t, r) → Ends r ∧ r.length ≤ ts.length := by
  intro n
  induction n with
  | zero => intro e ts t r he h; cases h; exact ⟨he, Nat.le_refl _⟩
  | succ n ih =>
    intro e ts t r he h
    unfold leftP at h
    split at h
    · rename_i ho
      obtain ⟨s, hs1, hs2⟩ := List.any_eq_true.1 ho
      obtain ⟨⟨t1, r1⟩, e1, h⟩ := Option.bind_eq_some_iff.1 h
      obtain ⟨a1, a2⟩ := tail_s hs2 he (hs s hs1)
      obtain ⟨b1, b2⟩ := h1 _ _ _ a1 e1
      obtain ⟨c1, c2⟩ := ih _ _ _ _ b1 h
      exact ⟨c1, by (try simp only at *); omega⟩
    · cases h
      exact ⟨he, Nat.le_refl _⟩
theorem appP_down {one : One} (h1 : Down one) : ∀ n e ts t r, Ends ts → appP one n e ts = some (t, r) → Ends r ∧ r.length ≤ ts.length := by
  intro n
  induction n with
  | zero => intro e ts t r he h; cases h; exact ⟨he, Nat.le_refl _⟩
  | succ n ih =>
    intro e ts t r he h
    unfold appP at h
    split at h
    · obtain ⟨⟨t1, r1⟩, e1, h⟩ := Option.bind_eq_some_iff.1 h
      obtain ⟨b1, b2⟩ := h1 _ _ _ he e1
      obtain ⟨c1, c2⟩ := ih _ _ _ _ b1 h
      exact ⟨c1, by (try simp only at *); omega⟩
    · cases h
      exact ⟨he, Nat.le_refl _⟩
theorem parenP_down {ex : One} (h1 : Down ex) : Down (parenP ex) := by
  intro ts t r he h
  obtain ⟨⟨t1, r1⟩, e1, h⟩ := Option.bind_eq_some_iff.1 h
  obtain ⟨r2, e2, h⟩ := Option.bind_eq_some_iff.1 h
  cases h
  obtain ⟨a1, a2⟩ := h1 _ _ _ he e1
  obtain ⟨b1, b2⟩ := sgnP_down (by decide) a1 e2
  exact ⟨b1, by (try simp only at *); omega⟩
theorem atomP_down {ex : One} (h1 : Down ex) : Down (atomP ex) := by
  intro ts t r he h
  unfold atomP at h
  split at h
  · rename_i e; cases h; obtain ⟨a1, a2⟩ := tail_k e he (by decide); exact ⟨a1, by (try simp only at *); omega⟩
  split at h
  · rename_i e; cases h; obtain ⟨a1, a2⟩ := tail_k e he (by decide); exact ⟨a1, by (try simp only at *); omega⟩
  split at h
  · rename_i e; cases h; obtain ⟨a1, a2⟩ := tail_k e he (by decide); exact ⟨a1, by (try simp only at *); omega⟩
  split at h
  · rename_i e
    obtain ⟨a1, a2⟩ := tail_s e he (by decide)
    obtain ⟨b1, b2⟩ := parenP_down h1 _ _ _ a1 h
    exact ⟨b1, by (try simp only at *); omega⟩
  · cases h
theorem callP_down {ex : One} (h1 : Down ex) : Down (callP ex) := by
  intro ts t r he h
  obtain ⟨⟨t1, r1⟩, e1, h⟩ := Option.bind_eq_some_iff.1 h
  obtain ⟨a1, a2⟩ := atomP_down h1 _ _ _ he e1
  obtain ⟨b1, b2⟩ := appP_down (atomP_down h1) _ _ _ _ _ a1 h
  exact ⟨b1, by (try simp only at *); omega⟩
theorem mulP_down {ex : One} (h1 : Down ex) : Down (mulP ex) := by
  intro ts t r he h
  obtain ⟨⟨t1, r1⟩, e1, h⟩ := Option.bind_eq_some_iff.1 h
  obtain ⟨a1, a2⟩ := callP_down h1 _ _ _ he e1
  obtain ⟨b1, b2⟩ := leftP_down (callP_down h1) (by decide) _ _ _ _ _ a1 h
  exact ⟨b1, by (try simp only at *); omega⟩
theorem sumP_down {ex : One} (h1 : Down ex) : Down (sumP ex) := by
  intro ts t r he h
  obtain ⟨⟨t1, r1⟩, e1, h⟩ := Option.bind_eq_some_iff.1 h
  obtain ⟨a1, a2⟩ := mulP_down h1 _ _ _ he e1
  obtain ⟨b1, b2⟩ := leftP_down (mulP_down h1) (by decide) _ _ _ _ _ a1 h
  exact ⟨b1, by (try simp only at *); omega⟩
theorem cmpP_down {ex : One} (h1 : Down ex) : Down (cmpP ex) := by
  intro ts t r he h
  obtain ⟨⟨t1, r1⟩, e1, h⟩ := Option.bind_eq_some_iff.1 h
  obtain ⟨a1, a2⟩ := sumP_down h1 _ _ _ he e1
  split at h
  · rename_i e2
    obtain ⟨⟨t3, r3⟩, e3, h⟩ := Option.bind_eq_some_iff.1 h
    cases h
    have hb : Ends r1.tail ∧ r1.tail.length + 1 = r1.length := by
      cases e4 : isS r1 sEqq with
      | true => exact tail_s e4 a1 (by decide)
      | false =>
        have e5 : isS r1 sLt = true := by simpa [e4] using e2
        exact tail_s e5 a1 (by decide)
    obtain ⟨c1, c2⟩ := sumP_down h1 _ _ _ hb.1 e3
    exact ⟨c1, by (try simp only at *); omega⟩
  · cases h
    exact ⟨a1, a2⟩
theorem patP_down {ts r : List TokZ} {p : ByteArray × List ByteArray} (he : Ends ts) (h : patP ts = some (p, r)) : Ends r ∧ r.length < ts.length := by
  unfold patP at h
  split at h
  · rename_i e
    cases h
    obtain ⟨a1, a2⟩ := tail_k e he (by decide)
    obtain ⟨b1, b2⟩ := parsP_down _ a1
    exact ⟨b1, by (try simp only at *); omega⟩
  · obtain ⟨⟨s, r1⟩, e1, h⟩ := Option.bind_eq_some_iff.1 h
    cases h
    obtain ⟨a1, a2⟩ := parP_down he e1
    exact ⟨a1, by (try simp only at *); omega⟩
theorem altP_down {ex : One} (h1 : Down ex) : Down (altP ex) := by
  intro ts t r he h
  obtain ⟨⟨p, r1⟩, e1, h⟩ := Option.bind_eq_some_iff.1 h
  obtain ⟨r2, e2, h⟩ := Option.bind_eq_some_iff.1 h
  obtain ⟨⟨t3, r3⟩, e3, h⟩ := Option.bind_eq_some_iff.1 h
  cases h
  obtain ⟨a1, a2⟩ := patP_down he e1
  obtain ⟨b1, b2⟩ := sgnP_down (by decide) a1 e2
  obtain ⟨c1, c2⟩ := h1 _ _ _ b1 e3
  exact ⟨c1, by (try simp only at *); omega⟩
theorem lamP_down {ex : One} (h1 : Down ex) : Down (lamP ex) := by
  intro ts t r he h
  obtain ⟨⟨p, r1⟩, e1, h⟩ := Option.bind_eq_some_iff.1 h
  obtain ⟨r2, e2, h⟩ := Option.bind_eq_some_iff.1 h
  obtain ⟨⟨t3, r3⟩, e3, h⟩ := Option.bind_eq_some_iff.1 h
  cases h
  obtain ⟨a1, a2⟩ := parP_down he e1
  obtain ⟨b1, b2⟩ := sgnP_down (by decide) a1 e2
  obtain ⟨c1, c2⟩ := h1 _ _ _ b1 e3
  exact ⟨c1, by (try simp only at *); omega⟩
theorem letP_down {ex de : One} (h1 : Down ex) (h2 : Down de) : Down (letP ex de) := by
  intro ts t r he h
  obtain ⟨⟨p, r1⟩, e1, h⟩ := Option.bind_eq_some_iff.1 h
  obtain ⟨r2, e2, h⟩ := Option.bind_eq_some_iff.1 h
  obtain ⟨⟨t3, r3⟩, e3, h⟩ := Option.bind_eq_some_iff.1 h
  cases h
  obtain ⟨a1, a2⟩ := blockP_down h2 he e1
  obtain ⟨b1, b2⟩ := sgnP_down (by decide) a1 e2
  obtain ⟨c1, c2⟩ := h1 _ _ _ b1 e3
  exact ⟨c1, by (try simp only at *); omega⟩
theorem caseP_down {ex : One} (h1 : Down ex) : Down (caseP ex) := by
  intro ts t r he h
  obtain ⟨⟨p, r1⟩, e1, h⟩ := Option.bind_eq_some_iff.1 h
  obtain ⟨r2, e2, h⟩ := Option.bind_eq_some_iff.1 h
  obtain ⟨⟨t3, r3⟩, e3, h⟩ := Option.bind_eq_some_iff.1 h
  cases h
  obtain ⟨a1, a2⟩ := h1 _ _ _ he e1
  obtain ⟨b1, b2⟩ := sgnP_down (by decide) a1 e2
  obtain ⟨c1, c2⟩ := blockP_down (altP_down h1) b1 e3
  exact ⟨c1, by (try simp only at *); omega⟩
theorem ifP_down {ex : One} (h1 : Down ex) : Down (ifP ex) := by
  intro ts t r he h
  obtain ⟨⟨p, r1⟩, e1, h⟩ := Option.bind_eq_some_iff.1 h
  obtain ⟨r2, e2, h⟩ := Option.bind_eq_some_iff.1 h
  obtain ⟨⟨t3, r3⟩, e3, h⟩ := Option.bind_eq_some_iff.1 h
  obtain ⟨r4, e4, h⟩ := Option.bind_eq_some_iff.1 h
  obtain ⟨⟨t5, r5⟩, e5, h⟩ := Option.bind_eq_some_iff.1 h
  cases h
  obtain ⟨a1, a2⟩ := h1 _ _ _ he e1
  obtain ⟨b1, b2⟩ := sgnP_down (by decide) a1 e2
  obtain ⟨c1, c2⟩ := h1 _ _ _ b1 e3
  obtain ⟨d1, d2⟩ := sgnP_down (by decide) c1 e4
  obtain ⟨f1, f2⟩ := h1 _ _ _ d1 e5
  exact ⟨f1, by (try simp only at *); omega⟩
theorem wholeP_down {ex de : One} (h1 : Down ex) (h2 : Down de) : Down (wholeP ex de) := by
  intro ts t r he h
  unfold wholeP at h
  split at h
  · rename_i e
    obtain ⟨a1, a2⟩ := tail_s e he (by decide)
    obtain ⟨b1, b2⟩ := lamP_down h1 _ _ _ a1 h
    exact ⟨b1, by (try simp only at *); omega⟩
  split at h
  · rename_i e
    obtain ⟨a1, a2⟩ := tail_s e he (by decide)
    obtain ⟨b1, b2⟩ := letP_down h1 h2 _ _ _ a1 h
    exact ⟨b1, by (try simp only at *); omega⟩
  split at h
  · rename_i e
    obtain ⟨a1, a2⟩ := tail_s e he (by decide)
    obtain ⟨b1, b2⟩ := caseP_down h1 _ _ _ a1 h
    exact ⟨b1, by (try simp only at *); omega⟩
  split at h
  · rename_i e
    obtain ⟨a1, a2⟩ := tail_s e he (by decide)
    obtain ⟨b1, b2⟩ := ifP_down h1 _ _ _ a1 h
    exact ⟨b1, by (try simp only at *); omega⟩
  · exact cmpP_down h1 _ _ _ he h
theorem whereP_down {de : One} (h2 : Down de) {ts r : List TokZ} {l : List Tr} (he : Ends ts) (h : whereP de ts = some (l, r)) : Ends r ∧ r.length ≤ ts.length := by
  unfold whereP at h
  split at h
  · rename_i e
    obtain ⟨a1, a2⟩ := tail_s e he (by decide)
    obtain ⟨b1, b2⟩ := blockP_down h2 a1 h
    exact ⟨b1, by (try simp only at *); omega⟩
  · cases h
    exact ⟨he, Nat.le_refl _⟩
theorem decP_down {ex de : One} (h1 : Down ex) (h2 : Down de) : Down (decP ex de) := by
  intro ts t r he h
  obtain ⟨⟨p, r1⟩, e1, h⟩ := Option.bind_eq_some_iff.1 h
  obtain ⟨r2, e2, h⟩ := Option.bind_eq_some_iff.1 h
  obtain ⟨⟨t3, r3⟩, e3, h⟩ := Option.bind_eq_some_iff.1 h
  obtain ⟨⟨l4, r4⟩, e4, h⟩ := Option.bind_eq_some_iff.1 h
  cases h
  obtain ⟨a1, a2⟩ := kindP_down (by decide) he e1
  obtain ⟨p1, p2⟩ := parsP_down _ a1
  obtain ⟨b1, b2⟩ := sgnP_down (by decide) p1 e2
  obtain ⟨c1, c2⟩ := h1 _ _ _ b1 e3
  obtain ⟨d1, d2⟩ := whereP_down h2 c1 e4
  exact ⟨d1, by (try simp only at *); omega⟩
theorem ps_down : ∀ f, (∀ a, Down ((ps f).ex a)) ∧ ∀ a, Down ((ps f).de a) := by
  intro f
  induction f with
  | zero => exact ⟨fun _ _ _ _ _ h => (by cases h), fun _ _ _ _ _ h => (by cases h)⟩
  | succ f ih =>
    obtain ⟨i1, i2⟩ := ih
    refine ⟨fun a ts t r he h => ?_, fun a => decP_down (i1 a) (i2 a)⟩
    have h2 : (if a < 60 then wholeP ((ps f).ex (a + 1)) ((ps f).de (a + 1)) ts else none) = some (t, r) := h
    split at h2
    · exact wholeP_down (i1 _) (i2 _) _ _ _ he h2
    · cases h2
end Go.Proofs.Ytgeckgdmkjddpaa.Rd
