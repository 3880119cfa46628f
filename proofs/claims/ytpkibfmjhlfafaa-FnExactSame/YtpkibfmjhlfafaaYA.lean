/- What is right, plainly: names, kinds, depths and counts. -/
import Derived.Test.YtpkibfmjhlfafaaD
import Derived.Test.YtpkibfmjhlfafaaXF
namespace Go.Proofs.Ytpkibfmjhlfafaa

def isU (s : ByteArray) : Bool := s.toList == [95]
def emptyB (s : ByteArray) : Bool := s.toList == []
def nmB (s : ByteArray) : Bool := nameB s.data.toList
def grB (s : ByteArray) : Bool := greatB s.data.toList
def alikeB (l : List ByteArray) (x : ByteArray) : Bool := l.any fun t => t.toList == x.toList
def atZ (l : List ByteArray) (i : Nat) : ByteArray := l.getD i ByteArray.empty
def varsTo (l : List ByteArray) : Nat → Bool
  | 0 => true
  | i + 1 => varsTo l i && (isU (atZ l i) || (nmB (atZ l i) && !alikeB (l.take i) (atZ l i)))
def parTo (l : List ByteArray) : Nat → Bool
  | 0 => true
  | i + 1 => parTo l i && (isU (atZ l i) || nmB (atZ l i))
def noTwoTo (l : List ByteArray) : Nat → Bool
  | 0 => true
  | i + 1 => noTwoTo l i && (isU (atZ l i) || !alikeB (l.take i) (atZ l i))
def noDupTo (l : List ByteArray) : Nat → Bool
  | 0 => true
  | i + 1 => noDupTo l i && !alikeB (l.take i) (atZ l i)
def varsB (l : List ByteArray) : Bool := varsTo l l.length && decide ((l.length : Int) ≤ 4)
def noTwoB (l : List ByteArray) : Bool := noTwoTo l l.length
def noDupB (l : List ByteArray) : Bool := noDupTo l l.length

theorem to_vars (l : List ByteArray) (i : Nat) : varsTo l i = (parTo l i && noTwoTo l i) := by
  induction i with
  | zero => rfl
  | succ i ih =>
    show (varsTo l i && _) = ((parTo l i && _) && (noTwoTo l i && _))
    rw [ih]
    cases parTo l i <;> cases noTwoTo l i <;> cases isU (atZ l i) <;> cases nmB (atZ l i) <;> cases alikeB (l.take i) (atZ l i) <;> rfl
theorem up_false (f : Nat → Bool) (g : Nat → Bool) (hf : ∀ i, f (i + 1) = (f i && g i)) {i n : Nat} (h : f i = false) (hn : i ≤ n) : f n = false := by
  induction n with
  | zero => rw [show i = 0 by omega] at h; exact h
  | succ n ih =>
    by_cases e : i = n + 1
    · rw [← e]; exact h
    · rw [hf, ih (by omega)]; rfl
theorem varsTo_false {l : List ByteArray} {i n : Nat} (h : varsTo l i = false) (hn : i ≤ n) : varsTo l n = false := up_false (varsTo l) _ (fun _ => rfl) h hn
theorem parTo_false {l : List ByteArray} {i n : Nat} (h : parTo l i = false) (hn : i ≤ n) : parTo l n = false := up_false (parTo l) _ (fun _ => rfl) h hn
theorem noTwoTo_false {l : List ByteArray} {i n : Nat} (h : noTwoTo l i = false) (hn : i ≤ n) : noTwoTo l n = false := up_false (noTwoTo l) _ (fun _ => rfl) h hn
theorem noDupTo_false {l : List ByteArray} {i n : Nat} (h : noDupTo l i = false) (hn : i ≤ n) : noDupTo l n = false := up_false (noDupTo l) _ (fun _ => rfl) h hn
theorem nm_notU {s : ByteArray} (h : nmB s = true) : isU s = false := by
  cases hu : isU s with
  | false => rfl
  | true =>
    have e : s.data.toList = [95] := by rw [← toList_data]; exact eq_of_beq hu
    unfold nmB at h
    rw [e] at h
    revert h
    decide
/-- Of names that are right the two ways of looking for two alike are one. -/
theorem noDup_noTwo (l : List ByteArray) (n : Nat) (h : ∀ i, i < n → nmB (atZ l i) = true) : noDupTo l n = noTwoTo l n := by
  induction n with
  | zero => rfl
  | succ n ih =>
    show (noDupTo l n && _) = (noTwoTo l n && _)
    rw [ih fun i hi => h i (by omega), nm_notU (h n (by omega))]
    rfl

def opB (s : ByteArray) : Bool := s.toList == [43] || s.toList == [45] || s.toList == [42] || s.toList == [61, 61] || s.toList == [60]
def partsN (k : Int) : Int := if k = 1 ∨ k = 2 ∨ k = 3 then 0 else if k = 5 ∨ k = 6 ∨ k = 7 then 1 else if k = 4 ∨ k = 9 then 2 else if k = 8 then 3 else -1
/-- There is in it what its kind tells, and no more. -/
def shapeE (e : Tr) : Bool := decide (partsN e.k = e.l.length) && (decide (e.k = 6) || decide (e.ds.length = 0)) && (decide (e.k = 7) || decide (e.al.length = 0)) && (decide (e.k = 3) || decide (e.n = 0))
def kindB (e : Tr) : Bool :=
  if e.k = 1 then nmB e.s else if e.k = 2 then grB e.s else if e.k = 3 then inB e.n 0 999999 && emptyB e.s else if e.k = 5 then nmB e.s || isU e.s
  else if e.k = 9 then opB e.s else if e.k = 7 then inB e.al.length 1 6 && emptyB e.s else emptyB e.s
def hereB (e : Tr) : Bool := shapeE e && kindB e
def altB (a : Tr) : Bool := varsB a.ss && (grB a.s || (emptyB a.s && decide ((a.ss.length : Int) = 1)))

structure Okz where
  ex : Tr → Int → Bool
  de : Tr → Int → Bool
  al : Tr → Int → Bool
def allZ (f : Tr → Int → Bool) (xs : List Tr) (d : Int) : Bool := xs.all fun x => f x d
def decsB (f : Tr → Int → Bool) (ds : List Tr) (most d : Int) : Bool := inB ds.length 1 most && (allZ f ds d && noDupB (ds.map Tr.s))
def okz : Nat → Okz
  | 0 => ⟨fun _ _ => false, fun _ _ => false, fun _ _ => false⟩
  | h + 1 =>
    ⟨fun e d => decide (d ≤ 12) && (hereB e && (allZ (okz h).ex e.l (d + 1) && (allZ (fun a d => altB a && (okz h).al a d) e.al (d + 1) && (decide (e.k ≠ 6) || decsB (okz h).de e.ds 6 (d + 1))))),
     fun x d => (nmB x.s && varsB x.ss) && (allZ (okz h).ex x.l (d + 1) && (decide (x.ds.length = 0) || decsB (okz h).de x.ds 6 (d + 1))),
     fun a d => allZ (okz h).ex a.l d⟩
structure Cnt where
  ex : Tr → Nat
  de : Tr → Nat
  al : Tr → Nat
def sumZ (f : Tr → Nat) (xs : List Tr) : Nat := (xs.map f).sum
def cnt : Nat → Cnt
  | 0 => ⟨fun _ => 0, fun _ => 0, fun _ => 0⟩
  | h + 1 => ⟨fun e => 1 + sumZ (cnt h).ex e.l + sumZ (cnt h).al e.al + sumZ (cnt h).de e.ds, fun x => sumZ (cnt h).ex x.l + sumZ (cnt h).de x.ds, fun a => sumZ (cnt h).ex a.l⟩

/-- A number that tells how many there are, as long as all is right and they are at most 200. -/
def Trk (n : Int) (ok : Bool) (c : Nat) : Prop := (ok = true ∧ c ≤ 200 ∧ n = c) ∨ (200 < n ∧ ¬ (ok = true ∧ c ≤ 200))
theorem Trk.add {n r : Int} {a b : Bool} {c d : Nat} (h : Trk n a c) (hn : n ≤ 200) (k : Trk r b d) : Trk (n + r) (a && b) (c + d) := by
  unfold Trk at *
  rcases h with ⟨h1, h2, h3⟩ | ⟨h1, -⟩
  · rcases k with ⟨k1, k2, k3⟩ | ⟨k1, k2⟩
    · by_cases hc : c + d ≤ 200
      · exact Or.inl ⟨by rw [h1, k1]; rfl, hc, by omega⟩
      · exact Or.inr ⟨by omega, fun h => hc h.2⟩
    · refine Or.inr ⟨by omega, fun h => k2 ⟨?_, by omega⟩⟩
      have := h.1
      rw [Bool.and_eq_true] at this
      exact this.2
  · omega
theorem Trk.stop {n : Int} {a b : Bool} {c d : Nat} (h : Trk n a c) (hn : 200 < n) : Trk n (a && b) (c + d) := by
  unfold Trk at *
  rcases h with ⟨h1, h2, h3⟩ | ⟨h1, h2⟩
  · omega
  · refine Or.inr ⟨hn, fun h => h2 ⟨?_, by omega⟩⟩
    have := h.1
    rw [Bool.and_eq_true] at this
    exact this.1
theorem Trk.bad {n : Int} {c : Nat} (hn : 200 < n) : Trk n false c := Or.inr ⟨hn, fun h => by cases h.1⟩
theorem Trk.pass {n : Int} {a b : Bool} {c d : Nat} (h : Trk n a c) (e : a = b) (e2 : c = d) : Trk n b d := e2 ▸ e ▸ h
theorem Trk.of_le {n : Int} {a : Bool} {c : Nat} (h : Trk n a c) (hn : n ≤ 200) : a = true ∧ n = c := by
  unfold Trk at h
  rcases h with ⟨h1, h2, h3⟩ | ⟨h1, h2⟩
  · exact ⟨h1, h3⟩
  · omega
theorem allZ_take (f : Tr → Int → Bool) (xs : List Tr) (d : Int) (i : Nat) (x : Tr) (hx : xs[i]? = some x) : allZ f (xs.take (i + 1)) d = (allZ f (xs.take i) d && f x d) := by
  unfold allZ
  rw [List.take_add_one, hx, List.all_append]
  simp
theorem sumZ_take (f : Tr → Nat) (xs : List Tr) (i : Nat) (x : Tr) (hx : xs[i]? = some x) : sumZ f (xs.take (i + 1)) = sumZ f (xs.take i) + f x := by
  unfold sumZ
  rw [List.take_add_one, hx, List.map_append, List.sum_append]
  simp
theorem allZ_split (f : Tr → Int → Bool) (xs : List Tr) (d : Int) (i : Nat) : allZ f xs d = (allZ f (xs.take i) d && allZ f (xs.drop i) d) := by
  unfold allZ
  rw [← List.all_append, List.take_append_drop]
theorem sumZ_split (f : Tr → Nat) (xs : List Tr) (i : Nat) : sumZ f xs = sumZ f (xs.take i) + sumZ f (xs.drop i) := by
  unfold sumZ
  rw [← List.sum_append, ← List.map_append, List.take_append_drop]
theorem atZ_of {l : List ByteArray} {i : Nat} {x : ByteArray} (h : l[i]? = some x) : atZ l i = x := by
  unfold atZ
  rw [List.getD_eq_getElem?_getD, h]
  rfl
end Go.Proofs.Ytpkibfmjhlfafaa
