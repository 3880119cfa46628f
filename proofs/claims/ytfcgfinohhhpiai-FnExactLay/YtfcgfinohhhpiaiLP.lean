/- The margin, plainly. -/
import Derived.Test.YtfcgfinohhhpiaiLK
namespace Go.Proofs.Ytfcgfinohhhpiai
open Go.RowKit

def sOpen : ByteArray := ⟨#[123]⟩
def sShut : ByteArray := ⟨#[125]⟩
def sSemi : ByteArray := ⟨#[59]⟩
def markZ (s : ByteArray) : TokZ := ⟨5, s, 0, 0⟩
def needZ (t : TokZ) : Int :=
  if isB t 5 ⟨#[41]⟩ then -1 else if isB t 4 ⟨#[105, 110]⟩ then -2 else if isB t 4 ⟨#[116, 104, 101, 110]⟩ then -4 else if isB t 4 ⟨#[101, 108, 115, 101]⟩ then -3
  else if isB t 4 ⟨#[111, 102]⟩ then -5 else if isB t 5 ⟨#[125]⟩ then 0 else 1
def opensZ (t : TokZ) : List Int :=
  if isB t 5 ⟨#[40]⟩ then [-1] else if isB t 4 ⟨#[108, 101, 116]⟩ then [-2] else if isB t 4 ⟨#[105, 102]⟩ then [-3, -4] else if isB t 4 ⟨#[99, 97, 115, 101]⟩ then [-5] else []
def waitZ (t : TokZ) : Bool := isB t 4 ⟨#[108, 101, 116]⟩ || isB t 4 ⟨#[119, 104, 101, 114, 101]⟩ || isB t 4 ⟨#[111, 102]⟩
theorem opensZ_le (t : TokZ) : (opensZ t).length ≤ 2 := by
  unfold opensZ
  repeat' split
  all_goals decide

/-- The stack's top stands first. -/
def closeA (c : Int) : List Int → List TokZ → List Int × List TokZ
  | [], o => ([], o)
  | h :: r, o => if c < h then closeA c r (o ++ [markZ sShut]) else (h :: r, o)
theorem closeA_sum (c : Int) (st : List Int) : ∀ o, (closeA c st o).1.length + (closeA c st o).2.length = st.length + o.length := by
  induction st with
  | nil => intro o; rfl
  | cons h r ih =>
    intro o
    unfold closeA
    split
    · rw [ih, List.length_append]
      simp
      omega
    · rfl
theorem closeA_grow (c : Int) (st : List Int) : ∀ o, o.length ≤ (closeA c st o).2.length := by
  induction st with
  | nil => intro o; exact Nat.le_refl _
  | cons h r ih =>
    intro o
    unfold closeA
    split
    · refine Nat.le_trans ?_ (ih _)
      rw [List.length_append]
      omega
    · exact Nat.le_refl _

def pushZ (l : List Int) (st : List Int) : List Int := l.reverse ++ st
def closes (t : TokZ) : Bool := decide (needZ t < 0) || t.k == 6
def outZ (st : List Int) (out : List TokZ) (t : TokZ) : Option (List Int × List TokZ × Bool) :=
  let p := if closes t = true then closeA 0 st out else (st, out)
  if needZ t ≤ 0 then
    match p.1 with
    | [] => none
    | h :: r => if h = needZ t then some (pushZ (opensZ t) r, p.2 ++ [t], waitZ t) else none
  else some (pushZ (opensZ t) p.1, p.2 ++ [t], waitZ t)
def lineZ (st : List Int) (out : List TokZ) (t : TokZ) : List Int × List TokZ :=
  let p := closeA t.c st out
  (p.1, if p.1.head? = some t.c then p.2 ++ [markZ sSemi] else p.2)
def restZ (st : List Int) (out : List TokZ) (t : TokZ) (line : Int) : Option (List Int × List TokZ × Bool) :=
  let p := if (decide (line < t.l) && !(t.k == 6)) = true then lineZ st out t else (st, out)
  outZ p.1 p.2 t
def greatL (m : Int) : List Int → Int
  | [] => m
  | h :: r => greatL (if m < h then h else m) r
/-- The stack's bottom is met first. -/
def greatZ (st : List Int) : Int := greatL 0 st.reverse
def stepZ (st : List Int) (out : List TokZ) (wait : Bool) (t : TokZ) (line : Int) : Option (List Int × List TokZ × Bool) :=
  if wait = true then
    if isB t 5 sOpen = true then some (0 :: st, out ++ [t], false)
    else if (!(t.k == 6) && decide (greatZ st < t.c)) = true then outZ (t.c :: st) (out ++ [markZ sOpen]) t
    else restZ st (out ++ [markZ sOpen] ++ [markZ sShut]) t line
  else restZ st out t line
def runZ : List TokZ → List Int → List TokZ → Bool → Int → Option (List Int × List TokZ)
  | [], st, out, _, _ => some (st, out)
  | t :: r, st, out, wait, line =>
    match stepZ st out wait t line with
    | none => none
    | some (st', out', wait') => runZ r st' out' wait' t.l
def doneZ : Option (List Int × List TokZ) → Option (List TokZ)
  | none => none
  | some (st, out) => if st.length = 0 ∧ out.length ≤ 900 then some out else none
def layZ (ts : List TokZ) : Option (List TokZ) := doneZ (runZ ts [] [] true 0)
def laidTs (ts : List TokZ) : List TokZ := (layZ ts).getD []
def laidOk (ts : List TokZ) : Bool := (layZ ts).isSome

theorem outZ_sum {st : List Int} {out : List TokZ} {t : TokZ} {a : List Int} {b : List TokZ} {c : Bool} (h : outZ st out t = some (a, b, c)) : a.length + b.length ≤ st.length + out.length + 3 ∧ out.length ≤ b.length := by
  unfold outZ at h
  have hp : ∀ p : List Int × List TokZ, p = (if closes t = true then closeA 0 st out else (st, out)) → p.1.length + p.2.length = st.length + out.length ∧ out.length ≤ p.2.length := by
    intro p hp
    subst hp
    split
    · exact ⟨closeA_sum 0 st out, closeA_grow 0 st out⟩
    · exact ⟨rfl, Nat.le_refl _⟩
  have ho := opensZ_le t
  generalize hP : (if closes t = true then closeA 0 st out else (st, out)) = p at h
  have := hp p hP.symm
  simp only at h
  split at h
  · split at h
    · cases h
    · rename_i hd r e
      split at h
      · cases h
        rw [e] at this
        simp only [pushZ, List.length_append, List.length_reverse, List.length_cons, List.length_nil] at this ⊢
        omega
      · cases h
  · cases h
    simp only [pushZ, List.length_append, List.length_reverse, List.length_cons, List.length_nil] at this ⊢
    omega
theorem lineZ_sum (st : List Int) (out : List TokZ) (t : TokZ) : (lineZ st out t).1.length + (lineZ st out t).2.length ≤ st.length + out.length + 1 ∧ out.length ≤ (lineZ st out t).2.length := by
  have h1 := closeA_sum t.c st out
  have h2 := closeA_grow t.c st out
  unfold lineZ
  simp only
  split
  · rw [List.length_append]
    simp only [List.length_cons, List.length_nil]
    omega
  · omega
theorem restZ_sum {st : List Int} {out : List TokZ} {t : TokZ} {line : Int} {a : List Int} {b : List TokZ} {c : Bool} (h : restZ st out t line = some (a, b, c)) : a.length + b.length ≤ st.length + out.length + 4 ∧ out.length ≤ b.length := by
  unfold restZ at h
  simp only at h
  have h1 := lineZ_sum st out t
  have h2 := outZ_sum h
  split at h2
  · omega
  · simp only at h2
    omega
theorem stepZ_sum {st : List Int} {out : List TokZ} {wait : Bool} {t : TokZ} {line : Int} {a : List Int} {b : List TokZ} {c : Bool} (h : stepZ st out wait t line = some (a, b, c)) : a.length + b.length ≤ st.length + out.length + 6 ∧ out.length ≤ b.length := by
  unfold stepZ at h
  split at h
  · split at h
    · cases h
      simp
      omega
    · split at h
      · have := outZ_sum h
        simp at this
        omega
      · have := restZ_sum h
        simp at this
        omega
  · have := restZ_sum h
    omega
theorem runZ_grow (ts : List TokZ) : ∀ st out wait line a b, runZ ts st out wait line = some (a, b) → out.length ≤ b.length := by
  induction ts with
  | nil => intro st out wait line a b h; cases h; exact Nat.le_refl _
  | cons t r ih =>
    intro st out wait line a b h
    unfold runZ at h
    split at h
    · cases h
    · rename_i st' out' wait' e
      exact Nat.le_trans (stepZ_sum e).2 (ih _ _ _ _ _ _ h)
theorem runZ_long (ts : List TokZ) (st : List Int) (out : List TokZ) (wait : Bool) (line : Int) (h : 900 < out.length) : doneZ (runZ ts st out wait line) = none := by
  cases hr : runZ ts st out wait line with
  | none => rfl
  | some x =>
    obtain ⟨a, b⟩ := x
    have := runZ_grow ts st out wait line a b hr
    unfold doneZ
    simp only
    rw [if_neg (by omega)]
theorem laidTs_short (ts : List TokZ) : (laidTs ts).length ≤ 900 := by
  unfold laidTs layZ doneZ
  split
  · exact Nat.zero_le _
  · split
    · rename_i h
      exact h.2
    · exact Nat.zero_le _
end Go.Proofs.Ytfcgfinohhhpiai
