import Derived.Test.YtfomndilhlgikajGreatDoorP13
import Derived.Test.YtfomndilhlgikajGreatDoorP07
set_option maxHeartbeats 8000000
set_option maxRecDepth 100000
namespace Go.Proofs.YtfomndilhlgikajGreatDoor
open Go.RowKit
def jf : ByteArray := ⟨#[123]⟩
def fG : ByteArray := ⟨#[125]⟩
def pW : ByteArray := ⟨#[59]⟩
def bX (s : ByteArray) : TokZ := ⟨5, s, 0, 0⟩
def bi (t : TokZ) : Int :=
 if dq t 5 ⟨#[41]⟩ then -1 else if dq t 4 ⟨#[105, 110]⟩ then -2 else if dq t 4 ⟨#[116, 104, 101, 110]⟩ then -4 else if dq t 4 ⟨#[101, 108, 115, 101]⟩ then -3
 else if dq t 4 ⟨#[111, 102]⟩ then -5 else if dq t 5 ⟨#[125]⟩ then 0 else 1
def bp (t : TokZ) : List Int :=
 if dq t 5 ⟨#[40]⟩ then [-1] else if dq t 4 ⟨#[108, 101, 116]⟩ then [-2] else if dq t 4 ⟨#[105, 102]⟩ then [-3, -4] else if dq t 4 ⟨#[99, 97, 115, 101]⟩ then [-5] else []
def je (t : TokZ) : Bool := dq t 4 ⟨#[108, 101, 116]⟩ || dq t 4 ⟨#[119, 104, 101, 114, 101]⟩ || dq t 4 ⟨#[111, 102]⟩
theorem rD (t : TokZ) : (bp t).length <= 2 := by
 unfold bp
 repeat' split
 all_goals decide
def bk (c : Int) : List Int -> List TokZ -> List Int × List TokZ
 | [], o => ([], o)
 | h :: r, o => if c < h then bk c r (o ++ [bX fG]) else (h :: r, o)
theorem ig (c : Int) (st : List Int) : ∀ o, (bk c st o).1.length + (bk c st o).2.length = st.length + o.length := by
 induction st with
 | nil => intro o; rfl
 | cons h r ih =>
  intro o
  unfold bk
  split
  ·rw [ih, List.length_append]
   simp
   omega
  ·rfl
theorem nW (c : Int) (st : List Int) : ∀ o, o.length <= (bk c st o).2.length := by
 induction st with
 | nil => intro o; exact Nat.le_refl _
 | cons h r ih =>
  intro o
  unfold bk
  split
  ·refine Nat.le_trans ?_ (ih _)
   rw [List.length_append]
   omega
  ·exact Nat.le_refl _
def fr (l : List Int) (st : List Int) : List Int := l.reverse ++ st
def bT (t : TokZ) : Bool := decide (bi t < 0) || t.k == 6
def fP (st : List Int) (out : List TokZ) (t : TokZ) : Option (List Int × List TokZ × Bool) :=
 let p := if bT t = true then bk 0 st out else (st, out)
 if bi t <= 0 then
  match p.1 with
  | [] => none
  | h :: r => if h = bi t then some (fr (bp t) r, p.2 ++ [t], je t) else none
 else some (fr (bp t) p.1, p.2 ++ [t], je t)
def cB (st : List Int) (out : List TokZ) (t : TokZ) : List Int × List TokZ :=
 let p := bk t.c st out
 (p.1, if p.1.head? = some t.c then p.2 ++ [bX pW] else p.2)
def gH (st : List Int) (out : List TokZ) (t : TokZ) (line : Int) : Option (List Int × List TokZ × Bool) :=
 let p := if (decide (line < t.l) && !(t.k == 6)) = true then cB st out t else (st, out)
 fP p.1 p.2 t
def gE (m : Int) : List Int -> Int
 | [] => m
 | h :: r => gE (if m < h then h else m) r
def gD (st : List Int) : Int := gE 0 st.reverse
def fd (st : List Int) (out : List TokZ) (wait : Bool) (t : TokZ) (line : Int) : Option (List Int × List TokZ × Bool) :=
 if wait = true then
  if dq t 5 jf = true then some (0 :: st, out ++ [t], false)
  else if (!(t.k == 6) && decide (gD st < t.c)) = true then fP (t.c :: st) (out ++ [bX jf]) t
  else gH st (out ++ [bX jf] ++ [bX fG]) t line
 else gH st out t line
def gO : List TokZ -> List Int -> List TokZ -> Bool -> Int -> Option (List Int × List TokZ)
 | [], st, out, _, _ => some (st, out)
 | t :: r, st, out, wait, line =>
  match fd st out wait t line with
  | none => none
  | some (st', out', wait') => gO r st' out' wait' t.l
def lD : Option (List Int × List TokZ) -> Option (List TokZ)
 | none => none
 | some (st, out) => if st.length = 0 /\ out.length <= 900 then some out else none
def eB (ts : List TokZ) : Option (List TokZ) := lD (gO ts [] [] true 0)
def bB (ts : List TokZ) : List TokZ := (eB ts).getD []
def cS (ts : List TokZ) : Bool := (eB ts).isSome
theorem ud {st : List Int} {out : List TokZ} {t : TokZ} {a : List Int} {b : List TokZ} {c : Bool} (h : fP st out t = some (a, b, c)) : a.length + b.length <= st.length + out.length + 3 /\ out.length <= b.length := by
 unfold fP at h
 have hp : ∀ p : List Int × List TokZ, p = (if bT t = true then bk 0 st out else (st, out)) -> p.1.length + p.2.length = st.length + out.length /\ out.length <= p.2.length := by
  intro p hp
  subst hp
  split
  ·exact ⟨ig 0 st out, nW 0 st out⟩
  ·exact ⟨rfl, Nat.le_refl _⟩
 have ho := rD t
 generalize hP : (if bT t = true then bk 0 st out else (st, out)) = p at h
 have := hp p hP.symm
 simp only at h
 split at h
 ·split at h
  ·cases h
  ·rename_i hd r e
   split at h
   ·cases h
    rw [e] at this
    simp only [fr, List.length_append, List.length_reverse, List.length_cons, List.length_nil] at this ⊢
    omega
   ·cases h
 ·cases h
  simp only [fr, List.length_append, List.length_reverse, List.length_cons, List.length_nil] at this ⊢
  omega
theorem nB (st : List Int) (out : List TokZ) (t : TokZ) : (cB st out t).1.length + (cB st out t).2.length <= st.length + out.length + 1 /\ out.length <= (cB st out t).2.length := by
 have h1 := ig t.c st out
 have h2 := nW t.c st out
 unfold cB
 simp only
 split
 ·rw [List.length_append]
  simp only [List.length_cons, List.length_nil]
  omega
 ·omega
theorem rF {st : List Int} {out : List TokZ} {t : TokZ} {line : Int} {a : List Int} {b : List TokZ} {c : Bool} (h : gH st out t line = some (a, b, c)) : a.length + b.length <= st.length + out.length + 4 /\ out.length <= b.length := by
 unfold gH at h
 simp only at h
 have h1 := nB st out t
 have h2 := ud h
 split at h2
 ·omega
 ·simp only at h2
  omega
theorem nr {st : List Int} {out : List TokZ} {wait : Bool} {t : TokZ} {line : Int} {a : List Int} {b : List TokZ} {c : Bool} (h : fd st out wait t line = some (a, b, c)) : a.length + b.length <= st.length + out.length + 6 /\ out.length <= b.length := by
 unfold fd at h
 split at h
 ·split at h
  ·cases h
   simp
   omega
  ·split at h
   ·have := ud h
    simp at this
    omega
   ·have := rF h
    simp at this
    omega
 ·have := rF h
  omega
theorem yE (ts : List TokZ) : ∀ st out wait line a b, gO ts st out wait line = some (a, b) -> out.length <= b.length := by
 induction ts with
 | nil => intro st out wait line a b h; cases h; exact Nat.le_refl _
 | cons t r ih =>
  intro st out wait line a b h
  unfold gO at h
  split at h
  ·cases h
  ·rename_i st' out' wait' e
   exact Nat.le_trans (nr e).2 (ih _ _ _ _ _ _ h)
theorem xN (ts : List TokZ) (st : List Int) (out : List TokZ) (wait : Bool) (line : Int) (h : 900 < out.length) : lD (gO ts st out wait line) = none := by
 cases hr : gO ts st out wait line with
 | none => rfl
 | some x =>
  obtain ⟨a, b⟩ := x
  have := yE ts st out wait line a b hr
  unfold lD
  simp only
  rw [if_neg (by omega)]
end Go.Proofs.YtfomndilhlgikajGreatDoor
namespace Go.Proofs.YtfomndilhlgikajGreatDoor.Rd
open Go.RowKit
def rn (t : TokP) : TokZ := ⟨(t.k : Nat), ⟨t.s.toArray⟩, (t.line : Nat), (t.col : Nat)⟩
theorem xo (ts : List TokP) : eV ts = iH (ts.map rn) := by
 unfold eV iH
 induction ts with
 | nil => rfl
 | cons t r ih => rw [List.flatMap_cons, List.map_cons, List.flatMap_cons, ih]; rfl
def GT (t : TokZ) : Prop := t.k ≠ 6 /\ Gd t
theorem Ey (l : List TokZ) (e : TokZ) (hl : ∀ t ∈ l, GT t) (h6 : e.k = 6) (hs : e.s = ⟨#[]⟩) : Ends (l ++ [e]) := by
 induction l with
 | nil => exact ⟨h6, hs⟩
 | cons t r ih =>
  have h1 := hl t (List.mem_cons_self ..)
  have h2 := ih fun x hx => hl x (List.mem_cons_of_mem _ hx)
  show (if r ++ [e] = [] then _ else t.k ≠ 6 /\ Gd t /\ Ends (r ++ [e]))
  rw [if_neg (by simp)]
  exact ⟨h1.1, h1.2, h2⟩
def MkZ (t : TokZ) : Prop := t = bX jf \/ t = bX fG \/ t = bX pW
theorem MkZ.gd {t : TokZ} (h : MkZ t) : GT t := by
 rcases h with rfl | rfl | rfl
 all_goals
  refine ⟨by decide, fun _ => rfl, fun h => ?_, fun h => absurd h (by decide), by decide⟩
  exact absurd h (by simp [fs, lS, sK, lQ, jb, qt, Am, di, dJ, xF, bX, jf, fG, pW])
def Adds (out out' : List TokZ) : Prop := ∃ ms, out' = out ++ ms /\ ∀ m ∈ ms, MkZ m
theorem Adds.refl (out : List TokZ) : Adds out out := ⟨[], by simp, fun _ h => by cases h⟩
theorem Adds.trans {a b c : List TokZ} (h : Adds a b) (k : Adds b c) : Adds a c := by
 obtain ⟨m, rfl, hm⟩ := h
 obtain ⟨n, rfl, hn⟩ := k
 exact ⟨m ++ n, by rw [List.append_assoc], fun x hx => (List.mem_append.1 hx).elim (hm x) (hn x)⟩
theorem Adds.one (a : List TokZ) {t : TokZ} (h : MkZ t) : Adds a (a ++ [t]) := ⟨[t], rfl, fun m hm => by rw [List.mem_singleton.1 hm]; exact h⟩
theorem kc (c : Int) (st : List Int) : ∀ o, Adds o (bk c st o).2 := by
 induction st with
 | nil => intro o; exact Adds.refl o
 | cons h r ih =>
  intro o
  unfold bk
  split
  ·exact (Adds.one o (.inr (.inl rfl))).trans (ih _)
  ·exact Adds.refl o
theorem rG {st : List Int} {out : List TokZ} {t : TokZ} {a : List Int} {b : List TokZ} {c : Bool} (h : fP st out t = some (a, b, c)) : ∃ m, Adds out m /\ b = m ++ [t] := by
 unfold fP at h
 have hp : ∀ p : List Int × List TokZ, p = (if bT t = true then bk 0 st out else (st, out)) -> Adds out p.2 := by
  rintro p rfl
  split
  ·exact kc _ _ _
  ·exact Adds.refl _
 generalize hq : (if bT t = true then bk 0 st out else (st, out)) = p at h
 have hm := hp p hq.symm
 refine ⟨p.2, hm, ?_⟩
 obtain ⟨p1, p2⟩ := p
 simp only at h
 split at h
 ·cases p1 with
  | nil => cases h
  | cons x r =>
   simp only at h
   split at h
   ·cases h; rfl
   ·cases h
 ·cases h; rfl
theorem wl (st : List Int) (out : List TokZ) (t : TokZ) : Adds out (cB st out t).2 := by
 unfold cB
 simp only
 split
 ·exact (kc _ _ _).trans (Adds.one _ (.inr (.inr rfl)))
 ·exact kc _ _ _
theorem pu {st : List Int} {out : List TokZ} {t : TokZ} {line : Int} {a : List Int} {b : List TokZ} {c : Bool} (h : gH st out t line = some (a, b, c)) : ∃ m, Adds out m /\ b = m ++ [t] := by
 unfold gH at h
 generalize hq : (if (decide (line < t.l) && !(t.k == 6)) = true then cB st out t else (st, out)) = p at h
 have hm : Adds out p.2 := by
  rw [<- hq]
  split
  ·exact wl _ _ _
  ·exact Adds.refl _
 obtain ⟨m, h1, h2⟩ := rG h
 exact ⟨m, hm.trans h1, h2⟩
theorem pX {st : List Int} {out : List TokZ} {wait : Bool} {t : TokZ} {line : Int} {a : List Int} {b : List TokZ} {c : Bool} (h : fd st out wait t line = some (a, b, c)) : ∃ m, Adds out m /\ b = m ++ [t] := by
 unfold fd at h
 split at h
 ·split at h
  ·cases h; exact ⟨out, Adds.refl _, rfl⟩
  ·split at h
   ·obtain ⟨m, h1, h2⟩ := rG h
    exact ⟨m, (Adds.one out (.inl rfl)).trans h1, h2⟩
   ·obtain ⟨m, h1, h2⟩ := pu h
    exact ⟨m, ((Adds.one out (.inl rfl)).trans (Adds.one _ (.inr (.inl rfl)))).trans h1, h2⟩
 ·exact pu h
theorem yP (l : List TokZ) (e : TokZ) (hl : ∀ t ∈ l, GT t) (h6 : e.k = 6) (hs : e.s = ⟨#[]⟩) : ∀ st out wait line st' out', (∀ t ∈ out, GT t) -> gO (l ++ [e]) st out wait line = some (st', out') -> Ends out' := by
 induction l with
 | nil =>
  intro st out wait line st' out' ho h
  have h2 : (match fd st out wait e line with | none => none | some (st', out', wait') => gO [] st' out' wait' e.l) = some (st', out') := h
  cases hq : fd st out wait e line with
  | none => rw [hq] at h2; cases h2
  | some p =>
   obtain ⟨a, b, c⟩ := p
   rw [hq] at h2
   have h3 : some (a, b) = some (st', out') := h2
   cases h3
   obtain ⟨m, ⟨ms, rfl, hms⟩, rfl⟩ := pX hq
   exact Ey _ e (fun t ht => (List.mem_append.1 ht).elim (ho t) fun hx => (hms t hx).gd) h6 hs
 | cons t r ih =>
  intro st out wait line st' out' ho h
  have h2 : (match fd st out wait t line with | none => none | some (st', out', wait') => gO (r ++ [e]) st' out' wait' t.l) = some (st', out') := h
  cases hq : fd st out wait t line with
  | none => rw [hq] at h2; cases h2
  | some p =>
   obtain ⟨a, b, c⟩ := p
   rw [hq] at h2
   obtain ⟨m, ⟨ms, rfl, hms⟩, rfl⟩ := pX hq
   refine ih (fun x hx => hl x (List.mem_cons_of_mem _ hx)) a _ c t.l st' out' (fun x hx => ?_) h2
   rcases List.mem_append.1 hx with hx | hx
   ·exact (List.mem_append.1 hx).elim (ho x) fun hx => (hms x hx).gd
   ·rw [List.mem_singleton.1 hx]
    exact hl t (List.mem_cons_self ..)
theorem xT (l : List TokZ) (e : TokZ) (hl : ∀ t ∈ l, GT t) (h6 : e.k = 6) (hs : e.s = ⟨#[]⟩) (h : cS (l ++ [e]) = true) : Ends (bB (l ++ [e])) /\ (bB (l ++ [e])).length <= 900 := by
 unfold cS at h
 unfold bB
 unfold eB at h ⊢
 cases hr : gO (l ++ [e]) [] [] true 0 with
 | none => rw [hr] at h; cases h
 | some p =>
  obtain ⟨st, out⟩ := p
  rw [hr] at h
  have h2 : (if st.length = 0 /\ out.length <= 900 then some out else none).isSome = true := h
  show Ends ((if st.length = 0 /\ out.length <= 900 then some out else none).getD []) /\ ((if st.length = 0 /\ out.length <= 900 then some out else none).getD []).length <= 900
  split at h2
  ·rename_i hc
   rw [if_pos hc]
   exact ⟨yP l e hl h6 hs _ _ _ _ _ _ (fun _ hx => by cases hx) hr, hc.2⟩
  ·cases h2
theorem kr (p : UInt8 -> Bool) (l : List UInt8) (h : p (l.headD 0) = true) (h0 : 0 < l.length) : l.takeWhile p ≠ [] /\ (l.takeWhile p).headD 0 = l.headD 0 := by
 cases l with
 | nil => simp at h0
 | cons c r =>
  have h' : p c = true := h
  rw [List.takeWhile_cons, if_pos h']
  exact ⟨by simp, rfl⟩
theorem uJ (L : List UInt8) : ∀ f a ts, jR L f a = some ts -> ∃ ps : List Nat, ts = ps.map (jL L) /\ ps.Pairwise (· < ·) /\ ∀ x ∈ ps, a <= x /\ x < L.length /\ cr (L.drop x) ≠ 0 := by
 intro f
 induction f with
 | zero => intro a ts h; rw [jR] at h; cases h; exact ⟨[], rfl, List.Pairwise.nil, fun x hx => by simp at hx⟩
 | succ f ih =>
  intro a ts h
  rw [jR] at h
  by_cases ha : a < L.length
  ·rw [if_pos ha] at h
   by_cases hb : L[a]? = some 10 \/ L[a]? = some 32
   ·rw [if_pos hb] at h
    obtain ⟨ps, h1, h2, h3⟩ := ih _ _ h
    exact ⟨ps, h1, h2, fun x hx => ⟨by have := (h3 x hx).1; omega, (h3 x hx).2⟩⟩
   ·rw [if_neg hb] at h
    by_cases hd : gI (L.drop a) = true
    ·rw [if_pos hd] at h
     obtain ⟨ps, h1, h2, h3⟩ := ih _ _ h
     exact ⟨ps, h1, h2, fun x hx => ⟨by have := (h3 x hx).1; omega, (h3 x hx).2⟩⟩
    ·rw [if_neg hd] at h
     by_cases hk : cr (L.drop a) = 0
     ·rw [if_pos hk] at h; cases h
     ·rw [if_neg hk] at h
      cases hx : jR L f (a + bA (L.drop a)) with
      | none => rw [hx] at h; cases h
      | some us =>
       rw [hx] at h
       obtain ⟨ps, h1, h2, h3⟩ := ih _ _ hx
       have nP := eX (L.drop a) (dm L a ha)
       refine ⟨a :: ps, ?_, ?_, ?_⟩
       ·rw [List.map_cons, <- h1]; exact (Option.some.inj h).symm
       ·exact List.Pairwise.cons (fun x hx => by have := (h3 x hx).1; omega) h2
       ·intro x hx
        rcases List.mem_cons.1 hx with rfl | hx
        ·exact ⟨Nat.le_refl _, ha, hk⟩
        ·exact ⟨by have := (h3 x hx).1; omega, (h3 x hx).2⟩
  ·rw [if_neg ha] at h; cases h; exact ⟨[], rfl, List.Pairwise.nil, fun x hx => by simp at hx⟩
theorem yt (L : List UInt8) (h : dP L = true) : L.length <= 1500 /\ ∃ ts, cd L 0 = some ts /\ ts.length < 400 /\ cu L = ts ++ [⟨6, [], bN L L.length, L.length - db L L.length + 1⟩] := by
 unfold dP at h
 unfold cu
 unfold lu at h ⊢
 by_cases hl : L.length <= 1500
 ·rw [if_pos hl] at h ⊢
  refine ⟨hl, ?_⟩
  cases hx : cd L 0 with
  | none => rw [hx] at h; cases h
  | some ts =>
   rw [hx] at h
   by_cases hn : ts.length < 400
   ·refine ⟨ts, rfl, hn, ?_⟩
    show (if ts.length < 400 then _ else none).getD [] = _
    rw [if_pos hn]
    rfl
   ·have : (if ts.length < 400 then some (ts ++ [(⟨6, [], bN L L.length, L.length - db L L.length + 1⟩ : TokP)]) else none).isSome = true := h
    rw [if_neg hn] at this
    cases this
 ·rw [if_neg hl] at h; cases h
theorem yB (L : List UInt8) (h : dP L = false) : cu L = [] := by
 unfold dP at h
 unfold cu
 cases hx : lu L with
 | none => rfl
 | some x => rw [hx] at h; cases h
theorem Ei {c : UInt8} (h : bM c = true) : fC c = false := by
 unfold bM cz at h
 unfold fC cz
 simp only [Bool.and_eq_true, decide_eq_true_eq] at h
 simp only [Bool.or_eq_false_iff, Bool.and_eq_false_iff, decide_eq_false_iff_not]
 omega
def marksB : List (List UInt8) := [[92], [45, 62], [123], [125], [59], [40], [41], [61], [124], [43], [45], [42], [61, 61], [60], [95]]
theorem xc {s : List UInt8} (h : (⟨s.toArray⟩ : ByteArray) ∈ bP) : s ∈ marksB := by
 simp only [bP, lv, eJ, df, dZ, ck, sPl, yR, ox, Gb, eM, dg, eK, iu, qh, sNo, List.mem_cons, ByteArray.mk.injEq, List.toArray_eq_iff, List.not_mem_nil, or_false] at h
 simp only [marksB, List.mem_cons, List.not_mem_nil, or_false]
 simpa using h
theorem oH {s : List UInt8} (h : (⟨s.toArray⟩ : ByteArray) ∈ fs) : sJ s = true := by
 have h2 : s ∈ ([[108, 101, 116], [105, 110], [119, 104, 101, 114, 101], [99, 97, 115, 101], [111, 102], [105, 102], [116, 104, 101, 110], [101, 108, 115, 101], [100, 97, 116, 97]] : List (List UInt8)) := by
  simp only [fs, lS, sK, lQ, jb, qt, Am, di, dJ, xF, List.mem_cons, ByteArray.mk.injEq, List.toArray_eq_iff, List.not_mem_nil, or_false] at h
  simp only [List.mem_cons, List.not_mem_nil, or_false]
  simpa using h
 simp only [List.mem_cons, List.not_mem_nil, or_false] at h2
 rcases h2 with rfl | rfl | rfl | rfl | rfl | rfl | rfl | rfl | rfl <;> decide
theorem ro {s : List UInt8} (h : s ∈ marksB) : bM (s.headD 0) = false /\ fC (s.headD 0) = false := by
 simp only [marksB, List.mem_cons, List.not_mem_nil, or_false] at h
 rcases h with rfl | rfl | rfl | rfl | rfl | rfl | rfl | rfl | rfl | rfl | rfl | rfl | rfl | rfl | rfl <;> decide
theorem nz {s : List UInt8} (h : sJ s = true) : fC (s.headD 0) = true := by
 unfold sJ at h
 simp only [Bool.or_eq_true, beq_iff_eq] at h
 rcases h with (((((((h | h) | h) | h) | h) | h) | h) | h) | h <;> subst h <;> decide
theorem D7 (l : List UInt8) (h0 : 0 < l.length) (hk : cr l ≠ 0) (hl : l.length <= 1500) (a c : Int) : GT ⟨(cr l : Nat), ⟨(l.take (bA l)).toArray⟩, a, c⟩ := by
 have cI : (⟨(l.take (bA l)).toArray⟩ : ByteArray).size <= 1500 := by
  show (l.take (bA l)).toArray.size <= 1500
  rw [List.size_toArray, List.length_take]
  omega
 by_cases hd : bM (l.headD 0) = true
 ·have hn := ja l hd
  obtain ⟨h1, h2⟩ := kr bM l hd h0
  have hs : l.take (bA l) = l.takeWhile bM := by rw [hn.2, eu]
  rw [hs] at cI ⊢
  rw [hn.1] at hk ⊢
  have Q0 : gm (l.takeWhile bM) = 3 /\ mL (l.takeWhile bM) = true := by
   unfold gm at hk ⊢
   split at hk
   ·rename_i hx; exact ⟨if_pos hx, hx⟩
   ·exact absurd rfl hk
  rw [Q0.1]
  refine ⟨(by show ((3 : Nat) : Int) ≠ 6; decide), fun h => ?_, fun h => ?_, fun _ => ?_, cI⟩
  ·have := (ro (xc h)).1
   rw [h2, hd] at this
   cases this
  ·have := nz (oH h)
   rw [h2] at this
   rw [show fC (l.headD 0) = false from Ei hd] at this
   cases this
  ·have Pd := Q0.2
   unfold mL at Pd
   simp only [Bool.and_eq_true] at Pd
   obtain ⟨⟨cl, gA⟩, -⟩ := Pd
   have Ls : 1 <= (l.takeWhile bM).length /\ (l.takeWhile bM).length <= 6 := by
    unfold cz at gA
    simp only [Bool.and_eq_true, decide_eq_true_eq] at gA
    omega
   refine ⟨Ls.1, Ls.2, fun x hx => ?_⟩
   have mY : x ∈ l.takeWhile bM := hx
   have := List.all_eq_true.1 cl x mY
   unfold bM cz at this
   simp only [Bool.and_eq_true, decide_eq_true_eq] at this
   omega
 ·rw [Bool.not_eq_true] at hd
  by_cases ha : fC (l.headD 0) = true
  ·have hn := fU l ha
   obtain ⟨h1, h2⟩ := kr cO l (oP _ ha) h0
   have hs : l.take (bA l) = l.takeWhile cO := by rw [hn.2, eu]
   rw [hs] at cI ⊢
   rw [hn.1] at hk ⊢
   have KH : dl (l.takeWhile cO) ≠ 6 /\ dl (l.takeWhile cO) ≠ 3 /\ (sJ (l.takeWhile cO) = true -> dl (l.takeWhile cO) = 4) := by
    unfold dl
    refine ⟨?_, ?_, fun h => by rw [if_pos h]⟩
    ·split
     ·decide
     ·split
      ·decide
      ·split <;> decide
    ·split
     ·decide
     ·split
      ·decide
      ·split <;> decide
   refine ⟨fun h => KH.1 (by have h9 : ((dl (l.takeWhile cO) : Nat) : Int) = 6 := h; omega), fun h => ?_, fun h => ?_, fun h => absurd (by have h9 : ((dl (l.takeWhile cO) : Nat) : Int) = 3 := h; omega) KH.2.1, cI⟩
   ·have := (ro (xc h)).2
    rw [h2, ha] at this
    cases this
   ·show ((dl (l.takeWhile cO) : Nat) : Int) = 4
    rw [KH.2.2 (oH h)]
    rfl
  ·rw [Bool.not_eq_true] at ha
   by_cases ht : gL l = true
   ·have hn := gY l ha hd ht
    rw [hn.1]
    refine ⟨(by show ((5 : Nat) : Int) ≠ 6; decide), fun _ => rfl, fun h => ?_, fun h => absurd h (by show ¬ ((5 : Nat) : Int) = 3; decide), cI⟩
    have h3 := nz (oH h)
    have h4 : (l.take (bA l)).headD 0 = l.headD 0 := by
     rw [hn.2]
     cases l with
     | nil => rfl
     | cons x q => rfl
    rw [h4, ha] at h3
    cases h3
   ·rw [Bool.not_eq_true] at ht
    by_cases hm : fm (l.headD 0) = true
    ·have hn := iY l ha hd ht hm
     rw [hn.1]
     refine ⟨(by show ((5 : Nat) : Int) ≠ 6; decide), fun _ => rfl, fun h => ?_, fun h => absurd h (by show ¬ ((5 : Nat) : Int) = 3; decide), cI⟩
     have h3 := nz (oH h)
     have h4 : (l.take (bA l)).headD 0 = l.headD 0 := by
      rw [hn.2]
      cases l with
      | nil => rfl
      | cons x q => rfl
     rw [h4, ha] at h3
     cases h3
    ·rw [Bool.not_eq_true] at hm
     exact absurd (fJ l ha hd ht hm) hk
theorem pw (L : List UInt8) (h : dP L = true) : ∃ l e, (cu L).map rn = l ++ [e] /\ (∀ t ∈ l, GT t) /\ e.k = 6 /\ e.s = ⟨#[]⟩ /\ l.length < 400 := by
 obtain ⟨hl, ts, hx, hn, he⟩ := yt L h
 obtain ⟨ps, rfl, -, hp⟩ := uJ L _ _ _ hx
 refine ⟨(ps.map (jL L)).map rn, rn ⟨6, [], bN L L.length, L.length - db L L.length + 1⟩, ?_, fun t ht => ?_, rfl, rfl, by simpa using hn⟩
 ·rw [he, List.map_append]
  rfl
 ·rw [List.map_map] at ht
  obtain ⟨x, hx, rfl⟩ := List.mem_map.1 ht
  obtain ⟨-, h2, h3⟩ := hp x hx
  exact D7 (L.drop x) (by rw [List.length_drop]; omega) h3 (by rw [List.length_drop]; omega) _ _
def signs (s : ByteArray) : List TokZ := bB ((cu s.data.toList).map rn)
def eh (s : ByteArray) : Bool := dP s.data.toList && cS ((cu s.data.toList).map rn)
theorem jw {s : ByteArray} (h1 : dP s.data.toList = true) (h2 : cS ((cu s.data.toList).map rn) = true) : Ends (signs s) /\ (signs s).length <= 900 := by
 obtain ⟨l, e, he, hg, h6, hs, -⟩ := pw _ h1
 unfold signs
 rw [he] at h2 ⊢
 exact xT l e hg h6 hs h2
end Go.Proofs.YtfomndilhlgikajGreatDoor.Rd
namespace Go.Proofs.YtfomndilhlgikajGreatDoor
open Go.RowKit
def cP (st : List Int) : List Value := st.reverse.map fun n => .int .i64 n
theorem kj (n : Int) (st : List Int) : cP (n :: st) = cP st ++ [.int .i64 n] := by
 unfold cP
 rw [List.reverse_cons, List.map_append]
 rfl
theorem dR (st : List Int) : (cP st).length = st.length := by unfold cP; rw [List.length_map, List.length_reverse]
theorem wE (n : Int) (st : List Int) : (cP (n :: st))[st.length]? = some (.int .i64 n) := by
 rw [kj, List.getElem?_append_right (by rw [dR]; exact Nat.le_refl _), dR, Nat.sub_self]
 rfl
structure LayMem (w : World) (K : Nat -> Prop) (g : Nat) (vo vs : Value) (out : List TokZ) (st : List Int) : Prop where
 out : w.ownsRow 0 122 4 vo out.length (iH out)
 st : w.ownsRow 0 3 1 vs st.length (cP st)
 og : vo.ownBlock ≠ some g
 sg : vs.ownBlock ≠ some g
 os : vo.ownBlock = none \/ vo.ownBlock ≠ vs.ownBlock
 kg : ¬ K g
 ko : ∀ k, vo.ownBlock = some k -> ¬ K k
 ks : ∀ k, vs.ownBlock = some k -> ¬ K k
 kw : ∀ k, K k -> k < w.heap.size
 gw : g < w.heap.size
theorem LayMem.same {w w' : World} {K : Nat -> Prop} {g : Nat} {vo vs : Value} {out : List TokZ} {st : List Int} (h : LayMem w K g vo vs out st) (hs : w.heap.size <= w'.heap.size)
 (hb : ∀ k, k < w.heap.size -> k ≠ g -> w'.heap[k]? = w.heap[k]?) : LayMem w' K g vo vs out st where
 out := hJ h.out fun k hk => hb k (cK h.out k hk).1 fun e => h.og (e ▸ hk)
 st := hJ h.st fun k hk => hb k (cK h.st k hk).1 fun e => h.sg (e ▸ hk)
 og := h.og
 sg := h.sg
 os := h.os
 kg := h.kg
 ko := h.ko
 ks := h.ks
 kw := fun k hk => Nat.lt_of_lt_of_le (h.kw k hk) hs
 gw := Nat.lt_of_lt_of_le h.gw hs
theorem LayMem.alloc {w : World} {K : Nat -> Prop} {g : Nat} {vo vs : Value} {out : List TokZ} {st : List Int} (h : LayMem w K g vo vs out st) (o : Obj) : LayMem (w.alloc o) K g vo vs out st :=
 h.same (by simp) fun k hk _ => Below.heap_alloc w o k hk
theorem LayMem.later {w w' : World} {K : Nat -> Prop} {g : Nat} {vo vs : Value} {out : List TokZ} {st : List Int} (h : LayMem w K g vo vs out st) (hb : Below w.heap.size w w') : LayMem w' K g vo vs out st :=
 h.same hb.size fun k hk _ => hb.block k hk
theorem LayMem.set {w : World} {K : Nat -> Prop} {g : Nat} {vo vs : Value} {out : List TokZ} {st : List Int} (h : LayMem w K g vo vs out st) (j : Nat) (u : Value) : LayMem (w.setCell ⟨g, j, none⟩ u) K g vo vs out st :=
 h.same (by simp) fun k _ hk => az u hk
theorem LayMem.more {w : World} {K K' : Nat -> Prop} {g : Nat} {vo vs : Value} {out : List TokZ} {st : List Int} (h : LayMem w K g vo vs out st) (hw : ∀ k, K' k -> k < w.heap.size)
 (hg : ¬ K' g) (ho : ∀ k, vo.ownBlock = some k -> ¬ K' k) (hs : ∀ k, vs.ownBlock = some k -> ¬ K' k) : LayMem w K' g vo vs out st :=
 ⟨h.out, h.st, h.og, h.sg, h.os, hg, ho, hs, hw, h.gw⟩
theorem LayMem.put {w w2 : World} {K : Nat -> Prop} {g : Nat} {vo vo' vs : Value} {out : List TokZ} {st : List Int} {t : TokZ} (h : LayMem w K g vo vs out st)
 (hown : w2.ownsRow 0 122 4 vo' (out.length + 1) (iH out ++ iK t)) (hg : w.grownBy w2 vo.ownBlock) (hb : vo'.ownBlock = vo.ownBlock \/ vo'.ownBlock = some w.heap.size) :
 LayMem w2 K g vo' vs (out ++ [t]) st /\ Keeps K w w2 /\ w2.heap[g]? = w.heap[g]? := by
 have oI := h.gw
 refine ⟨⟨?_, h.st.kept hg ?_, ?_, h.sg, ?_, h.kg, ?_, h.ks, fun k hk => Nat.lt_of_lt_of_le (h.kw k hk) hg.size, Nat.lt_of_lt_of_le h.gw hg.size⟩, ku hg h.kw h.ko, hg.block g h.gw fun e => h.og e.symm⟩
 ·rw [List.length_append, yu]
  exact hown
 ·cases hvs : vs.ownBlock with
  | none => exact Or.inl rfl
  | some k =>
   right
   rcases h.os with e | e
   ·rw [e]; intro e2; cases e2
   ·rw [hvs] at e; exact fun e2 => e e2.symm
 ·rcases hb with e | e
  ·rw [e]; exact h.og
  ·rw [e]; intro e2; have := Option.some.inj e2; omega
 ·rcases hb with e | e
  ·rw [e]; exact h.os
  ·right
   rw [e]
   intro e2
   have := (cK h.st _ e2.symm).1
   omega
 ·intro k hk hK
  rcases hb with e | e
  ·exact h.ko k (e ▸ hk) hK
  ·rw [e] at hk
   have := h.kw k hK
   have := Option.some.inj hk
   omega
theorem LayMem.push {w w2 : World} {K : Nat -> Prop} {g : Nat} {vo vs vs' : Value} {out : List TokZ} {st : List Int} {n : Int} (h : LayMem w K g vo vs out st)
 (hown : w2.ownsRow 0 3 1 vs' (st.length + 1) (cP st ++ [.int .i64 n])) (hg : w.grownBy w2 vs.ownBlock) (hb : vs'.ownBlock = vs.ownBlock \/ vs'.ownBlock = some w.heap.size) :
 LayMem w2 K g vo vs' out (n :: st) /\ Keeps K w w2 /\ w2.heap[g]? = w.heap[g]? := by
 have oI := h.gw
 refine ⟨⟨h.out.kept hg h.os, ?_, h.og, ?_, ?_, h.kg, h.ko, ?_, fun k hk => Nat.lt_of_lt_of_le (h.kw k hk) hg.size, Nat.lt_of_lt_of_le h.gw hg.size⟩, ku hg h.kw h.ks, hg.block g h.gw fun e => h.sg e.symm⟩
 ·rw [kj]
  exact hown
 ·rcases hb with e | e
  ·rw [e]; exact h.sg
  ·rw [e]; intro e2; have := Option.some.inj e2; omega
 ·rcases hb with e | e
  ·rw [e]; exact h.os
  ·right
   rw [e]
   intro e2
   have := (cK h.out _ e2).1
   omega
 ·intro k hk hK
  rcases hb with e | e
  ·exact h.ks k (e ▸ hk) hK
  ·rw [e] at hk
   have := h.kw k hK
   have := Option.some.inj hk
   omega
theorem LayMem.top {w : World} {K : Nat -> Prop} {g : Nat} {vo vs : Value} {out : List TokZ} {st : List Int} {n : Int} (h : LayMem w K g vo vs out (n :: st)) :
 ∃ b cap, vs = .slice (some ⟨b, 0, none⟩) (st.length + 1) cap /\ st.length + 1 <= cap /\ cap <= maxLen /\ w.cell? ⟨b, st.length, none⟩ = some (.int .i64 n) /\ b < w.heap.size /\ (∀ j u, (cP st)[j]? = some u -> w.cell? ⟨b, j, none⟩ = some u) /\ LayMem w K g vo (.slice (some ⟨b, 0, none⟩) st.length cap) out st := by
 obtain ⟨hl, hc⟩ := h.st
 rcases hc with ⟨_, h0⟩ | ⟨b, cap, cur, hv, hb, hg, hn, vc, cI, oq⟩
 ·cases h0
 ·have E7 : cur.toList.take (st.length * 1) = cP st := by
   have h1 : (cur.toList.take ((st.length + 1) * 1)).take st.length = (cP (n :: st)).take st.length := congrArg _ oq
   rw [List.take_take, kj, List.take_left' (dR st), Nat.min_eq_left (by omega)] at h1
   rw [Nat.mul_one]
   exact h1
  have qF : st.length + 1 <= cap := hn
  refine ⟨b, cap, hv, qF, vc, ?_, ad hg, fun j u hj => ?_, ?_⟩
  ·exact fN hg oq st.length (by rw [List.length_cons]; omega) _ (wE n st)
  ·have au : j < st.length := by
    have := (List.getElem?_eq_some_iff.1 hj).1
    rwa [dR] at this
   exact fN hg E7 j (by omega) u hj
  ·subst hv
   refine ⟨h.out, ⟨by rw [dR, Nat.mul_one], Or.inr ⟨b, cap, cur, rfl, hb, hg, by omega, vc, cI, E7⟩⟩, h.og, ?_, ?_, h.kg, h.ko, ?_, h.kw, h.gw⟩
   ·exact h.sg
   ·exact h.os
   ·exact h.ks
theorem LayMem.anew {w w2 : World} {K : Nat -> Prop} {g : Nat} {vo vs vs' : Value} {out : List TokZ} {st st' : List Int} (h : LayMem w K g vo vs out st)
 (hown : w2.ownsRow w.heap.size 3 1 vs' st'.length (cP st')) (hg : Below w.heap.size w w2) : LayMem w2 K g vo vs' out st' /\ Keeps K w w2 /\ w2.heap[g]? = w.heap[g]? := by
 have h2 := h.later hg
 have oI := h.gw
 refine ⟨⟨h2.out, gT hown fun _ _ => Nat.zero_le _, h2.og, ?_, ?_, h2.kg, h2.ko, ?_, h2.kw, h2.gw⟩, cJ hg h.kw, hg.block g oI⟩
 ·intro e
  have := (cK hown g e).2
  omega
 ·cases ho : vo.ownBlock with
  | none => exact Or.inl rfl
  | some k =>
   right
   intro e
   have h1 := (cK hown k e.symm).2
   have h3 := (cK h.out k ho).1
   omega
 ·intro k hk hK
  have h1 := (cK hown k hk).2
  have h3 := h.kw k hK
  omega
theorem LayMem.none_top {w : World} {K : Nat -> Prop} {g : Nat} {vo vs : Value} {out : List TokZ} {st : List Int} (h : LayMem w K g vo vs out st) : ∃ o cap, vs = .slice o st.length cap := dU h.st
def SpecAt (w : World) (K : Nat -> Prop) (g : Nat) (out : List TokZ) (st : List Int) (wait bad : Bool) : Prop :=
 ∃ vo vs, w.heap[g]? = some (.cells #[vo, vs, .bool wait, .bool bad] 169 (0, 0)) /\ LayMem w K g vo vs out st
def ImplAt (w : World) (K : Nat -> Prop) (g : Nat) (out : List TokZ) (st : List Int) (wait : Bool) (line : Int) : Prop :=
 ∃ vo vs, w.heap[g]? = some (.cells #[vs, .bool wait, .int .i64 line, vo] 235 (0, 0)) /\ LayMem w K g vo vs out st
end Go.Proofs.YtfomndilhlgikajGreatDoor
