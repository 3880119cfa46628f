import Derived.Test.YtfomndilhlgikajGreatDoorP00
set_option maxHeartbeats 8000000
set_option maxRecDepth 100000
namespace Go.Proofs.YtfomndilhlgikajGreatDoor.Rd
open Go.RowKit
def lv : ByteArray := ⟨#[92]⟩
def eJ : ByteArray := ⟨#[45, 62]⟩
def lS : ByteArray := ⟨#[108, 101, 116]⟩
def sK : ByteArray := ⟨#[105, 110]⟩
def lQ : ByteArray := ⟨#[119, 104, 101, 114, 101]⟩
def jb : ByteArray := ⟨#[99, 97, 115, 101]⟩
def qt : ByteArray := ⟨#[111, 102]⟩
def Am : ByteArray := ⟨#[105, 102]⟩
def di : ByteArray := ⟨#[116, 104, 101, 110]⟩
def dJ : ByteArray := ⟨#[101, 108, 115, 101]⟩
def xF : ByteArray := ⟨#[100, 97, 116, 97]⟩
def df : ByteArray := ⟨#[123]⟩
def dZ : ByteArray := ⟨#[125]⟩
def ck : ByteArray := ⟨#[59]⟩
def sPl : ByteArray := ⟨#[40]⟩
def yR : ByteArray := ⟨#[41]⟩
def ox : ByteArray := ⟨#[61]⟩
def Gb : ByteArray := ⟨#[124]⟩
def eM : ByteArray := ⟨#[43]⟩
def dg : ByteArray := ⟨#[45]⟩
def eK : ByteArray := ⟨#[42]⟩
def iu : ByteArray := ⟨#[61, 61]⟩
def qh : ByteArray := ⟨#[60]⟩
def sNo : ByteArray := ⟨#[95]⟩
def fs : List ByteArray := [lS, sK, lQ, jb, qt, Am, di, dJ, xF]
def bP : List ByteArray := [lv, eJ, df, dZ, ck, sPl, yR, ox, Gb, eM, dg, eK, iu, qh, sNo]
structure Gd (t : TokZ) : Prop where
 mark : t.s ∈ bP -> t.k = 5
 word : t.s ∈ fs -> t.k = 4
 num : t.k = 3 -> 1 <= t.s.size /\ t.s.size <= 6 /\ ∀ c ∈ t.s.data.toList, 48 <= c.toNat /\ c.toNat <= 57
 size : t.s.size <= 1500
def Ends : List TokZ -> Prop
 | [] => False
 | t :: r => if r = [] then t.k = 6 /\ t.s = ⟨#[]⟩ else t.k ≠ 6 /\ Gd t /\ Ends r
theorem Ends.ne {ts : List TokZ} (h : Ends ts) : ts ≠ [] := by
 intro e
 rw [e] at h
 exact h
theorem Ends.form {ts : List TokZ} (h : Ends ts) : ∃ t r, ts = t :: r := by
 cases ts with
 | nil => exact h.elim
 | cons t r => exact ⟨t, r, rfl⟩
theorem Ends.gd {t : TokZ} {r : List TokZ} (h : Ends (t :: r)) : Gd t := by
 unfold Ends at h
 split at h
 ·obtain ⟨h1, h2⟩ := h
  refine ⟨fun e => ?_, fun e => ?_, fun e => ?_, ?_⟩
  ·rw [h2] at e; simp [bP, lv, eJ, df, dZ, ck, sPl, yR, ox, Gb, eM, dg, eK, iu, qh, sNo] at e
  ·rw [h2] at e; simp [fs, lS, sK, lQ, jb, qt, Am, di, dJ, xF] at e
  ·omega
  ·rw [h2]; decide
 ·exact h.2.1
theorem Ends.next {t : TokZ} {r : List TokZ} (h : Ends (t :: r)) (ht : t.k ≠ 6 \/ t.s ≠ ⟨#[]⟩) : Ends r := by
 unfold Ends at h
 split at h
 ·rcases ht with e | e
  ·exact absurd h.1 e
  ·exact absurd h.2 e
 ·exact h.2.2
theorem Ends.last {t : TokZ} {r : List TokZ} (h : Ends (t :: r)) : t.k = 6 ↔ r = [] := by
 unfold Ends at h
 split at h
 ·rename_i e; exact ⟨fun _ => e, fun _ => h.1⟩
 ·rename_i e; exact ⟨fun k => absurd k h.1, fun k => absurd k e⟩
def cg (ts : List TokZ) (s : ByteArray) : Bool := match ts with
 | t :: _ => decide (t.s = s)
 | [] => false
def isK (ts : List TokZ) (k : Int) : Bool := match ts with
 | t :: _ => decide (t.k = k)
 | [] => false
def jN (ts : List TokZ) : ByteArray := match ts with
 | t :: _ => t.s
 | [] => ⟨#[]⟩
def ar (s : ByteArray) (ts : List TokZ) : Option (List TokZ) := if cg ts s then some ts.tail else none
def eZ (k : Int) (ts : List TokZ) : Option (ByteArray × List TokZ) := if isK ts k then some (jN ts, ts.tail) else none
def gn (ts : List TokZ) : Bool := isK ts 1 || cg ts sNo
def eq (ts : List TokZ) : Option (ByteArray × List TokZ) := if gn ts then some (jN ts, ts.tail) else none
def aY : List TokZ -> List ByteArray × List TokZ
 | [] => ([], [])
 | t :: r => if gn (t :: r) then (t.s :: (aY r).1, (aY r).2) else ([], t :: r)
def qz (s : ByteArray) : Int := s.data.toList.foldl (fun n c => n * 10 + ((c.toNat : Int) - 48)) 0
def sNil : ByteArray := ⟨#[]⟩
def FM (s : ByteArray) : Tr := ⟨1, s, 0, [], [], [], []⟩
def ws (s : ByteArray) : Tr := ⟨2, s, 0, [], [], [], []⟩
def Gs (n : Int) : Tr := ⟨3, sNil, n, [], [], [], []⟩
def z8 (f x : Tr) : Tr := ⟨4, sNil, 0, [], [f, x], [], []⟩
def BF (s : ByteArray) (b : Tr) : Tr := ⟨5, s, 0, [], [b], [], []⟩
def Bn (ds : List Tr) (b : Tr) : Tr := ⟨6, sNil, 0, [], [b], ds, []⟩
def rO (x : Tr) (al : List Tr) : Tr := ⟨7, sNil, 0, [], [x], [], al⟩
def JA (a b c : Tr) : Tr := ⟨8, sNil, 0, [], [a, b, c], [], []⟩
def qA (s : ByteArray) (a b : Tr) : Tr := ⟨9, s, 0, [], [a, b], [], []⟩
def ED (s : ByteArray) (ss : List ByteArray) (e : Tr) (ds : List Tr) : Tr := ⟨0, s, 0, ss, [e], ds, []⟩
def GB (s : ByteArray) (ss : List ByteArray) (e : Tr) : Tr := ⟨0, s, 0, ss, [e], [], []⟩
abbrev bF := List TokZ -> Option (Tr × List TokZ)
def aO (one : bF) (sep : ByteArray) : Nat -> List TokZ -> Option (List Tr × List TokZ)
 | 0, _ => none
 | n + 1, ts => (one ts).bind fun p => if cg p.2 sep then (aO one sep n p.2.tail).bind fun q => some (p.1 :: q.1, q.2) else some ([p.1], p.2)
def aP (one : bF) (ts : List TokZ) : Option (List Tr × List TokZ) :=
 (ar df ts).bind fun r => (aO one ck r.length r).bind fun q => (ar dZ q.2).bind fun r2 => some (q.1, r2)
def cZ (one : bF) (ops : List ByteArray) : Nat -> Tr -> List TokZ -> Option (Tr × List TokZ)
 | 0, e, ts => some (e, ts)
 | n + 1, e, ts => if ops.any (cg ts) then (one ts.tail).bind fun p => cZ one ops n (qA (jN ts) e p.1) p.2 else some (e, ts)
def jF (ts : List TokZ) : Bool := isK ts 1 || isK ts 2 || isK ts 3 || cg ts sPl
def km (one : bF) : Nat -> Tr -> List TokZ -> Option (Tr × List TokZ)
 | 0, e, ts => some (e, ts)
 | n + 1, e, ts => if jF ts then (one ts).bind fun p => km one n (z8 e p.1) p.2 else some (e, ts)
def jY (ex : bF) (ts : List TokZ) : Option (Tr × List TokZ) := (ex ts).bind fun p => (ar yR p.2).bind fun r => some (p.1, r)
def b9 (ex : bF) (ts : List TokZ) : Option (Tr × List TokZ) :=
 if isK ts 1 then some (FM (jN ts), ts.tail)
 else if isK ts 2 then some (ws (jN ts), ts.tail)
 else if isK ts 3 then some (Gs (qz (jN ts)), ts.tail)
 else if cg ts sPl then jY ex ts.tail
 else none
def dM (ex : bF) (ts : List TokZ) : Option (Tr × List TokZ) := (b9 ex ts).bind fun p => km (b9 ex) p.2.length p.1 p.2
def mn (ex : bF) (ts : List TokZ) : Option (Tr × List TokZ) := (dM ex ts).bind fun p => cZ (dM ex) [eK] p.2.length p.1 p.2
def gi (ex : bF) (ts : List TokZ) : Option (Tr × List TokZ) := (mn ex ts).bind fun p => cZ (mn ex) [eM, dg] p.2.length p.1 p.2
def fD (ex : bF) (ts : List TokZ) : Option (Tr × List TokZ) :=
 (gi ex ts).bind fun p => if cg p.2 iu || cg p.2 qh then (gi ex p.2.tail).bind fun q => some (qA (jN p.2) p.1 q.1, q.2) else some p
def gv (ts : List TokZ) : Option ((ByteArray × List ByteArray) × List TokZ) :=
 if isK ts 2 then some ((jN ts, (aY ts.tail).1), (aY ts.tail).2) else (eq ts).bind fun p => some ((sNil, [p.1]), p.2)
def ff (ex : bF) (ts : List TokZ) : Option (Tr × List TokZ) :=
 (gv ts).bind fun p => (ar eJ p.2).bind fun r => (ex r).bind fun q => some (GB p.1.1 p.1.2 q.1, q.2)
def lM (ex : bF) (ts : List TokZ) : Option (Tr × List TokZ) :=
 (eq ts).bind fun p => (ar eJ p.2).bind fun r => (ex r).bind fun q => some (BF p.1 q.1, q.2)
def lT (ex de : bF) (ts : List TokZ) : Option (Tr × List TokZ) :=
 (aP de ts).bind fun p => (ar sK p.2).bind fun r => (ex r).bind fun q => some (Bn p.1 q.1, q.2)
def ft (ex : bF) (ts : List TokZ) : Option (Tr × List TokZ) :=
 (ex ts).bind fun p => (ar qt p.2).bind fun r => (aP (ff ex) r).bind fun q => some (rO p.1 q.1, q.2)
def mW (ex : bF) (ts : List TokZ) : Option (Tr × List TokZ) :=
 (ex ts).bind fun p => (ar di p.2).bind fun r => (ex r).bind fun q => (ar dJ q.2).bind fun r2 => (ex r2).bind fun u => some (JA p.1 q.1 u.1, u.2)
def aJ (ex de : bF) (ts : List TokZ) : Option (Tr × List TokZ) :=
 if cg ts lv then lM ex ts.tail
 else if cg ts lS then lT ex de ts.tail
 else if cg ts jb then ft ex ts.tail
 else if cg ts Am then mW ex ts.tail
 else fD ex ts
def cC (de : bF) (ts : List TokZ) : Option (List Tr × List TokZ) := if cg ts lQ then aP de ts.tail else some ([], ts)
def iW (ex de : bF) (ts : List TokZ) : Option (Tr × List TokZ) :=
 (eZ 1 ts).bind fun p => (ar ox (aY p.2).2).bind fun r => (ex r).bind fun e => (cC de e.2).bind fun b => some (ED p.1 (aY p.2).1 e.1 b.1, b.2)
structure Ps where
 ex : Nat -> bF
 de : Nat -> bF
def ps : Nat -> Ps
 | 0 => ⟨fun _ _ => none, fun _ _ => none⟩
 | f + 1 => ⟨fun a ts => if a < 60 then aJ ((ps f).ex (a + 1)) ((ps f).de (a + 1)) ts else none, fun a => iW ((ps f).ex a) ((ps f).de a)⟩
def bC (one : bF) : Prop := ∀ ts t r, Ends ts -> one ts = some (t, r) -> Ends r /\ r.length < ts.length
theorem fl {ts : List TokZ} {s : ByteArray} (h : cg ts s = true) : ∃ t r, ts = t :: r /\ t.s = s := by
 cases ts with
 | nil => cases h
 | cons t r => exact ⟨t, r, rfl, by simpa [cg] using h⟩
theorem mO {ts : List TokZ} {k : Int} (h : isK ts k = true) : ∃ t r, ts = t :: r /\ t.k = k := by
 cases ts with
 | nil => cases h
 | cons t r => exact ⟨t, r, rfl, by simpa [isK] using h⟩
theorem bG {ts : List TokZ} {s : ByteArray} (h : cg ts s = true) (he : Ends ts) (hs : s ≠ ⟨#[]⟩) : Ends ts.tail /\ ts.tail.length + 1 = ts.length := by
 obtain ⟨t, r, rfl, e⟩ := fl h
 exact ⟨he.next (.inr (by rw [e]; exact hs)), rfl⟩
theorem hQ {ts : List TokZ} {k : Int} (h : isK ts k = true) (he : Ends ts) (hk : k ≠ 6) : Ends ts.tail /\ ts.tail.length + 1 = ts.length := by
 obtain ⟨t, r, rfl, e⟩ := mO h
 exact ⟨he.next (.inl (by rw [e]; exact hk)), rfl⟩
theorem kD {ts : List TokZ} (h : gn ts = true) (he : Ends ts) : Ends ts.tail /\ ts.tail.length + 1 = ts.length := by
 unfold gn at h
 cases h1 : isK ts 1 with
 | true => exact hQ h1 he (by decide)
 | false => rw [h1, Bool.false_or] at h; exact bG h he (by decide)
theorem cH {s : ByteArray} {ts r : List TokZ} (hs : s ≠ ⟨#[]⟩) (he : Ends ts) (h : ar s ts = some r) : Ends r /\ r.length + 1 = ts.length := by
 unfold ar at h
 split at h
 ·rename_i e
  cases h
  exact bG e he hs
 ·cases h
theorem jB {k : Int} {ts r : List TokZ} {s : ByteArray} (hk : k ≠ 6) (he : Ends ts) (h : eZ k ts = some (s, r)) : Ends r /\ r.length + 1 = ts.length := by
 unfold eZ at h
 split at h
 ·rename_i e
  cases h
  exact hQ e he hk
 ·cases h
theorem gZ {ts r : List TokZ} {s : ByteArray} (he : Ends ts) (h : eq ts = some (s, r)) : Ends r /\ r.length + 1 = ts.length := by
 unfold eq at h
 split at h
 ·rename_i e
  cases h
  exact kD e he
 ·cases h
theorem fL : ∀ (ts : List TokZ), Ends ts -> Ends (aY ts).2 /\ (aY ts).2.length <= ts.length := by
 intro ts
 induction ts with
 | nil => intro h; exact h.elim
 | cons t r ih =>
  intro h
  unfold aY
  split
  ·rename_i e
   obtain ⟨h1, h2⟩ := ih (kD e h).1
   exact ⟨h1, by simp only [List.length_cons]; omega⟩
  ·exact ⟨h, Nat.le_refl _⟩
theorem vD {one : bF} (h1 : bC one) {sep : ByteArray} (hs : sep ≠ ⟨#[]⟩) : ∀ n ts l r, Ends ts -> aO one sep n ts = some (l, r) -> Ends r /\ r.length < ts.length := by
 intro n
 induction n with
 | zero => intro ts l r _ h; cases h
 | succ n ih =>
  intro ts l r he h
  unfold aO at h
  obtain ⟨⟨t, r1⟩, e1, h⟩ := Option.bind_eq_some_iff.1 h
  obtain ⟨a1, a2⟩ := h1 ts t r1 he e1
  split at h
  ·rename_i e2
   obtain ⟨⟨l2, r2⟩, e3, h⟩ := Option.bind_eq_some_iff.1 h
   cases h
   obtain ⟨b1, b2⟩ := bG e2 a1 hs
   obtain ⟨c1, c2⟩ := ih _ _ _ b1 e3
   exact ⟨c1, by (try simp only at *); omega⟩
  ·cases h
   exact ⟨a1, a2⟩
theorem gk {one : bF} (h1 : bC one) {ts r : List TokZ} {l : List Tr} (he : Ends ts) (h : aP one ts = some (l, r)) : Ends r /\ r.length < ts.length := by
 obtain ⟨r1, e1, h⟩ := Option.bind_eq_some_iff.1 h
 obtain ⟨⟨l2, r2⟩, e2, h⟩ := Option.bind_eq_some_iff.1 h
 obtain ⟨r3, e3, h⟩ := Option.bind_eq_some_iff.1 h
 cases h
 obtain ⟨a1, a2⟩ := cH (by decide) he e1
 obtain ⟨b1, b2⟩ := vD h1 (by decide) _ _ _ _ a1 e2
 obtain ⟨c1, c2⟩ := cH (by decide) b1 e3
 exact ⟨c1, by (try simp only at *); omega⟩
theorem pm {one : bF} (h1 : bC one) {ops : List ByteArray} (hs : ∀ s ∈ ops, s ≠ ⟨#[]⟩) : ∀ n e ts t r, Ends ts -> cZ one ops n e ts = some (t, r) -> Ends r /\ r.length <= ts.length := by
 intro n
 induction n with
 | zero => intro e ts t r he h; cases h; exact ⟨he, Nat.le_refl _⟩
 | succ n ih =>
  intro e ts t r he h
  unfold cZ at h
  split at h
  ·rename_i ho
   obtain ⟨s, gC, jr⟩ := List.any_eq_true.1 ho
   obtain ⟨⟨t1, r1⟩, e1, h⟩ := Option.bind_eq_some_iff.1 h
   obtain ⟨a1, a2⟩ := bG jr he (hs s gC)
   obtain ⟨b1, b2⟩ := h1 _ _ _ a1 e1
   obtain ⟨c1, c2⟩ := ih _ _ _ _ b1 h
   exact ⟨c1, by (try simp only at *); omega⟩
  ·cases h
   exact ⟨he, Nat.le_refl _⟩
theorem xV {one : bF} (h1 : bC one) : ∀ n e ts t r, Ends ts -> km one n e ts = some (t, r) -> Ends r /\ r.length <= ts.length := by
 intro n
 induction n with
 | zero => intro e ts t r he h; cases h; exact ⟨he, Nat.le_refl _⟩
 | succ n ih =>
  intro e ts t r he h
  unfold km at h
  split at h
  ·obtain ⟨⟨t1, r1⟩, e1, h⟩ := Option.bind_eq_some_iff.1 h
   obtain ⟨b1, b2⟩ := h1 _ _ _ he e1
   obtain ⟨c1, c2⟩ := ih _ _ _ _ b1 h
   exact ⟨c1, by (try simp only at *); omega⟩
  ·cases h
   exact ⟨he, Nat.le_refl _⟩
theorem tN {ex : bF} (h1 : bC ex) : bC (jY ex) := by
 intro ts t r he h
 obtain ⟨⟨t1, r1⟩, e1, h⟩ := Option.bind_eq_some_iff.1 h
 obtain ⟨r2, e2, h⟩ := Option.bind_eq_some_iff.1 h
 cases h
 obtain ⟨a1, a2⟩ := h1 _ _ _ he e1
 obtain ⟨b1, b2⟩ := cH (by decide) a1 e2
 exact ⟨b1, by (try simp only at *); omega⟩
theorem dC {ex : bF} (h1 : bC ex) : bC (b9 ex) := by
 intro ts t r he h
 unfold b9 at h
 split at h
 ·rename_i e; cases h; obtain ⟨a1, a2⟩ := hQ e he (by decide); exact ⟨a1, by (try simp only at *); omega⟩
 split at h
 ·rename_i e; cases h; obtain ⟨a1, a2⟩ := hQ e he (by decide); exact ⟨a1, by (try simp only at *); omega⟩
 split at h
 ·rename_i e; cases h; obtain ⟨a1, a2⟩ := hQ e he (by decide); exact ⟨a1, by (try simp only at *); omega⟩
 split at h
 ·rename_i e
  obtain ⟨a1, a2⟩ := bG e he (by decide)
  obtain ⟨b1, b2⟩ := tN h1 _ _ _ a1 h
  exact ⟨b1, by (try simp only at *); omega⟩
 ·cases h
theorem fV {ex : bF} (h1 : bC ex) : bC (dM ex) := by
 intro ts t r he h
 obtain ⟨⟨t1, r1⟩, e1, h⟩ := Option.bind_eq_some_iff.1 h
 obtain ⟨a1, a2⟩ := dC h1 _ _ _ he e1
 obtain ⟨b1, b2⟩ := xV (dC h1) _ _ _ _ _ a1 h
 exact ⟨b1, by (try simp only at *); omega⟩
theorem gV {ex : bF} (h1 : bC ex) : bC (mn ex) := by
 intro ts t r he h
 obtain ⟨⟨t1, r1⟩, e1, h⟩ := Option.bind_eq_some_iff.1 h
 obtain ⟨a1, a2⟩ := fV h1 _ _ _ he e1
 obtain ⟨b1, b2⟩ := pm (fV h1) (by decide) _ _ _ _ _ a1 h
 exact ⟨b1, by (try simp only at *); omega⟩
theorem gX {ex : bF} (h1 : bC ex) : bC (gi ex) := by
 intro ts t r he h
 obtain ⟨⟨t1, r1⟩, e1, h⟩ := Option.bind_eq_some_iff.1 h
 obtain ⟨a1, a2⟩ := gV h1 _ _ _ he e1
 obtain ⟨b1, b2⟩ := pm (gV h1) (by decide) _ _ _ _ _ a1 h
 exact ⟨b1, by (try simp only at *); omega⟩
theorem yO {ex : bF} (h1 : bC ex) : bC (fD ex) := by
 intro ts t r he h
 obtain ⟨⟨t1, r1⟩, e1, h⟩ := Option.bind_eq_some_iff.1 h
 obtain ⟨a1, a2⟩ := gX h1 _ _ _ he e1
 split at h
 ·rename_i e2
  obtain ⟨⟨t3, r3⟩, e3, h⟩ := Option.bind_eq_some_iff.1 h
  cases h
  have hb : Ends r1.tail /\ r1.tail.length + 1 = r1.length := by
   cases e4 : cg r1 iu with
   | true => exact bG e4 a1 (by decide)
   | false =>
    have e5 : cg r1 qh = true := by simpa [e4] using e2
    exact bG e5 a1 (by decide)
  obtain ⟨c1, c2⟩ := gX h1 _ _ _ hb.1 e3
  exact ⟨c1, by (try simp only at *); omega⟩
 ·cases h
  exact ⟨a1, a2⟩
theorem kK {ts r : List TokZ} {p : ByteArray × List ByteArray} (he : Ends ts) (h : gv ts = some (p, r)) : Ends r /\ r.length < ts.length := by
 unfold gv at h
 split at h
 ·rename_i e
  cases h
  obtain ⟨a1, a2⟩ := hQ e he (by decide)
  obtain ⟨b1, b2⟩ := fL _ a1
  exact ⟨b1, by (try simp only at *); omega⟩
 ·obtain ⟨⟨s, r1⟩, e1, h⟩ := Option.bind_eq_some_iff.1 h
  cases h
  obtain ⟨a1, a2⟩ := gZ he e1
  exact ⟨a1, by (try simp only at *); omega⟩
theorem nm {ex : bF} (h1 : bC ex) : bC (ff ex) := by
 intro ts t r he h
 obtain ⟨⟨p, r1⟩, e1, h⟩ := Option.bind_eq_some_iff.1 h
 obtain ⟨r2, e2, h⟩ := Option.bind_eq_some_iff.1 h
 obtain ⟨⟨t3, r3⟩, e3, h⟩ := Option.bind_eq_some_iff.1 h
 cases h
 obtain ⟨a1, a2⟩ := kK he e1
 obtain ⟨b1, b2⟩ := cH (by decide) a1 e2
 obtain ⟨c1, c2⟩ := h1 _ _ _ b1 e3
 exact ⟨c1, by (try simp only at *); omega⟩
theorem ye {ex : bF} (h1 : bC ex) : bC (lM ex) := by
 intro ts t r he h
 obtain ⟨⟨p, r1⟩, e1, h⟩ := Option.bind_eq_some_iff.1 h
 obtain ⟨r2, e2, h⟩ := Option.bind_eq_some_iff.1 h
 obtain ⟨⟨t3, r3⟩, e3, h⟩ := Option.bind_eq_some_iff.1 h
 cases h
 obtain ⟨a1, a2⟩ := gZ he e1
 obtain ⟨b1, b2⟩ := cH (by decide) a1 e2
 obtain ⟨c1, c2⟩ := h1 _ _ _ b1 e3
 exact ⟨c1, by (try simp only at *); omega⟩
theorem ym {ex de : bF} (h1 : bC ex) (h2 : bC de) : bC (lT ex de) := by
 intro ts t r he h
 obtain ⟨⟨p, r1⟩, e1, h⟩ := Option.bind_eq_some_iff.1 h
 obtain ⟨r2, e2, h⟩ := Option.bind_eq_some_iff.1 h
 obtain ⟨⟨t3, r3⟩, e3, h⟩ := Option.bind_eq_some_iff.1 h
 cases h
 obtain ⟨a1, a2⟩ := gk h2 he e1
 obtain ⟨b1, b2⟩ := cH (by decide) a1 e2
 obtain ⟨c1, c2⟩ := h1 _ _ _ b1 e3
 exact ⟨c1, by (try simp only at *); omega⟩
theorem wk {ex : bF} (h1 : bC ex) : bC (ft ex) := by
 intro ts t r he h
 obtain ⟨⟨p, r1⟩, e1, h⟩ := Option.bind_eq_some_iff.1 h
 obtain ⟨r2, e2, h⟩ := Option.bind_eq_some_iff.1 h
 obtain ⟨⟨t3, r3⟩, e3, h⟩ := Option.bind_eq_some_iff.1 h
 cases h
 obtain ⟨a1, a2⟩ := h1 _ _ _ he e1
 obtain ⟨b1, b2⟩ := cH (by decide) a1 e2
 obtain ⟨c1, c2⟩ := gk (nm h1) b1 e3
 exact ⟨c1, by (try simp only at *); omega⟩
theorem zZ {ex : bF} (h1 : bC ex) : bC (mW ex) := by
 intro ts t r he h
 obtain ⟨⟨p, r1⟩, e1, h⟩ := Option.bind_eq_some_iff.1 h
 obtain ⟨r2, e2, h⟩ := Option.bind_eq_some_iff.1 h
 obtain ⟨⟨t3, r3⟩, e3, h⟩ := Option.bind_eq_some_iff.1 h
 obtain ⟨r4, e4, h⟩ := Option.bind_eq_some_iff.1 h
 obtain ⟨⟨t5, r5⟩, e5, h⟩ := Option.bind_eq_some_iff.1 h
 cases h
 obtain ⟨a1, a2⟩ := h1 _ _ _ he e1
 obtain ⟨b1, b2⟩ := cH (by decide) a1 e2
 obtain ⟨c1, c2⟩ := h1 _ _ _ b1 e3
 obtain ⟨d1, d2⟩ := cH (by decide) c1 e4
 obtain ⟨f1, f2⟩ := h1 _ _ _ d1 e5
 exact ⟨f1, by (try simp only at *); omega⟩
theorem ue {ex de : bF} (h1 : bC ex) (h2 : bC de) : bC (aJ ex de) := by
 intro ts t r he h
 unfold aJ at h
 split at h
 ·rename_i e
  obtain ⟨a1, a2⟩ := bG e he (by decide)
  obtain ⟨b1, b2⟩ := ye h1 _ _ _ a1 h
  exact ⟨b1, by (try simp only at *); omega⟩
 split at h
 ·rename_i e
  obtain ⟨a1, a2⟩ := bG e he (by decide)
  obtain ⟨b1, b2⟩ := ym h1 h2 _ _ _ a1 h
  exact ⟨b1, by (try simp only at *); omega⟩
 split at h
 ·rename_i e
  obtain ⟨a1, a2⟩ := bG e he (by decide)
  obtain ⟨b1, b2⟩ := wk h1 _ _ _ a1 h
  exact ⟨b1, by (try simp only at *); omega⟩
 split at h
 ·rename_i e
  obtain ⟨a1, a2⟩ := bG e he (by decide)
  obtain ⟨b1, b2⟩ := zZ h1 _ _ _ a1 h
  exact ⟨b1, by (try simp only at *); omega⟩
 ·exact yO h1 _ _ _ he h
theorem uE {de : bF} (h2 : bC de) {ts r : List TokZ} {l : List Tr} (he : Ends ts) (h : cC de ts = some (l, r)) : Ends r /\ r.length <= ts.length := by
 unfold cC at h
 split at h
 ·rename_i e
  obtain ⟨a1, a2⟩ := bG e he (by decide)
  obtain ⟨b1, b2⟩ := gk h2 a1 h
  exact ⟨b1, by (try simp only at *); omega⟩
 ·cases h
  exact ⟨he, Nat.le_refl _⟩
theorem yq {ex de : bF} (h1 : bC ex) (h2 : bC de) : bC (iW ex de) := by
 intro ts t r he h
 obtain ⟨⟨p, r1⟩, e1, h⟩ := Option.bind_eq_some_iff.1 h
 obtain ⟨r2, e2, h⟩ := Option.bind_eq_some_iff.1 h
 obtain ⟨⟨t3, r3⟩, e3, h⟩ := Option.bind_eq_some_iff.1 h
 obtain ⟨⟨l4, r4⟩, e4, h⟩ := Option.bind_eq_some_iff.1 h
 cases h
 obtain ⟨a1, a2⟩ := jB (by decide) he e1
 obtain ⟨p1, p2⟩ := fL _ a1
 obtain ⟨b1, b2⟩ := cH (by decide) p1 e2
 obtain ⟨c1, c2⟩ := h1 _ _ _ b1 e3
 obtain ⟨d1, d2⟩ := uE h2 c1 e4
 exact ⟨d1, by (try simp only at *); omega⟩
theorem f9 : ∀ f, (∀ a, bC ((ps f).ex a)) /\ ∀ a, bC ((ps f).de a) := by
 intro f
 induction f with
 | zero => exact ⟨fun _ _ _ _ _ h => (by cases h), fun _ _ _ _ _ h => (by cases h)⟩
 | succ f ih =>
  obtain ⟨i1, i2⟩ := ih
  refine ⟨fun a ts t r he h => ?_, fun a => yq (i1 a) (i2 a)⟩
  have h2 : (if a < 60 then aJ ((ps f).ex (a + 1)) ((ps f).de (a + 1)) ts else none) = some (t, r) := h
  split at h2
  ·exact ue (i1 _) (i2 _) _ _ _ he h2
  ·cases h2
end Go.Proofs.YtfomndilhlgikajGreatDoor.Rd
