/- Made of EA, EB, EC. -/
import Derived.Test.YteoghpefilghdamDoorYA
import Derived.Lib.ItoaNum
import Derived.Test.YteoghpefilghdamDoorYB
import Derived.Laws.IdiomStrings
namespace Go.Proofs.YteoghpefilghdamDoor
set_option linter.unusedSimpArgs false

def bl (s : ByteArray) : List UInt8 := s.data.toList
def ofL (l : List UInt8) : ByteArray := ⟨l.toArray⟩
theorem bl_ofL (l : List UInt8) : bl (ofL l) = l := rfl
theorem ofL_bl (s : ByteArray) : ofL (bl s) = s := by
  cases s
  rfl
theorem bl_len (s : ByteArray) : (bl s).length = s.size := rfl
theorem ofL_size (l : List UInt8) : (ofL l).size = l.length := rfl
theorem ofL_append (a b : List UInt8) : ofL a ++ ofL b = ofL (a ++ b) := by
  apply ByteArray.ext
  rw [ByteArray.data_append]
  simp [ofL]
theorem bl_append (a b : ByteArray) : bl (a ++ b) = bl a ++ bl b := by
  unfold bl
  rw [ByteArray.data_append]
  simp

def padL (n : Nat) : List UInt8 := List.replicate n 32
def opLev (s : ByteArray) : Nat := if s.toList = [42] then 3 else if s.toList = [43] ∨ s.toList = [45] then 2 else 1
def levB (e : Tr) : Nat := if e.k = 1 ∨ e.k = 2 ∨ e.k = 3 then 5 else if e.k = 4 then 4 else if e.k = 9 then opLev e.s else 0
def leftL (k : Nat) : Nat := if k = 1 then 2 else k
def brL (c : Bool) (t : List UInt8) : List UInt8 := if c then 40 :: (t ++ [41]) else t
def namesL (l : List ByteArray) : List UInt8 := l.flatMap fun s => 32 :: bl s
def headL (s : ByteArray) (l : List ByteArray) : List UInt8 := if emptyB s then (namesL l).drop 1 else bl s ++ namesL l
def nilT : Tr := ⟨0, ByteArray.empty, 0, [], [], [], []⟩
def partT (e : Tr) (i : Nat) : Tr := e.l.getD i nilT
structure Txt where
  ex : Tr → Nat → List UInt8
  de : Tr → Nat → List UInt8
  al : Tr → Nat → List UInt8
def atL (f : Tr → Nat → List UInt8) (e : Tr) (lv n : Nat) : List UInt8 := brL (decide (levB e < lv)) (f e n)
def linesL (f : Tr → Nat → List UInt8) (xs : List Tr) (n : Nat) : List UInt8 := xs.flatMap fun x => 10 :: (padL n ++ f x n)
def kindTx (f : Txt) (e : Tr) (n : Nat) : List UInt8 :=
  if e.k = 1 ∨ e.k = 2 then bl e.s
  else if e.k = 3 then Lib.decDigits e.n.toNat
  else if e.k = 4 then atL f.ex (partT e 0) 4 n ++ (32 :: atL f.ex (partT e 1) 5 n)
  else if e.k = 5 then 92 :: (bl e.s ++ ([32, 45, 62, 32] ++ f.ex (partT e 0) n))
  else if e.k = 6 then [108, 101, 116] ++ (linesL f.de e.ds (n + 2) ++ (10 :: (padL n ++ ([105, 110, 32] ++ f.ex (partT e 0) n))))
  else if e.k = 7 then [99, 97, 115, 101, 32] ++ (atL f.ex (partT e 0) 1 n ++ ([32, 111, 102] ++ linesL f.al e.al (n + 2)))
  else if e.k = 8 then [105, 102, 32] ++ (atL f.ex (partT e 0) 1 n ++ ([32, 116, 104, 101, 110, 32] ++ (atL f.ex (partT e 1) 1 n ++ ([32, 101, 108, 115, 101, 32] ++ f.ex (partT e 2) n))))
  else atL f.ex (partT e 0) (leftL (opLev e.s)) n ++ (32 :: (bl e.s ++ (32 :: atL f.ex (partT e 1) (opLev e.s + 1) n)))
def whereL (f : Txt) (ds : List Tr) (n : Nat) : List UInt8 := if ds = [] then [] else 10 :: (padL (n + 2) ++ ([119, 104, 101, 114, 101] ++ linesL f.de ds (n + 4)))
def txt : Nat → Txt
  | 0 => ⟨fun _ _ => [], fun _ _ => [], fun _ _ => []⟩
  | h + 1 =>
    ⟨kindTx (txt h),
     fun d n => headL d.s d.ss ++ ([32, 61, 32] ++ ((txt h).ex (partT d 0) (n + 2) ++ whereL (txt h) d.ds n)),
     fun a n => headL a.s a.ss ++ ([32, 45, 62, 32] ++ (txt h).ex (partT a 0) (n + 2))⟩

/-! What is right, a kind at a time. -/
theorem letters_size {s : ByteArray} (h : lettersB s.data.toList = true) : s.size ≤ 8 ∧ 1 ≤ s.size := by
  unfold lettersB inB at h
  simp only [Bool.and_eq_true, decide_eq_true_eq] at h
  have e : s.data.toList.length = s.size := rfl
  omega
theorem nm_size {s : ByteArray} (h : nmB s = true) : s.size ≤ 8 ∧ 1 ≤ s.size := by
  unfold nmB nameB shapeB at h
  rw [Bool.and_eq_true, Bool.and_eq_true] at h
  exact letters_size h.1.1
theorem gr_size {s : ByteArray} (h : grB s = true) : s.size ≤ 8 ∧ 1 ≤ s.size := by
  unfold grB greatB shapeB at h
  rw [Bool.and_eq_true] at h
  exact letters_size h.1
theorem size_of_list {s : ByteArray} {l : List UInt8} (h : s.toList = l) : s.size = l.length := by
  rw [← h, toList_data]
  rfl
theorem op_size {s : ByteArray} (h : opB s = true) : s.size ≤ 2 := by
  unfold opB at h
  simp only [Bool.or_eq_true, beq_iff_eq] at h
  rcases h with (((h | h) | h) | h) | h <;> (have := size_of_list h; simp at this; omega)
theorem u_size {s : ByteArray} (h : isU s = true) : s.size = 1 := by
  have := size_of_list (eq_of_beq h)
  simpa using this
theorem allZ_mem {f : Tr → Int → Bool} {xs : List Tr} {d : Int} (h : allZ f xs d = true) {x : Tr} (hx : x ∈ xs) : f x d = true := by
  unfold allZ at h
  exact List.all_eq_true.1 h x hx
theorem zlen0 {α : Type} {l : List α} (h : l.length = 0) : l = [] := List.length_eq_zero_iff.1 h
theorem zlen1 {α : Type} {l : List α} (h : l.length = 1) : ∃ a, l = [a] := by
  match l, h with
  | [a], _ => exact ⟨a, rfl⟩
theorem zlen2 {α : Type} {l : List α} (h : l.length = 2) : ∃ a b, l = [a, b] := by
  match l, h with
  | [a, b], _ => exact ⟨a, b, rfl⟩
theorem zlen3 {α : Type} {l : List α} (h : l.length = 3) : ∃ a b c, l = [a, b, c] := by
  match l, h with
  | [a, b, c], _ => exact ⟨a, b, c, rfl⟩
theorem empty_size {s : ByteArray} (h : emptyB s = true) : s = ⟨#[]⟩ := by
  have e : s.data.toList = [] := by rw [← toList_data]; exact eq_of_beq h
  cases s with
  | mk d =>
    have : d = #[] := by simpa using e
    rw [this]

structure Ok (h : Nat) (e : Tr) (d : Int) : Prop where
  deep : d ≤ 12
  parts : ∀ x, x ∈ e.l → (okz h).ex x (d + 1) = true
  alts : ∀ x, x ∈ e.al → altB x = true ∧ (okz h).al x (d + 1) = true
theorem ok_of {h : Nat} {e : Tr} {d : Int} (H : (okz (h + 1)).ex e d = true) : Ok h e d ∧ hereB e = true ∧ (e.k ≠ 6 ∨ decsB (okz h).de e.ds 6 (d + 1) = true) := by
  have H2 : (decide (d ≤ 12) && (hereB e && (allZ (okz h).ex e.l (d + 1) && (allZ (fun a d => altB a && (okz h).al a d) e.al (d + 1) && (decide (e.k ≠ 6) || decsB (okz h).de e.ds 6 (d + 1)))))) = true := H
  simp only [Bool.and_eq_true, Bool.or_eq_true, decide_eq_true_eq] at H2
  obtain ⟨h1, h2, h3, h4, h5⟩ := H2
  refine ⟨⟨h1, fun x hx => allZ_mem h3 hx, fun x hx => ?_⟩, h2, h5⟩
  have := allZ_mem h4 hx
  simpa only [Bool.and_eq_true] using this
/-- The kinds, each with its own parts and no others. -/
theorem ok_kinds {e : Tr} (h : hereB e = true) :
    (e.k = 1 ∧ nmB e.s = true ∧ e.n = 0 ∧ e.l = [] ∧ e.ds = [] ∧ e.al = []) ∨
    (e.k = 2 ∧ grB e.s = true ∧ e.n = 0 ∧ e.l = [] ∧ e.ds = [] ∧ e.al = []) ∨
    (e.k = 3 ∧ 0 ≤ e.n ∧ e.n ≤ 999999 ∧ e.s = ⟨#[]⟩ ∧ e.l = [] ∧ e.ds = [] ∧ e.al = []) ∨
    (e.k = 4 ∧ e.s = ⟨#[]⟩ ∧ e.n = 0 ∧ (∃ a b, e.l = [a, b]) ∧ e.ds = [] ∧ e.al = []) ∨
    (e.k = 5 ∧ (nmB e.s || isU e.s) = true ∧ e.n = 0 ∧ (∃ a, e.l = [a]) ∧ e.ds = [] ∧ e.al = []) ∨
    (e.k = 6 ∧ e.s = ⟨#[]⟩ ∧ e.n = 0 ∧ (∃ a, e.l = [a]) ∧ e.al = []) ∨
    (e.k = 7 ∧ e.s = ⟨#[]⟩ ∧ e.n = 0 ∧ (∃ a, e.l = [a]) ∧ e.ds = [] ∧ inB e.al.length 1 6 = true) ∨
    (e.k = 8 ∧ e.s = ⟨#[]⟩ ∧ e.n = 0 ∧ (∃ a b c, e.l = [a, b, c]) ∧ e.ds = [] ∧ e.al = []) ∨
    (e.k = 9 ∧ opB e.s = true ∧ e.n = 0 ∧ (∃ a b, e.l = [a, b]) ∧ e.ds = [] ∧ e.al = []) := by
  unfold hereB shapeE at h
  simp only [Bool.and_eq_true, Bool.or_eq_true, decide_eq_true_eq] at h
  obtain ⟨⟨⟨⟨hp, hd⟩, ha⟩, hn⟩, hk⟩ := h
  have hkk : e.k = 1 ∨ e.k = 2 ∨ e.k = 3 ∨ e.k = 4 ∨ e.k = 5 ∨ e.k = 6 ∨ e.k = 7 ∨ e.k = 8 ∨ e.k = 9 := by
    unfold partsN at hp
    split at hp
    · omega
    · split at hp
      · omega
      · split at hp
        · omega
        · split at hp
          · omega
          · omega
  unfold partsN at hp
  unfold kindB at hk
  rcases hkk with e1 | e1 | e1 | e1 | e1 | e1 | e1 | e1 | e1 <;> rw [e1] at hp hk hd ha hn <;> simp only [Int.reduceEq, or_false, or_true, ↓reduceIte, false_or, true_or, Bool.and_eq_true] at hp hk hd ha hn
  · exact .inl ⟨e1, hk, hn, zlen0 (by omega), zlen0 hd, zlen0 ha⟩
  · exact .inr (.inl ⟨e1, hk, hn, zlen0 (by omega), zlen0 hd, zlen0 ha⟩)
  · have h2 : 0 ≤ e.n ∧ e.n ≤ 999999 := by
      have := hk.1
      unfold inB at this
      simp at this
      omega
    exact .inr (.inr (.inl ⟨e1, h2.1, h2.2, empty_size hk.2, zlen0 (by omega), zlen0 hd, zlen0 ha⟩))
  · exact .inr (.inr (.inr (.inl ⟨e1, empty_size hk, hn, zlen2 (by omega), zlen0 hd, zlen0 ha⟩)))
  · exact .inr (.inr (.inr (.inr (.inl ⟨e1, (by simpa using hk), hn, zlen1 (by omega), zlen0 hd, zlen0 ha⟩))))
  · exact .inr (.inr (.inr (.inr (.inr (.inl ⟨e1, empty_size hk, hn, zlen1 (by omega), zlen0 ha⟩)))))
  · exact .inr (.inr (.inr (.inr (.inr (.inr (.inl ⟨e1, empty_size hk.2, hn, zlen1 (by omega), zlen0 hd, hk.1⟩))))))
  · exact .inr (.inr (.inr (.inr (.inr (.inr (.inr (.inl ⟨e1, empty_size hk, hn, zlen3 (by omega), zlen0 hd, zlen0 ha⟩)))))))
  · exact .inr (.inr (.inr (.inr (.inr (.inr (.inr (.inr ⟨e1, hk, hn, zlen2 (by omega), zlen0 hd, zlen0 ha⟩)))))))
theorem decs_of {f : Tr → Int → Bool} {ds : List Tr} {m d : Int} (h : decsB f ds m d = true) : 1 ≤ ds.length ∧ ∀ x, x ∈ ds → f x d = true := by
  unfold decsB inB at h
  simp only [Bool.and_eq_true, decide_eq_true_eq] at h
  exact ⟨by omega, fun x hx => allZ_mem h.2.1 hx⟩
theorem okd_of {h : Nat} {x : Tr} {d : Int} (H : (okz (h + 1)).de x d = true) : nmB x.s = true ∧ varsB x.ss = true ∧ (∀ y, y ∈ x.l → (okz h).ex y (d + 1) = true) ∧ (x.ds = [] ∨ (1 ≤ x.ds.length ∧ ∀ y, y ∈ x.ds → (okz h).de y (d + 1) = true)) := by
  have H2 : ((nmB x.s && varsB x.ss) && (allZ (okz h).ex x.l (d + 1) && (decide (x.ds.length = 0) || decsB (okz h).de x.ds 6 (d + 1)))) = true := H
  simp only [Bool.and_eq_true, Bool.or_eq_true, decide_eq_true_eq] at H2
  obtain ⟨⟨h1, h2⟩, h3, h4⟩ := H2
  refine ⟨h1, h2, fun y hy => allZ_mem h3 hy, ?_⟩
  rcases h4 with h4 | h4
  · exact .inl (zlen0 h4)
  · exact .inr (decs_of h4)
theorem oka_of {h : Nat} {x : Tr} {d : Int} (H : (okz (h + 1)).al x d = true) : ∀ y, y ∈ x.l → (okz h).ex y d = true :=
  fun _ hy => allZ_mem (f := (okz h).ex) H hy

/-! How long it is. -/
theorem brL_len (c : Bool) (t : List UInt8) : (brL c t).length ≤ t.length + 2 ∧ t.length ≤ (brL c t).length := by
  unfold brL
  cases c
  · simp
  · simp
    omega
theorem atL_len (f : Tr → Nat → List UInt8) (e : Tr) (lv n : Nat) : (atL f e lv n).length ≤ (f e n).length + 2 ∧ (f e n).length ≤ (atL f e lv n).length := brL_len _ _
theorem padL_len (n : Nat) : (padL n).length = n := List.length_replicate
theorem vars_le {l : List ByteArray} (h : varsB l = true) : l.length ≤ 4 ∧ ∀ s, s ∈ l → s.size ≤ 8 ∧ 1 ≤ s.size := by
  unfold varsB at h
  rw [Bool.and_eq_true] at h
  have h4 := of_decide_eq_true h.2
  refine ⟨by omega, fun s hs => ?_⟩
  obtain ⟨i, hi, rfl⟩ := List.mem_iff_getElem.1 hs
  have key : ∀ n, varsTo l n = true → ∀ j, j < n → (isU (atZ l j) || nmB (atZ l j)) = true := by
    intro n
    induction n with
    | zero => intro _ j hj; omega
    | succ n ih =>
      intro hv j hj
      have hv2 : (varsTo l n && (isU (atZ l n) || (nmB (atZ l n) && !alikeB (l.take n) (atZ l n)))) = true := hv
      rw [Bool.and_eq_true] at hv2
      by_cases e : j = n
      · subst e
        have := hv2.2
        simp only [Bool.or_eq_true, Bool.and_eq_true] at this ⊢
        rcases this with h | h
        · exact .inl h
        · exact .inr h.1
      · exact ih hv2.1 j (by omega)
  have hk := key l.length h.1 i hi
  rw [atZ_of (List.getElem?_eq_getElem hi)] at hk
  rw [Bool.or_eq_true] at hk
  rcases hk with hk | hk
  · have := u_size hk
    omega
  · exact nm_size hk
theorem namesL_len (l : List ByteArray) (h : ∀ s, s ∈ l → s.size ≤ 8 ∧ 1 ≤ s.size) : (namesL l).length ≤ 9 * l.length := by
  unfold namesL
  induction l with
  | nil => simp
  | cons a r ih =>
    have h1 := ih fun s hs => h s (List.mem_cons_of_mem _ hs)
    have h2 := (h a (List.mem_cons_self ..)).1
    rw [List.flatMap_cons, List.length_append, List.length_cons, List.length_cons, bl_len]
    omega
theorem headL_len (s : ByteArray) (l : List ByteArray) (hs : s.size ≤ 8) (h : l.length ≤ 4 ∧ ∀ s, s ∈ l → s.size ≤ 8 ∧ 1 ≤ s.size) : (headL s l).length ≤ 44 := by
  have h1 := namesL_len l h.2
  have h2 := h.1
  unfold headL
  split
  · rw [List.length_drop]; omega
  · rw [List.length_append, bl_len]; omega
theorem linesL_len (f : Tr → Nat → List UInt8) (g : Tr → Nat) (xs : List Tr) (n : Nat) (hn : n ≤ 120) (h : ∀ x, x ∈ xs → (f x n).length + 121 ≤ 1000 * g x) : (linesL f xs n).length ≤ 1000 * sumZ g xs := by
  unfold linesL sumZ
  induction xs with
  | nil => simp
  | cons a r ih =>
    have h1 := ih fun s hs => h s (List.mem_cons_of_mem _ hs)
    have h2 := h a (List.mem_cons_self ..)
    rw [List.flatMap_cons, List.length_append, List.length_cons, List.length_append, padL_len, List.map_cons, List.sum_cons]
    omega
theorem dec_len {n : Nat} (h : n ≤ 999999) : (Lib.decDigits n).length ≤ 6 ∧ 1 ≤ (Lib.decDigits n).length := by
  have e : (Lib.decDigits n).length = Lib.nDigits n := by rw [Lib.decDigits_eq]; simp
  rw [e]
  refine ⟨?_, Lib.nDigits_pos n⟩
  rcases Nat.lt_or_ge 6 (Lib.nDigits n) with hc | hc
  · exfalso
    have key : ∀ k m, m < 10 ^ (k + 1) → Lib.nDigits m ≤ k + 1 := by
      intro k
      induction k with
      | zero => intro m hm; rw [Lib.nDigits_small (by simpa using hm)]; omega
      | succ k ih =>
        intro m hm
        by_cases h10 : m < 10
        · rw [Lib.nDigits_small h10]; omega
        · rw [Lib.nDigits_big h10]
          have := ih (m / 10) (by rw [Nat.pow_succ] at hm; omega)
          omega
    have := key 5 n (by omega)
    omega
  · exact hc
theorem part_sum {g : Tr → Nat} {l : List Tr} {i : Nat} {x : Tr} (h : l[i]? = some x) : g x ≤ sumZ g l := by
  unfold sumZ
  induction l generalizing i with
  | nil => simp at h
  | cons a r ih =>
    rw [List.map_cons, List.sum_cons]
    cases i with
    | zero =>
      have : a = x := by simpa using h
      rw [this]; omega
    | succ i =>
      have := ih (i := i) (by simpa using h)
      omega
theorem row_mem {α : Type} {K : Nat → Prop} {w : World} {R : α → List Value → Prop} {size : Nat} {o : Option Addr} {xs : List α} (h : RowOf K w R size o xs) {x : α} (hx : x ∈ xs) : ∃ cs, R x cs := by
  obtain ⟨b, off, -, -, -, hc⟩ := h (List.ne_nil_of_mem hx)
  obtain ⟨i, hi, rfl⟩ := List.mem_iff_getElem.1 hx
  obtain ⟨cs, -, -, hr⟩ := hc i xs[i] (List.getElem?_eq_getElem hi)
  exact ⟨cs, hr⟩
structure LenAt (K : Nat → Prop) (w : World) (h : Nat) : Prop where
  ex : ∀ x cs d (n : Nat), (reads K w h).ex x cs → (okz h).ex x d = true → (n : Int) ≤ 60 + 4 * d → ((txt h).ex x n).length + 500 ≤ 1000 * (cnt h).ex x
  de : ∀ x cs d (n : Nat), (reads K w h).de x cs → (okz h).de x d = true → (n : Int) ≤ 60 + 4 * d → ((txt h).de x n).length + 121 ≤ 1000 * (cnt h).de x
  al : ∀ x cs d (n : Nat), (reads K w h).al x cs → altB x = true → (okz h).al x d = true → (n : Int) + 2 ≤ 60 + 4 * d → ((txt h).al x n).length + 121 ≤ 1000 * (cnt h).al x
theorem okz_12 {h : Nat} {x : Tr} {d : Int} (H : (okz h).ex x d = true) : d ≤ 12 := by
  cases h with
  | zero => cases H
  | succ h => exact (ok_of H).1.deep
theorem part0 {e a : Tr} {r : List Tr} (h : e.l = a :: r) : partT e 0 = a := by unfold partT; rw [h]; rfl
theorem part1 {e a b : Tr} {r : List Tr} (h : e.l = a :: b :: r) : partT e 1 = b := by unfold partT; rw [h]; rfl
theorem part2 {e a b c : Tr} {r : List Tr} (h : e.l = a :: b :: c :: r) : partT e 2 = c := by unfold partT; rw [h]; rfl
theorem txt_len (K : Nat → Prop) (w : World) (h : Nat) : LenAt K w h := by
  induction h with
  | zero => exact ⟨fun _ _ _ _ hr => hr.elim, fun _ _ _ _ hr => hr.elim, fun _ _ _ _ hr => hr.elim⟩
  | succ h ih =>
    refine ⟨?_, ?_, ?_⟩
    · intro x cs d n hr hok hn
      obtain ⟨O, hh, hd6⟩ := ok_of hok
      obtain ⟨-, o1, c1, o2, c2, o3, c3, -, -, -, -, -, r1, r2, r3⟩ := hr
      have hdeep := O.deep
      have hex : ∀ y, y ∈ x.l → ((txt h).ex y n).length + 500 ≤ 1000 * (cnt h).ex y := fun y hy => by
        obtain ⟨cs, hc⟩ := row_mem r1 hy
        exact ih.ex y cs (d + 1) n hc (O.parts y hy) (by omega)
      have hcn : (cnt (h + 1)).ex x = 1 + sumZ (cnt h).ex x.l + sumZ (cnt h).al x.al + sumZ (cnt h).de x.ds := rfl
      show (kindTx (txt h) x n).length + 500 ≤ _
      rw [hcn]
      unfold kindTx
      rcases ok_kinds hh with ⟨k, hs, -⟩ | ⟨k, hs, -⟩ | ⟨k, h0, h1, -⟩ | ⟨k, -, -, ⟨a, b, hl⟩, -⟩ | ⟨k, hs, -, ⟨a, hl⟩, -⟩ | ⟨k, -, -, ⟨a, hl⟩, -⟩ | ⟨k, -, -, ⟨a, hl⟩, -⟩ | ⟨k, -, -, ⟨a, b, c, hl⟩, -⟩ | ⟨k, hs, -, ⟨a, b, hl⟩, -⟩ <;> rw [k] <;> simp only [Int.reduceEq, or_false, or_true, ↓reduceIte, false_or, true_or]
      · have := (nm_size hs).1
        rw [bl_len]; omega
      · have := (gr_size hs).1
        rw [bl_len]; omega
      · have := (dec_len (n := x.n.toNat) (by omega)).1
        omega
      · have ha := hex a (by rw [hl]; simp)
        have hb := hex b (by rw [hl]; simp)
        have sa : (cnt h).ex a + (cnt h).ex b ≤ sumZ (cnt h).ex x.l := by rw [hl]; simp [sumZ]
        have la := (atL_len (txt h).ex a 4 n).1
        have lb := (atL_len (txt h).ex b 5 n).1
        rw [part0 hl, part1 hl, List.length_append, List.length_cons]
        omega
      · have ha := hex a (by rw [hl]; simp)
        have sa : (cnt h).ex a ≤ sumZ (cnt h).ex x.l := part_sum (i := 0) (by rw [hl]; rfl)
        have hz : x.s.size ≤ 8 := by
          rw [Bool.or_eq_true] at hs
          rcases hs with hs | hs
          · exact (nm_size hs).1
          · rw [u_size hs]; omega
        rw [part0 hl]
        simp only [List.length_append, List.length_cons, bl_len, List.length_nil]
        omega
      · have ha := hex a (by rw [hl]; simp)
        have sa : (cnt h).ex a ≤ sumZ (cnt h).ex x.l := part_sum (i := 0) (by rw [hl]; rfl)
        have hds := (decs_of (hd6.resolve_left fun hc => hc k)).2
        have hl2 := linesL_len (txt h).de (cnt h).de x.ds (n + 2) (by omega) fun y hy => by
          obtain ⟨cs, hc⟩ := row_mem r2 hy
          exact ih.de y cs (d + 1) (n + 2) hc (hds y hy) (by omega)
        rw [part0 hl]
        simp only [List.length_append, List.length_cons, List.length_nil, padL_len]
        omega
      · have ha := hex a (by rw [hl]; simp)
        have sa : (cnt h).ex a ≤ sumZ (cnt h).ex x.l := part_sum (i := 0) (by rw [hl]; rfl)
        have la := (atL_len (txt h).ex a 1 n).1
        have hl2 := linesL_len (txt h).al (cnt h).al x.al (n + 2) (by omega) fun y hy => by
          obtain ⟨cs, hc⟩ := row_mem r3 hy
          exact ih.al y cs (d + 1) (n + 2) hc (O.alts y hy).1 (O.alts y hy).2 (by omega)
        rw [part0 hl]
        simp only [List.length_append, List.length_cons, List.length_nil]
        omega
      · have ha := hex a (by rw [hl]; simp)
        have hb := hex b (by rw [hl]; simp)
        have hc := hex c (by rw [hl]; simp)
        have sa : (cnt h).ex a + (cnt h).ex b + (cnt h).ex c ≤ sumZ (cnt h).ex x.l := by rw [hl]; simp [sumZ]; omega
        have la := (atL_len (txt h).ex a 1 n).1
        have lb := (atL_len (txt h).ex b 1 n).1
        rw [part0 hl, part1 hl, part2 hl]
        simp only [List.length_append, List.length_cons, List.length_nil]
        omega
      · have ha := hex a (by rw [hl]; simp)
        have hb := hex b (by rw [hl]; simp)
        have sa : (cnt h).ex a + (cnt h).ex b ≤ sumZ (cnt h).ex x.l := by rw [hl]; simp [sumZ]
        have la := (atL_len (txt h).ex a (leftL (opLev x.s)) n).1
        have lb := (atL_len (txt h).ex b (opLev x.s + 1) n).1
        have hz := op_size hs
        rw [part0 hl, part1 hl]
        simp only [List.length_append, List.length_cons, List.length_nil, bl_len]
        omega
    · intro x cs d n hr hok hn
      obtain ⟨hs, hv, hb, hw⟩ := okd_of hok
      obtain ⟨-, -, -, e, o1, c1, ce, o2, c2, hl, -, -, -, -, -, -, q1, r2⟩ := hr
      have hbo := hb e (by rw [hl]; simp)
      have h12 := okz_12 hbo
      have ha := ih.ex e ce (d + 1) (n + 2) q1 hbo (by omega)
      have sa : (cnt h).ex e ≤ sumZ (cnt h).ex x.l := part_sum (i := 0) (by rw [hl]; rfl)
      have hhd := headL_len x.s x.ss (nm_size hs).1 (vars_le hv)
      have hcn : (cnt (h + 1)).de x = sumZ (cnt h).ex x.l + sumZ (cnt h).de x.ds := rfl
      have hwl : (whereL (txt h) x.ds n).length ≤ 128 + 1000 * sumZ (cnt h).de x.ds := by
        unfold whereL
        split
        · simp
        · rename_i hne
          have hds := (hw.resolve_left hne).2
          have hl2 := linesL_len (txt h).de (cnt h).de x.ds (n + 4) (by omega) fun y hy => by
            obtain ⟨cs, hc⟩ := row_mem r2 hy
            exact ih.de y cs (d + 1) (n + 4) hc (hds y hy) (by omega)
          simp only [List.length_append, List.length_cons, List.length_nil, padL_len]
          omega
      rw [hcn]
      show (headL x.s x.ss ++ ([32, 61, 32] ++ ((txt h).ex (partT x 0) (n + 2) ++ whereL (txt h) x.ds n))).length + 121 ≤ _
      rw [part0 hl]
      simp only [List.length_append, List.length_cons, List.length_nil]
      omega
    · intro x cs d n hr hal hok hn
      obtain ⟨-, -, -, -, e, o1, c1, ce, hl, -, -, -, -, -, q1⟩ := hr
      have hbo := oka_of hok e (by rw [hl]; simp)
      have h12 := okz_12 hbo
      have ha := ih.ex e ce d (n + 2) q1 hbo (by omega)
      have sa : (cnt h).ex e ≤ sumZ (cnt h).ex x.l := part_sum (i := 0) (by rw [hl]; rfl)
      have hcn : (cnt (h + 1)).al x = sumZ (cnt h).ex x.l := rfl
      have hsz : x.s.size ≤ 8 ∧ varsB x.ss = true := by
        unfold altB at hal
        simp only [Bool.and_eq_true, Bool.or_eq_true] at hal
        refine ⟨?_, hal.1⟩
        rcases hal.2 with h1 | ⟨h1, -⟩
        · exact (gr_size h1).1
        · rw [empty_size h1]; show 0 ≤ 8; omega
      have hhd := headL_len x.s x.ss hsz.1 (vars_le hsz.2)
      rw [hcn]
      show (headL x.s x.ss ++ ([32, 45, 62, 32] ++ (txt h).ex (partT x 0) (n + 2))).length + 121 ≤ _
      rw [part0 hl]
      simp only [List.length_append, List.length_cons, List.length_nil]
      omega

/-! The texts of each kind. -/
theorem txt_k1 {h : Nat} {e : Tr} {n : Nat} (hk : e.k = 1 ∨ e.k = 2) : (txt (h + 1)).ex e n = bl e.s := by
  show kindTx (txt h) e n = _
  unfold kindTx
  rw [if_pos hk]
theorem txt_k3 {h : Nat} {e : Tr} {n : Nat} (hk : e.k = 3) : (txt (h + 1)).ex e n = Lib.decDigits e.n.toNat := by
  show kindTx (txt h) e n = _
  unfold kindTx
  simp only [hk, Int.reduceEq, or_false, or_self, ↓reduceIte]
theorem txt_k4 {h : Nat} {e a b : Tr} {n : Nat} (hk : e.k = 4) (hl : e.l = [a, b]) : (txt (h + 1)).ex e n = atL (txt h).ex a 4 n ++ (32 :: atL (txt h).ex b 5 n) := by
  show kindTx (txt h) e n = _
  unfold kindTx
  simp only [hk, Int.reduceEq, or_false, or_self, ↓reduceIte, part0 hl, part1 hl]
theorem txt_k5 {h : Nat} {e a : Tr} {n : Nat} (hk : e.k = 5) (hl : e.l = [a]) : (txt (h + 1)).ex e n = 92 :: (bl e.s ++ ([32, 45, 62, 32] ++ (txt h).ex a n)) := by
  show kindTx (txt h) e n = _
  unfold kindTx
  simp only [hk, Int.reduceEq, or_false, or_self, ↓reduceIte, part0 hl]
theorem txt_k6 {h : Nat} {e a : Tr} {n : Nat} (hk : e.k = 6) (hl : e.l = [a]) : (txt (h + 1)).ex e n = [108, 101, 116] ++ (linesL (txt h).de e.ds (n + 2) ++ (10 :: (padL n ++ ([105, 110, 32] ++ (txt h).ex a n)))) := by
  show kindTx (txt h) e n = _
  unfold kindTx
  simp only [hk, Int.reduceEq, or_false, or_self, ↓reduceIte, part0 hl]
theorem txt_k7 {h : Nat} {e a : Tr} {n : Nat} (hk : e.k = 7) (hl : e.l = [a]) : (txt (h + 1)).ex e n = [99, 97, 115, 101, 32] ++ (atL (txt h).ex a 1 n ++ ([32, 111, 102] ++ linesL (txt h).al e.al (n + 2))) := by
  show kindTx (txt h) e n = _
  unfold kindTx
  simp only [hk, Int.reduceEq, or_false, or_self, ↓reduceIte, part0 hl]
theorem txt_k8 {h : Nat} {e a b c : Tr} {n : Nat} (hk : e.k = 8) (hl : e.l = [a, b, c]) : (txt (h + 1)).ex e n = [105, 102, 32] ++ (atL (txt h).ex a 1 n ++ ([32, 116, 104, 101, 110, 32] ++ (atL (txt h).ex b 1 n ++ ([32, 101, 108, 115, 101, 32] ++ (txt h).ex c n)))) := by
  show kindTx (txt h) e n = _
  unfold kindTx
  simp only [hk, Int.reduceEq, or_false, or_self, ↓reduceIte, part0 hl, part1 hl, part2 hl]
theorem txt_k9 {h : Nat} {e a b : Tr} {n : Nat} (hk : e.k = 9) (hl : e.l = [a, b]) : (txt (h + 1)).ex e n = atL (txt h).ex a (leftL (opLev e.s)) n ++ (32 :: (bl e.s ++ (32 :: atL (txt h).ex b (opLev e.s + 1) n))) := by
  show kindTx (txt h) e n = _
  unfold kindTx
  simp only [hk, Int.reduceEq, or_false, or_self, ↓reduceIte, part0 hl, part1 hl]
theorem at_zero (f : Tr → Nat → List UInt8) (e : Tr) (n : Nat) : atL f e 0 n = f e n := by
  unfold atL brL
  rw [decide_eq_false (Nat.not_lt_zero _)]
  rfl
theorem opLev_le (s : ByteArray) : opLev s ≤ 3 ∧ 1 ≤ opLev s := by
  unfold opLev
  split
  · omega
  · split <;> omega
theorem txt_de {h : Nat} {d a : Tr} {n : Nat} (hl : d.l = [a]) : (txt (h + 1)).de d n = headL d.s d.ss ++ ([32, 61, 32] ++ ((txt h).ex a (n + 2) ++ whereL (txt h) d.ds n)) := by
  show headL d.s d.ss ++ ([32, 61, 32] ++ ((txt h).ex (partT d 0) (n + 2) ++ whereL (txt h) d.ds n)) = _
  rw [part0 hl]
theorem txt_al {h : Nat} {d a : Tr} {n : Nat} (hl : d.l = [a]) : (txt (h + 1)).al d n = headL d.s d.ss ++ ([32, 45, 62, 32] ++ (txt h).ex a (n + 2)) := by
  show headL d.s d.ss ++ ([32, 45, 62, 32] ++ (txt h).ex (partT d 0) (n + 2)) = _
  rw [part0 hl]
theorem lines_snoc (f : Tr → Nat → List UInt8) (xs : List Tr) (x : Tr) (n : Nat) : linesL f (xs ++ [x]) n = linesL f xs n ++ (10 :: (padL n ++ f x n)) := by
  unfold linesL
  rw [List.flatMap_append]
  simp
theorem lines_take (f : Tr → Nat → List UInt8) (xs : List Tr) (i : Nat) (x : Tr) (n : Nat) (hx : xs[i]? = some x) : linesL f (xs.take (i + 1)) n = linesL f (xs.take i) n ++ (10 :: (padL n ++ f x n)) := by
  rw [List.take_add_one, hx]
  exact lines_snoc f _ x n
theorem lines_take_len (f : Tr → Nat → List UInt8) (xs : List Tr) (i n : Nat) : (linesL f (xs.take i) n).length ≤ (linesL f xs n).length := by
  unfold linesL
  conv => rhs; rw [← List.take_append_drop i xs, List.flatMap_append, List.length_append]
  omega
theorem lines_drop (f : Tr → Nat → List UInt8) (xs : List Tr) (n : Nat) (h : 1 ≤ xs.length) : linesL f xs n = 10 :: (linesL f xs n).drop 1 := by
  cases xs with
  | nil => simp at h
  | cons a r => rfl
theorem eq_ofL {u : ByteArray} {l : List UInt8} (h : bl u = l) : u = ofL l := by rw [← h, ofL_bl]
theorem bl_mk (a : Array UInt8) : bl ⟨a⟩ = a.toList := rfl
end Go.Proofs.YteoghpefilghdamDoor
namespace Go.Proofs.YteoghpefilghdamDoor
open Go.ChangeShapes Go.WideShapes Go.ChangeAt Go.RowKit
set_option linter.unusedSimpArgs false

theorem ret_str {a b : ByteArray} (h : a = b) : Ending.returned (.string a) = .returned (.string b) := by rw [h]
theorem app_size (a b : ByteArray) : (a ++ b).size = a.size + b.size := ByteArray.size_append

end Go.Proofs.YteoghpefilghdamDoor
namespace Go.Proofs.YteoghpefilghdamDoor
open Go.ChangeShapes Go.WideShapes Go.ChangeAt Go.RowKit
set_option linter.unusedSimpArgs false

theorem namesL_snoc (l : List ByteArray) (x : ByteArray) : namesL (l ++ [x]) = namesL l ++ (32 :: bl x) := by
  unfold namesL
  rw [List.flatMap_append]
  simp
theorem headL_first {s x : ByteArray} (h : emptyB s = true) : headL s [x] = bl x := by
  unfold headL
  rw [if_pos h]
  simp [namesL]
theorem headL_next {s x : ByteArray} {l : List ByteArray} (h : emptyB s = false ∨ l ≠ []) : headL s (l ++ [x]) = headL s l ++ (32 :: bl x) := by
  unfold headL
  rw [namesL_snoc]
  by_cases he : emptyB s = true
  · rw [if_pos he, if_pos he]
    cases l with
    | nil => rcases h with h | h
             · rw [h] at he; cases he
             · exact absurd rfl h
    | cons y r =>
      show ((32 :: bl y) ++ namesL r ++ (32 :: bl x)).drop 1 = ((32 :: bl y) ++ namesL r).drop 1 ++ (32 :: bl x)
      simp
  · rw [if_neg he, if_neg he, List.append_assoc]
theorem headL_nil (s : ByteArray) : headL s [] = bl s := by
  unfold headL
  split
  · rename_i h
    rw [empty_size h]
    rfl
  · simp [namesL]
theorem bl_ne {s : ByteArray} (h : emptyB s = false) : bl s ≠ [] := by
  intro e
  unfold emptyB at h
  rw [toList_data] at h
  rw [show s.data.toList = [] from e] at h
  cases h
theorem headL_ne {s : ByteArray} {l : List ByteArray} (hx : ∀ x, x ∈ l → x.size ≤ 8 ∧ 1 ≤ x.size) (h : emptyB s = false ∨ l ≠ []) : headL s l ≠ [] := by
  unfold headL
  by_cases he : emptyB s = true
  · rw [if_pos he]
    cases l with
    | nil => rcases h with h | h
             · rw [h] at he; cases he
             · exact absurd rfl h
    | cons y r =>
      have h1 := (hx y (List.mem_cons_self ..)).2
      intro e
      have : (namesL (y :: r)).length ≤ 1 := by
        have := congrArg List.length e
        simp at this
        omega
      unfold namesL at this
      rw [List.flatMap_cons, List.length_append, List.length_cons, bl_len] at this
      omega
  · rw [if_neg he]
    intro e
    exact bl_ne (by simpa using he) (List.append_eq_nil_iff.1 e).1
theorem ofL_toList (l : List UInt8) : (ofL l).toList = l := by rw [toList_data]; rfl

theorem dec_small {n : Nat} (h : n < 10) : Lib.decDigits n = [UInt8.ofNat (48 + n)] := by rw [Lib.decDigits, dif_pos h]
theorem dec_big {n : Nat} (h : ¬ n < 10) : Lib.decDigits n = Lib.decDigits (n / 10) ++ [UInt8.ofNat (48 + n % 10)] := by rw [Lib.decDigits, dif_neg h]
def dgs (j : Nat) : UInt8 := UInt8.ofNat (48 + j % 10)
theorem dgs_toNat (n : Nat) : (dgs n).toNat = 48 + n % 10 := by
  rw [dgs, UInt8.toNat_ofNat']
  omega
theorem dgs_string (n : Nat) (W : World) (g : Nat) (h : W.cell? ⟨g, 0, none⟩ = some (.int .u8 (48 + (n : Int) % 10))) : (convert 38 9 (.slice (some ⟨g, 0, none⟩) 1 1)).run Tryd.prog W = .ok (.string ⟨#[dgs n]⟩) W := by
  refine run_convert_bytes_back _ _ _ 5 _ 1 [dgs n] Tryd.underlying38 Tryd.underlying5 Tryd.underlying9 ?_
  intro m hm
  have : m = 0 := by simpa using hm
  subst this
  show W.cell? (Addr.add ⟨g, 0, none⟩ 0) = some (.int .u8 ((dgs n).toNat : Int))
  rw [dgs_toNat]
  simpa [Addr.add] using h
set_option maxRecDepth 100000 in
theorem num_lt {n : Nat} (hn : n < 10) (w : World) : Calls Tryd.prog 15 #[.int .i64 n] w fun e w' => e = .returned (.string (ofL (Lib.decDigits n))) ∧ Below w.heap.size w w' := by
  have hcv := dgs_string n (w.alloc (.cells #[.int .u8 (48 + (n : Int))] 5)) w.heap.size (by rw [Int.emod_eq_of_lt (by omega) (by omega)]; simp)
  have hr : 48 + (n : Int) < 256 := by omega
  go_enter Tryd.func15, Tryd.ntmps15
  go_wp2
  go_ret
  refine ⟨ret_str ?_, (Below.refl _ w).alloc (Nat.le_refl _) _⟩
  rw [dec_small hn, dgs, Nat.mod_eq_of_lt hn]
  rfl
set_option maxHeartbeats 1000000 in
set_option maxRecDepth 100000 in
theorem num_any (k : Nat) : ∀ (n : Nat) (w : World), n < 10 ^ k → n ≤ 999999 → Calls Tryd.prog 15 #[.int .i64 n] w fun e w' => e = .returned (.string (ofL (Lib.decDigits n))) ∧ Below w.heap.size w w' := by
  induction k with
  | zero =>
    intro n w h0 h1
    exact num_lt (by simp at h0; omega) w
  | succ k ih =>
    intro n w h0 h1
    have IH := hide ih
    clear ih
    by_cases hn : n < 10
    · exact num_lt hn w
    · have hd := (dec_len (n := n / 10) (by omega)).1
      generalize hA : ofL (Lib.decDigits (n / 10)) = A at IH
      have hcall : ∀ W : World, Calls Tryd.prog 15 #[.int .i64 ((n : Int) / 10)] W fun e w' => e = .returned (.string (ofL (Lib.decDigits (n / 10)))) ∧ Below W.heap.size W w' := fun W => IH.out (n / 10) W (by rw [Nat.pow_succ] at h0; omega) (by omega)
      have hsz : (ofL (Lib.decDigits (n / 10))).size ≤ 6 := hd
      generalize hA : ofL (Lib.decDigits (n / 10)) = A at hcall hsz
      have CALL := hide hcall
      have HA := hide hA
      have hlt : ¬ (n : Int) < 10 := by omega
      have hcv := dgs_string n
      have w1 : IntKind.i64.wrap ((n : Int) / 10) = (n : Int) / 10 := by rw [IntKind.wrap_i64]; omega
      have w2 : (n : Int).tmod 10 = (n : Int) % 10 := Int.tmod_eq_emod_of_nonneg (by omega)
      have w3 : IntKind.i64.wrap (48 + (n : Int) % 10) = 48 + (n : Int) % 10 := by rw [IntKind.wrap_i64]; omega
      have w4 : IntKind.u8.wrap (48 + (n : Int) % 10) = 48 + (n : Int) % 10 := by rw [IntKind.wrap_u8]; omega
      clear hcall hA IH
      go_enter Tryd.func15, Tryd.ntmps15
      go_wp2_with fail
      have HC0 : Hid ((w.drew.alloc (.cells #[.int .u8 (48 + (n : Int) % 10)] 5)).cell? ⟨w.heap.size, 0, none⟩ = some (.int .u8 (48 + (n : Int) % 10))) := cell_of (heap_alloc_new w.drew _) 0
      have HL0 : Hid (w.heap.size < (w.drew.alloc (.cells #[.int .u8 (48 + (n : Int) % 10)] 5)).heap.size) := heap_lt (heap_alloc_new w.drew _)
      have cv0 := hcv _ _ HC0.out
      go_region_with (first
        | (go_at_call 15; refine (CALL.out (w.drew.alloc (.cells #[.int .u8 (48 + (n : Int) % 10)] 5))).mono ?_; rintro e w1 ⟨rfl, hb⟩; have HB1 := hide hb; have cv1 := hcv w1 w.heap.size ((hb.cell (p := ⟨w.heap.size, 0, none⟩) HL0.out).trans HC0.out); clear hb)
        | (go_at_call 15; refine (CALL.out w.drew).mono ?_; rintro e w1 ⟨rfl, hb⟩; have HB1 := hide hb; have cv1 := hcv (w1.alloc (.cells #[.int .u8 (48 + (n : Int) % 10)] 5)) w1.heap.size (cell_of (heap_alloc_new w1 _) 0); clear hb))
      all_goals
        go_wp2
        go_ret
        refine ⟨ret_str ?_, ?_⟩
        · rw [← HA.out, dec_big (n := n) hn, ← ofL_append]
          rfl
        · first
          | exact (((Below.refl _ w).drew.alloc (Nat.le_refl _) _).trans (HB1.out.mono (Nat.le_of_lt HL0.out)))
          | exact (((Below.refl _ w).drew.trans HB1.out).alloc ((Below.refl _ w).drew.trans HB1.out).size _)
end Go.Proofs.YteoghpefilghdamDoor
