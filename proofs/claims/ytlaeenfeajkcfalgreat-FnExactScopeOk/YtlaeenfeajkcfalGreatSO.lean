/- Made of PE, PF, PG. -/
import Derived.Test.YtlaeenfeajkcfalGreatSL
import Derived.Test.YtlaeenfeajkcfalGreatYC
namespace Go.Proofs.YtlaeenfeajkcfalGreat
open Go.ChangeShapes Go.WideShapes Go.ChangeAt Go.RowKit

def givenT (s : ByteArray) : Bool := s.toList == [73, 110, 116] || s.toList == [66, 111, 111, 108]
def givenC (s : ByteArray) : Bool := s.toList == [84, 114, 117, 101] || s.toList == [70, 97, 108, 115, 101]
/-- A name of a type that is told by its name. -/
def tyNm (s : ByteArray) : Bool := grB s && !givenT s
/-- A great name that a program may give to what is its own. -/
def ownB (s : ByteArray) : Bool := grB s && !(givenT s || givenC s)
/-- A type is right, but for its parts. -/
def tyHere (t : Tr) (d : Int) : Bool := decide (d ≤ 6) && (decide (t.n = 0) && (if t.k = 1 ∨ t.k = 2 then emptyB t.s && decide (t.l.length = 0) else if t.k = 3 then tyNm t.s && decide (t.l.length = 0) else if t.k = 4 then emptyB t.s && decide (t.l.length = 2) else false))
/-- A type is right, but for how many parts it has. -/
def tyB : Nat → Tr → Int → Bool
  | 0, _, _ => false
  | h + 1, t, d => tyHere t d && allZ (tyB h) t.l (d + 1)
def tyN : Nat → Tr → Nat
  | 0, _ => 0
  | h + 1, t => 1 + sumZ (tyN h) t.l
/-- What the model measures of a type. -/
def wrZ : Nat → Tr → Int → Int
  | 0, _, _ => 100
  | h + 1, t, d => cond (tyHere t d) (1 + (t.l.map fun x => wrZ h x (d + 1)).sum) 100

def ownL : List ByteArray := [⟨#[73, 110, 116]⟩, ⟨#[66, 111, 111, 108]⟩, ⟨#[84, 114, 117, 101]⟩, ⟨#[70, 97, 108, 115, 101]⟩]
theorem own_lists : ownL.map ByteArray.toList = [[73, 110, 116], [66, 111, 111, 108], [84, 114, 117, 101], [70, 97, 108, 115, 101]] := by kernel_rfl
theorem own_given (s : ByteArray) : (ownL.any fun t => t.toList == s.toList) = (givenT s || givenC s) := by
  have h : (ownL.any fun t => t.toList == s.toList) = ((ownL.map ByteArray.toList).any fun t => t == s.toList) := by rw [List.any_map]; rfl
  rw [h, own_lists]
  simp only [List.any_cons, List.any_nil, Bool.or_false, givenT, givenC]
  rw [beq_turn [73, 110, 116], beq_turn [66, 111, 111, 108], beq_turn [84, 114, 117, 101], beq_turn [70, 97, 108, 115, 101]]
  cases (s.toList == [73, 110, 116]) <;> cases (s.toList == [66, 111, 111, 108]) <;> rfl

set_option maxHeartbeats 400000 in
theorem l3Own_any (s : ByteArray) (w : World) : Calls Tryz.prog 51 #[.string s] w fun e w' => e = .returned (.bool (givenT s || givenC s)) ∧ Below w.heap.size w w' := by
  go_enter Tryz.func51, Tryz.ntmps51
  go_wp2_with fail
  refine (has_any ownL _ 4 rfl (by decide) s _ ?_).mono ?_
  · intro i hi
    match i, hi with
    | 0, _ | 1, _ | 2, _ | 3, _ => simp [ownL]
  rintro e w1 ⟨rfl, rfl⟩
  rw [own_given]
  go_wp2
  go_ret
  exact ⟨rfl, (Below.refl _ w).alloc (Nat.le_refl _) _⟩

/-- How many parts, if it is right; else 100 or more. -/
def TyM (ok : Bool) (n m : Nat) (r : Int) : Prop := 0 ≤ r ∧ r + 1 ≤ ((101 * 2 ^ m : Nat) : Int) ∧ (ok = true → r = n) ∧ (ok = false → 100 ≤ r)
theorem TyM.bad {ok : Bool} {n m : Nat} (h : ok = false) : TyM ok n m 100 := by
  have := Nat.one_le_two_pow (n := m)
  exact ⟨by omega, by omega, (fun e => by rw [h] at e; cases e), fun _ => by omega⟩
theorem TyM.one {ok : Bool} {n m : Nat} (h : ok = true) (hn : n = 1) : TyM ok n m 1 := by
  have := Nat.one_le_two_pow (n := m)
  exact ⟨by omega, by omega, fun _ => by omega, (fun e => by rw [h] at e; cases e)⟩
theorem TyM.two {a b : Bool} {na nb m : Nat} {ra rb : Int} (ha : TyM a na m ra) (hb : TyM b nb m rb) : TyM (a && b) (1 + (na + nb)) (m + 1) (1 + (ra + rb)) := by
  obtain ⟨a1, a2, a3, a4⟩ := ha
  obtain ⟨b1, b2, b3, b4⟩ := hb
  have hp : 2 ^ (m + 1) = 2 ^ m * 2 := Nat.pow_succ 2 m
  refine ⟨by omega, by rw [hp]; omega, fun h => ?_, fun h => ?_⟩
  · rw [Bool.and_eq_true] at h
    have := a3 h.1
    have := b3 h.2
    omega
  · rw [Bool.and_eq_false_iff] at h
    rcases h with h | h
    · have := a4 h
      omega
    · have := b4 h
      omega
theorem tyh_deep {t : Tr} {d : Int} (hd : 6 < d) : tyHere t d = false := by
  unfold tyHere
  rw [decide_eq_false (by omega)]
  rfl
theorem tyh_n {t : Tr} {d : Int} (hn : t.n ≠ 0) : tyHere t d = false := by
  unfold tyHere
  rw [decide_eq_false hn, Bool.false_and, Bool.and_false]
theorem tyh_12 {t : Tr} {d : Int} (hd : d ≤ 6) (hn : t.n = 0) (hk : t.k = 1 ∨ t.k = 2) : tyHere t d = (emptyB t.s && decide (t.l.length = 0)) := by
  unfold tyHere
  rw [decide_eq_true hd, decide_eq_true hn, if_pos hk]
  rfl
theorem tyh_3 {t : Tr} {d : Int} (hd : d ≤ 6) (hn : t.n = 0) (hk : t.k = 3) : tyHere t d = (tyNm t.s && decide (t.l.length = 0)) := by
  unfold tyHere
  rw [decide_eq_true hd, decide_eq_true hn, if_neg (by omega), if_pos hk]
  rfl
theorem tyh_4 {t : Tr} {d : Int} (hd : d ≤ 6) (hn : t.n = 0) (hk : t.k = 4) : tyHere t d = (emptyB t.s && decide (t.l.length = 2)) := by
  unfold tyHere
  rw [decide_eq_true hd, decide_eq_true hn, if_neg (by omega), if_neg (by omega), if_pos hk]
  rfl
theorem tyh_no {t : Tr} {d : Int} (hk : ¬ (t.k = 1 ∨ t.k = 2 ∨ t.k = 3 ∨ t.k = 4)) : tyHere t d = false := by
  unfold tyHere
  rw [if_neg (by omega), if_neg (by omega), if_neg (by omega), Bool.and_false, Bool.and_false]
theorem tyh_len {t : Tr} {d : Int} (h : tyHere t d = true) : d ≤ 6 ∧ (t.l = [] ∨ ∃ a b, t.l = [a, b]) := by
  unfold tyHere at h
  rw [Bool.and_eq_true, Bool.and_eq_true] at h
  refine ⟨of_decide_eq_true h.1, ?_⟩
  have h2 := h.2.2
  split at h2
  · rw [Bool.and_eq_true] at h2
    exact Or.inl (List.length_eq_zero_iff.1 (of_decide_eq_true h2.2))
  · split at h2
    · rw [Bool.and_eq_true] at h2
      exact Or.inl (List.length_eq_zero_iff.1 (of_decide_eq_true h2.2))
    · split at h2
      · rw [Bool.and_eq_true] at h2
        have h3 := of_decide_eq_true h2.2
        match h9 : t.l, h3 with
        | [a, b], _ => exact Or.inr ⟨a, b, rfl⟩
      · cases h2
theorem wr_tym (h : Nat) : ∀ (t : Tr) (d : Int) (m : Nat), d + m = 7 → TyM (tyB h t d) (tyN h t) m (wrZ h t d) := by
  induction h with
  | zero => exact fun t d m _ => TyM.bad rfl
  | succ h ih =>
    intro t d m hm
    show TyM (tyHere t d && allZ (tyB h) t.l (d + 1)) (1 + sumZ (tyN h) t.l) m (cond (tyHere t d) (1 + (t.l.map fun x => wrZ h x (d + 1)).sum) 100)
    cases hh : tyHere t d with
    | false => exact TyM.bad rfl
    | true =>
      obtain ⟨hd, hl⟩ := tyh_len hh
      rcases hl with hl | ⟨a, b, hl⟩
      · rw [hl]
        exact TyM.one rfl rfl
      · rw [hl]
        have key := (ih a (d + 1) (m - 1) (by omega)).two (ih b (d + 1) (m - 1) (by omega))
        rw [show m - 1 + 1 = m by omega] at key
        have e1 : allZ (tyB h) [a, b] (d + 1) = (tyB h a (d + 1) && tyB h b (d + 1)) := by simp [allZ]
        have e2 : sumZ (tyN h) [a, b] = tyN h a + tyN h b := by simp [sumZ]
        have e3 : ([a, b].map fun x => wrZ h x (d + 1)).sum = wrZ h a (d + 1) + wrZ h b (d + 1) := by simp
        rw [e1, e2, e3]
        exact key
theorem wr_lt (h : Nat) (t : Tr) (d : Int) (h0 : 0 ≤ d) (h7 : d ≤ 7) : 0 ≤ wrZ h t d ∧ wrZ h t d ≤ 13000 := by
  have k := wr_tym h t d (7 - d).toNat (by omega)
  have h1 : 2 ^ (7 - d).toNat ≤ 2 ^ 7 := Nat.pow_le_pow_right (by omega) (by omega)
  have h2 := k.2.1
  have h3 : (2 : Nat) ^ 7 = 128 := rfl
  exact ⟨k.1, by omega⟩
/-- The measure held against 10. -/
theorem wr_ten (h : Nat) (t : Tr) (d : Int) (h7 : d ≤ 7) : decide (wrZ h t d ≤ 10) = (tyB h t d && decide (tyN h t ≤ 10)) := by
  have k := wr_tym h t d (7 - d).toNat (by omega)
  cases hb : tyB h t d with
  | true =>
    have := k.2.2.1 hb
    by_cases hn : tyN h t ≤ 10
    · rw [decide_eq_true hn, decide_eq_true (by omega)]; rfl
    · rw [decide_eq_false hn, decide_eq_false (by omega)]; rfl
  | false =>
    have := k.2.2.2 hb
    rw [decide_eq_false (by omega)]
    rfl
theorem wr_bad {h : Nat} {t : Tr} {d : Int} (hh : tyHere t d = false) : wrZ (h + 1) t d = 100 := by
  show cond (tyHere t d) _ _ = _
  rw [hh]
  rfl
theorem wr_leaf {h : Nat} {t : Tr} {d : Int} (hh : tyHere t d = true) (hl : t.l.length = 0) : wrZ (h + 1) t d = 1 := by
  show cond (tyHere t d) (1 + (t.l.map _).sum) _ = _
  rw [hh, List.length_eq_zero_iff.1 hl]
  rfl
theorem wr_fun {h : Nat} {t a b : Tr} {d : Int} (hh : tyHere t d = true) (hl : t.l = [a, b]) : wrZ (h + 1) t d = 1 + wrZ h a (d + 1) + wrZ h b (d + 1) := by
  show cond (tyHere t d) (1 + (t.l.map _).sum) _ = _
  rw [hh, hl]
  simp [Int.add_assoc]
theorem ret_int {a b : Int} (h : a = b) : Ending.returned (.int .i64 a) = .returned (.int .i64 b) := by rw [h]

def CoTy (h : Nat) : Prop := ∀ (K : Nat → Prop) (x : Tr) (cs : List Value) (w : World) (d : Int), 0 ≤ d → d ≤ 7 → tyR K w h x cs → Calls Tryz.prog 53 #[.agg cs.toArray, .int .i64 d] w fun e w' => e = .returned (.int .i64 (wrZ h x d)) ∧ Below w.heap.size w w'

end Go.Proofs.YtlaeenfeajkcfalGreat
namespace Go.Proofs.YtlaeenfeajkcfalGreat
open Go.ChangeShapes Go.WideShapes Go.ChangeAt Go.RowKit

set_option maxHeartbeats 2000000 in
set_option maxRecDepth 100000 in
theorem written_fun {h : Nat} (ih : CoTy h) {K : Nat → Prop} (x : Tr) (w : World) (d : Int) (hd0 : 0 ≤ d) (hd7 : d ≤ 7) (o : Option Addr) (c : Nat) (hrow : RowOf K w (tyR K w h) 4 o x.l) (hok : tyHere x d = true) (hk : x.k = 4) (hn : x.n = 0) (hem : emptyB x.s = true) (hl : x.l.length = 2) (hd : ¬ 6 < d) :
    Calls Tryz.prog 53 #[.agg #[.int .i64 x.k, .string x.s, .int .i64 x.n, .slice o x.l.length c], .int .i64 d] w fun e w' => e = .returned (.int .i64 (wrZ (h + 1) x d)) ∧ Below w.heap.size w w' := by
  have IH := hide ih
  have HRW := hide hrow
  clear ih hrow
  have HB0 : Hid (Below w.heap.size w (w.alloc (.cells #[.int .i64 x.k, .string x.s, .int .i64 x.n, .slice o x.l.length c] 48))) := (Below.refl _ w).alloc (Nat.le_refl _) _
  have HX0 : Hid ((w.alloc (.cells #[.int .i64 x.k, .string x.s, .int .i64 x.n, .slice o x.l.length c] 48)).heap[w.heap.size]? = some (.cells #[.int .i64 x.k, .string x.s, .int .i64 x.n, .slice o x.l.length c] 48 (0, 0))) := heap_alloc_new w _
  have hn2 : (x.n != 0) = false := by simpa using hn
  have hn3 : (x.n == 0) = true := by simpa using hn
  have hs2 : (x.s.toList != []) = false := by show (!(emptyB x.s)) = false; rw [hem]; rfl
  have hs3 : (x.s.toList == []) = true := hem
  have e1 : (x.k == 1) = false := by rw [hk]; rfl
  have n1 : (x.k != 1) = true := by rw [hk]; rfl
  have e2 : (x.k == 2) = false := by rw [hk]; rfl
  have n2 : (x.k != 2) = true := by rw [hk]; rfl
  have e3 : (x.k == 3) = false := by rw [hk]; rfl
  have n3 : (x.k != 3) = true := by rw [hk]; rfl
  have e4 : (x.k == 4) = true := by rw [hk]; rfl
  have n4 : (x.k != 4) = false := by rw [hk]; rfl
  have HK := hide hk
  clear hk
  have HOK := hide hok
  clear hn hem hok
  obtain ⟨a, b, hab⟩ : ∃ a b, x.l = [a, b] := by
    match h9 : x.l, hl with
    | [a, b], _ => exact ⟨a, b, rfl⟩
  have HAB := hide hab
  rw [hl] at HB0 HX0 ⊢
  have hrw := HRW.out.later HB0.out (tyR_later HB0.out h)
  obtain ⟨bb, off, eo, -, hbl, hcs⟩ := hrw (by rw [hab]; simp)
  subst eo
  obtain ⟨ca, lA, kA, rA⟩ := hcs 0 a (by rw [hab]; rfl)
  obtain ⟨cb, lB, kB, rB⟩ := hcs 1 b (by rw [hab]; rfl)
  obtain ⟨oa, ga, rfl⟩ := ty_form rA
  obtain ⟨ob, gb, rfl⟩ := ty_form rB
  have h2 : (x.l.length == 2) = true := by simpa using hl
  have h3 : ((x.l.length : Int) == 2) = true := by rw [beq_iff_eq]; omega
  have wa := wr_lt h a (d + 1) (by omega) (by omega)
  have wb := wr_lt h b (d + 1) (by omega) (by omega)
  generalize hra : wrZ h a (d + 1) = ra at wa
  generalize hrb : wrZ h b (d + 1) = rb at wb
  have HRA := hide hra
  have HRB := hide hrb
  obtain ⟨wa0, wa1⟩ := wa
  obtain ⟨wb0, wb1⟩ := wb
  have RA := hide rA
  have RB := hide rB
  have qa0 := kA 0 _ rfl
  have qa1 := kA 1 _ rfl
  have qa2 := kA 2 _ rfl
  have qa3 := kA 3 _ rfl
  have qb0 := kB 0 _ rfl
  have qb1 := kB 1 _ rfl
  have qb2 := kB 2 _ rfl
  have qb3 := kB 3 _ rfl
  simp only [Nat.zero_mul, Nat.one_mul, Nat.add_zero] at qa0 qa1 qa2 qa3 qb0 qb1 qb2 qb3
  clear hra hrb rA rB kA kB hcs hrw lA lB hab
  go_enter Tryz.func53, Tryz.ntmps53
  go_wp2_with fail
  generalize (w.alloc (.cells #[.int .i64 x.k, .string x.s, .int .i64 x.n, .slice (some ⟨bb, off, none⟩) 2 c] 48)) = W at HX0 HB0 RA RB hbl qa0 qa1 qa2 qa3 qb0 qb1 qb2 qb3 ⊢
  have hq3 := later_cell (j := 3) HX0.out rfl
  have ma0 : ∀ q : Later W, q.w.cell? ⟨bb, off, none⟩ = _ := fun q => (q.h.cell (p := ⟨bb, off, none⟩) hbl).trans qa0
  have ma1 : ∀ q : Later W, q.w.cell? ⟨bb, off + 1, none⟩ = _ := fun q => (q.h.cell (p := ⟨bb, off + 1, none⟩) hbl).trans qa1
  have ma2 : ∀ q : Later W, q.w.cell? ⟨bb, off + 2, none⟩ = _ := fun q => (q.h.cell (p := ⟨bb, off + 2, none⟩) hbl).trans qa2
  have ma3 : ∀ q : Later W, q.w.cell? ⟨bb, off + 3, none⟩ = _ := fun q => (q.h.cell (p := ⟨bb, off + 3, none⟩) hbl).trans qa3
  have mb0 : ∀ q : Later W, q.w.cell? ⟨bb, off + 4, none⟩ = _ := fun q => (q.h.cell (p := ⟨bb, off + 4, none⟩) hbl).trans qb0
  have mb1 : ∀ q : Later W, q.w.cell? ⟨bb, off + 4 + 1, none⟩ = _ := fun q => (q.h.cell (p := ⟨bb, off + 4 + 1, none⟩) hbl).trans qb1
  have mb2 : ∀ q : Later W, q.w.cell? ⟨bb, off + 4 + 2, none⟩ = _ := fun q => (q.h.cell (p := ⟨bb, off + 4 + 2, none⟩) hbl).trans qb2
  have mb3 : ∀ q : Later W, q.w.cell? ⟨bb, off + 4 + 3, none⟩ = _ := fun q => (q.h.cell (p := ⟨bb, off + 4 + 3, none⟩) hbl).trans qb3
  clear qa0 qa1 qa2 qa3 qb0 qb1 qb2 qb3
  have hne0 : Nonempty (Later W) := later_nonempty W
  refine wp_region_class (S := fun v => Below W.heap.size W v) (by kernel_rfl) (by kernel_rfl) (below_drew _) ?_
  iterate 7 (first | go_big_quiet_skip | (go_big_quiet_want; go_big_quiet_op; first | go_big_quiet_on | (apply Exists.intro; refine ⟨fun q => ?_, ?_⟩; (go_at_call 53; refine (IH.out K a [.int .i64 a.k, .string a.s, .int .i64 a.n, .slice oa a.l.length ga] _ (d + 1) (by omega) (by omega) (tyR_later q.h h _ _ RA.out)).mono ?_; rintro e w1 ⟨rfl, hb1⟩; rw [HRA.out]; exact ⟨rfl, Later.on q hb1, rfl⟩); go_big_quiet_on)))
  repeat (first | go_big_quiet_skip | (go_big_quiet_want; go_big_quiet_op; first | go_big_quiet_on | (apply Exists.intro; refine ⟨fun q => ?_, ?_⟩; (go_at_call 53; refine (IH.out K b [.int .i64 b.k, .string b.s, .int .i64 b.n, .slice ob b.l.length gb] _ (d + 1) (by omega) (by omega) (tyR_later q.h h _ _ RB.out)).mono ?_; rintro e w1 ⟨rfl, hb1⟩; rw [HRB.out]; exact ⟨rfl, Later.on q hb1, rfl⟩); go_big_quiet_on)))
  refine wpQuiet_nil ?_
  intro _ hw'
  obtain ⟨q, rfl⟩ := hw'
  go_wp2
  go_ret
  exact ⟨ret_int (by rw [wr_fun HOK.out HAB.out, HRA.out, HRB.out]), HB0.out.trans (q.h.mono HB0.out.size)⟩

set_option maxHeartbeats 1000000 in
set_option maxRecDepth 100000 in
theorem written_step {h : Nat} (ih : CoTy h) : CoTy (h + 1) := by
  intro K x cs w d hd0 hd7 hr
  obtain ⟨-, -, -, o, c, rfl, hs, hf, hrow⟩ := hr
  have IH := hide ih
  have HS := hide hs
  have HRW := hide hrow
  have hl2 : x.l.length ≤ 9223372036854775807 := hf.1
  clear ih hs hrow hf
  have HB0 : Hid (Below w.heap.size w (w.alloc (.cells #[.int .i64 x.k, .string x.s, .int .i64 x.n, .slice o x.l.length c] 48))) := (Below.refl _ w).alloc (Nat.le_refl _) _
  have HX0 : Hid ((w.alloc (.cells #[.int .i64 x.k, .string x.s, .int .i64 x.n, .slice o x.l.length c] 48)).heap[w.heap.size]? = some (.cells #[.int .i64 x.k, .string x.s, .int .i64 x.n, .slice o x.l.length c] 48 (0, 0))) := heap_alloc_new w _
  by_cases hd : 6 < d
  · have HF := hide (tyh_deep (t := x) hd)
    go_enter Tryz.func53, Tryz.ntmps53
    go_wp2
    go_ret
    exact ⟨ret_int (wr_bad (HF.out)).symm, HB0.out⟩
  by_cases hn : x.n = 0
  case neg =>
    have HF := hide (tyh_n (d := d) hn)
    have hn2 : (x.n != 0) = true := by simpa using hn
    have hn3 : (x.n == 0) = false := by simpa using hn
    clear hn
    go_enter Tryz.func53, Tryz.ntmps53
    go_wp2
    go_ret
    exact ⟨ret_int (wr_bad (HF.out)).symm, HB0.out⟩
  have HN := hide hn
  have hn2 : (x.n != 0) = false := by simpa using hn
  have hn3 : (x.n == 0) = true := by simpa using hn
  clear hn
  by_cases hk : x.k = 4
  · have HT := hide (tyh_4 (d := d) (by omega) HN.out hk)
    have e1 : (x.k == 1) = false := by rw [hk]; rfl
    have n1 : (x.k != 1) = true := by rw [hk]; rfl
    have e2 : (x.k == 2) = false := by rw [hk]; rfl
    have n2 : (x.k != 2) = true := by rw [hk]; rfl
    have e3 : (x.k == 3) = false := by rw [hk]; rfl
    have n3 : (x.k != 3) = true := by rw [hk]; rfl
    have e4 : (x.k == 4) = true := by rw [hk]; rfl
    have n4 : (x.k != 4) = false := by rw [hk]; rfl
    have HK := hide hk
    clear hk
    cases hem : emptyB x.s
    · have hs2 : (x.s.toList != []) = true := by show (!(emptyB x.s)) = true; rw [hem]; rfl
      have hs3 : (x.s.toList == []) = false := hem
      have HE := hide hem
      clear hem
      go_enter Tryz.func53, Tryz.ntmps53
      go_wp2
      go_ret
      exact ⟨ret_int (wr_bad (by rw [HT.out, HE.out]; rfl)).symm, HB0.out⟩
    have hs2 : (x.s.toList != []) = false := by show (!(emptyB x.s)) = false; rw [hem]; rfl
    have hs3 : (x.s.toList == []) = true := hem
    have HE := hide hem
    clear hem
    by_cases hl : x.l.length = 2
    case neg =>
      have h2 : (x.l.length == 2) = false := by simpa using hl
      have h3 : ((x.l.length : Int) == 2) = false := by
        rw [beq_eq_false_iff_ne]
        omega
      have HL := hide hl
      clear hl
      go_enter Tryz.func53, Tryz.ntmps53
      go_wp2
      go_ret
      exact ⟨ret_int (wr_bad (by rw [HT.out, decide_eq_false HL.out, Bool.and_false])).symm, HB0.out⟩
    exact written_fun IH.out x w d hd0 hd7 o c HRW.out (by show tyHere x d = true; rw [HT.out, HE.out, decide_eq_true hl]; rfl) HK.out HN.out HE.out hl (by omega)
  by_cases hk3 : x.k = 3
  · have hk := hk3
    clear hk3
    have HT := hide (tyh_3 (d := d) (by omega) HN.out hk)
    have e1 : (x.k == 1) = false := by rw [hk]; rfl
    have n1 : (x.k != 1) = true := by rw [hk]; rfl
    have e2 : (x.k == 2) = false := by rw [hk]; rfl
    have n2 : (x.k != 2) = true := by rw [hk]; rfl
    have e3 : (x.k == 3) = true := by rw [hk]; rfl
    have n3 : (x.k != 3) = false := by rw [hk]; rfl
    have e4 : (x.k == 4) = false := by rw [hk]; rfl
    have n4 : (x.k != 4) = true := by rw [hk]; rfl
    have HK := hide hk
    clear hk
    by_cases hl : x.l.length = 0
    case neg =>
      have h2 : decide (0 < x.l.length) = true := decide_eq_true (by omega)
      have h3 : decide ((0 : Int) < x.l.length) = true := decide_eq_true (by omega)
      have hpos : 0 < x.l.length := by omega
      have HL := hide hl
      clear hl
      go_enter Tryz.func53, Tryz.ntmps53
      go_wp2
      go_ret
      exact ⟨ret_int (wr_bad (by rw [HT.out, decide_eq_false HL.out, Bool.and_false])).symm, HB0.out⟩
    have h2 : decide (0 < x.l.length) = false := decide_eq_false (by omega)
    have h3 : decide ((0 : Int) < x.l.length) = false := decide_eq_false (by omega)
    have hpos : ¬ 0 < x.l.length := by omega
    have HL := hide hl
    clear hl
    cases hg : grB x.s
    · have HG : Hid (greatB x.s.data.toList = false) := hg
      have HG2 := hide hg
      clear hg
      go_enter Tryz.func53, Tryz.ntmps53
      go_wp2_with fail
      refine (specGreat_any _ _ HS.out).mono ?_
      rintro e w1 ⟨rfl, hb⟩
      rw [HG.out]
      have HB1 : Hid (Below w.heap.size w w1) := by rw [hb]; exact HB0.out
      clear hb
      go_wp2
      go_ret
      exact ⟨ret_int (wr_bad (by rw [HT.out, tyNm, HG2.out]; rfl)).symm, HB1.out⟩
    have HG : Hid (greatB x.s.data.toList = true) := hg
    have HG2 := hide hg
    clear hg
    cases ha : (x.s.toList == [73, 110, 116])
    · have ha2 : (x.s.toList != [73, 110, 116]) = true := by show (!(x.s.toList == [73, 110, 116])) = true; rw [ha]; rfl
      have HA := hide ha
      cases hbo : (x.s.toList == [66, 111, 111, 108])
      all_goals
        have HBO := hide hbo
        have hb2 : (x.s.toList != [66, 111, 111, 108]) = !(x.s.toList == [66, 111, 111, 108]) := rfl
        rw [hbo] at hb2
        simp only [Bool.not_false, Bool.not_true] at hb2
        go_enter Tryz.func53, Tryz.ntmps53
        go_wp2_with fail
        refine (specGreat_any _ _ HS.out).mono ?_
        rintro e w1 ⟨rfl, hb⟩
        rw [HG.out, hb]
        clear hb
        go_wp2
        go_ret
      · exact ⟨ret_int (wr_leaf (by rw [HT.out, tyNm, HG2.out, givenT, HA.out, HBO.out, decide_eq_true HL.out]; rfl) HL.out).symm, HB0.out⟩
      · exact ⟨ret_int (wr_bad (by rw [HT.out, tyNm, HG2.out, givenT, HA.out, HBO.out]; rfl)).symm, HB0.out⟩
    · have ha2 : (x.s.toList != [73, 110, 116]) = false := by show (!(x.s.toList == [73, 110, 116])) = false; rw [ha]; rfl
      have HA := hide ha
      go_enter Tryz.func53, Tryz.ntmps53
      go_wp2_with fail
      refine (specGreat_any _ _ HS.out).mono ?_
      rintro e w1 ⟨rfl, hb⟩
      rw [HG.out, hb]
      clear hb
      go_wp2
      go_ret
      exact ⟨ret_int (wr_bad (by rw [HT.out, tyNm, HG2.out, givenT, HA.out]; rfl)).symm, HB0.out⟩
  have n3 : (x.k != 3) = true := by simpa using hk3
  have e3 : (x.k == 3) = false := by simpa using hk3
  have n4 : (x.k != 4) = true := by simpa using hk
  have e4 : (x.k == 4) = false := by simpa using hk
  by_cases hk12 : x.k = 1 ∨ x.k = 2
  · have HT := hide (tyh_12 (d := d) (by omega) HN.out hk12)
    have hk1 : (x.k == 1) = true ∨ ((x.k == 1) = false ∧ (x.k == 2) = true) := by
      rcases hk12 with h | h
      · exact Or.inl (by rw [h]; rfl)
      · exact Or.inr ⟨by rw [h]; rfl, by rw [h]; rfl⟩
    clear hk hk3 hk12
    cases hem : emptyB x.s
    · have hs2 : (x.s.toList != []) = true := by show (!(emptyB x.s)) = true; rw [hem]; rfl
      have hs3 : (x.s.toList == []) = false := hem
      have HE := hide hem
      clear hem
      go_enter Tryz.func53, Tryz.ntmps53
      go_wp2
      go_ret
      exact ⟨ret_int (wr_bad (by rw [HT.out, HE.out]; rfl)).symm, HB0.out⟩
    have hs2 : (x.s.toList != []) = false := by show (!(emptyB x.s)) = false; rw [hem]; rfl
    have hs3 : (x.s.toList == []) = true := hem
    have HE := hide hem
    clear hem
    by_cases hl : x.l.length = 0
    case neg =>
      have h2 : decide (0 < x.l.length) = true := decide_eq_true (by omega)
      have h3 : decide ((0 : Int) < x.l.length) = true := decide_eq_true (by omega)
      have hpos : 0 < x.l.length := by omega
      have HL := hide hl
      clear hl
      go_enter Tryz.func53, Tryz.ntmps53
      go_wp2
      go_ret
      exact ⟨ret_int (wr_bad (by rw [HT.out, decide_eq_false HL.out, Bool.and_false])).symm, HB0.out⟩
    have h2 : decide (0 < x.l.length) = false := decide_eq_false (by omega)
    have h3 : decide ((0 : Int) < x.l.length) = false := decide_eq_false (by omega)
    have hpos : ¬ 0 < x.l.length := by omega
    have HL := hide hl
    clear hl
    rcases hk1 with e1 | ⟨e1, e2⟩
    all_goals
      go_enter Tryz.func53, Tryz.ntmps53
      go_wp2
      go_ret
      exact ⟨ret_int (wr_leaf (by rw [HT.out, HE.out, decide_eq_true HL.out]; rfl) HL.out).symm, HB0.out⟩
  have HT := hide (tyh_no (t := x) (d := d) (by omega))
  have e1 : (x.k == 1) = false := by rw [beq_eq_false_iff_ne]; omega
  have e2 : (x.k == 2) = false := by rw [beq_eq_false_iff_ne]; omega
  clear hk hk3 hk12
  cases hem : emptyB x.s
  · have hs2 : (x.s.toList != []) = true := by show (!(emptyB x.s)) = true; rw [hem]; rfl
    have hs3 : (x.s.toList == []) = false := hem
    have HE := hide hem
    clear hem
    go_enter Tryz.func53, Tryz.ntmps53
    go_wp2
    go_ret
    exact ⟨ret_int (wr_bad (HT.out)).symm, HB0.out⟩
  have hs2 : (x.s.toList != []) = false := by show (!(emptyB x.s)) = false; rw [hem]; rfl
  have hs3 : (x.s.toList == []) = true := hem
  have HE := hide hem
  clear hem
  by_cases hl : x.l.length = 0
  case neg =>
    have h2 : decide (0 < x.l.length) = true := decide_eq_true (by omega)
    have h3 : decide ((0 : Int) < x.l.length) = true := decide_eq_true (by omega)
    have hpos : 0 < x.l.length := by omega
    have HL := hide hl
    clear hl
    go_enter Tryz.func53, Tryz.ntmps53
    go_wp2
    go_ret
    exact ⟨ret_int (wr_bad (HT.out)).symm, HB0.out⟩
  have h2 : decide (0 < x.l.length) = false := decide_eq_false (by omega)
  have h3 : decide ((0 : Int) < x.l.length) = false := decide_eq_false (by omega)
  have hpos : ¬ 0 < x.l.length := by omega
  have HL := hide hl
  clear hl
  go_enter Tryz.func53, Tryz.ntmps53
  go_wp2
  go_ret
  exact ⟨ret_int (wr_bad (HT.out)).symm, HB0.out⟩

theorem written_all (h : Nat) : CoTy h := by
  induction h with
  | zero => exact fun _ _ _ _ _ _ _ hr => hr.elim
  | succ h ih => exact written_step ih
end Go.Proofs.YtlaeenfeajkcfalGreat
namespace Go.Proofs.YtlaeenfeajkcfalGreat
open Go.ChangeShapes Go.WideShapes Go.ChangeAt Go.RowKit

/-- The makers' names, all in their order. -/
def consL (ds : List Tr) : List ByteArray := ds.flatMap fun d => d.l.map Tr.s
def cntS (l : List ByteArray) (s : ByteArray) : Nat := l.countP fun t => t.toList == s.toList
theorem cntS_le (l : List ByteArray) (s : ByteArray) : cntS l s ≤ l.length := List.countP_le_length
theorem cntS_app (a b : List ByteArray) (s : ByteArray) : cntS (a ++ b) s = cntS a s + cntS b s := List.countP_append
theorem cntS_one (t s : ByteArray) : cntS [t] s = cond (t.toList == s.toList) 1 0 := by
  unfold cntS
  rw [List.countP_cons]
  cases (t.toList == s.toList) <;> rfl
theorem consL_take {ds : List Tr} {i : Nat} {d : Tr} (h : ds[i]? = some d) : consL (ds.take (i + 1)) = consL (ds.take i) ++ d.l.map Tr.s := by
  unfold consL
  rw [List.take_add_one, h, List.flatMap_append]
  simp
theorem names_take {l : List Tr} {i : Nat} {d : Tr} (h : l[i]? = some d) : (l.take (i + 1)).map Tr.s = (l.take i).map Tr.s ++ [d.s] := by
  rw [List.take_add_one, h, List.map_append]
  rfl
theorem consL_len {ds : List Tr} {i : Nat} {d : Tr} (h : ds[i]? = some d) : (consL (ds.take i)).length + d.l.length ≤ (consL ds).length := by
  have h1 : ds = ds.take (i + 1) ++ ds.drop (i + 1) := (List.take_append_drop _ _).symm
  have h2 : consL ds = consL (ds.take (i + 1)) ++ consL (ds.drop (i + 1)) := by
    conv => lhs; rw [h1]
    unfold consL
    rw [List.flatMap_append]
  rw [h2, consL_take h, List.length_append, List.length_append, List.length_map]
  omega

set_option maxHeartbeats 1000000 in
set_option maxRecDepth 100000 in
theorem times_any {K : Nat → Prop} {w : World} {h : Nat} {x : Tr} {cs : List Value} (s : ByteArray) (hr : prR K w h x cs) (hN : (consL x.l).length ≤ 1048576) :
    Calls Tryz.prog 52 #[.agg cs.toArray, .string s] w fun e w' => e = .returned (.int .i64 ((cntS (consL x.l) s : Nat) : Int)) ∧ Below w.heap.size w w' := by
  obtain ⟨-, -, -, -, -, o1, c1, o2, c2, rfl, hl, hd, q1, q2⟩ := hr
  have HB0 : Hid (Below w.heap.size w (w.alloc (.cells #[.slice o1 x.l.length c1, .slice o2 x.ds.length c2] 31))) := (Below.refl _ w).alloc (Nat.le_refl _) _
  have HQ := hide (q1.later HB0.out (daR_later HB0.out h))
  have hl2 : x.l.length ≤ 9223372036854775807 := hl.1
  have HN := hide hN
  clear hl hd q1 q2 hN
  go_enter Tryz.func52, Tryz.ntmps52
  go_wp2
  go_loop [5, 6] (fun t5 t6 => ∃ i : Nat, i ≤ x.l.length ∧ t6 = .int .i64 i ∧ t5 = .int .i64 ((cntS (consL (x.l.take i)) s : Nat) : Int)) (fun _ t6 => x.l.length - (intOf t6).toNat)
  case atStart => exact ⟨0, Nat.zero_le _, rfl, rfl⟩
  case round =>
    obtain ⟨i, hi, rfl, rfl⟩ := hrel
    by_cases hlt : i < x.l.length
    · have hne : x.l ≠ [] := by intro e; rw [e] at hlt; simp at hlt
      obtain ⟨d, hx⟩ : ∃ d, x.l[i]? = some d := ⟨x.l[i], List.getElem?_eq_getElem hlt⟩
      obtain ⟨b, off, eo, -, hbl, hcs⟩ := HQ.out hne
      subst eo
      obtain ⟨cs, hlen, hkey, hrd⟩ := hcs i d hx
      obtain ⟨-, -, -, -, -, od, cd, rfl, -, hfd, hrd⟩ := hrd
      have z0 := hkey 0 _ rfl
      have z1 := hkey 1 _ rfl
      rw [Nat.add_zero] at z0
      have HX := hide hx
      have HRD := hide hrd
      have hd2 : d.l.length ≤ 9223372036854775807 := hfd.1
      have hcn : cntS (consL (x.l.take i)) s ≤ (consL (x.l.take i)).length := cntS_le _ _
      have hln := consL_len hx
      have hNN : (consL x.l).length ≤ 1048576 := HN.out
      generalize hn : cntS (consL (x.l.take i)) s = n at hcn
      have HNE := hide hn
      clear hcs hx hne hkey hlen hrd hfd hn
      have hlt2 : (i : Int) < x.l.length := by omega
      go_wp2
      go_loop [5, 7] (fun t5 t7 => ∃ k : Nat, k ≤ d.l.length ∧ t7 = .int .i64 k ∧ t5 = .int .i64 ((n + cntS ((d.l.take k).map Tr.s) s : Nat) : Int)) (fun _ t7 => d.l.length - (intOf t7).toNat)
      case atStart => exact ⟨0, Nat.zero_le _, rfl, rfl⟩
      case round =>
        obtain ⟨k, hk, rfl, rfl⟩ := hrel
        have hcn2 : cntS ((d.l.take k).map Tr.s) s ≤ k := by
          have := cntS_le ((d.l.take k).map Tr.s) s
          rw [List.length_map, List.length_take] at this
          omega
        generalize hm : cntS ((d.l.take k).map Tr.s) s = m at hcn2
        have HME := hide hm
        clear hm
        by_cases hlk : k < d.l.length
        · have hne : d.l ≠ [] := by intro e; rw [e] at hlk; simp at hlk
          obtain ⟨c, hx⟩ : ∃ c, d.l[k]? = some c := ⟨d.l[k], List.getElem?_eq_getElem hlk⟩
          obtain ⟨b2, off2, eo, -, hbl2, hcs⟩ := HRD.out hne
          subst eo
          obtain ⟨cs, hlen, hkey, hrd⟩ := hcs k c hx
          obtain ⟨-, -, -, -, -, oc, cc, rfl, -, -, -⟩ := hrd
          have y0 := hkey 0 _ rfl
          rw [Nat.add_zero] at y0
          have HC := hide hx
          clear hcs hx hne hkey hlen
          have hlk2 : (k : Int) < d.l.length := by omega
          cases heq : (c.s.toList == s.toList)
          · have HEQ := hide heq
            go_wp2
            go_round
            case rel =>
              refine ⟨k + 1, by omega, by go_num, ?_⟩
              rw [names_take HC.out, cntS_app, cntS_one, HEQ.out, HME.out]
              rfl
            case measure => simp [intOf]; omega
          · have HEQ := hide heq
            go_wp2
            go_round
            case rel =>
              refine ⟨k + 1, by omega, by go_num, ?_⟩
              rw [names_take HC.out, cntS_app, cntS_one, HEQ.out, HME.out]
              go_num
            case measure => simp [intOf]; omega
        · go_wp2
          go_round
          case rel =>
            refine ⟨i + 1, by omega, by go_num, ?_⟩
            rw [consL_take HX.out, cntS_app, HNE.out, ← HME.out, List.take_of_length_le (by omega)]
          case measure => simp [intOf]; omega
    · go_wp2
      go_ret
      refine ⟨ret_int ?_, HB0.out⟩
      rw [List.take_of_length_le (by omega)]
end Go.Proofs.YtlaeenfeajkcfalGreat
