import Derived.Test.YtfomndilhlgikajGreatDoorP18
set_option maxHeartbeats 8000000
set_option maxRecDepth 100000
namespace Go.Proofs.YtfomndilhlgikajGreatDoor.Rd
open Go.ChangeShapes Go.WideShapes Go.ChangeAt Go.RowKit
theorem Ed {a b : ByteArray} (h : a.toList = b.toList) : a = b := by
 rw [ByteArray.toList_eq, ByteArray.toList_eq] at h
 obtain ⟨a⟩ := a
 obtain ⟨b⟩ := b
 exact congrArg ByteArray.mk (Array.toList_inj.1 h)
theorem xZ {t : TokZ} {q : List TokZ} (ops : List ByteArray) : cn ops t.s = ops.any (cg (t :: q)) := by
 unfold cn
 induction ops with
 | nil => rfl
 | cons x r ih =>
  rw [List.any_cons, List.any_cons, ih]
  congr 1
  by_cases e : t.s = x
  ·subst e; simp [cg]
  ·have h1 : cg (t :: q) x = false := by simpa [cg] using e
   rw [h1]
   simp
   intro h
   exact e (Ed h).symm
section
variable {b g d : Nat} {w : World} {ts : List TokZ}
theorem gS {K : Nat -> Prop} (ops : List ByteArray) (o : Option Addr) (n c : Nat) (hn : ops.length = n) (hl : ops.length <= 100) (hm : RowOf K w fy 1 o ops) (h : Ir b g w d ts) : Calls Tryz.prog 188 #[.pointer (some ⟨b, 0, none⟩), .slice o n c] w fun e w' => e = .returned (.bool (ops.any (cg ts))) /\ w' = w := by
 obtain ⟨off, cap, t, q, rfl, h0, ⟨t0, t1, t2, t3⟩, -, uU, iT, hc, aC⟩ := h.head
 have x0 := cell_of h0 0
 simp only [List.getElem?_toArray, List.getElem?_cons_zero] at x0
 have au := h.lt
 have HC := aa (mG ops n hn o c t.s w (by unfold maxLen; omega) hm)
 rw [<- xZ]
 clear h h0 t0 t2 t3 aC hm
 go_enter Tryz.func188, Tryz.ntmps188
 go_wp2_with fail
 refine HC.out.mono ?_
 rintro e w1 ⟨rfl, rfl⟩
 go_wp2
 go_ret
 exact ⟨rfl, rfl⟩
theorem pP (w : World) (s : ByteArray) (hs : s.size <= 1500) : RowOf (fun _ => True) (w.alloc (.cells #[.string s] 9)) fy 1 (some ⟨w.heap.size, 0, none⟩) [s] := by
 obtain ⟨bs, h1, -⟩ := StrT.lit1 (w := w.alloc (.cells #[.string s] 9)) (s := 0) (u2 := w.heap.size + 1) (g := w.heap.size) (t := s) (by unfold maxLen; omega) (heap_alloc_new w _) (Nat.zero_le _) (Nat.lt_succ_self _)
 obtain ⟨o, cap, e1, -, e2⟩ := h1.rowOf (K := fun _ => True) (R' := fy) (fun _ _ => trivial) (fun _ _ _ _ h => ⟨h.1, h.2.1⟩)
 simp only [Value.slice.injEq] at e1
 rw [e1.1]
 exact e2
theorem el (s : ByteArray) (hs : s.size <= 1500) (hn : s ≠ ⟨#[]⟩) (h : Ir b g w d ts) : Calls Tryz.prog 138 #[.pointer (some ⟨b, 0, none⟩), .string s] w fun e w' => ((cg ts s = true /\ e = .returned (.bool true) /\ Ir b g w' d ts.tail) \/ (cg ts s = false /\ e = .returned (.bool false) /\ Ir b g w' d ts)) /\ Mv b w w' := by
 have au := h.lt
 have HB : Hid (Below w.heap.size w (w.alloc (.cells #[.string s] 9))) := (U4 w).alloc U0 _
 have H0 := aa (h.below HB.out)
 have HR := aa (pP w s hs)
 have dr := aa h.ends
 clear h
 go_enter Tryz.func138, Tryz.ntmps138
 go_wp2_with fail
 refine (gS [s] _ 1 1 rfl (by simp) HR.out H0.out).mono ?_
 rintro e w1 ⟨rfl, rfl⟩
 rw [show [s].any (cg ts) = cg ts s by simp]
 cases hi : cg ts s with
 | false =>
  have HI := aa hi
  clear hi
  go_wp2
  go_ret
  exact ⟨.inr ⟨HI.out, rfl, H0.out⟩, Mv.of HB.out⟩
 | true =>
  obtain ⟨t, q, rfl, e⟩ := fl hi
  have hq : Ends q := dr.out.next (.inr (by rw [e]; exact hn))
  have HQ := aa hq
  have HI := aa hi
  clear hi e hq
  go_wp2_with fail
  refine (eN H0.out HQ.out).mono ?_
  rintro e w2 ⟨rfl, h2, m2⟩
  have H2 := aa h2
  have M2 := aa ((Mv.of HB.out).trans m2)
  clear h2 m2
  go_wp2
  go_ret
  exact ⟨.inl ⟨HI.out, rfl, H2.out⟩, M2.out⟩
theorem cN (s : ByteArray) (hs : s.size <= 1500) (hn : s ≠ ⟨#[]⟩) (h : Ir b g w d ts) : Calls Tryz.prog 99 #[.pointer (some ⟨b, 0, none⟩), .string s] w fun e w' => ((∃ q, ar s ts = some q /\ e = .returned (.tuple #[]) /\ Ir b g w' d q) \/ (ar s ts = none /\ e = ey)) /\ Mv b w w' := by
 have HC := aa (el s hs hn h)
 have au := h.lt
 clear h
 go_enter Tryz.func99, Tryz.ntmps99
 go_wp2_with fail
 refine HC.out.mono ?_
 rintro e w1 ⟨⟨hi, rfl, h1⟩ | ⟨hi, rfl, h1⟩, m1⟩
 ·have H1 := aa h1
  have M1 := aa m1
  have HI : Hid (ar s ts = some ts.tail) := by rw [ar, if_pos hi]; exact rfl
  clear h1 m1 hi
  go_wp2_with fail
  refine (dt b w1).mono ?_
  rintro e w2 ⟨rfl, rfl⟩
  go_wp2
  go_end0
  exact ⟨.inl ⟨_, HI.out, rfl, H1.out⟩, M1.out⟩
 ·have M1 := aa m1
  have HI : Hid (ar s ts = none) := by rw [ar, if_neg (by rw [hi]; decide)]; exact rfl
  clear h1 m1 hi
  go_wp2_with fail
  refine (cX b w1).mono ?_
  rintro e w2 ⟨rfl, rfl⟩
  unfold ey
  go_wp2
  exact ⟨rfl, .inr ⟨HI.out, rfl⟩, M1.out⟩
theorem yX (k : Int) (hk : k ≠ 6) (h : Ir b g w d ts) : Calls Tryz.prog 84 #[.pointer (some ⟨b, 0, none⟩), .int .i64 k] w fun e w' => ((∃ p, eZ k ts = some p /\ e = .returned (.string p.1) /\ Ir b g w' d p.2) \/ (eZ k ts = none /\ e = ey)) /\ Mv b w w' := by
 have H := aa h
 have au := h.lt
 have dr := aa h.ends
 clear h
 go_enter Tryz.func84, Tryz.ntmps84
 go_wp2_with fail
 refine (bL k H.out).mono ?_
 rintro e w1 ⟨rfl, rfl⟩
 cases hi : isK ts k with
 | false =>
  have HI : Hid (eZ k ts = none) := by rw [eZ, if_neg (by rw [hi]; decide)]; exact rfl
  clear hi
  go_wp2_with fail
  refine (cX b _).mono ?_
  rintro e w2 ⟨rfl, rfl⟩
  unfold ey
  go_wp2
  exact ⟨rfl, .inr ⟨HI.out, rfl⟩, Mv.refl _ _⟩
 | true =>
  obtain ⟨t, q, rfl, e⟩ := mO hi
  have HQ := aa (dr.out.next (.inl (by rw [e]; exact hk)))
  have HI : Hid (eZ k (t :: q) = some (t.s, q)) := by rw [eZ, if_pos hi]; exact rfl
  clear hi e
  go_wp2_with fail
  refine (dt b _).mono ?_
  rintro e w2 ⟨rfl, rfl⟩
  go_wp2_with fail
  refine (eN H.out HQ.out).mono ?_
  rintro e w3 ⟨rfl, h3, m3⟩
  have H3 := aa h3
  have M3 := aa m3
  clear h3 m3
  go_wp2
  go_ret
  exact ⟨.inl ⟨_, HI.out, rfl, H3.out⟩, M3.out⟩
theorem pO (h : Ir b g w d ts) : Calls Tryz.prog 252 #[.pointer (some ⟨b, 0, none⟩)] w fun e w' => e = .returned (.bool (gn ts)) /\ Ir b g w' d ts /\ Mv b w w' := by
 have H := aa h
 have au := h.lt
 have HB : Hid (Below w.heap.size w (w.alloc (.cells #[.string sNo] 9))) := (U4 w).alloc U0 _
 have H0 := aa (h.below HB.out)
 have HR := aa (pP w sNo (by decide))
 have HC := aa (bL 1 h)
 clear h
 have e9 : gn ts = (isK ts 1 || cg ts sNo) := rfl
 rw [e9]
 cases hk : isK ts 1 with
 | true =>
  rw [hk] at HC
  clear hk e9
  go_enter Tryz.func252, Tryz.ntmps252
  go_wp2_with fail
  refine HC.out.mono ?_
  rintro e w1 ⟨rfl, rfl⟩
  go_wp2
  go_ret
  exact ⟨rfl, H.out, Mv.refl _ _⟩
 | false =>
  rw [hk] at HC
  clear hk e9
  go_enter Tryz.func252, Tryz.ntmps252
  go_wp2_with fail
  refine HC.out.mono ?_
  rintro e w1 ⟨rfl, rfl⟩
  go_wp2_with fail
  refine (gS [sNo] _ 1 1 rfl (by simp) HR.out H0.out).mono ?_
  rintro e w2 ⟨rfl, rfl⟩
  go_wp2
  go_ret
  exact ⟨ah (by simp), H0.out, Mv.of HB.out⟩
theorem pU (h : Ir b g w d ts) : Calls Tryz.prog 253 #[.pointer (some ⟨b, 0, none⟩)] w fun e w' => ((∃ p, eq ts = some p /\ e = .returned (.string p.1) /\ Ir b g w' d p.2) \/ (eq ts = none /\ e = ey)) /\ Mv b w w' := by
 have HC := aa (pO h)
 have au := h.lt
 have dr := aa h.ends
 clear h
 go_enter Tryz.func253, Tryz.ntmps253
 go_wp2_with fail
 refine HC.out.mono ?_
 rintro e w1 ⟨rfl, h1, m1⟩
 have H1 := aa h1
 have M1 := aa m1
 clear h1 m1
 cases hi : gn ts with
 | false =>
  have HI : Hid (eq ts = none) := by rw [eq, if_neg (by rw [hi]; decide)]; exact rfl
  clear hi
  go_wp2_with fail
  refine (cX b w1).mono ?_
  rintro e w2 ⟨rfl, rfl⟩
  unfold ey
  go_wp2
  exact ⟨rfl, .inr ⟨HI.out, rfl⟩, M1.out⟩
 | true =>
  obtain ⟨t, q, rfl⟩ := dr.out.form
  have HQ := aa (kD hi dr.out).1
  have HI : Hid (eq (t :: q) = some (t.s, q)) := by rw [eq, if_pos hi]; exact rfl
  clear hi
  go_wp2_with fail
  refine (dt b w1).mono ?_
  rintro e w2 ⟨rfl, rfl⟩
  go_wp2_with fail
  refine (eN H1.out HQ.out).mono ?_
  rintro e w3 ⟨rfl, h3, m3⟩
  have H3 := aa h3
  have M3 := aa (M1.out.trans m3)
  clear h3 m3
  go_wp2
  go_ret
  exact ⟨.inl ⟨_, HI.out, rfl, H3.out⟩, M3.out⟩
end
structure Arr where
 o : Option Addr
 g : Nat
 cap : Nat
 all : List TokZ
def Sr (A : Arr) (b : Nat) (w : World) (d : Nat) (ts : List TokZ) : Prop :=
 ∃ p : Nat, w.heap[b]? = some (.cells #[.slice A.o A.all.length A.cap, .int .i64 p, .int .i64 d, .bool false] 62 (0, 0)) /\ A.all.drop p = ts /\ fq w A.o A.g 0 A.all /\ A.g ≠ b /\ A.all.length <= 2000 /\ Ends ts
def Sb (b : Nat) (w : World) : Prop := ∃ (o : Option Addr) (n cap : Nat) (p d : Int), w.heap[b]? = some (.cells #[.slice o n cap, .int .i64 p, .int .i64 d, .bool true] 62 (0, 0))
def St (A : Arr) (b : Nat) (w : World) (d : Nat) : Option (List TokZ) -> Prop
 | some ts => Sr A b w d ts
 | none => Sb b w
theorem Sr.lt {A : Arr} {b : Nat} {w : World} {d : Nat} {ts : List TokZ} (h : Sr A b w d ts) : b < w.heap.size := by
 obtain ⟨p, h, -⟩ := h
 exact ad h
theorem Sb.lt {b : Nat} {w : World} (h : Sb b w) : b < w.heap.size := by
 obtain ⟨o, n, cap, p, d, h⟩ := h
 exact ad h
theorem St.lt {A : Arr} {b : Nat} {w : World} {d : Nat} {r : Option (List TokZ)} (h : St A b w d r) : b < w.heap.size := by
 cases r with
 | none => exact Sb.lt h
 | some ts => exact Sr.lt h
theorem Sr.below {A : Arr} {b : Nat} {w w' : World} {d : Nat} {ts : List TokZ} (h : Sr A b w d ts) (hb : Below w.heap.size w w') : Sr A b w' d ts := by
 have au := h.lt
 obtain ⟨p, h0, h1, h2, h3⟩ := h
 exact ⟨p, (hb.block b au).trans h0, h1, dy h2 hb, h3⟩
theorem Sb.below {b : Nat} {w w' : World} (h : Sb b w) (hb : Below w.heap.size w w') : Sb b w' := by
 have au := h.lt
 obtain ⟨o, n, cap, p, d, h0⟩ := h
 exact ⟨o, n, cap, p, d, (hb.block b au).trans h0⟩
theorem St.below {A : Arr} {b : Nat} {w w' : World} {d : Nat} {r : Option (List TokZ)} (h : St A b w d r) (hb : Below w.heap.size w w') : St A b w' d r := by
 cases r with
 | none => exact Sb.below h hb
 | some ts => exact Sr.below h hb
theorem St.alloc {A : Arr} {b : Nat} {w : World} {d : Nat} {r : Option (List TokZ)} (h : St A b w d r) (o : Obj) : St A b (w.alloc o) d r := h.below ((U4 w).alloc U0 _)
theorem JL (x : ByteArray) : (x != x) = false := by
 obtain ⟨x⟩ := x
 show (!(x == x)) = false
 simp
theorem He {a b : ByteArray} (h : a.toList = b.toList) : a = b := by
 rw [ByteArray.toList_eq, ByteArray.toList_eq] at h
 obtain ⟨a⟩ := a
 obtain ⟨b⟩ := b
 exact congrArg ByteArray.mk (Array.toList_inj.1 h)
theorem wC {x y : ByteArray} (h : ¬ x = y) : (x.toList == y.toList) = false := by
 simp
 intro e
 exact h (He e)
theorem br (w : World) (m : Nat) : Below w.heap.size w (w.drewN m) := by
 exact ⟨rfl, rfl, rfl, Nat.le_refl _, fun _ _ => rfl⟩
theorem Sr.head {A : Arr} {b : Nat} {w : World} {d : Nat} {ts : List TokZ} (h : Sr A b w d ts) : ∃ (p : Nat) (t : TokZ) (r : List TokZ), ts = t :: r /\ w.heap[b]? = some (.cells #[.slice A.o A.all.length A.cap, .int .i64 p, .int .i64 d, .bool false] 62 (0, 0)) /\ A.o = some ⟨A.g, 0, none⟩ /\ p < A.all.length /\ A.all.length <= 2000 /\ pF w A.g (p * 4) t /\ A.all.drop (p + 1) = r /\ fq w A.o A.g 0 A.all /\ A.g ≠ b /\ Ends (t :: r) := by
 obtain ⟨p, h0, h1, h2, h3, h4, h5⟩ := h
 obtain ⟨t, r, rfl⟩ := h5.form
 have hp : p < A.all.length := by
  rcases Nat.lt_or_ge p A.all.length with h | h
  ·exact h
  ·rw [List.drop_eq_nil_of_le h] at h1; cases h1
 have hg : A.all[p]? = some t := by
  have := congrArg List.head? h1
  rw [List.head?_drop] at this
  exact this
 have hd : A.all.drop (p + 1) = r := by
  have := congrArg List.tail h1
  rw [List.tail_drop] at this
  exact this
 obtain ⟨e1, e2, e3⟩ := h2 (fun e => by rw [e] at hp; simp at hp)
 have e4 := e3 p t hg
 rw [Nat.zero_add] at e4
 exact ⟨p, t, r, rfl, h0, e1, hp, h4, e4, hd, h2, h3, h5⟩
theorem Sr.step {A : Arr} {b : Nat} {w : World} {d p : Nat} {r : List TokZ} (h0 : w.heap[b]? = some (.cells #[.slice A.o A.all.length A.cap, .int .i64 p, .int .i64 d, .bool false] 62 (0, 0))) (hd : A.all.drop (p + 1) = r) (h2 : fq w A.o A.g 0 A.all) (h3 : A.g ≠ b) (h4 : A.all.length <= 2000) (h5 : Ends r) : Sr A b (w.setCell ⟨b, 1, none⟩ (.int .i64 ((p : Int) + 1))) d r := by
 refine ⟨p + 1, ?_, hd, cw h2 (by simp) fun _ => az _ h3, h3, h4, h5⟩
 have h9 := ae (j := 1) (Value.int .i64 ((p : Int) + 1)) h0
 simpa using h9
theorem Sb.set {b : Nat} {w : World} {d p : Int} {o : Option Addr} {n cap : Nat} {x : Bool} (h0 : w.heap[b]? = some (.cells #[.slice o n cap, .int .i64 p, .int .i64 d, .bool x] 62 (0, 0))) : Sb b (w.setCell ⟨b, 3, none⟩ (.bool true)) := by
 have h9 := ae (j := 3) (Value.bool true) h0
 exact ⟨o, n, cap, p, d, by simpa using h9⟩
theorem Sb.step {b : Nat} {w : World} {d p q : Int} {o : Option Addr} {n cap : Nat} (h0 : w.heap[b]? = some (.cells #[.slice o n cap, .int .i64 p, .int .i64 d, .bool true] 62 (0, 0))) : Sb b (w.setCell ⟨b, 1, none⟩ (.int .i64 q)) := by
 have h9 := ae (j := 1) (Value.int .i64 q) h0
 exact ⟨o, n, cap, q, d, by simpa using h9⟩
theorem Sb.deep {b : Nat} {w : World} {d p q : Int} {o : Option Addr} {n cap : Nat} (h0 : w.heap[b]? = some (.cells #[.slice o n cap, .int .i64 p, .int .i64 d, .bool true] 62 (0, 0))) : Sb b (w.setCell ⟨b, 2, none⟩ (.int .i64 q)) := by
 have h9 := ae (j := 2) (Value.int .i64 q) h0
 exact ⟨o, n, cap, p, q, by simpa using h9⟩
section
variable {A : Arr} {b d : Nat} {w : World} {ts : List TokZ}
theorem nL (k : Int) (h : Sr A b w d ts) : Calls Tryz.prog 77 #[.pointer (some ⟨b, 0, none⟩), .int .i64 k] w fun e w' => e = .returned (.bool (isK ts k)) /\ ∃ m, w' = w.drewN m := by
 obtain ⟨p, t, r, rfl, h0, ho, hp, hl, ⟨t0, t1, t2, t3⟩, hd, h2, h3, h5⟩ := h.head
 have au := h.lt
 have Kg : (p : Int) < A.all.length := by omega
 have x0 := cell_of h0 0
 have x1 := cell_of h0 1
 have x3 := cell_of h0 3
 simp only [U7, U8, U9] at x0 x1 x3
 rw [ho] at x0
 generalize A.all.length = N at *
 generalize A.g = g at *
 clear h h0 ho h2 h3 h5 hd t1 t2 t3
 cases hk : isK (t :: r) k with
 | true =>
  have e : t.k = k := by simpa [isK] using hk
  subst e
  go_enter Tryz.func77, Tryz.ntmps77
  go_wp2
  go_quiet (fail)
  go_wp2
  go_ret
  exact ⟨rfl, _, rfl⟩
 | false =>
  have e : (t.k == k) = false := by simpa [isK] using hk
  go_enter Tryz.func77, Tryz.ntmps77
  go_wp2
  go_quiet (fail)
  go_wp2
  go_ret
  exact ⟨rfl, _, rfl⟩
theorem oM (k : Int) (h : Sb b w) : Calls Tryz.prog 77 #[.pointer (some ⟨b, 0, none⟩), .int .i64 k] w fun e w' => e = .returned (.bool false) /\ ∃ m, w' = w.drewN m := by
 have au := h.lt
 obtain ⟨o, n, cap, p, d, h0⟩ := h
 have x3 := cell_of h0 3
 simp only [U7, U8, U9] at x3
 clear h0
 go_enter Tryz.func77, Tryz.ntmps77
 go_wp2
 go_quiet (fail)
 go_wp2
 go_ret
 exact ⟨rfl, _, rfl⟩
theorem JD (k : Int) (s : ByteArray) (h : Sr A b w d ts) (hn : ∀ t r, ts = t :: r -> ¬ (t.k = k /\ t.s = s)) : Calls Tryz.prog 74 #[.pointer (some ⟨b, 0, none⟩), .int .i64 k, .string s] w fun e w' => e = .returned (.bool false) /\ ∃ m, w' = w.drewN m := by
 obtain ⟨p, t, r, rfl, h0, ho, hp, hl, ⟨t0, t1, t2, t3⟩, hd, h2, h3, h5⟩ := h.head
 have qF := hn t r rfl
 have au := h.lt
 have Kg : ¬ (p : Int) ≥ A.all.length := by omega
 have Mz : (p : Int) < A.all.length := by omega
 have x0 := cell_of h0 0
 have x1 := cell_of h0 1
 have x3 := cell_of h0 3
 simp only [U7, U8, U9] at x0 x1 x3
 rw [ho] at x0
 generalize A.all.length = N at *
 generalize A.g = g at *
 have Mu : decide (N <= p) = false := by simpa using hp
 clear h h0 ho h2 h3 h5 hd hn t2 t3
 obtain ⟨tk, tS, tl, tc⟩ := t
 simp only at t0 t1 qF
 by_cases e : tk = k
 ·subst e
  have e2 : (tS.toList == s.toList) = false := by
   simp only [true_and] at qF
   exact wC qF
  have e3 : (tk != tk) = false := by simp
  clear qF
  go_enter Tryz.func74, Tryz.ntmps74
  go_wp2
  go_quiet (fail)
  go_wp2
  go_ret
  exact ⟨rfl, _, rfl⟩
 ·have e2 : (tk != k) = true := by simpa using e
  clear qF
  go_enter Tryz.func74, Tryz.ntmps74
  go_wp2
  go_quiet (fail)
  go_wp2
  go_ret
  exact ⟨rfl, _, rfl⟩
theorem FI {t : TokZ} {r : List TokZ} (h : Sr A b w d (t :: r)) (hr : Ends r) : Calls Tryz.prog 74 #[.pointer (some ⟨b, 0, none⟩), .int .i64 t.k, .string t.s] w fun e w' => e = .returned (.bool true) /\ Sr A b w' d r /\ Mv b w w' := by
 obtain ⟨p, t', r', e9, h0, ho, hp, hl, ⟨t0, t1, t2, t3⟩, hd, h2, h3, h5⟩ := h.head
 cases e9
 have au := h.lt
 have HF : ∀ m, Hid (Sr A b ((w.drewN m).setCell ⟨b, 1, none⟩ (.int .i64 ((p : Int) + 1))) d r /\ Mv b w ((w.drewN m).setCell ⟨b, 1, none⟩ (.int .i64 ((p : Int) + 1)))) := fun m => by
  have hb := br w m
  exact ⟨Sr.step ((hb.block b au).trans h0) hd (dy h2 hb) h3 hl hr, (Mv.of hb).trans (Mv.set b 1 _ _)⟩
 have Kg : ¬ (p : Int) ≥ A.all.length := by omega
 have Mz : (p : Int) < A.all.length := by omega
 have L0 : p <= 2000 := by omega
 have x0 := cell_of h0 0
 have x1 := cell_of h0 1
 have x3 := cell_of h0 3
 have xf := aj h0 1
 simp only [U7, U8, U9] at x0 x1 x3
 rw [ho] at x0
 generalize A.all.length = N at *
 generalize A.g = g at *
 have Mu : decide (N <= p) = false := by simpa using hp
 clear h h0 ho h2 h3 h5 hd t2 t3
 obtain ⟨tk, tS, tl, tc⟩ := t
 simp only at t0 t1
 have e3 : (tk != tk) = false := by simp
 have e4 : (tS != tS) = false := JL tS
 go_enter Tryz.func74, Tryz.ntmps74
 go_wp2
 go_quiet (fail)
 go_wp2
 go_ret
 exact ⟨rfl, (HF _).out⟩
theorem GU (k : Int) (s : ByteArray) (h : Sb b w) : Calls Tryz.prog 74 #[.pointer (some ⟨b, 0, none⟩), .int .i64 k, .string s] w fun e w' => e = .returned (.bool false) /\ ∃ m, w' = w.drewN m := by
 have au := h.lt
 obtain ⟨o, n, cap, p, d, h0⟩ := h
 have x3 := cell_of h0 3
 simp only [U7, U8, U9] at x3
 clear h0
 go_enter Tryz.func74, Tryz.ntmps74
 go_wp2
 go_quiet (fail)
 go_wp2
 go_ret
 exact ⟨rfl, _, rfl⟩
end
def DJ (A : Arr) (b d : Nat) (r : Option (List TokZ)) (s : ByteArray) (x : Bool) (w : World) : Prop :=
 (x = true /\ ∃ ts, r = some ts /\ cg ts s = true /\ Sr A b w d ts.tail) \/ (x = false /\ (∀ ts, r = some ts -> cg ts s = false) /\ St A b w d r)
section
variable {A : Arr} {b d : Nat} {w : World} {r : Option (List TokZ)}
theorem nh (w : World) (b : Nat) : Calls Tryz.prog 73 #[.pointer (some ⟨b, 0, none⟩), .bool true] w fun e w' => e = .returned (.tuple #[]) /\ w' = w := by
 go_enter Tryz.func73, Tryz.ntmps73
 go_wp2
 go_end0
 exact ⟨rfl, rfl⟩
theorem pI (h : St A b w d r) : Calls Tryz.prog 73 #[.pointer (some ⟨b, 0, none⟩), .bool false] w fun e w' => e = .returned (.tuple #[]) /\ Sb b w' /\ Mv b w w' := by
 have h0 : ∃ (o : Option Addr) (n cap : Nat) (p d : Int) (x : Bool), w.heap[b]? = some (.cells #[.slice o n cap, .int .i64 p, .int .i64 d, .bool x] 62 (0, 0)) := by
  cases r with
  | none =>
   obtain ⟨o, n, cap, p, d, h⟩ := h
   exact ⟨o, n, cap, p, d, true, h⟩
  | some ts =>
   obtain ⟨p, h, -⟩ := h
   exact ⟨_, _, _, _, _, _, h⟩
 have au := h.lt
 obtain ⟨o, n, cap, p, d', x, h0⟩ := h0
 have x3 := cell_of h0 3
 have xf := aj h0 3
 simp only [U7, U8, U9] at x3
 have HF : Hid (Sb b (w.setCell ⟨b, 3, none⟩ (.bool true)) /\ Mv b w (w.setCell ⟨b, 3, none⟩ (.bool true))) := ⟨Sb.set h0, Mv.set b 3 _ _⟩
 clear h h0
 go_enter Tryz.func73, Tryz.ntmps73
 go_wp2
 go_end0
 exact ⟨rfl, HF.out⟩
theorem ev (k : Int) (s : ByteArray) (hk : ∀ t, Gd t -> t.s = s -> t.k = k) (hs : s ≠ ⟨#[]⟩) (h : St A b w d r) : Calls Tryz.prog 74 #[.pointer (some ⟨b, 0, none⟩), .int .i64 k, .string s] w fun e w' => ∃ x, e = .returned (.bool x) /\ DJ A b d r s x w' /\ Mv b w w' := by
 cases r with
 | none =>
  refine (GU k s h).mono ?_
  rintro e w' ⟨rfl, m, rfl⟩
  have hb := br w m
  exact ⟨false, rfl, .inr ⟨rfl, fun ts e => (by cases e), h.below hb⟩, Mv.of hb⟩
 | some ts =>
  have h' : Sr A b w d ts := h
  cases gC : cg ts s with
  | false =>
   refine (JD k s h' fun t r e c => ?_).mono ?_
   ·subst e
    have : cg (t :: r) s = true := by simp [cg, c.2]
    rw [gC] at this
    cases this
   rintro e w' ⟨rfl, m, rfl⟩
   have hb := br w m
   exact ⟨false, rfl, .inr ⟨rfl, fun ts e => (by cases e; exact gC), h.below hb⟩, Mv.of hb⟩
  | true =>
   obtain ⟨t, r, rfl, e⟩ := fl gC
   obtain ⟨p, t', r', e9, -, -, -, -, -, -, -, -, h5⟩ := h'.head
   cases e9
   have Dt : t.k = k := hk t h5.gd e
   subst e
   subst Dt
   refine (FI h' (h5.next (.inr hs))).mono ?_
   rintro e w' ⟨rfl, h1, h2⟩
   exact ⟨true, rfl, .inl ⟨rfl, _, rfl, gC, h1⟩, h2⟩
theorem bQ (s : ByteArray) (hs : s ∈ bP) (hn : s ≠ ⟨#[]⟩) (h : St A b w d r) : Calls Tryz.prog 30 #[.pointer (some ⟨b, 0, none⟩), .string s] w fun e w' => ∃ x, e = .returned (.bool x) /\ DJ A b d r s x w' /\ Mv b w w' := by
 have HC := aa (ev 5 s (fun t g e => g.mark (by rw [e]; exact hs)) hn h)
 clear h
 go_enter Tryz.func30, Tryz.ntmps30
 go_wp2_with fail
 refine HC.out.mono ?_
 rintro e w1 ⟨x, rfl, h1, h2⟩
 have H1 := aa h1
 have H2 := aa h2
 clear h1 h2
 go_wp2
 go_ret
 exact ⟨x, rfl, H1.out, H2.out⟩
theorem gl (s : ByteArray) (hs : s ∈ fs) (hn : s ≠ ⟨#[]⟩) (h : St A b w d r) : Calls Tryz.prog 27 #[.pointer (some ⟨b, 0, none⟩), .string s] w fun e w' => ∃ x, e = .returned (.bool x) /\ DJ A b d r s x w' /\ Mv b w w' := by
 have HC := aa (ev 4 s (fun t g e => g.word (by rw [e]; exact hs)) hn h)
 clear h
 go_enter Tryz.func27, Tryz.ntmps27
 go_wp2_with fail
 refine HC.out.mono ?_
 rintro e w1 ⟨x, rfl, h1, h2⟩
 have H1 := aa h1
 have H2 := aa h2
 clear h1 h2
 go_wp2
 go_ret
 exact ⟨x, rfl, H1.out, H2.out⟩
theorem cj {s : ByteArray} {x : Bool} (h : DJ A b d r s x w) : Calls Tryz.prog 73 #[.pointer (some ⟨b, 0, none⟩), .bool x] w fun e w' => e = .returned (.tuple #[]) /\ St A b w' d (r.bind (ar s)) /\ Mv b w w' := by
 rcases h with ⟨rfl, ts, rfl, h1, h2⟩ | ⟨rfl, h1, h2⟩
 ·refine (nh w b).mono ?_
  rintro e w' ⟨rfl, rfl⟩
  refine ⟨rfl, ?_, Mv.refl _ _⟩
  show St A b w' d (ar s ts)
  rw [ar, if_pos h1]
  exact h2
 ·refine (pI h2).mono ?_
  rintro e w' ⟨rfl, h3, h4⟩
  refine ⟨rfl, ?_, h4⟩
  cases r with
  | none => exact h3
  | some ts =>
   show St A b w' d (ar s ts)
   rw [ar, if_neg (by rw [h1 ts rfl]; decide)]
   exact h3
def qC (r : Option (List TokZ)) (k : Int) : Bool := match r with
 | some ts => isK ts k
 | none => false
theorem Bi (k : Int) (h : St A b w d r) : Calls Tryz.prog 77 #[.pointer (some ⟨b, 0, none⟩), .int .i64 k] w fun e w' => e = .returned (.bool (qC r k)) /\ ∃ m, w' = w.drewN m := by
 cases r with
 | none => exact oM k h
 | some ts => exact nL k h
theorem rg {x : Bool} (h : St A b w d r) : Calls Tryz.prog 73 #[.pointer (some ⟨b, 0, none⟩), .bool x] w fun e w' => e = .returned (.tuple #[]) /\ St A b w' d (r.bind fun ts => if x = true then some ts else none) /\ Mv b w w' := by
 cases x with
 | true =>
  refine (nh w b).mono ?_
  rintro e w' ⟨rfl, rfl⟩
  refine ⟨rfl, ?_, Mv.refl _ _⟩
  cases r with
  | none => exact h
  | some ts => exact h
 | false =>
  refine (pI h).mono ?_
  rintro e w' ⟨rfl, h3, h4⟩
  refine ⟨rfl, ?_, h4⟩
  cases r with
  | none => exact h3
  | some ts => exact h3
end
end Go.Proofs.YtfomndilhlgikajGreatDoor.Rd
