import Derived.Test.YtfomndilhlgikajGreatDoorP38
import Derived.Test.YtfomndilhlgikajGreatDoorP39
import Derived.Test.YtfomndilhlgikajGreatDoorP40
import Derived.Test.YtfomndilhlgikajGreatDoorP46
set_option maxHeartbeats 8000000
set_option maxRecDepth 100000
namespace Go.Proofs.YtfomndilhlgikajGreatDoor
open Go.ChangeShapes Go.WideShapes Go.ChangeAt Go.RowKit
theorem Cres.to {cb n : Nat} {w w' : World} {a b : Bool} {c c' : Nat} {e : Ending} (h : Cres cb n w a c e w') (e1 : a = b) (e2 : b = true -> c = c') : Cres cb n w b c' e w' := by
 subst e1
 obtain ⟨n', h1, h2, h3, h4⟩ := h
 exact ⟨n', h1, h2, fun hx => by rw [<- e2 hx]; exact h3 hx, h4⟩
theorem et {f : FuncId} {args : Array Value} {cb n : Nat} {w : World} {a b : Bool} {c c' : Nat} (h : Calls Tryz.prog f args w (Cres cb n w a c)) (e1 : a = b) (e2 : b = true -> c = c') : Calls Tryz.prog f args w (Cres cb n w b c') :=
 h.mono fun _ _ hr => hr.to e1 e2
theorem wo (k : Int) (s : ByteArray) (v : Int) (o1 o2 o3 : Option Addr) (l1 c1 l2 c2 l3 c3 : Nat) (cb n : Nat) (d : Int) (w : World) (hc : Ctr w cb n) (hn : n <= 200) (hd : 12 < d \/ n = 200) :
 Calls Tryz.prog 101 #[.pointer (some ⟨cb, 0, none⟩), .agg #[.int .i64 k, .string s, .int .i64 v, .slice o1 l1 c1, .slice o2 l2 c2, .slice o3 l3 c3], .int .i64 d] w (Cres cb n w false 0) := by
 have Di : cb < w.heap.size := ad hc
 have b0 := cell_of hc 0
 have f0 := aj hc 0
 simp only [List.getElem?_toArray, List.getElem?_cons_zero] at b0
 have HC := aa hc
 clear hc
 have E3 : Hid (∀ u : Int, Kp w.heap.size cb w ((w.setCell ⟨cb, 0, none⟩ (.int .i64 u)).alloc (.cells #[.int .i64 k, .string s, .int .i64 v, .slice o1 l1 c1, .slice o2 l2 c2, .slice o3 l3 c3] 34))) := fun u =>
  (BE w.heap.size cb w _).trans (Kp.of (((Below.refl _ (w.setCell ⟨cb, 0, none⟩ (.int .i64 u))).alloc U0 _).mono (by simp)))
 have zk : Hid (∀ u : Int, Ctr ((w.setCell ⟨cb, 0, none⟩ (.int .i64 u)).alloc (.cells #[.int .i64 k, .string s, .int .i64 v, .slice o1 l1 c1, .slice o2 l2 c2, .slice o3 l3 c3] 34)) cb u) := fun u => (HC.out.set (m := u)).later ((U4 _).alloc U0 _)
 by_cases jq : d <= 12
 ·have qF : n = 200 := by omega
  subst qF
  go_enter Tryz.func101, Tryz.ntmps101
  go_wp2
  go_ret
  exact ⟨201, rfl, zk.out _, (fun hx => by cases hx), E3.out _⟩
 ·go_enter Tryz.func101, Tryz.ntmps101
  go_wp2
  go_ret
  exact ⟨n + 1, rfl, zk.out _, (fun hx => by cases hx), E3.out _⟩
theorem dQ (k : Int) (s : ByteArray) (v : Int) (o1 o2 o3 : Option Addr) (l1 c1 l2 c2 l3 c3 : Nat) (cb n : Nat) (d : Int) (w : World) (F : Value) (ok : Bool) (c : Nat) (hc : Ctr w cb n) (hn : n < 200) (h1 : d <= 12)
 (hf : ∀ W, Kp w.heap.size cb w W -> Calls Tryz.prog 112 #[.agg #[.int .i64 k, .string s, .int .i64 v, .slice o1 l1 c1, .slice o2 l2 c2, .slice o3 l3 c3]] W fun e w' => e = .returned F /\ Below W.heap.size W w')
 (hg : ∀ W, Kp w.heap.size cb w W -> Ctr W cb ((n + 1 : Nat) : Int) -> Calls Tryz.prog 153 #[.pointer (some ⟨cb, 0, none⟩), F, .int .i64 d] W (Cres cb (n + 1) W ok c)) :
 Calls Tryz.prog 101 #[.pointer (some ⟨cb, 0, none⟩), .agg #[.int .i64 k, .string s, .int .i64 v, .slice o1 l1 c1, .slice o2 l2 c2, .slice o3 l3 c3], .int .i64 d] w (Cres cb n w ok (1 + c)) := by
 have Di : cb < w.heap.size := ad hc
 have b0 := cell_of hc 0
 have f0 := aj hc 0
 simp only [List.getElem?_toArray, List.getElem?_cons_zero] at b0
 have HC := aa hc
 have HF := aa hf
 have HG := aa hg
 clear hc hf hg
 have E3 : Hid (∀ u : Int, Kp w.heap.size cb w ((w.setCell ⟨cb, 0, none⟩ (.int .i64 u)).alloc (.cells #[.int .i64 k, .string s, .int .i64 v, .slice o1 l1 c1, .slice o2 l2 c2, .slice o3 l3 c3] 34))) := fun u =>
  (BE w.heap.size cb w _).trans (Kp.of (((Below.refl _ (w.setCell ⟨cb, 0, none⟩ (.int .i64 u))).alloc U0 _).mono (by simp)))
 have zk : Hid (∀ u : Int, Ctr ((w.setCell ⟨cb, 0, none⟩ (.int .i64 u)).alloc (.cells #[.int .i64 k, .string s, .int .i64 v, .slice o1 l1 c1, .slice o2 l2 c2, .slice o3 l3 c3] 34)) cb u) := fun u => (HC.out.set (m := u)).later ((U4 _).alloc U0 _)
 go_enter Tryz.func101, Tryz.ntmps101
 go_wp2_with fail
 refine (HF.out _ (E3.out _)).mono ?_
 rintro e w1 ⟨rfl, hb⟩
 have ql : Ctr w1 cb ((n + 1 : Nat) : Int) := Ctr.later (zk.out ((n : Int) + 1)) hb
 have gJ := aa ql
 have ez := aa ((E3.out ((n : Int) + 1)).then hb)
 clear hb ql
 go_wp2_with fail
 refine (HG.out _ ez.out gJ.out).mono ?_
 rintro e w2 ⟨n', rfl, qm, qF, aL⟩
 have eH := aa qm
 have EL := aa qF
 have fh := aa (ez.out.on aL)
 clear qm qF aL
 go_wp2
 go_ret
 exact ⟨n', rfl, eH.out, (fun hx => by rw [EL.out hx]; omega), fh.out⟩
theorem il (s : ByteArray) : ((⟨#[]⟩ : ByteArray).toList == s.toList) = dX s := by
 have e : (⟨#[]⟩ : ByteArray).toList = [] := by kernel_rfl
 rw [e, fw]
 rfl
theorem bj {α : Type} [DecidableEq α] (a b : α) : decide (a = b) = decide (b = a) := by
 by_cases h : a = b
 ·rw [decide_eq_true h, decide_eq_true h.symm]
 ·rw [decide_eq_false h, decide_eq_false fun e => h e.symm]
theorem py (a b : Nat) : decide ((a : Int) = b) = decide (a = b) := by
 by_cases h : a = b
 ·subst h; simp
 ·rw [decide_eq_false h, decide_eq_false (by omega)]
theorem FR {x : Tr} (hk : x.k = 1) : aH x = (cy x.s x.s 0 x.n 0 x.l.length 0 x.ds.length 0 x.al.length && mf x.s) := by
 unfold aH bw co dk cy
 rw [hk]
 simp only [BEq.rfl, Bool.true_and, Int.reduceEq, or_false, ↓reduceIte, decide_false, Bool.false_or]
 rw [bj (0 : Nat) x.l.length, bj (0 : Nat) x.ds.length, bj (0 : Nat) x.al.length, bj (0 : Int) x.n]
 have e1 : decide ((0 : Int) = x.l.length) = decide (x.l.length = 0) := (bj _ _).trans (py _ 0)
 rw [e1]
 cases decide (x.l.length = 0) <;> cases decide (x.ds.length = 0) <;> cases decide (x.al.length = 0) <;> cases decide (x.n = 0) <;> simp
theorem Gp {x : Tr} (hk : x.k = 2) : aH x = (cy x.s x.s 0 x.n 0 x.l.length 0 x.ds.length 0 x.al.length && Do x.s) := by
 unfold aH bw co dk cy
 rw [hk]
 simp only [BEq.rfl, Bool.true_and, Int.reduceEq, or_false, or_true, ↓reduceIte, decide_false, Bool.false_or]
 rw [bj (0 : Nat) x.l.length, bj (0 : Nat) x.ds.length, bj (0 : Nat) x.al.length, bj (0 : Int) x.n]
 have e1 : decide ((0 : Int) = x.l.length) = decide (x.l.length = 0) := (bj _ _).trans (py _ 0)
 rw [e1]
 cases decide (x.l.length = 0) <;> cases decide (x.ds.length = 0) <;> cases decide (x.al.length = 0) <;> cases decide (x.n = 0) <;> simp
theorem FO {x : Tr} (hk : x.k = 3) : aH x = (cy ⟨#[]⟩ x.s x.n x.n 0 x.l.length 0 x.ds.length 0 x.al.length && cz x.n 0 999999) := by
 unfold aH bw co dk cy
 rw [hk]
 simp only [il, Bool.true_and, Int.reduceEq, or_true, ↓reduceIte, decide_true, decide_false, Bool.false_or, Bool.true_or]
 rw [bj (0 : Nat) x.l.length, bj (0 : Nat) x.ds.length, bj (0 : Nat) x.al.length]
 have e1 : decide ((0 : Int) = x.l.length) = decide (x.l.length = 0) := (bj _ _).trans (py _ 0)
 rw [e1]
 cases decide (x.l.length = 0) <;> cases decide (x.ds.length = 0) <;> cases decide (x.al.length = 0) <;> cases dX x.s <;> simp
theorem Gu {x : Tr} (hk : x.k = 4) (hl : x.l.length = 2) : aH x = (cy ⟨#[]⟩ x.s 0 x.n 2 2 0 x.ds.length 0 x.al.length && true) := by
 unfold aH bw co dk cy
 rw [hk]
 simp only [il, Bool.true_and, Int.reduceEq, or_false, ↓reduceIte, decide_true, decide_false, Bool.false_or, hl]
 rw [bj (0 : Nat) x.ds.length, bj (0 : Nat) x.al.length, bj (0 : Int) x.n]
 cases decide (x.ds.length = 0) <;> cases decide (x.al.length = 0) <;> cases decide (x.n = 0) <;> cases dX x.s <;> simp
theorem FW {x : Tr} (hk : x.k = 5) (hl : x.l.length = 1) : aH x = (cy x.s x.s 0 x.n 1 1 0 x.ds.length 0 x.al.length && (mf x.s || vk x.s)) := by
 unfold aH bw co dk cy
 rw [hk]
 simp only [BEq.rfl, Bool.true_and, Int.reduceEq, or_false, ↓reduceIte, decide_true, decide_false, Bool.false_or, hl]
 rw [bj (0 : Nat) x.ds.length, bj (0 : Nat) x.al.length, bj (0 : Int) x.n]
 cases decide (x.ds.length = 0) <;> cases decide (x.al.length = 0) <;> cases decide (x.n = 0) <;> simp
theorem Hb {x : Tr} (hk : x.k = 6) (hl : x.l.length = 1) : aH x = (cy ⟨#[]⟩ x.s 0 x.n 1 1 x.ds.length x.ds.length 0 x.al.length && true) := by
 unfold aH bw co dk cy
 rw [hk]
 simp only [il, Bool.true_and, Int.reduceEq, or_false, or_true, ↓reduceIte, decide_true, decide_false, Bool.false_or, Bool.true_or, hl]
 rw [bj (0 : Nat) x.al.length, bj (0 : Int) x.n]
 cases decide (x.al.length = 0) <;> cases decide (x.n = 0) <;> cases dX x.s <;> simp
theorem Gr {x : Tr} (hk : x.k = 7) (hl : x.l.length = 1) : aH x = (cy ⟨#[]⟩ x.s 0 x.n 1 1 0 x.ds.length x.al.length x.al.length && cz x.al.length 1 6) := by
 unfold aH bw co dk cy
 rw [hk]
 simp only [il, Bool.true_and, Int.reduceEq, or_false, or_true, ↓reduceIte, decide_true, decide_false, Bool.false_or, Bool.true_or, hl]
 rw [bj (0 : Nat) x.ds.length, bj (0 : Int) x.n]
 cases decide (x.ds.length = 0) <;> cases decide (x.n = 0) <;> cases dX x.s <;> simp
theorem GQ {x : Tr} (hk : x.k = 8) (hl : x.l.length = 3) : aH x = (cy ⟨#[]⟩ x.s 0 x.n 3 3 0 x.ds.length 0 x.al.length && true) := by
 unfold aH bw co dk cy
 rw [hk]
 simp only [il, Bool.true_and, Int.reduceEq, or_false, ↓reduceIte, decide_true, decide_false, Bool.false_or, hl]
 rw [bj (0 : Nat) x.ds.length, bj (0 : Nat) x.al.length, bj (0 : Int) x.n]
 cases decide (x.ds.length = 0) <;> cases decide (x.al.length = 0) <;> cases decide (x.n = 0) <;> cases dX x.s <;> simp
theorem Gl {x : Tr} (hk : x.k = 9) (hl : x.l.length = 2) : aH x = (cy x.s x.s 0 x.n 2 2 0 x.ds.length 0 x.al.length && Aw x.s) := by
 unfold aH bw co dk cy
 rw [hk]
 simp only [BEq.rfl, Bool.true_and, Int.reduceEq, or_false, or_true, ↓reduceIte, decide_true, decide_false, Bool.false_or, hl]
 rw [bj (0 : Nat) x.ds.length, bj (0 : Nat) x.al.length, bj (0 : Int) x.n]
 cases decide (x.ds.length = 0) <;> cases decide (x.al.length = 0) <;> cases decide (x.n = 0) <;> simp
theorem xP {x : Tr} (hk : ¬ (1 <= x.k /\ x.k <= 9)) : aH x = false := by
 have : dk x.k = -1 := by
  unfold dk
  rw [if_neg (by omega), if_neg (by omega), if_neg (by omega), if_neg (by omega)]
 unfold aH bw
 rw [this, decide_eq_false (by omega)]
 rfl
theorem jh {x : Tr} {n : Nat} (h : dk x.k = n) (hl : x.l.length ≠ n) : aH x = false := by
 unfold aH bw
 rw [h, decide_eq_false (by omega)]
 rfl
end Go.Proofs.YtfomndilhlgikajGreatDoor
