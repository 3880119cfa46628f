/- The program's check of an expression; its ExpOk. -/
import Derived.Test.YteoghpefilghdakGreatDoorYIa
import Derived.Test.YteoghpefilghdakGreatDoorYIb
import Derived.Test.YteoghpefilghdakGreatDoorYIc
import Derived.Test.YteoghpefilghdakGreatDoorYId
import Derived.Test.YteoghpefilghdakGreatDoorYM
namespace Go.Proofs.YteoghpefilghdakGreatDoor
open Go.ChangeShapes Go.WideShapes Go.ChangeAt Go.RowKit

theorem Cres.to {cb n : Nat} {w w' : World} {a b : Bool} {c c' : Nat} {e : Ending} (h : Cres cb n w a c e w') (e1 : a = b) (e2 : b = true → c = c') : Cres cb n w b c' e w' := by
  subst e1
  obtain ⟨n', h1, h2, h3, h4⟩ := h
  exact ⟨n', h1, h2, fun hx => by rw [← e2 hx]; exact h3 hx, h4⟩
theorem calls_to {f : FuncId} {args : Array Value} {cb n : Nat} {w : World} {a b : Bool} {c c' : Nat} (h : Calls Tryz.prog f args w (Cres cb n w a c)) (e1 : a = b) (e2 : b = true → c = c') : Calls Tryz.prog f args w (Cres cb n w b c') :=
  h.mono fun _ _ hr => hr.to e1 e2

set_option maxHeartbeats 1000000 in
set_option maxRecDepth 100000 in
theorem expOk_deep (k : Int) (s : ByteArray) (v : Int) (o1 o2 o3 : Option Addr) (l1 c1 l2 c2 l3 c3 : Nat) (cb n : Nat) (d : Int) (w : World) (hc : Ctr w cb n) (hn : n ≤ 200) (hd : 12 < d ∨ n = 200) :
    Calls Tryz.prog 126 #[.pointer (some ⟨cb, 0, none⟩), .agg #[.int .i64 k, .string s, .int .i64 v, .slice o1 l1 c1, .slice o2 l2 c2, .slice o3 l3 c3], .int .i64 d] w (Cres cb n w false 0) := by
  have hcb : cb < w.heap.size := heap_lt hc
  have b0 := cell_of hc 0
  have f0 := frozen_of hc 0
  simp only [List.getElem?_toArray, List.getElem?_cons_zero] at b0
  have HC := hide hc
  clear hc
  have HKS : Hid (∀ u : Int, Kp w.heap.size cb w ((w.setCell ⟨cb, 0, none⟩ (.int .i64 u)).alloc (.cells #[.int .i64 k, .string s, .int .i64 v, .slice o1 l1 c1, .slice o2 l2 c2, .slice o3 l3 c3] 47))) := fun u =>
    (kp_set w.heap.size cb w _).trans (Kp.of (((Below.refl _ (w.setCell ⟨cb, 0, none⟩ (.int .i64 u))).alloc (Nat.le_refl _) _).mono (by simp)))
  have HCS : Hid (∀ u : Int, Ctr ((w.setCell ⟨cb, 0, none⟩ (.int .i64 u)).alloc (.cells #[.int .i64 k, .string s, .int .i64 v, .slice o1 l1 c1, .slice o2 l2 c2, .slice o3 l3 c3] 47)) cb u) := fun u => (HC.out.set (m := u)).later ((Below.refl _ _).alloc (Nat.le_refl _) _)
  by_cases hd1 : d ≤ 12
  · have hn2 : n = 200 := by omega
    subst hn2
    go_enter Tryz.func126, Tryz.ntmps126
    go_wp2
    go_ret
    exact ⟨201, rfl, HCS.out _, (fun hx => by cases hx), HKS.out _⟩
  · go_enter Tryz.func126, Tryz.ntmps126
    go_wp2
    go_ret
    exact ⟨n + 1, rfl, HCS.out _, (fun hx => by cases hx), HKS.out _⟩

set_option maxHeartbeats 1000000 in
set_option maxRecDepth 100000 in
theorem expOk_gen (k : Int) (s : ByteArray) (v : Int) (o1 o2 o3 : Option Addr) (l1 c1 l2 c2 l3 c3 : Nat) (cb n : Nat) (d : Int) (w : World) (F : Value) (ok : Bool) (c : Nat) (hc : Ctr w cb n) (hn : n < 200) (h1 : d ≤ 12)
    (hf : ∀ W, Kp w.heap.size cb w W → Calls Tryz.prog 69 #[.agg #[.int .i64 k, .string s, .int .i64 v, .slice o1 l1 c1, .slice o2 l2 c2, .slice o3 l3 c3]] W fun e w' => e = .returned F ∧ Below W.heap.size W w')
    (hg : ∀ W, Kp w.heap.size cb w W → Ctr W cb ((n + 1 : Nat) : Int) → Calls Tryz.prog 143 #[.pointer (some ⟨cb, 0, none⟩), F, .int .i64 d] W (Cres cb (n + 1) W ok c)) :
    Calls Tryz.prog 126 #[.pointer (some ⟨cb, 0, none⟩), .agg #[.int .i64 k, .string s, .int .i64 v, .slice o1 l1 c1, .slice o2 l2 c2, .slice o3 l3 c3], .int .i64 d] w (Cres cb n w ok (1 + c)) := by
  have hcb : cb < w.heap.size := heap_lt hc
  have b0 := cell_of hc 0
  have f0 := frozen_of hc 0
  simp only [List.getElem?_toArray, List.getElem?_cons_zero] at b0
  have HC := hide hc
  have HF := hide hf
  have HG := hide hg
  clear hc hf hg
  have HKS : Hid (∀ u : Int, Kp w.heap.size cb w ((w.setCell ⟨cb, 0, none⟩ (.int .i64 u)).alloc (.cells #[.int .i64 k, .string s, .int .i64 v, .slice o1 l1 c1, .slice o2 l2 c2, .slice o3 l3 c3] 47))) := fun u =>
    (kp_set w.heap.size cb w _).trans (Kp.of (((Below.refl _ (w.setCell ⟨cb, 0, none⟩ (.int .i64 u))).alloc (Nat.le_refl _) _).mono (by simp)))
  have HCS : Hid (∀ u : Int, Ctr ((w.setCell ⟨cb, 0, none⟩ (.int .i64 u)).alloc (.cells #[.int .i64 k, .string s, .int .i64 v, .slice o1 l1 c1, .slice o2 l2 c2, .slice o3 l3 c3] 47)) cb u) := fun u => (HC.out.set (m := u)).later ((Below.refl _ _).alloc (Nat.le_refl _) _)
  go_enter Tryz.func126, Tryz.ntmps126
  go_wp2_with fail
  refine (HF.out _ (HKS.out _)).mono ?_
  rintro e w1 ⟨rfl, hb⟩
  have hct : Ctr w1 cb ((n + 1 : Nat) : Int) := Ctr.later (HCS.out ((n : Int) + 1)) hb
  have HC1 := hide hct
  have HK1 := hide ((HKS.out ((n : Int) + 1)).then hb)
  clear hb hct
  go_wp2_with fail
  refine (HG.out _ HK1.out HC1.out).mono ?_
  rintro e w2 ⟨n', rfl, hc2, hn2, hk2⟩
  have HC2 := hide hc2
  have HN2 := hide hn2
  have HK2 := hide (HK1.out.on hk2)
  clear hc2 hn2 hk2
  go_wp2
  go_ret
  exact ⟨n', rfl, HC2.out, (fun hx => by rw [HN2.out hx]; omega), HK2.out⟩
end Go.Proofs.YteoghpefilghdakGreatDoor
