/- The same, plainly; the model's sameness of texts. -/
import Derived.Test.YtegcebeaelpjhajYA
import Derived.Test.YtegcebeaelpjhajQC
import Derived.Deep.QuietTactic
import Derived.BigQuiet
namespace Go.Proofs.Ytegcebeaelpjhaj
open Go.ChangeShapes Go.WideShapes Go.ChangeAt Go.RowKit

def eqS (a b : ByteArray) : Bool := a.toList == b.toList
def strsTo (a b : List ByteArray) : Nat → Bool
  | 0 => true
  | i + 1 => strsTo a b i && eqS (atZ a i) (atZ b i)
def strsB (a b : List ByteArray) : Bool := decide (a.length = b.length) && strsTo a b a.length
def pairB (f : Tr → Tr → Bool) (xs ys : List Tr) (i : Nat) : Bool :=
  match xs[i]?, ys[i]? with
  | some x, some y => f x y
  | _, _ => false
def rowTo (f : Tr → Tr → Bool) (xs ys : List Tr) : Nat → Bool
  | 0 => true
  | i + 1 => rowTo f xs ys i && pairB f xs ys i
def rowB (f : Tr → Tr → Bool) (xs ys : List Tr) : Bool := decide (xs.length = ys.length) && rowTo f xs ys xs.length
theorem strsTo_false {a b : List ByteArray} {i n : Nat} (h : strsTo a b i = false) (hn : i ≤ n) : strsTo a b n = false := up_false (strsTo a b) _ (fun _ => rfl) h hn
theorem rowTo_false {f : Tr → Tr → Bool} {a b : List Tr} {i n : Nat} (h : rowTo f a b i = false) (hn : i ≤ n) : rowTo f a b n = false := up_false (rowTo f a b) _ (fun _ => rfl) h hn
theorem pair_at {f : Tr → Tr → Bool} {xs ys : List Tr} {i : Nat} {x y : Tr} (hx : xs[i]? = some x) (hy : ys[i]? = some y) : pairB f xs ys i = f x y := by
  unfold pairB
  rw [hx, hy]
structure Sm where
  ex : Tr → Tr → Bool
  de : Tr → Tr → Bool
  al : Tr → Tr → Bool
def sm : Nat → Sm
  | 0 => ⟨fun _ _ => true, fun _ _ => true, fun _ _ => true⟩
  | h + 1 =>
    ⟨fun a b => decide (a.k = b.k) && (eqS a.s b.s && (decide (a.n = b.n) && (decide (a.l.length = b.l.length) && (decide (a.al.length = b.al.length) && (rowB (sm h).de a.ds b.ds && (rowTo (sm h).ex a.l b.l a.l.length && rowTo (sm h).al a.al b.al a.al.length)))))),
     fun a b => eqS a.s b.s && (strsB a.ss b.ss && (rowB (sm h).ex a.l b.l && rowB (sm h).de a.ds b.ds)),
     fun a b => eqS a.s b.s && (strsB a.ss b.ss && rowB (sm h).ex a.l b.l)⟩
theorem row_one (f : Tr → Tr → Bool) (a b : Tr) : rowB f [a] [b] = f a b := by simp [rowB, rowTo, pairB]
theorem later_at {W : World} {g : Nat} {j : Nat} {v : Value} (hg : g < W.heap.size) (hv : W.cell? ⟨g, j, none⟩ = some v) : ∀ q : Later W, q.w.cell? ⟨g, j, none⟩ = some v := fun q => (q.h.cell (p := ⟨g, j, none⟩) hg).trans hv

set_option maxHeartbeats 400000 in
theorem sameTexts_any {K L : Nat → Prop} (xs ys : List ByteArray) (oa ob : Option Addr) (ca cb : Nat) (w : World) (hl : xs.length ≤ maxLen) (hl2 : ys.length ≤ maxLen) (ha : RowOf K w strR 1 oa xs) (hb : RowOf L w strR 1 ob ys) :
    Calls Try.prog 55 #[.slice oa xs.length ca, .slice ob ys.length cb] w fun e w' => e = .returned (.bool (strsB xs ys)) ∧ Below w.heap.size w w' := by
  have HA := hide ha
  have HB := hide hb
  have hm1 : xs.length ≤ 9223372036854775807 := hl
  have hm2 : ys.length ≤ 9223372036854775807 := hl2
  clear ha hb hl hl2
  by_cases hlen : xs.length = ys.length
  case neg =>
    have h1 : (xs.length != ys.length) = true := by simpa using hlen
    have h2 : ((xs.length : Int) != (ys.length : Int)) = true := by simp; omega
    have HLEN := hide hlen
    clear hlen
    go_enter Try.func55, Try.ntmps55
    go_wp2
    go_ret
    exact ⟨ret_bool (by unfold strsB; rw [decide_eq_false HLEN.out]; rfl), Below.refl _ _⟩
  have h1 : (xs.length != ys.length) = false := by simpa using hlen
  have h2 : ((xs.length : Int) != (ys.length : Int)) = false := by simp; omega
  have HLEN := hide hlen
  have hle : xs.length ≤ ys.length := by omega
  clear hlen
  go_enter Try.func55, Try.ntmps55
  go_wp2
  clear h1 h2
  go_loopw [5] (fun t wr => ∃ k : Nat, k ≤ xs.length ∧ t = .int .i64 k ∧ strsTo xs ys k = true ∧ Below w.heap.size w wr) (fun t _ => xs.length - (intOf t).toNat)
  case atStart => exact ⟨0, Nat.zero_le _, rfl, rfl, Below.refl _ _⟩
  case round =>
    obtain ⟨i, hi, rfl, hs, hbw⟩ := hrel
    have HS := hide hs
    have HBW := hide hbw
    clear hs hbw
    by_cases hlt : i < xs.length
    · have hne : xs ≠ [] := by intro e; rw [e] at hlt; simp at hlt
      have hne2 : ys ≠ [] := by intro e; rw [e] at hle; simp at hle; rw [hle] at hlt; simp at hlt
      obtain ⟨x, hx⟩ : ∃ x, xs[i]? = some x := ⟨xs[i], List.getElem?_eq_getElem hlt⟩
      obtain ⟨y, hy⟩ : ∃ y, ys[i]? = some y := ⟨ys[i]'(by omega), List.getElem?_eq_getElem _⟩
      obtain ⟨ba, fa, ea, -, -, hA⟩ := (HA.out.later HBW.out fun _ _ h => h) hne
      obtain ⟨bb, fb, eb, -, -, hB⟩ := (HB.out.later HBW.out fun _ _ h => h) hne2
      subst ea eb
      obtain ⟨_, -, hkA, rfl, -⟩ := hA i x hx
      obtain ⟨_, -, hkB, rfl, -⟩ := hB i y hy
      have a0 := hkA 0 _ rfl
      have b0 := hkB 0 _ rfl
      rw [Nat.mul_one, Nat.add_zero] at a0 b0
      have HX := hide (atZ_of hx)
      have HY := hide (atZ_of hy)
      clear hx hy hA hB hne hne2 hkA hkB
      have hlt2 : (i : Int) < xs.length := by omega
      have hlt3 : (i : Int) < ys.length := by omega
      cases hq : (x.toList == y.toList)
      · have hq2 : (x.toList != y.toList) = true := by show (!(x.toList == y.toList)) = true; rw [hq]; rfl
        have HQ := hide hq
        go_wp2_with fail
        go_quiet (fail)
        go_wp2
        go_ret
        refine ⟨ret_bool ?_, below_drewN HBW.out _⟩
        have hf : strsTo xs ys (i + 1) = false := by
          show (strsTo xs ys i && eqS (atZ xs i) (atZ ys i)) = false
          rw [HX.out, HY.out]
          unfold eqS
          rw [HQ.out, Bool.and_false]
        unfold strsB
        rw [strsTo_false hf hlt, Bool.and_false]
      · have hq2 : (x.toList != y.toList) = false := by show (!(x.toList == y.toList)) = false; rw [hq]; rfl
        have HQ := hide hq
        go_wp2_with fail
        go_quiet (fail)
        go_wp2
        go_roundw
        case rel =>
          refine ⟨i + 1, by omega, by go_num, ?_, below_drewN HBW.out _⟩
          show (strsTo xs ys i && eqS (atZ xs i) (atZ ys i)) = true
          rw [HX.out, HY.out]
          unfold eqS
          rw [HQ.out, HS.out]
          rfl
        case measure => simp [intOf]; omega
    · go_wp2
      go_ret
      refine ⟨ret_bool ?_, HBW.out⟩
      have h := HS.out
      rw [show i = xs.length by omega] at h
      unfold strsB
      rw [decide_eq_true HLEN.out, h]
      rfl
end Go.Proofs.Ytegcebeaelpjhaj
