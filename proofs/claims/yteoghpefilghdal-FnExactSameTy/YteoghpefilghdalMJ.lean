/- The library's sameness of rows of texts, as the program calls it. -/
import Derived.Test.YteoghpefilghdalZA
namespace Go.Proofs.Yteoghpefilghdal
open Go.ChangeShapes Go.WideShapes Go.ChangeAt Go.RowKit

set_option maxHeartbeats 400000 in
theorem slicesEqual_any {K L : Nat → Prop} (xs ys : List ByteArray) (oa ob : Option Addr) (ca cb : Nat) (w : World) (hl : xs.length ≤ maxLen) (hl2 : ys.length ≤ maxLen) (ha : RowOf K w strR 1 oa xs) (hb : RowOf L w strR 1 ob ys) :
    Calls Try.prog 58 #[.slice oa xs.length ca, .slice ob ys.length cb] w fun e w' => e = .returned (.bool (strsB xs ys)) ∧ ∃ m, w' = w.drewN m := by
  have HA := hide ha
  have HB := hide hb
  have hm1 : xs.length ≤ 9223372036854775807 := hl
  have hm2 : ys.length ≤ 9223372036854775807 := hl2
  clear ha hb hl hl2
  by_cases hlen : xs.length = ys.length
  case neg =>
    have h1 : (xs.length != ys.length) = true := by simpa using hlen
    have h2 : ((xs.length : Int) != (ys.length : Int)) = true := by simp; omega
    have HLEN := hide hlen
    clear hlen
    go_enter Try.func58, Try.ntmps58
    go_wp2
    go_ret
    exact ⟨ret_bool (by unfold strsB; rw [decide_eq_false HLEN.out]; rfl), 0, rfl⟩
  have h1 : (xs.length != ys.length) = false := by simpa using hlen
  have h2 : ((xs.length : Int) != (ys.length : Int)) = false := by simp; omega
  have HLEN := hide hlen
  have hle : xs.length ≤ ys.length := by omega
  clear hlen
  go_enter Try.func58, Try.ntmps58
  go_wp2
  clear h1 h2
  go_loopw [13] (fun t wr => ∃ k : Nat, k ≤ xs.length ∧ t = .int .i64 k ∧ strsTo xs ys k = true ∧ ∃ m, wr = w.drewN m) (fun t _ => xs.length - (intOf t).toNat)
  case atStart => exact ⟨0, Nat.zero_le _, rfl, rfl, 0, rfl⟩
  case round =>
    obtain ⟨i, hi, rfl, hs, m0, hw0⟩ := hrel
    have HS := hide hs
    have HBW : Hid (Below w.heap.size w wr) := by rw [hw0]; exact ⟨rfl, rfl, rfl, Nat.le_refl _, fun _ _ => rfl⟩
    have HW := hide hw0
    clear hs hw0
    by_cases hlt : i < xs.length
    · have hne : xs ≠ [] := by intro e; rw [e] at hlt; simp at hlt
      have hne2 : ys ≠ [] := by intro e; rw [e] at hle; simp at hle; rw [hle] at hlt; simp at hlt
      obtain ⟨x, hx⟩ : ∃ x, xs[i]? = some x := ⟨xs[i], List.getElem?_eq_getElem hlt⟩
      obtain ⟨y, hy⟩ : ∃ y, ys[i]? = some y := ⟨ys[i]'(by omega), List.getElem?_eq_getElem _⟩
      obtain ⟨ba, fa, ea, -, -, hA⟩ := (HA.out.later HBW.out fun _ _ h => h) hne
      obtain ⟨bb, fb, eb, -, -, hB⟩ := (HB.out.later HBW.out fun _ _ h => h) hne2
      subst ea eb
      obtain ⟨_, -, hkA, rfl, -⟩ := hA i x hx
      obtain ⟨_, -, hkB, rfl, -⟩ := hB i y hy
      have a0 := hkA 0 _ rfl
      have b0 := hkB 0 _ rfl
      rw [Nat.mul_one, Nat.add_zero] at a0 b0
      have HX := hide (atZ_of hx)
      have HY := hide (atZ_of hy)
      clear hx hy hA hB hne hne2 hkA hkB
      have hlt2 : (i : Int) < xs.length := by omega
      have hlt3 : (i : Int) < ys.length := by omega
      cases hq : (x.toList == y.toList)
      · have hq2 : (x.toList != y.toList) = true := by show (!(x.toList == y.toList)) = true; rw [hq]; rfl
        have HQ := hide hq
        go_wp2_with fail
        go_quiet (fail)
        go_wp2
        go_ret
        refine ⟨ret_bool ?_, _, by rw [HW.out]; exact World.drewN_drewN _ _ _⟩
        have hf : strsTo xs ys (i + 1) = false := by
          show (strsTo xs ys i && eqS (atZ xs i) (atZ ys i)) = false
          rw [HX.out, HY.out]
          unfold eqS
          rw [HQ.out, Bool.and_false]
        unfold strsB
        rw [strsTo_false hf hlt, Bool.and_false]
      · have hq2 : (x.toList != y.toList) = false := by show (!(x.toList == y.toList)) = false; rw [hq]; rfl
        have HQ := hide hq
        go_wp2_with fail
        go_quiet (fail)
        go_wp2
        go_roundw
        case rel =>
          refine ⟨i + 1, by omega, by go_num, ?_, _, by rw [HW.out]; exact World.drewN_drewN _ _ _⟩
          show (strsTo xs ys i && eqS (atZ xs i) (atZ ys i)) = true
          rw [HX.out, HY.out]
          unfold eqS
          rw [HQ.out, HS.out]
          rfl
        case measure => simp [intOf]; omega
    · go_wp2
      go_ret
      refine ⟨ret_bool ?_, _, HW.out⟩
      have h := HS.out
      rw [show i = xs.length by omega] at h
      unfold strsB
      rw [decide_eq_true HLEN.out, h]
      rfl
end Go.Proofs.Yteoghpefilghdal
