/- slices.Backward over a row of types: a contract of its closure, and of itself. -/
import Derived.RangeFuncNested
import Derived.RangeFuncBound
import Derived.RangeFuncCalls
import Derived.RangeFuncLeaves
import Derived.Shelf.Abstract
import Derived.Shelf.RegionOpen
import Derived.WalkKit
import Derived.OwnWalkIn
import Derived.TacticsInMore
import Derived.LoopNIn
import Derived.LoopIn
import Derived.Test.YtncgbdbkoeiffamLA
namespace Go.Proofs.Ytncgbdbkoeiffam.Vo
open Go.RowKit Go.Shelf
attribute [local go_sem] Oper.semAt_some

/-- A round's two variables: the place, and the four cells there. -/
abbrev Rd4 : Type := Nat × Value × Value × Value × Value
/-- .. of a place that is there. -/
abbrev RdL (len : Nat) : Type := { x : Rd4 // x.1 < len }
def encB {len : Nat} (x : RdL len) : Array Value := #[.int .i64 (x.1.1 : Int), .agg #[x.1.2.1, x.1.2.2.1, x.1.2.2.2.1, x.1.2.2.2.2]]
def atB (c : Nat → Nat → Value) (len k : Nat) (h : k + 1 ≤ len) : RdL len := ⟨(len - 1 - k, c (len - 1 - k) 0, c (len - 1 - k) 1, c (len - 1 - k) 2, c (len - 1 - k) 3), by show len - 1 - k < len; omega⟩
/-- What has come when k rounds are over. -/
def uptoB (c : Nat → Nat → Value) (len : Nat) : (k : Nat) → k ≤ len → List (RdL len)
  | 0, _ => []
  | k + 1, h => uptoB c len k (Nat.le_of_succ_le h) ++ [atB c len k h]
theorem uptoB_length (c : Nat → Nat → Value) (len : Nat) : ∀ (k : Nat) (h : k ≤ len), (uptoB c len k h).length = k
  | 0, _ => rfl
  | k + 1, h => by
    show (uptoB c len k (Nat.le_of_succ_le h) ++ [atB c len k h]).length = k + 1
    rw [List.length_append, uptoB_length c len k (Nat.le_of_succ_le h)]
    rfl
set_option maxRecDepth 100000 in
set_option maxHeartbeats 2000000 in
theorem back1_in (F : Fence) (n : Nat) (h7 : F.fn 37) (hro : F.round = none) (hn : 1 ≤ n) (l Bs b off len cap : Nat) (K : Nat → Prop) (c : Nat → Nat → Value) (hlen : len ≤ maxLen) (hb : K b) (hs : K Bs) (J Jx : List (RdL len) → World → Prop)
    (hY : ∀ pre x W, J pre W → pre.length < len → YieldAt F (n - 1) Try.prog l (encB x) W fun e W' =>
      (e = .returned (.bool true) ∧ J (pre ++ [x]) W' ∧ Keeps K W W') ∨ (e = .returned (.bool false) ∧ Jx (pre ++ [x]) W'))
    (W : World) (hBs : W.cell? ⟨Bs, 0, none⟩ = some (.slice (some ⟨b, off, none⟩) len cap)) (hc : ∀ j, j < len → ∀ i, i < 4 → W.cell? ⟨b, off + j * 4 + i, none⟩ = some (c j i)) (h0 : J [] W) :
    CallsIn F n Try.prog 37 #[.func (.yield l) #[] #[], .pointer (some ⟨Bs, 0, none⟩)] W fun e W' => (∃ v, e = .returned v) ∧
      ((∃ ys, ys = uptoB c len len (Nat.le_refl _) ∧ J ys W') ∨ (∃ pre, Jx pre W')) := by
  have hlen' : len ≤ 9223372036854775807 := hlen
  refine callsIn_of_wp Try.func37 rfl h7 ?_ hro
  simp only [Try.ntmps37, List.size_toArray, List.length_cons, List.length_nil, Nat.reduceAdd, Nat.reduceSub, Array.replicate_succ, Array.replicate_zero, List.push_toArray, List.append_toArray, List.nil_append, List.cons_append]
  gi_wp2
  gi_loopw [3] (fun i wr => ∃ (k : Nat) (hk : k ≤ len), i = .int .i64 ((len : Int) - 1 - k) ∧ J (uptoB c len k hk) wr ∧ Keeps K W wr)
    (fun i _ => (intOf i + 1).toNat)
  case atStart => exact ⟨0, Nat.zero_le _, by simp, h0, Keeps.refl K W⟩
  case round =>
    obtain ⟨k, hk, rfl, hJs, hnx⟩ := hrel
    have hB1 := (World.cell?_of_block (a := ⟨Bs, 0, none⟩) (hnx.block Bs hs)).trans hBs
    by_cases hlt : k < len
    · obtain ⟨fn, tmps, assign, body, hy, hR⟩ := hY _ (atB c len k hlt) wr hJs (by rw [uptoB_length]; exact hlt)
      have hcx : ∀ i, i < 4 → wr.cell? ⟨b, off + (len - 1 - k) * 4 + i, none⟩ = some (c (len - 1 - k) i) := fun i hi => (World.cell?_of_block (a := ⟨b, off + (len - 1 - k) * 4 + i, none⟩) (hnx.block b hb)).trans (hc _ (by omega) i hi)
      obtain ⟨p, hp⟩ : ∃ p : Nat, len - 1 - k = p := ⟨_, rfl⟩
      have hpi : (len : Int) - 1 - k = p := by omega
      have hpl : p < len := by omega
      unfold encB atB at hy
      dsimp only at hy
      rw [hp] at hcx hy
      rw [hpi]
      have c0 := hcx 0 (by omega)
      have c1 := hcx 1 (by omega)
      have c2 := hcx 2 (by omega)
      have c3 := hcx 3 (by omega)
      simp only [Nat.add_zero] at c0
      clear hcx
      gi_wp2
      refine hR.mono ?_
      rintro e W3 (⟨rfl, hJ3, hk3⟩ | ⟨rfl, hJx3⟩)
      · gi_wp2
        go_roundw
        case rel => exact ⟨k + 1, hlt, by simp; omega, hJ3, hnx.trans hk3⟩
        case measure => simp [intOf]
      · gi_wp2
        refine bodyPost_ret (results_none rfl _ _ _) rfl ?_
        exact ⟨⟨_, rfl⟩, .inr ⟨_, hJx3⟩⟩
    · obtain rfl : k = len := by omega
      gi_wp2
      go_end0
      exact ⟨⟨_, rfl⟩, .inl ⟨_, rfl, hJs⟩⟩
set_option maxRecDepth 100000 in
set_option maxHeartbeats 2000000 in
theorem back1_zero (F : Fence) (n : Nat) (h7 : F.fn 37) (hro : F.round = none) (l Bs cap : Nat) (o : Option Addr) (J : List (RdL 0) → World → Prop)
    (W : World) (hBs : W.cell? ⟨Bs, 0, none⟩ = some (.slice o 0 cap)) (h0 : J [] W) :
    CallsIn F n Try.prog 37 #[.func (.yield l) #[] #[], .pointer (some ⟨Bs, 0, none⟩)] W fun e W' => (∃ v, e = .returned v) ∧ J [] W' := by
  refine callsIn_of_wp Try.func37 rfl h7 ?_ hro
  simp only [Try.ntmps37, List.size_toArray, List.length_cons, List.length_nil, Nat.reduceAdd, Nat.reduceSub, Array.replicate_succ, Array.replicate_zero, List.push_toArray, List.append_toArray, List.nil_append, List.cons_append]
  gi_wp2
  gi_loopw [3] (fun i wr => i = .int .i64 (-1) ∧ J [] wr) (fun _ _ => 0)
  case atStart => exact ⟨by simp, h0⟩
  case round =>
    obtain ⟨rfl, hJs⟩ := hrel
    gi_wp2
    go_end0
    exact ⟨⟨_, rfl⟩, hJs⟩
/-- A row of types of four cells each. -/
def Row4 (W : World) (K : Nat → Prop) (o : Option Addr) (len : Nat) (c : Nat → Nat → Value) : Prop :=
  len = 0 ∨ ∃ b off, o = some ⟨b, off, none⟩ ∧ K b ∧ ∀ j, j < len → ∀ i, i < 4 → W.cell? ⟨b, off + j * 4 + i, none⟩ = some (c j i)
theorem back_stops (F : Fence) (n : Nat) (h7 : F.fn 37) (hro : F.round = none) (hn : 1 ≤ n) (Bs len cap : Nat) (o : Option Addr) (K : Nat → Prop) (c : Nat → Nat → Value) (hlen : len ≤ maxLen) (w : World) (hs : K Bs) (hK : ∀ k, K k → k < w.heap.size)
    (hBs : w.cell? ⟨Bs, 0, none⟩ = some (.slice o len cap)) (hr : Row4 w K o len c) :
    SeqStopsK F n Try.prog 37 #[.pointer (some ⟨Bs, 0, none⟩)] (fun x : RdL len => #[.int .i64 (x.1.1 : Int), .agg #[x.1.2.1, x.1.2.2.1, x.1.2.2.2.1, x.1.2.2.2.2]]) (Keeps K) (fun ys => ys = uptoB c len len (Nat.le_refl _)) (fun _ => True) len w := fun l J Jx W hW _ _ hY h0 => by
  have hc' := (hW.cell (p := ⟨Bs, 0, none⟩) (hK _ hs)).trans hBs
  rcases hr with rfl | ⟨b, off, rfl, hb, hcs⟩
  · exact (back1_zero F n h7 hro l Bs cap o J W hc' h0).mono fun e W' ⟨he, hj⟩ => ⟨he, .inl ⟨_, rfl, hj⟩⟩
  · refine (back1_in F n h7 hro hn l Bs b off len cap K c hlen hb hs J Jx hY W hc' (fun j hj i hi => (hW.cell (p := ⟨b, off + j * 4 + i, none⟩) (hK _ hb)).trans (hcs j hj i hi)) h0).mono ?_
    rintro e W' ⟨he, ⟨ys, rfl, hj⟩ | ⟨pre, hj⟩⟩
    · exact ⟨he, .inl ⟨_, rfl, hj⟩⟩
    · exact ⟨he, .inr ⟨_, trivial, hj⟩⟩
set_option maxHeartbeats 1000000 in
theorem back_any (o : Option Addr) (len cap : Nat) (w : World) :
    Calls Try.prog 28 #[.slice o len cap] w fun e w' => e = .returned (.func (.func 37) #[] #[.pointer (some ⟨w.heap.size, 0, none⟩)]) ∧ w' = w.alloc (.cells #[.slice o len cap] 27) := by
  go_enter Try.func28, Try.ntmps28
  go_wp2
  go_ret
  exact ⟨rfl, rfl⟩
end Go.Proofs.Ytncgbdbkoeiffam.Vo
