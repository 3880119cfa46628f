/- The law's own comparison of two lists of Toks. -/
import Derived.Test.YtndlhdeipicbpahQ
import Derived.Deep.RegionWith
namespace Go.Proofs.Ytndlhdeipicbpah
open Go.RowKit

set_option maxHeartbeats 1000000 in
theorem eqTok_same (k l c : Int) (t : ByteArray) (w : World) :
    Calls Try.prog 31 #[.agg #[.int .i64 k, .string t, .int .i64 l, .int .i64 c], .agg #[.int .i64 k, .string t, .int .i64 l, .int .i64 c]] w fun e w' => e = .returned (.bool true) ∧ Below w.heap.size w w' := by
  go_enter Try.func31, Try.ntmps31
  go_wp2
  go_ret
  exact ⟨rfl, ((Below.refl _ w).alloc (Nat.le_refl _) _).alloc (by simp) _⟩

/-- A list of Toks in memory: the value and the block where its cells lie. -/
def TokMem (w : World) (o : Option Addr) (g : Nat) (ts : List TokP) : Prop :=
  (ts ≠ [] → g < w.heap.size) ∧ (ts ≠ [] → o = some ⟨g, 0, none⟩) ∧ ∀ i, i < ts.length → ∀ t, ts[i]? = some t →
    w.cell? ⟨g, i * 4, none⟩ = some (.int .i64 (t.k : Nat)) ∧ w.cell? ⟨g, i * 4 + 1, none⟩ = some (.string ⟨t.s.toArray⟩) ∧ w.cell? ⟨g, i * 4 + 2, none⟩ = some (.int .i64 (t.line : Nat)) ∧ w.cell? ⟨g, i * 4 + 3, none⟩ = some (.int .i64 (t.col : Nat))
theorem tokMem_below {w w' : World} {o : Option Addr} {g : Nat} {ts : List TokP} (h : TokMem w o g ts) {B : Nat} (hb : Below B w w') (hg0 : ts ≠ [] → g < B) : TokMem w' o g ts := by
  refine ⟨fun hne => Nat.lt_of_lt_of_le (h.1 hne) hb.size, h.2.1, fun i hi t ht => ?_⟩
  have hg := hg0 (by intro e; rw [e] at hi; simp at hi)
  obtain ⟨h0, h1, h2, h3⟩ := h.2.2 i hi t ht
  exact ⟨(hb.cell (p := ⟨g, _, none⟩) hg).trans h0, (hb.cell (p := ⟨g, _, none⟩) hg).trans h1, (hb.cell (p := ⟨g, _, none⟩) hg).trans h2, (hb.cell (p := ⟨g, _, none⟩) hg).trans h3⟩

set_option maxHeartbeats 2000000 in
set_option maxRecDepth 100000 in
theorem eqTokS_same (ts : List TokP) (hts : ts.length ≤ 1501) (oa ob : Option Addr) (ga gb ca cb : Nat) (w : World) (ha : TokMem w oa ga ts) (hb : TokMem w ob gb ts) :
    Calls Try.prog 12 #[.slice oa ts.length ca, .slice ob ts.length cb] w fun e w' => e = .returned (.bool true) ∧ Below w.heap.size w w' := by
  have HA := hide ha
  have HB := hide hb
  clear ha hb
  go_enter Try.func12, Try.ntmps12
  go_wp2
  go_loopw [5] (fun t wr => ∃ k : Nat, k ≤ ts.length ∧ t = .int .i64 k ∧ Below w.heap.size w wr) (fun t _ => ts.length - (intOf t).toNat)
  case atStart => exact ⟨0, Nat.zero_le _, rfl, Below.refl _ _⟩
  case round =>
    obtain ⟨i, hi, rfl, hbw⟩ := hrel
    have HBW := hide hbw
    clear hbw
    by_cases hlt : i < ts.length
    · have hne : ts ≠ [] := by intro e; rw [e] at hlt; simp at hlt
      obtain ⟨t, ht⟩ : ∃ t, ts[i]? = some t := ⟨ts[i], List.getElem?_eq_getElem hlt⟩
      have hA := tokMem_below HA.out HBW.out HA.out.1
      have hB := tokMem_below HB.out HBW.out HB.out.1
      have ea := hA.2.1 hne
      have eb := hB.2.1 hne
      subst ea eb
      obtain ⟨a0, a1, a2, a3⟩ := hA.2.2 i hlt t ht
      obtain ⟨b0, b1, b2, b3⟩ := hB.2.2 i hlt t ht
      clear ht hA hB hne
      generalize ((t.k : Nat) : Int) = tk at *
      generalize (⟨t.s.toArray⟩ : ByteArray) = tS at *
      generalize ((t.line : Nat) : Int) = tl at *
      generalize ((t.col : Nat) : Int) = tc at *
      have hlt2 : (i : Int) < ts.length := by omega
      go_wp2
      go_region_with ((go_at_call 31; refine (eqTok_same _ _ _ _ _).mono ?_; rintro e w1 ⟨rfl, hb1⟩))
      all_goals
        have HB1 := hide hb1
        clear hb1
        go_wp2
        go_roundw
        case rel => exact ⟨i + 1, by omega, by go_num, HBW.out.trans ((Below.refl _ _).drew.trans (HB1.out.mono HBW.out.size))⟩
        case measure => simp [intOf]; omega
    · go_wp2
      go_ret
      exact ⟨rfl, HBW.out⟩
end Go.Proofs.Ytndlhdeipicbpah
