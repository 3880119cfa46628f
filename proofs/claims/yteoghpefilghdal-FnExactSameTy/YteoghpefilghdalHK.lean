/- The program's held.alt: a pair of alternatives. -/
import Derived.Test.YteoghpefilghdalGF
import Derived.Test.YteoghpefilghdalHG
import Derived.Test.YteoghpefilghdalMI
import Derived.Test.YteoghpefilghdalMJ
namespace Go.Proofs.Yteoghpefilghdal
open Go.ChangeShapes Go.WideShapes Go.ChangeAt Go.RowKit

theorem slicesEqual_quiet {K L : Nat → Prop} (xs ys : List ByteArray) (oa ob : Option Addr) (ca cb : Nat) (w : World) (n : Nat) (hl : xs.length ≤ maxLen) (hl2 : ys.length ≤ maxLen) (ha : RowOf K w strR 1 oa xs) (hb : RowOf L w strR 1 ob ys) :
    Calls Try.prog 58 #[.slice oa xs.length ca, .slice ob ys.length cb] (w.drewN n) fun e w' => e = .returned (.bool (strsB xs ys)) ∧ ∃ m, w' = w.drewN m := by
  have hbd : Below w.heap.size w (w.drewN n) := ⟨rfl, rfl, rfl, Nat.le_refl _, fun _ _ => rfl⟩
  refine (slicesEqual_any xs ys oa ob ca cb _ hl hl2 (ha.later hbd fun _ _ h => h) (hb.later hbd fun _ _ h => h)).mono ?_
  rintro e w' ⟨rfl, m, rfl⟩
  exact ⟨rfl, n + m, World.drewN_drewN _ _ _⟩
def TT (i : Nat) : TypeId := if i = 0 then 142 else if i = 1 then 148 else if i = 2 then 153 else 113
/-- One pair of Exps put to what is held. -/
theorem held_put (x y : Addr) (g : Nat) (w : World) (K : Nat → Prop) (ls ks : Nat → List (Addr × Addr)) (h : HeldMem TT w K g ls ks) (kx : K x.block) (ky : K y.block) (px : PlainAt w x) (py : PlainAt w y) (hn : (ls 0).length ≤ 10000000) :
    Calls Try.prog 57 #[.pointer (some ⟨g, 0, none⟩), .pointer (some x), .pointer (some y)] w fun e' w' => e' = .returned (.tuple #[]) ∧ HeldMem TT w' K g (upd ls 0 (ls 0 ++ newOf (ks 0) (x, y))) (upd ks 0 (ks 0 ++ newOf (ks 0) (x, y))) ∧ Keeps K w w' := by
  obtain ⟨c, e, vl, mo, Kx, hg, hc0, hc1, hm, hK, hback⟩ := h.at 0 (by omega)
  refine (PE.put_any x y g 0 w c e Kx vl mo (ls 0) (ks 0) hg hc0 hc1 hm (hK _ kx) (hK _ ky) px py hn).mono ?_
  rintro e' w' ⟨rfl, hp⟩
  refine ⟨rfl, hback w' _ _ hp fun l hl => ?_⟩
  rw [List.mem_append] at hl
  rcases hl with hl | hl
  · obtain ⟨c2, e2, v, mo2, -, H⟩ := h
    exact ⟨((H.mem 0 (by omega)).keys l hl).1.1, ((H.mem 0 (by omega)).keys l hl).2.1⟩
  · unfold newOf at hl
    split at hl
    · cases hl
    · rw [List.mem_singleton.1 hl]
      exact ⟨kx, ky⟩
/-- The cells at a place. -/
def CellsAt (w : World) (x : Addr) (cs : List Value) : Prop := ∀ j u, cs[j]? = some u → w.cell? ⟨x.block, x.off + j, none⟩ = some u

set_option maxHeartbeats 2000000 in
set_option maxRecDepth 100000 in
theorem held_alt {h : Nat} (xb xo yb yo g : Nat) (w : World) (K : Nat → Prop) (ls ks : Nat → List (Addr × Addr)) (hh : HeldMem TT w K g ls ks) (t u : Tr) (cs ds : List Value) (rt : (reads K w h).al t cs) (ru : (reads K w h).al u ds)
    (hcs : CellsAt w ⟨xb, xo, none⟩ cs) (hds : CellsAt w ⟨yb, yo, none⟩ ds) (kx : K xb) (ky : K yb) (px : PlainAt w ⟨xb, 0, none⟩) (py : PlainAt w ⟨yb, 0, none⟩) (hn : (ls 0).length ≤ 10000000) :
    Calls Try.prog 41 #[.pointer (some ⟨g, 0, none⟩), .pointer (some ⟨xb, xo, none⟩), .pointer (some ⟨yb, yo, none⟩)] w fun e' w' => e' = .returned (.bool (eqS t.s u.s && strsB t.ss u.ss)) ∧ HeldMem TT w' K g (upd ls 0 (ls 0 ++ newOf (ks 0) (⟨xb, xo + 2, none⟩, ⟨yb, yo + 2, none⟩))) (upd ks 0 (ks 0 ++ newOf (ks 0) (⟨xb, xo + 2, none⟩, ⟨yb, yo + 2, none⟩))) ∧ Keeps K w w' := by
  cases h with
  | zero => exact False.elim rt
  | succ h =>
  obtain ⟨-, -, -, -, e, o1, c1, ce, -, rfl, -, f1, r1, -, -⟩ := rt
  obtain ⟨-, -, -, -, f, p1, d1, de, -, rfl, -, f2, q1, -, -⟩ := ru
  have hbd : Below w.heap.size w w.drew := (Below.refl _ w).drew
  have HPUT := hide (held_put ⟨xb, xo + 2, none⟩ ⟨yb, yo + 2, none⟩ g w.drew K ls ks (hh.later hbd) kx ky (px.later hbd) (py.later hbd) hn)
  have a0 := hcs 0 (.string t.s) rfl
  have a1 := hcs 1 (.slice o1 t.ss.length c1) rfl
  have b0 := hds 0 (.string u.s) rfl
  have b1 := hds 1 (.slice p1 u.ss.length d1) rfl
  simp only [Nat.add_zero] at a0 b0
  have HKK := hide (And.intro kx ky)
  have HF := hide (And.intro f1.1 f2.1)
  have HA := hide (And.intro r1 q1)
  clear hcs hds px py hh hbd kx ky f1 f2 r1 q1
  have HA01 := hide (And.intro a0 a1)
  have HB01 := hide (And.intro b0 b1)
  clear a0 a1 b0 b1
  go_enter Try.func41, Try.ntmps41
  go_wp2
  go_region_with (refine HPUT.out.mono ?_; rintro e' w1 ⟨rfl, hm1, hk1⟩; have HM1 := hide hm1; have HK1 := hide hk1; clear hm1 hk1)
  all_goals
    go_upto_region 2 with fail
    have hst : Stays K w w1 := ⟨HK1.out.size, fun b hb _ => HK1.out.block b hb⟩
    have hkd : Keeps K w w.drew := ⟨rfl, rfl, rfl, Nat.le_refl _, fun _ _ => rfl⟩
    have HKW : Hid (Keeps K w w1) := hkd.trans HK1.out
    clear hkd
    have a0 : w1.cell? ⟨xb, xo, none⟩ = some (.string t.s) := (World.cell?_of_block (a := ⟨xb, xo, none⟩) (HKW.out.block xb HKK.out.1)).trans HA01.out.1
    have a1 : w1.cell? ⟨xb, xo + 1, none⟩ = some (.slice o1 t.ss.length c1) := (World.cell?_of_block (a := ⟨xb, xo + 1, none⟩) (HKW.out.block xb HKK.out.1)).trans HA01.out.2
    have b0 : w1.cell? ⟨yb, yo, none⟩ = some (.string u.s) := (World.cell?_of_block (a := ⟨yb, yo, none⟩) (HKW.out.block yb HKK.out.2)).trans HB01.out.1
    have b1 : w1.cell? ⟨yb, yo + 1, none⟩ = some (.slice p1 u.ss.length d1) := (World.cell?_of_block (a := ⟨yb, yo + 1, none⟩) (HKW.out.block yb HKK.out.2)).trans HB01.out.2
    have HR1 := hide (HA.out.1.frame hst (fun _ h => h) fun _ _ h => h)
    have HR2 := hide (HA.out.2.frame hst (fun _ h => h) fun _ _ h => h)
    clear hst HA HA01 HB01 HK1 HPUT
    cases hq : (t.s.toList == u.s.toList)
    · have HQ := hide hq
      go_quiet (fail)
      go_wp2
      go_ret
      refine ⟨ret_bool ?_, HM1.out.later ⟨rfl, rfl, rfl, Nat.le_refl _, fun _ _ => rfl⟩, HKW.out.trans ⟨rfl, rfl, rfl, Nat.le_refl _, fun _ _ => rfl⟩⟩
      unfold eqS
      rw [HQ.out]
      rfl
    · have HQ := hide hq
      have HSE : Hid (∀ n, Calls Try.prog 58 #[.slice o1 t.ss.length c1, .slice p1 u.ss.length d1] (w1.drewN n) fun e w' => e = .returned (.bool (strsB t.ss u.ss)) ∧ ∃ m, w' = w1.drewN m) := fun n => slicesEqual_quiet t.ss u.ss o1 p1 c1 d1 w1 n HF.out.1 HF.out.2 HR1.out HR2.out
      go_quiet ((go_at_call 58; exact HSE.out _))
      go_wp2
      go_ret
      refine ⟨ret_bool ?_, HM1.out.later ⟨rfl, rfl, rfl, Nat.le_refl _, fun _ _ => rfl⟩, HKW.out.trans ⟨rfl, rfl, rfl, Nat.le_refl _, fun _ _ => rfl⟩⟩
      unfold eqS
      rw [HQ.out]
      rfl
end Go.Proofs.Yteoghpefilghdal
