/- What was marked is held: the law's held of strings, expressions, definitions and alternatives. -/
import Derived.Test.YtgeckgdmkjddpaaQ04
import Derived.Test.YtgeckgdmkjddpaaQ05
import Derived.Deep.DeepCutAuto
import Derived.Deep.CutBlock
namespace Go.Proofs.Ytgeckgdmkjddpaa.Mh
open Go.ChangeShapes Go.WideShapes Go.ChangeAt Go.RowKit
set_option linter.unusedVariables false

/-- A row whose elements hold marks from k on, up to k'; its block is of S. -/
def HR (sz : Nat) (R : Nat → Nat → Nat → Nat → Prop) (S : Nat → Prop) (v : Value) (k k' : Nat) : Prop :=
  ∃ o n c, v = .slice o n c ∧ n ≤ maxLen ∧ k ≤ k' ∧ (n = 0 → k' = k) ∧ (0 < n → ∃ b off, ∃ ks : Nat → Nat, o = some ⟨b, off, none⟩ ∧ S b ∧ ks 0 = k ∧ ks n = k' ∧ (∀ i, i ≤ n → ks i ≤ k') ∧ ∀ i, i < n → R b (off + i * sz) (ks i) (ks (i + 1)))
def strA (w : World) : Nat → Nat → Nat → Nat → Prop := fun b p k k' => k' = k + 1 ∧ w.cell? ⟨b, p, none⟩ = some (.string (markS k))
structure Hs where
  ex : Nat → Nat → Nat → Nat → Prop
  de : Nat → Nat → Nat → Nat → Prop
  al : Nat → Nat → Nat → Nat → Prop
/-- The marks of an expression, a definition, an alternative at a place, by height. -/
def hd (w : World) (S : Nat → Prop) : Nat → Hs
  | 0 => ⟨fun _ _ _ _ => False, fun _ _ _ _ => False, fun _ _ _ _ => False⟩
  | h + 1 => ⟨fun b p k k' => w.cell? ⟨b, p, none⟩ = some (.int .i64 ((k : Int) + 1)) ∧ w.cell? ⟨b, p + 1, none⟩ = some (.string (markS (k + 1))) ∧ w.cell? ⟨b, p + 2, none⟩ = some (.int .i64 ((k : Int) + 1 + 1 + 1)) ∧
        ∃ v1 v2 v3 k1 k2, w.cell? ⟨b, p + 3, none⟩ = some v1 ∧ w.cell? ⟨b, p + 4, none⟩ = some v2 ∧ w.cell? ⟨b, p + 5, none⟩ = some v3 ∧ HR 6 (hd w S h).ex S v1 (k + 3) k1 ∧ HR 9 (hd w S h).de S v2 k1 k2 ∧ HR 8 (hd w S h).al S v3 k2 k',
      fun b p k k' => w.cell? ⟨b, p, none⟩ = some (.string (markS k)) ∧ ∃ v1 v8 k1 k2, w.cell? ⟨b, p + 1, none⟩ = some v1 ∧ w.cell? ⟨b, p + 8, none⟩ = some v8 ∧ HR 1 (strA w) S v1 (k + 1) k1 ∧ (hd w S h).ex b (p + 2) k1 k2 ∧ HR 9 (hd w S h).de S v8 k2 k',
      fun b p k k' => w.cell? ⟨b, p, none⟩ = some (.string (markS k)) ∧ ∃ v1 k1, w.cell? ⟨b, p + 1, none⟩ = some v1 ∧ HR 1 (strA w) S v1 (k + 1) k1 ∧ (hd w S h).ex b (p + 2) k1 k'⟩
theorem HR.frame {sz : Nat} {R R' : Nat → Nat → Nat → Nat → Prop} {S : Nat → Prop} {v : Value} {k k' : Nat} (h : HR sz R S v k k') (hR : ∀ b p a c, S b → R b p a c → R' b p a c) : HR sz R' S v k k' := by
  obtain ⟨o, n, c, e, h1, h2, h3, h4⟩ := h
  refine ⟨o, n, c, e, h1, h2, h3, fun h0 => ?_⟩
  obtain ⟨b, off, ks, e1, hS, e2, e3, e4, e5⟩ := h4 h0
  exact ⟨b, off, ks, e1, hS, e2, e3, e4, fun i hi => hR _ _ _ _ hS (e5 i hi)⟩
/-- Where the cells of S stay, the marks do. -/
theorem hd_frame {w w' : World} {S : Nat → Prop} (hc : ∀ b j v, S b → w.cell? ⟨b, j, none⟩ = some v → w'.cell? ⟨b, j, none⟩ = some v) : ∀ h, (∀ b p k k', S b → (hd w S h).ex b p k k' → (hd w' S h).ex b p k k') ∧ (∀ b p k k', S b → (hd w S h).de b p k k' → (hd w' S h).de b p k k') ∧ (∀ b p k k', S b → (hd w S h).al b p k k' → (hd w' S h).al b p k k') := by
  have hs : ∀ b p k k', S b → strA w b p k k' → strA w' b p k k' := fun b p k k' hb h => ⟨h.1, hc _ _ _ hb h.2⟩
  intro h
  induction h with
  | zero => exact ⟨fun _ _ _ _ _ h => h, fun _ _ _ _ _ h => h, fun _ _ _ _ _ h => h⟩
  | succ h ih =>
    obtain ⟨i1, i2, i3⟩ := ih
    refine ⟨fun b p k k' hb hx => ?_, fun b p k k' hb hx => ?_, fun b p k k' hb hx => ?_⟩
    · obtain ⟨c0, c1, c2, v1, v2, v3, k1, k2, c3, c4, c5, r1, r2, r3⟩ := hx
      exact ⟨hc _ _ _ hb c0, hc _ _ _ hb c1, hc _ _ _ hb c2, v1, v2, v3, k1, k2, hc _ _ _ hb c3, hc _ _ _ hb c4, hc _ _ _ hb c5, r1.frame i1, r2.frame i2, r3.frame i3⟩
    · obtain ⟨c0, v1, v8, k1, k2, c1, c8, r1, r2, r3⟩ := hx
      exact ⟨hc _ _ _ hb c0, v1, v8, k1, k2, hc _ _ _ hb c1, hc _ _ _ hb c8, r1.frame hs, i1 _ _ _ _ hb r2, r3.frame i2⟩
    · obtain ⟨c0, v1, k1, c1, r1, r2⟩ := hx
      exact ⟨hc _ _ _ hb c0, v1, k1, hc _ _ _ hb c1, r1.frame hs, i1 _ _ _ _ hb r2⟩
theorem cell_later {w w' : World} (hb : Below w.heap.size w w') (b j : Nat) (v : Value) (h : w.cell? ⟨b, j, none⟩ = some v) : w'.cell? ⟨b, j, none⟩ = some v := (hb.cell (p := ⟨b, j, none⟩) (World.block_lt_of_cell? w _ h)).trans h
theorem hd_later {w w' : World} {S : Nat → Prop} (hb : Below w.heap.size w w') (h : Nat) : (∀ b p k k', S b → (hd w S h).ex b p k k' → (hd w' S h).ex b p k k') ∧ (∀ b p k k', S b → (hd w S h).de b p k k' → (hd w' S h).de b p k k') ∧ (∀ b p k k', S b → (hd w S h).al b p k k' → (hd w' S h).al b p k k') := hd_frame (fun b j v _ h => cell_later hb b j v h) h
theorem str_later {w w' : World} {S : Nat → Prop} (hb : Below w.heap.size w w') : ∀ b p k k', S b → strA w b p k k' → strA w' b p k k' := fun b p k k' _ h => ⟨h.1, cell_later hb _ _ _ h.2⟩
def Ends (k' : Nat) (w : World) (e : Ending) (w' : World) : Prop := e = .returned (.int .i64 ((k' : Int) + 1)) ∧ Below w.heap.size w w'
def HeS : Prop := ∀ (S : Nat → Prop) (v : Value) (k k' : Nat) (w : World), HR 1 (strA w) S v k k' → k' ≤ 8800000 → Calls Try.prog 66 #[v, .int .i64 ((k : Int) + 1)] w (Ends k' w)
def HeE (h : Nat) : Prop := ∀ (S : Nat → Prop) (v : Value) (k k' : Nat) (w : World), HR 6 (hd w S h).ex S v k k' → k' ≤ 8800000 → Calls Try.prog 37 #[v, .int .i64 ((k : Int) + 1)] w (Ends k' w)
def HeD (h : Nat) : Prop := ∀ (S : Nat → Prop) (v : Value) (k k' : Nat) (w : World), HR 9 (hd w S h).de S v k k' → k' ≤ 8800000 → Calls Try.prog 38 #[v, .int .i64 ((k : Int) + 1)] w (Ends k' w)
def HeA (h : Nat) : Prop := ∀ (S : Nat → Prop) (v : Value) (k k' : Nat) (w : World), HR 8 (hd w S h).al S v k k' → k' ≤ 8800000 → Calls Try.prog 39 #[v, .int .i64 ((k : Int) + 1)] w (Ends k' w)
set_option maxHeartbeats 2000000 in
set_option maxRecDepth 100000 in
theorem heldS_all : HeS := by
  intro S v k k' w hr hk
  obtain ⟨o, n, c, rfl, hn, hkk, h0, h1⟩ := hr
  have ml : n ≤ 9223372036854775807 := hn
  have H1 := hide h1
  have H0 := hide h0
  clear h0 h1
  go_enter Try.func66, Try.ntmps66
  go_wp2
  go_loopw [1, 5] (fun t1 t5 wr => ∃ i r : Nat, i ≤ n ∧ t5 = .int .i64 i ∧ t1 = .int .i64 ((r : Int) + 1) ∧ r ≤ k' ∧ (n = 0 → r = k') ∧ (∀ b off (ks : Nat → Nat), o = some ⟨b, off, none⟩ → ks 0 = k → (∀ j, j < n → strA w b (off + j * 1) (ks j) (ks (j + 1))) → ks i = r) ∧ Below w.heap.size w wr) (fun _ t5 _ => n - (intOf t5).toNat)
  case atStart => exact ⟨0, k, Nat.zero_le _, rfl, rfl, hkk, fun h => (H0.out h).symm, fun _ _ _ _ e _ => e, Below.refl _ _⟩
  case round =>
    obtain ⟨i, r, hi, rfl, rfl, hrk, hr0, hks, hb⟩ := hrel
    have HB := hide hb
    have HKS := hide hks
    by_cases hlt : i < n
    · obtain ⟨b, off, ks, eo, hS, e0, e1, e2, e3⟩ := H1.out (by omega)
      have er : ks i = r := HKS.out b off ks eo e0 e3
      subst eo
      obtain ⟨f1, f2⟩ := e3 i hlt
      rw [er, Nat.mul_one] at f2
      rw [er] at f1
      have hr1 : r + 1 ≤ k' := by have := e2 (i + 1) (by omega); omega
      have q1 := cell_later hb _ _ _ f2
      have HQ := hide q1
      have hrb : r ≤ 8900000 := by omega
      have ne0 : Nonempty (Later wr) := later_nonempty wr
      have cq : ∀ q : Later wr, q.w.cell? ⟨b, off + i, none⟩ = some (.string (markS r)) := fun q => cell_later q.h _ _ _ HQ.out
      have mtc := Nm.mt0 r hrb
      have nn0 : ((markS r).toList != (markS r).toList) = false := by simp
      have HK2 : Hid (∀ b' off' (ks' : Nat → Nat), (some ⟨b, off, none⟩ : Option Addr) = some ⟨b', off', none⟩ → ks' 0 = k → (∀ j, j < n → strA w b' (off' + j * 1) (ks' j) (ks' (j + 1))) → ks' (i + 1) = r + 1) := by
        intro b' off' ks' e9 e10 e11
        have h9 := HKS.out b' off' ks' e9 e10 e11
        have h10 := (e11 i hlt).1
        omega
      clear hb hks f2 e3 q1 hr0 e2
      go_upto_region 4 with fail
      refine wp_region_class (S := fun v => Below wr.heap.size wr v) (by kernel_rfl) (by kernel_rfl) (below_drew _) ?_
      repeat (first | go_big_quiet_skip | (go_big_quiet_want; go_big_quiet_op; first | go_big_quiet_on | (apply Exists.intro; refine ⟨fun q => ?_, ?_⟩; ((go_at_call 65; refine (mtc _).mono ?_; rintro e w9 ⟨rfl, hb9⟩; exact ⟨rfl, Later.on q hb9, rfl⟩)); go_big_quiet_on)))
      refine wpQuiet_nil ?_
      intro _ hw'
      obtain ⟨q, rfl⟩ := hw'
      have HB2 := hide (HB.out.trans (q.h.mono HB.out.size))
      clear ne0 cq mtc nn0
      go_wp2
      go_roundw
      case rel => exact ⟨i + 1, r + 1, by omega, by go_num, by go_num, hr1, fun h => absurd h (by omega), HK2.out, HB2.out⟩
      case measure => simp [intOf]; omega
    · have hie : i = n := by omega
      have hrk' : r = k' := by
        by_cases hn0 : n = 0
        · exact hr0 hn0
        · obtain ⟨b, off, ks, eo, hS, e0, e1, e2, e3⟩ := H1.out (by omega)
          have er : ks i = r := HKS.out b off ks eo e0 e3
          rw [hie, e1] at er
          exact er.symm
      subst hie
      subst hrk'
      clear hb hks hr0
      go_wp2
      go_ret
      exact ⟨rfl, HB.out⟩
theorem HR.le {sz : Nat} {R : Nat → Nat → Nat → Nat → Prop} {S : Nat → Prop} {v : Value} {k k' : Nat} (h : HR sz R S v k k') : k ≤ k' := by
  obtain ⟨o, n, c, e, h1, h2, h3, h4⟩ := h
  exact h2
theorem HR.sl {sz : Nat} {R : Nat → Nat → Nat → Nat → Prop} {S : Nat → Prop} {v : Value} {k k' : Nat} (h : HR sz R S v k k') : ∃ o n c, v = .slice o n c := by
  obtain ⟨o, n, c, e, h1, h2, h3, h4⟩ := h
  exact ⟨o, n, c, e⟩
theorem HR.open {sz : Nat} {R : Nat → Nat → Nat → Nat → Prop} {S : Nat → Prop} {v : Value} {k k' : Nat} (h : HR sz R S v k k') : ∃ o n c b off, ∃ ks : Nat → Nat, v = .slice o n c ∧ n ≤ maxLen ∧ (0 < n → o = some ⟨b, off, none⟩ ∧ S b) ∧ ks 0 = k ∧ ks n = k' ∧ (∀ i, i ≤ n → ks i ≤ k') ∧ ∀ i, i < n → R b (off + i * sz) (ks i) (ks (i + 1)) := by
  obtain ⟨o, n, c, e, h1, h2, h3, h4⟩ := h
  rcases Nat.eq_zero_or_pos n with h0 | h0
  · exact ⟨o, n, c, 0, 0, fun _ => k, e, h1, fun h => absurd h (by omega), rfl, (h3 h0).symm, fun _ _ => h2, fun i hi => absurd hi (by omega)⟩
  · obtain ⟨b, off, ks, e1, hS, e2, e3, e4, e5⟩ := h4 h0
    exact ⟨o, n, c, b, off, ks, e, h1, fun _ => ⟨e1, hS⟩, e2, e3, e4, e5⟩
set_option maxHeartbeats 8000000 in
set_option maxRecDepth 100000 in
theorem heldE_of {H : Nat} (ih : ∀ h, h < H → HeE h ∧ HeD h ∧ HeA h) : HeE H := by
  intro S v k k' w hr hk
  obtain ⟨o, n, c, b, off, ks, rfl, hn, ho, e0, e1, e2, e3⟩ := hr.open
  have ml : n ≤ 9223372036854775807 := hn
  have HO := hide ho
  have HE2 := hide e2
  have HE3 := hide e3
  have HE1 := hide e1
  have IH := hide ih
  subst e0
  clear ho e2 e3 ih hr e1 hn
  go_enter Try.func37, Try.ntmps37
  go_wp2
  go_loopw [1, 5] (fun t1 t5 wr => ∃ i r : Nat, i ≤ n ∧ t5 = .int .i64 i ∧ t1 = .int .i64 ((r : Int) + 1) ∧ ks i = r ∧ Below w.heap.size w wr) (fun _ t5 _ => n - (intOf t5).toNat)
  case atStart => exact ⟨0, ks 0, Nat.zero_le _, rfl, rfl, rfl, Below.refl _ _⟩
  case round =>
    obtain ⟨i, r, hi, rfl, rfl, hkr, hb⟩ := hrel
    have HB := hide hb
    have HKR := hide hkr
    by_cases hlt : i < n
    · obtain ⟨eo, hS⟩ := HO.out (by omega)
      subst eo
      have hx := HE3.out i hlt
      have hr1 := HE2.out (i + 1) (by omega)
      rw [hkr] at hx
      obtain ⟨r', hkr'⟩ : ∃ r', ks (i + 1) = r' := ⟨_, rfl⟩
      rw [hkr'] at hx hr1
      have HKR2 := hide hkr'
      clear hb hkr hkr'
      cases H with
      | zero => exact hx.elim
      | succ H =>
        obtain ⟨ihEx, ihDx, ihAx⟩ := IH.out H (by omega)
        obtain ⟨c0x, c1x, c2x, v1x, v2x, v3x, k1x, k2x, c3x, c4x, c5x, r1x, r2x, r3x⟩ := hx
        have l1x := r1x.le
        have l2x := r2x.le
        have l3x := r3x.le
        have C0x : Hid (w.cell? ⟨b, off + i * 6, none⟩ = some (.int .i64 ((r : Int) + 1))) := c0x
        have C1x : Hid (w.cell? ⟨b, off + i * 6 + 1, none⟩ = some (.string (markS (r + 1)))) := c1x
        have C2x : Hid (w.cell? ⟨b, off + i * 6 + 2, none⟩ = some (.int .i64 ((r : Int) + 1 + 1 + 1))) := c2x
        have C3x : Hid (w.cell? ⟨b, off + i * 6 + 3, none⟩ = some (v1x)) := c3x
        have C4x : Hid (w.cell? ⟨b, off + i * 6 + 4, none⟩ = some (v2x)) := c4x
        have C5x : Hid (w.cell? ⟨b, off + i * 6 + 5, none⟩ = some (v3x)) := c5x
        have R1x := hide r1x
        have R2x := hide r2x
        have R3x := hide r3x
        have IEx := hide ihEx
        have IDx := hide ihDx
        have IAx := hide ihAx
        clear c0x c1x c2x c3x c4x c5x r1x r2x r3x ihEx ihDx ihAx
        have y0x := cell_later HB.out _ _ _ C0x.out
        have bnx : (((r : Nat) : Int) + 1 != ((r : Nat) : Int) + 1) = false := by simp
        have rbx : r ≤ 8900000 := by omega
        have ne21 : Nonempty (Later wr) := later_nonempty wr
        have cq21 : ∀ q : Later wr, q.w.cell? ⟨b, off + i * 6 + 1, none⟩ = some (.string (markS (r + 1))) := fun q => cell_later q.h _ _ _ (cell_later HB.out _ _ _ C1x.out)
        have mt21 := Nm.mt1 r rbx
        have nn21 : ((markS (r + 1)).toList != (markS (r + 1)).toList) = false := by simp
        go_upto_region 7 with fail
        refine wp_region_class (S := fun v => Below wr.heap.size wr v) (by kernel_rfl) (by kernel_rfl) (below_drew _) ?_
        repeat (first | go_big_quiet_skip | (go_big_quiet_want; go_big_quiet_op; first | go_big_quiet_on | (apply Exists.intro; refine ⟨fun q => ?_, ?_⟩; ((go_at_call 65; refine (mt21 _).mono ?_; rintro e w9 ⟨rfl, hb9⟩; exact ⟨rfl, Later.on q hb9, rfl⟩)); go_big_quiet_on)))
        refine wpQuiet_nil ?_
        intro _ hw'
        obtain ⟨q, rfl⟩ := hw'
        have HB21 := hide (HB.out.trans (q.h.mono HB.out.size))
        obtain ⟨W21, hW21⟩ : ∃ W, W = q.w := ⟨_, rfl⟩
        rw [← hW21] at HB21 ⊢
        clear hW21 q ne21 cq21 mt21 nn21
        clear y0x
        have y2x := cell_later HB21.out _ _ _ C2x.out
        have bmx : (((r : Nat) : Int) + 1 + 1 + 1 != ((r : Nat) : Int) + 1 + 1 + 1) = false := by simp
        have y22 := cell_later HB21.out _ _ _ C3x.out
        have HC22 : Hid (Calls Try.prog 37 #[v1x, .int .i64 ((r : Int) + 1 + 1 + 1 + 1)] W21 (Ends k1x W21)) := by
          have h9 := IEx.out S v1x (r + 3) k1x W21 (R1x.out.frame ((hd_later HB21.out _).1)) (by omega)
          have e9 : (((r + 3) : Nat) : Int) + 1 = (r : Int) + 1 + 1 + 1 + 1 := by omega
          rw [e9] at h9
          exact h9
        have ng22 : ¬ ((k1x : Int) + 1 < 0) := by omega
        go_wp2_with fail
        refine Calls.mono HC22.out ?_
        rintro ee W22 ⟨rfl, hb22⟩
        have HB22 := hide (HB21.out.trans (hb22.mono HB21.out.size))
        clear hb22 y22 HC22
        clear y2x
        have y23 := cell_later HB22.out _ _ _ C4x.out
        have HC23 : Hid (Calls Try.prog 38 #[v2x, .int .i64 ((k1x : Int) + 1)] W22 (Ends k2x W22)) := by
          have h9 := IDx.out S v2x (k1x) k2x W22 (R2x.out.frame ((hd_later HB22.out _).2.1)) (by omega)
          have e9 : (((k1x) : Nat) : Int) + 1 = (k1x : Int) + 1 := by omega
          rw [e9] at h9
          exact h9
        have ng23 : ¬ ((k2x : Int) + 1 < 0) := by omega
        go_wp2_with fail
        refine Calls.mono HC23.out ?_
        rintro ee W23 ⟨rfl, hb23⟩
        have HB23 := hide (HB22.out.trans (hb23.mono HB22.out.size))
        clear hb23 y23 HC23
        have y24 := cell_later HB23.out _ _ _ C5x.out
        have HC24 : Hid (Calls Try.prog 39 #[v3x, .int .i64 ((k2x : Int) + 1)] W23 (Ends r' W23)) := by
          have h9 := IAx.out S v3x (k2x) r' W23 (R3x.out.frame ((hd_later HB23.out _).2.2)) (by omega)
          have e9 : (((k2x) : Nat) : Int) + 1 = (k2x : Int) + 1 := by omega
          rw [e9] at h9
          exact h9
        have ng24 : ¬ ((r' : Int) + 1 < 0) := by omega
        go_wp2_with fail
        refine Calls.mono HC24.out ?_
        rintro ee W24 ⟨rfl, hb24⟩
        have HB24 := hide (HB23.out.trans (hb24.mono HB23.out.size))
        clear hb24 y24 HC24
        go_wp2
        go_roundw
        case rel => exact ⟨i + 1, r', by omega, by go_num, rfl, HKR2.out, HB24.out⟩
        case measure => simp [intOf]; omega
    · have hie : i = n := by omega
      have hrk : r = k' := by
        have h9 := HE1.out
        rw [← hie, HKR.out] at h9
        exact h9
      subst hie
      subst hrk
      clear hb hkr
      go_wp2
      go_ret
      exact ⟨rfl, HB.out⟩
set_option maxHeartbeats 8000000 in
set_option maxRecDepth 100000 in
theorem heldD_of {H : Nat} (ih : ∀ h, h < H → HeE h ∧ HeD h ∧ HeA h) : HeD H := by
  intro S v k k' w hr hk
  obtain ⟨o, n, c, b, off, ks, rfl, hn, ho, e0, e1, e2, e3⟩ := hr.open
  have ml : n ≤ 9223372036854775807 := hn
  have HO := hide ho
  have HE2 := hide e2
  have HE3 := hide e3
  have HE1 := hide e1
  have IH := hide ih
  subst e0
  clear ho e2 e3 ih hr e1 hn
  go_enter Try.func38, Try.ntmps38
  go_wp2
  go_loopw [1, 5] (fun t1 t5 wr => ∃ i r : Nat, i ≤ n ∧ t5 = .int .i64 i ∧ t1 = .int .i64 ((r : Int) + 1) ∧ ks i = r ∧ Below w.heap.size w wr) (fun _ t5 _ => n - (intOf t5).toNat)
  case atStart => exact ⟨0, ks 0, Nat.zero_le _, rfl, rfl, rfl, Below.refl _ _⟩
  case round =>
    obtain ⟨i, r, hi, rfl, rfl, hkr, hb⟩ := hrel
    have HB := hide hb
    have HKR := hide hkr
    by_cases hlt : i < n
    · obtain ⟨eo, hS⟩ := HO.out (by omega)
      subst eo
      have hx := HE3.out i hlt
      have hr1 := HE2.out (i + 1) (by omega)
      rw [hkr] at hx
      obtain ⟨r', hkr'⟩ : ∃ r', ks (i + 1) = r' := ⟨_, rfl⟩
      rw [hkr'] at hx hr1
      have HKR2 := hide hkr'
      clear hb hkr hkr'
      cases H with
      | zero => exact hx.elim
      | succ H =>
        obtain ⟨n0, vp, v8, kp, ke, n1, n8, rp, hxe, rw8⟩ := hx
        obtain ⟨ihE1, ihD1, ihA1⟩ := IH.out H (by omega)
        cases H with
        | zero => exact hxe.elim
        | succ H =>
          obtain ⟨ihEx, ihDx, ihAx⟩ := IH.out H (by omega)
          obtain ⟨c0x, c1x, c2x, v1x, v2x, v3x, k1x, k2x, c3x, c4x, c5x, r1x, r2x, r3x⟩ := hxe
          have l1x := r1x.le
          have l2x := r2x.le
          have l3x := r3x.le
          have C0x : Hid (w.cell? ⟨b, off + i * 9 + 2, none⟩ = some (.int .i64 ((kp : Int) + 1))) := c0x
          have C1x : Hid (w.cell? ⟨b, off + i * 9 + 3, none⟩ = some (.string (markS (kp + 1)))) := c1x
          have C2x : Hid (w.cell? ⟨b, off + i * 9 + 4, none⟩ = some (.int .i64 ((kp : Int) + 1 + 1 + 1))) := c2x
          have C3x : Hid (w.cell? ⟨b, off + i * 9 + 5, none⟩ = some (v1x)) := c3x
          have C4x : Hid (w.cell? ⟨b, off + i * 9 + 6, none⟩ = some (v2x)) := c4x
          have C5x : Hid (w.cell? ⟨b, off + i * 9 + 7, none⟩ = some (v3x)) := c5x
          have R1x := hide r1x
          have R2x := hide r2x
          have R3x := hide r3x
          have IEx := hide ihEx
          have IDx := hide ihDx
          have IAx := hide ihAx
          clear c0x c1x c2x c3x c4x c5x r1x r2x r3x ihEx ihDx ihAx
          have lp := rp.le
          have N0 : Hid (w.cell? ⟨b, off + i * 9, none⟩ = some (.string (markS r))) := n0
          have N1 : Hid (w.cell? ⟨b, off + i * 9 + 1, none⟩ = some vp) := n1
          have RP := hide rp
          have l8 := rw8.le
          have N8 : Hid (w.cell? ⟨b, off + i * 9 + 8, none⟩ = some v8) := n8
          have R8 := hide rw8
          have ID1 := hide ihD1
          clear n8 rw8
          have rb0 : r ≤ 8900000 := by omega
          clear n0 n1 rp ihE1 ihD1 ihA1
          have ne21 : Nonempty (Later wr) := later_nonempty wr
          have cq21 : ∀ q : Later wr, q.w.cell? ⟨b, off + i * 9, none⟩ = some (.string (markS (r))) := fun q => cell_later q.h _ _ _ (cell_later HB.out _ _ _ N0.out)
          have mt21 := Nm.mt0 r rb0
          have nn21 : ((markS (r)).toList != (markS (r)).toList) = false := by simp
          go_upto_region 4 with fail
          refine wp_region_class (S := fun v => Below wr.heap.size wr v) (by kernel_rfl) (by kernel_rfl) (below_drew _) ?_
          repeat (first | go_big_quiet_skip | (go_big_quiet_want; go_big_quiet_op; first | go_big_quiet_on | (apply Exists.intro; refine ⟨fun q => ?_, ?_⟩; ((go_at_call 65; refine (mt21 _).mono ?_; rintro e w9 ⟨rfl, hb9⟩; exact ⟨rfl, Later.on q hb9, rfl⟩)); go_big_quiet_on)))
          refine wpQuiet_nil ?_
          intro _ hw'
          obtain ⟨q, rfl⟩ := hw'
          have HB21 := hide (HB.out.trans (q.h.mono HB.out.size))
          obtain ⟨W21, hW21⟩ : ∃ W, W = q.w := ⟨_, rfl⟩
          rw [← hW21] at HB21 ⊢
          clear hW21 q ne21 cq21 mt21 nn21
          have y22 := cell_later HB21.out _ _ _ N1.out
          have HC22 : Hid (Calls Try.prog 66 #[vp, .int .i64 ((r : Int) + 1 + 1)] W21 (Ends kp W21)) := by
            have h9 := heldS_all S vp (r + 1) kp W21 (RP.out.frame (str_later HB21.out)) (by omega)
            have e9 : (((r + 1) : Nat) : Int) + 1 = (r : Int) + 1 + 1 := by omega
            rw [e9] at h9
            exact h9
          have ng22 : ¬ ((kp : Int) + 1 < 0) := by omega
          go_wp2_with fail
          refine Calls.mono HC22.out ?_
          rintro ee W22 ⟨rfl, hb22⟩
          have HB22 := hide (HB21.out.trans (hb22.mono HB21.out.size))
          clear hb22 y22 HC22
          have y0x := cell_later HB22.out _ _ _ C0x.out
          have bnx : (((kp : Nat) : Int) + 1 != ((kp : Nat) : Int) + 1) = false := by simp
          have rbx : kp ≤ 8900000 := by omega
          have ne23 : Nonempty (Later W22) := later_nonempty W22
          have cq23 : ∀ q : Later W22, q.w.cell? ⟨b, off + i * 9 + 3, none⟩ = some (.string (markS (kp + 1))) := fun q => cell_later q.h _ _ _ (cell_later HB22.out _ _ _ C1x.out)
          have mt23 := Nm.mt1 kp rbx
          have nn23 : ((markS (kp + 1)).toList != (markS (kp + 1)).toList) = false := by simp
          go_upto_region 13 with fail
          refine wp_region_class (S := fun v => Below W22.heap.size W22 v) (by kernel_rfl) (by kernel_rfl) (below_drew _) ?_
          repeat (first | go_big_quiet_skip | (go_big_quiet_want; go_big_quiet_op; first | go_big_quiet_on | (apply Exists.intro; refine ⟨fun q => ?_, ?_⟩; ((go_at_call 65; refine (mt23 _).mono ?_; rintro e w9 ⟨rfl, hb9⟩; exact ⟨rfl, Later.on q hb9, rfl⟩)); go_big_quiet_on)))
          refine wpQuiet_nil ?_
          intro _ hw'
          obtain ⟨q, rfl⟩ := hw'
          have HB23 := hide (HB22.out.trans (q.h.mono HB22.out.size))
          obtain ⟨W23, hW23⟩ : ∃ W, W = q.w := ⟨_, rfl⟩
          rw [← hW23] at HB23 ⊢
          clear hW23 q ne23 cq23 mt23 nn23
          clear y0x
          have y2x := cell_later HB23.out _ _ _ C2x.out
          have bmx : (((kp : Nat) : Int) + 1 + 1 + 1 != ((kp : Nat) : Int) + 1 + 1 + 1) = false := by simp
          have y24 := cell_later HB23.out _ _ _ C3x.out
          have HC24 : Hid (Calls Try.prog 37 #[v1x, .int .i64 ((kp : Int) + 1 + 1 + 1 + 1)] W23 (Ends k1x W23)) := by
            have h9 := IEx.out S v1x (kp + 3) k1x W23 (R1x.out.frame ((hd_later HB23.out _).1)) (by omega)
            have e9 : (((kp + 3) : Nat) : Int) + 1 = (kp : Int) + 1 + 1 + 1 + 1 := by omega
            rw [e9] at h9
            exact h9
          have ng24 : ¬ ((k1x : Int) + 1 < 0) := by omega
          go_wp2_with fail
          refine Calls.mono HC24.out ?_
          rintro ee W24 ⟨rfl, hb24⟩
          have HB24 := hide (HB23.out.trans (hb24.mono HB23.out.size))
          clear hb24 y24 HC24
          clear y2x
          have y25 := cell_later HB24.out _ _ _ C4x.out
          have HC25 : Hid (Calls Try.prog 38 #[v2x, .int .i64 ((k1x : Int) + 1)] W24 (Ends k2x W24)) := by
            have h9 := IDx.out S v2x (k1x) k2x W24 (R2x.out.frame ((hd_later HB24.out _).2.1)) (by omega)
            have e9 : (((k1x) : Nat) : Int) + 1 = (k1x : Int) + 1 := by omega
            rw [e9] at h9
            exact h9
          have ng25 : ¬ ((k2x : Int) + 1 < 0) := by omega
          go_wp2_with fail
          refine Calls.mono HC25.out ?_
          rintro ee W25 ⟨rfl, hb25⟩
          have HB25 := hide (HB24.out.trans (hb25.mono HB24.out.size))
          clear hb25 y25 HC25
          have y26 := cell_later HB25.out _ _ _ C5x.out
          have HC26 : Hid (Calls Try.prog 39 #[v3x, .int .i64 ((k2x : Int) + 1)] W25 (Ends ke W25)) := by
            have h9 := IAx.out S v3x (k2x) ke W25 (R3x.out.frame ((hd_later HB25.out _).2.2)) (by omega)
            have e9 : (((k2x) : Nat) : Int) + 1 = (k2x : Int) + 1 := by omega
            rw [e9] at h9
            exact h9
          have ng26 : ¬ ((ke : Int) + 1 < 0) := by omega
          go_wp2_with fail
          refine Calls.mono HC26.out ?_
          rintro ee W26 ⟨rfl, hb26⟩
          have HB26 := hide (HB25.out.trans (hb26.mono HB25.out.size))
          clear hb26 y26 HC26
          have y27 := cell_later HB26.out _ _ _ N8.out
          have HC27 : Hid (Calls Try.prog 38 #[v8, .int .i64 ((ke : Int) + 1)] W26 (Ends r' W26)) := by
            have h9 := ID1.out S v8 (ke) r' W26 (R8.out.frame ((hd_later HB26.out _).2.1)) (by omega)
            have e9 : (((ke) : Nat) : Int) + 1 = (ke : Int) + 1 := by omega
            rw [e9] at h9
            exact h9
          have ng27 : ¬ ((r' : Int) + 1 < 0) := by omega
          go_wp2_with fail
          refine Calls.mono HC27.out ?_
          rintro ee W27 ⟨rfl, hb27⟩
          have HB27 := hide (HB26.out.trans (hb27.mono HB26.out.size))
          clear hb27 y27 HC27
          go_wp2
          go_roundw
          case rel => exact ⟨i + 1, r', by omega, by go_num, rfl, HKR2.out, HB27.out⟩
          case measure => simp [intOf]; omega
    · have hie : i = n := by omega
      have hrk : r = k' := by
        have h9 := HE1.out
        rw [← hie, HKR.out] at h9
        exact h9
      subst hie
      subst hrk
      clear hb hkr
      go_wp2
      go_ret
      exact ⟨rfl, HB.out⟩
set_option maxHeartbeats 8000000 in
set_option maxRecDepth 100000 in
theorem heldA_of {H : Nat} (ih : ∀ h, h < H → HeE h ∧ HeD h ∧ HeA h) : HeA H := by
  intro S v k k' w hr hk
  obtain ⟨o, n, c, b, off, ks, rfl, hn, ho, e0, e1, e2, e3⟩ := hr.open
  have ml : n ≤ 9223372036854775807 := hn
  have HO := hide ho
  have HE2 := hide e2
  have HE3 := hide e3
  have HE1 := hide e1
  have IH := hide ih
  subst e0
  clear ho e2 e3 ih hr e1 hn
  go_enter Try.func39, Try.ntmps39
  go_wp2
  go_loopw [1, 5] (fun t1 t5 wr => ∃ i r : Nat, i ≤ n ∧ t5 = .int .i64 i ∧ t1 = .int .i64 ((r : Int) + 1) ∧ ks i = r ∧ Below w.heap.size w wr) (fun _ t5 _ => n - (intOf t5).toNat)
  case atStart => exact ⟨0, ks 0, Nat.zero_le _, rfl, rfl, rfl, Below.refl _ _⟩
  case round =>
    obtain ⟨i, r, hi, rfl, rfl, hkr, hb⟩ := hrel
    have HB := hide hb
    have HKR := hide hkr
    by_cases hlt : i < n
    · obtain ⟨eo, hS⟩ := HO.out (by omega)
      subst eo
      have hx := HE3.out i hlt
      have hr1 := HE2.out (i + 1) (by omega)
      rw [hkr] at hx
      obtain ⟨r', hkr'⟩ : ∃ r', ks (i + 1) = r' := ⟨_, rfl⟩
      rw [hkr'] at hx hr1
      have HKR2 := hide hkr'
      clear hb hkr hkr'
      cases H with
      | zero => exact hx.elim
      | succ H =>
        obtain ⟨n0, vp, kp, n1, rp, hxe⟩ := hx
        obtain ⟨ihE1, ihD1, ihA1⟩ := IH.out H (by omega)
        cases H with
        | zero => exact hxe.elim
        | succ H =>
          obtain ⟨ihEx, ihDx, ihAx⟩ := IH.out H (by omega)
          obtain ⟨c0x, c1x, c2x, v1x, v2x, v3x, k1x, k2x, c3x, c4x, c5x, r1x, r2x, r3x⟩ := hxe
          have l1x := r1x.le
          have l2x := r2x.le
          have l3x := r3x.le
          have C0x : Hid (w.cell? ⟨b, off + i * 8 + 2, none⟩ = some (.int .i64 ((kp : Int) + 1))) := c0x
          have C1x : Hid (w.cell? ⟨b, off + i * 8 + 3, none⟩ = some (.string (markS (kp + 1)))) := c1x
          have C2x : Hid (w.cell? ⟨b, off + i * 8 + 4, none⟩ = some (.int .i64 ((kp : Int) + 1 + 1 + 1))) := c2x
          have C3x : Hid (w.cell? ⟨b, off + i * 8 + 5, none⟩ = some (v1x)) := c3x
          have C4x : Hid (w.cell? ⟨b, off + i * 8 + 6, none⟩ = some (v2x)) := c4x
          have C5x : Hid (w.cell? ⟨b, off + i * 8 + 7, none⟩ = some (v3x)) := c5x
          have R1x := hide r1x
          have R2x := hide r2x
          have R3x := hide r3x
          have IEx := hide ihEx
          have IDx := hide ihDx
          have IAx := hide ihAx
          clear c0x c1x c2x c3x c4x c5x r1x r2x r3x ihEx ihDx ihAx
          have lp := rp.le
          have N0 : Hid (w.cell? ⟨b, off + i * 8, none⟩ = some (.string (markS r))) := n0
          have N1 : Hid (w.cell? ⟨b, off + i * 8 + 1, none⟩ = some vp) := n1
          have RP := hide rp
          have rb0 : r ≤ 8900000 := by omega
          clear n0 n1 rp ihE1 ihD1 ihA1
          have ne21 : Nonempty (Later wr) := later_nonempty wr
          have cq21 : ∀ q : Later wr, q.w.cell? ⟨b, off + i * 8, none⟩ = some (.string (markS (r))) := fun q => cell_later q.h _ _ _ (cell_later HB.out _ _ _ N0.out)
          have mt21 := Nm.mt0 r rb0
          have nn21 : ((markS (r)).toList != (markS (r)).toList) = false := by simp
          go_upto_region 4 with fail
          refine wp_region_class (S := fun v => Below wr.heap.size wr v) (by kernel_rfl) (by kernel_rfl) (below_drew _) ?_
          repeat (first | go_big_quiet_skip | (go_big_quiet_want; go_big_quiet_op; first | go_big_quiet_on | (apply Exists.intro; refine ⟨fun q => ?_, ?_⟩; ((go_at_call 65; refine (mt21 _).mono ?_; rintro e w9 ⟨rfl, hb9⟩; exact ⟨rfl, Later.on q hb9, rfl⟩)); go_big_quiet_on)))
          refine wpQuiet_nil ?_
          intro _ hw'
          obtain ⟨q, rfl⟩ := hw'
          have HB21 := hide (HB.out.trans (q.h.mono HB.out.size))
          obtain ⟨W21, hW21⟩ : ∃ W, W = q.w := ⟨_, rfl⟩
          rw [← hW21] at HB21 ⊢
          clear hW21 q ne21 cq21 mt21 nn21
          have y22 := cell_later HB21.out _ _ _ N1.out
          have HC22 : Hid (Calls Try.prog 66 #[vp, .int .i64 ((r : Int) + 1 + 1)] W21 (Ends kp W21)) := by
            have h9 := heldS_all S vp (r + 1) kp W21 (RP.out.frame (str_later HB21.out)) (by omega)
            have e9 : (((r + 1) : Nat) : Int) + 1 = (r : Int) + 1 + 1 := by omega
            rw [e9] at h9
            exact h9
          have ng22 : ¬ ((kp : Int) + 1 < 0) := by omega
          go_wp2_with fail
          refine Calls.mono HC22.out ?_
          rintro ee W22 ⟨rfl, hb22⟩
          have HB22 := hide (HB21.out.trans (hb22.mono HB21.out.size))
          clear hb22 y22 HC22
          have y0x := cell_later HB22.out _ _ _ C0x.out
          have bnx : (((kp : Nat) : Int) + 1 != ((kp : Nat) : Int) + 1) = false := by simp
          have rbx : kp ≤ 8900000 := by omega
          have ne23 : Nonempty (Later W22) := later_nonempty W22
          have cq23 : ∀ q : Later W22, q.w.cell? ⟨b, off + i * 8 + 3, none⟩ = some (.string (markS (kp + 1))) := fun q => cell_later q.h _ _ _ (cell_later HB22.out _ _ _ C1x.out)
          have mt23 := Nm.mt1 kp rbx
          have nn23 : ((markS (kp + 1)).toList != (markS (kp + 1)).toList) = false := by simp
          go_upto_region 13 with fail
          refine wp_region_class (S := fun v => Below W22.heap.size W22 v) (by kernel_rfl) (by kernel_rfl) (below_drew _) ?_
          repeat (first | go_big_quiet_skip | (go_big_quiet_want; go_big_quiet_op; first | go_big_quiet_on | (apply Exists.intro; refine ⟨fun q => ?_, ?_⟩; ((go_at_call 65; refine (mt23 _).mono ?_; rintro e w9 ⟨rfl, hb9⟩; exact ⟨rfl, Later.on q hb9, rfl⟩)); go_big_quiet_on)))
          refine wpQuiet_nil ?_
          intro _ hw'
          obtain ⟨q, rfl⟩ := hw'
          have HB23 := hide (HB22.out.trans (q.h.mono HB22.out.size))
          obtain ⟨W23, hW23⟩ : ∃ W, W = q.w := ⟨_, rfl⟩
          rw [← hW23] at HB23 ⊢
          clear hW23 q ne23 cq23 mt23 nn23
          clear y0x
          have y2x := cell_later HB23.out _ _ _ C2x.out
          have bmx : (((kp : Nat) : Int) + 1 + 1 + 1 != ((kp : Nat) : Int) + 1 + 1 + 1) = false := by simp
          have y24 := cell_later HB23.out _ _ _ C3x.out
          have HC24 : Hid (Calls Try.prog 37 #[v1x, .int .i64 ((kp : Int) + 1 + 1 + 1 + 1)] W23 (Ends k1x W23)) := by
            have h9 := IEx.out S v1x (kp + 3) k1x W23 (R1x.out.frame ((hd_later HB23.out _).1)) (by omega)
            have e9 : (((kp + 3) : Nat) : Int) + 1 = (kp : Int) + 1 + 1 + 1 + 1 := by omega
            rw [e9] at h9
            exact h9
          have ng24 : ¬ ((k1x : Int) + 1 < 0) := by omega
          go_wp2_with fail
          refine Calls.mono HC24.out ?_
          rintro ee W24 ⟨rfl, hb24⟩
          have HB24 := hide (HB23.out.trans (hb24.mono HB23.out.size))
          clear hb24 y24 HC24
          clear y2x
          have y25 := cell_later HB24.out _ _ _ C4x.out
          have HC25 : Hid (Calls Try.prog 38 #[v2x, .int .i64 ((k1x : Int) + 1)] W24 (Ends k2x W24)) := by
            have h9 := IDx.out S v2x (k1x) k2x W24 (R2x.out.frame ((hd_later HB24.out _).2.1)) (by omega)
            have e9 : (((k1x) : Nat) : Int) + 1 = (k1x : Int) + 1 := by omega
            rw [e9] at h9
            exact h9
          have ng25 : ¬ ((k2x : Int) + 1 < 0) := by omega
          go_wp2_with fail
          refine Calls.mono HC25.out ?_
          rintro ee W25 ⟨rfl, hb25⟩
          have HB25 := hide (HB24.out.trans (hb25.mono HB24.out.size))
          clear hb25 y25 HC25
          have y26 := cell_later HB25.out _ _ _ C5x.out
          have HC26 : Hid (Calls Try.prog 39 #[v3x, .int .i64 ((k2x : Int) + 1)] W25 (Ends r' W25)) := by
            have h9 := IAx.out S v3x (k2x) r' W25 (R3x.out.frame ((hd_later HB25.out _).2.2)) (by omega)
            have e9 : (((k2x) : Nat) : Int) + 1 = (k2x : Int) + 1 := by omega
            rw [e9] at h9
            exact h9
          have ng26 : ¬ ((r' : Int) + 1 < 0) := by omega
          go_wp2_with fail
          refine Calls.mono HC26.out ?_
          rintro ee W26 ⟨rfl, hb26⟩
          have HB26 := hide (HB25.out.trans (hb26.mono HB25.out.size))
          clear hb26 y26 HC26
          go_wp2
          go_roundw
          case rel => exact ⟨i + 1, r', by omega, by go_num, rfl, HKR2.out, HB26.out⟩
          case measure => simp [intOf]; omega
    · have hie : i = n := by omega
      have hrk : r = k' := by
        have h9 := HE1.out
        rw [← hie, HKR.out] at h9
        exact h9
      subst hie
      subst hrk
      clear hb hkr
      go_wp2
      go_ret
      exact ⟨rfl, HB.out⟩
theorem held_all : ∀ h, HeE h ∧ HeD h ∧ HeA h := by
  intro h
  induction h using Nat.strongRecOn with
  | ind h ih => exact ⟨heldE_of ih, heldD_of ih, heldA_of ih⟩
end Go.Proofs.Ytgeckgdmkjddpaa.Mh
