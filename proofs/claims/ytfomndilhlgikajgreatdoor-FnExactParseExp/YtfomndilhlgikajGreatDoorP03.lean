import Derived.Deep.DeepCutAuto
import Derived.Deep.CutBlock
import Derived.Test.YtfomndilhlgikajGreatDoorP02
set_option maxHeartbeats 8000000
set_option maxRecDepth 100000
namespace Go.Proofs.YtfomndilhlgikajGreatDoor.Mh
open Go.ChangeShapes Go.WideShapes Go.ChangeAt Go.RowKit
set_option linter.unusedVariables false
def HR (sz : Nat) (R : Nat -> Nat -> Nat -> Nat -> Prop) (S : Nat -> Prop) (v : Value) (k k' : Nat) : Prop :=
 ∃ o n c, v = .slice o n c /\ n <= maxLen /\ k <= k' /\ (n = 0 -> k' = k) /\ (0 < n -> ∃ b off, ∃ ks : Nat -> Nat, o = some ⟨b, off, none⟩ /\ S b /\ ks 0 = k /\ ks n = k' /\ (∀ i, i <= n -> ks i <= k') /\ ∀ i, i < n -> R b (off + i * sz) (ks i) (ks (i + 1)))
def kn (w : World) : Nat -> Nat -> Nat -> Nat -> Prop := fun b p k k' => k' = k + 1 /\ w.cell? ⟨b, p, none⟩ = some (.string (aD k))
structure Hs where
 ex : Nat -> Nat -> Nat -> Nat -> Prop
 de : Nat -> Nat -> Nat -> Nat -> Prop
 al : Nat -> Nat -> Nat -> Nat -> Prop
def hd (w : World) (S : Nat -> Prop) : Nat -> Hs
 | 0 => ⟨fun _ _ _ _ => False, fun _ _ _ _ => False, fun _ _ _ _ => False⟩
 | h + 1 => ⟨fun b p k k' => w.cell? ⟨b, p, none⟩ = some (.int .i64 ((k : Int) + 1)) /\ w.cell? ⟨b, p + 1, none⟩ = some (.string (aD (k + 1))) /\ w.cell? ⟨b, p + 2, none⟩ = some (.int .i64 ((k : Int) + 1 + 1 + 1)) ∧
  ∃ v1 v2 v3 k1 k2, w.cell? ⟨b, p + 3, none⟩ = some v1 /\ w.cell? ⟨b, p + 4, none⟩ = some v2 /\ w.cell? ⟨b, p + 5, none⟩ = some v3 /\ HR 6 (hd w S h).ex S v1 (k + 3) k1 /\ HR 9 (hd w S h).de S v2 k1 k2 /\ HR 8 (hd w S h).al S v3 k2 k',
  fun b p k k' => w.cell? ⟨b, p, none⟩ = some (.string (aD k)) /\ ∃ v1 v8 k1 k2, w.cell? ⟨b, p + 1, none⟩ = some v1 /\ w.cell? ⟨b, p + 8, none⟩ = some v8 /\ HR 1 (kn w) S v1 (k + 1) k1 /\ (hd w S h).ex b (p + 2) k1 k2 /\ HR 9 (hd w S h).de S v8 k2 k',
  fun b p k k' => w.cell? ⟨b, p, none⟩ = some (.string (aD k)) /\ ∃ v1 k1, w.cell? ⟨b, p + 1, none⟩ = some v1 /\ HR 1 (kn w) S v1 (k + 1) k1 /\ (hd w S h).ex b (p + 2) k1 k'⟩
theorem HR.frame {sz : Nat} {R R' : Nat -> Nat -> Nat -> Nat -> Prop} {S : Nat -> Prop} {v : Value} {k k' : Nat} (h : HR sz R S v k k') (hR : ∀ b p a c, S b -> R b p a c -> R' b p a c) : HR sz R' S v k k' := by
 obtain ⟨o, n, c, e, h1, h2, h3, h4⟩ := h
 refine ⟨o, n, c, e, h1, h2, h3, fun h0 => ?_⟩
 obtain ⟨b, off, ks, e1, hS, e2, e3, e4, e5⟩ := h4 h0
 exact ⟨b, off, ks, e1, hS, e2, e3, e4, fun i hi => hR _ _ _ _ hS (e5 i hi)⟩
theorem kv {w w' : World} {S : Nat -> Prop} (hc : ∀ b j v, S b -> w.cell? ⟨b, j, none⟩ = some v -> w'.cell? ⟨b, j, none⟩ = some v) : ∀ h, (∀ b p k k', S b -> (hd w S h).ex b p k k' -> (hd w' S h).ex b p k k') /\ (∀ b p k k', S b -> (hd w S h).de b p k k' -> (hd w' S h).de b p k k') /\ (∀ b p k k', S b -> (hd w S h).al b p k k' -> (hd w' S h).al b p k k') := by
 have hs : ∀ b p k k', S b -> kn w b p k k' -> kn w' b p k k' := fun b p k k' hb h => ⟨h.1, hc _ _ _ hb h.2⟩
 intro h
 induction h with
 | zero => exact ⟨fun _ _ _ _ _ h => h, fun _ _ _ _ _ h => h, fun _ _ _ _ _ h => h⟩
 | succ h ih =>
  obtain ⟨i1, i2, i3⟩ := ih
  refine ⟨fun b p k k' hb hx => ?_, fun b p k k' hb hx => ?_, fun b p k k' hb hx => ?_⟩
  ·obtain ⟨c0, c1, c2, v1, v2, v3, k1, k2, c3, c4, c5, r1, r2, r3⟩ := hx
   exact ⟨hc _ _ _ hb c0, hc _ _ _ hb c1, hc _ _ _ hb c2, v1, v2, v3, k1, k2, hc _ _ _ hb c3, hc _ _ _ hb c4, hc _ _ _ hb c5, r1.frame i1, r2.frame i2, r3.frame i3⟩
  ·obtain ⟨c0, v1, v8, k1, k2, c1, c8, r1, r2, r3⟩ := hx
   exact ⟨hc _ _ _ hb c0, v1, v8, k1, k2, hc _ _ _ hb c1, hc _ _ _ hb c8, r1.frame hs, i1 _ _ _ _ hb r2, r3.frame i2⟩
  ·obtain ⟨c0, v1, k1, c1, r1, r2⟩ := hx
   exact ⟨hc _ _ _ hb c0, v1, k1, hc _ _ _ hb c1, r1.frame hs, i1 _ _ _ _ hb r2⟩
theorem aE {w w' : World} (hb : Below w.heap.size w w') (b j : Nat) (v : Value) (h : w.cell? ⟨b, j, none⟩ = some v) : w'.cell? ⟨b, j, none⟩ = some v := (hb.cell (p := ⟨b, j, none⟩) (World.block_lt_of_cell? w _ h)).trans h
theorem eO {w w' : World} {S : Nat -> Prop} (hb : Below w.heap.size w w') (h : Nat) : (∀ b p k k', S b -> (hd w S h).ex b p k k' -> (hd w' S h).ex b p k k') /\ (∀ b p k k', S b -> (hd w S h).de b p k k' -> (hd w' S h).de b p k k') /\ (∀ b p k k', S b -> (hd w S h).al b p k k' -> (hd w' S h).al b p k k') := kv (fun b j v _ h => aE hb b j v h) h
theorem rH {w w' : World} {S : Nat -> Prop} (hb : Below w.heap.size w w') : ∀ b p k k', S b -> kn w b p k k' -> kn w' b p k k' := fun b p k k' _ h => ⟨h.1, aE hb _ _ _ h.2⟩
def Ends (k' : Nat) (w : World) (e : Ending) (w' : World) : Prop := e = .returned (.int .i64 ((k' : Int) + 1)) /\ Below w.heap.size w w'
def Ri : Prop := ∀ (S : Nat -> Prop) (v : Value) (k k' : Nat) (w : World), HR 1 (kn w) S v k k' -> k' <= 4800000 -> Calls Tryz.prog 95 #[v, .int .i64 ((k : Int) + 1)] w (Ends k' w)
def JJ (h : Nat) : Prop := ∀ (S : Nat -> Prop) (v : Value) (k k' : Nat) (w : World), HR 6 (hd w S h).ex S v k k' -> k' <= 4800000 -> Calls Tryz.prog 51 #[v, .int .i64 ((k : Int) + 1)] w (Ends k' w)
def JS (h : Nat) : Prop := ∀ (S : Nat -> Prop) (v : Value) (k k' : Nat) (w : World), HR 9 (hd w S h).de S v k k' -> k' <= 4800000 -> Calls Tryz.prog 41 #[v, .int .i64 ((k : Int) + 1)] w (Ends k' w)
def JB (h : Nat) : Prop := ∀ (S : Nat -> Prop) (v : Value) (k k' : Nat) (w : World), HR 8 (hd w S h).al S v k k' -> k' <= 4800000 -> Calls Tryz.prog 52 #[v, .int .i64 ((k : Int) + 1)] w (Ends k' w)
theorem rK : Ri := by
 intro S v k k' w hr hk
 obtain ⟨o, n, c, rfl, hn, wN, h0, h1⟩ := hr
 have ml : n <= 9223372036854775807 := hn
 have H1 := aa h1
 have H0 := aa h0
 clear h0 h1
 go_enter Tryz.func95, Tryz.ntmps95
 go_wp2
 go_loopw [1, 5] (fun t1 t5 wr => ∃ i r : Nat, i <= n /\ t5 = .int .i64 i /\ t1 = .int .i64 ((r : Int) + 1) /\ r <= k' /\ (n = 0 -> r = k') /\ (∀ b off (ks : Nat -> Nat), o = some ⟨b, off, none⟩ -> ks 0 = k -> (∀ j, j < n -> kn w b (off + j * 1) (ks j) (ks (j + 1))) -> ks i = r) /\ Below w.heap.size w wr) (fun _ t5 _ => n - (intOf t5).toNat)
 case atStart => exact ⟨0, k, Nat.zero_le _, rfl, rfl, wN, fun h => (H0.out h).symm, fun _ _ _ _ e _ => e, Below.refl _ _⟩
 case round =>
  obtain ⟨i, r, hi, rfl, rfl, Jo, Cd, KL, hb⟩ := hrel
  have HB := aa hb
  have E3 := aa KL
  by_cases au : i < n
  ·obtain ⟨b, off, ks, eo, hS, e0, e1, e2, e3⟩ := H1.out (by omega)
   have er : ks i = r := E3.out b off ks eo e0 e3
   subst eo
   obtain ⟨f1, f2⟩ := e3 i au
   rw [er, Nat.mul_one] at f2
   rw [er] at f1
   have qI : r + 1 <= k' := by have := e2 (i + 1) (by omega); omega
   have q1 := aE hb _ _ _ f2
   have HQ := aa q1
   have zq : r <= 4900000 := by omega
   have Ui : Nonempty (Later wr) := ax wr
   have cq : ∀ q : Later wr, q.w.cell? ⟨b, off + i, none⟩ = some (.string (aD r)) := fun q => aE q.h _ _ _ HQ.out
   have PE := Nm.mt0 r zq
   have TI : ((aD r).toList != (aD r).toList) = false := by simp
   have fh : Hid (∀ b' off' (ks' : Nat -> Nat), (some ⟨b, off, none⟩ : Option Addr) = some ⟨b', off', none⟩ -> ks' 0 = k -> (∀ j, j < n -> kn w b' (off' + j * 1) (ks' j) (ks' (j + 1))) -> ks' (i + 1) = r + 1) := by
    intro b' off' ks' e9 Ly e11
    have h9 := E3.out b' off' ks' e9 Ly e11
    have wQ := (e11 i au).1
    omega
   clear hb KL f2 e3 q1 Cd e2
   go_upto_region 4 with fail
   refine av (S := fun v => Below wr.heap.size wr v) (by kernel_rfl) (by kernel_rfl) (aS _) ?_
   repeat (first | go_big_quiet_skip | (go_big_quiet_want; go_big_quiet_op; first | go_big_quiet_on | (apply Exists.intro; refine ⟨fun q => ?_, ?_⟩; ((go_at_call 91; refine (PE _).mono ?_; rintro e w9 ⟨rfl, hb9⟩; exact ⟨rfl, Later.on q hb9, rfl⟩)); go_big_quiet_on)))
   refine wpQuiet_nil ?_
   intro _ hw'
   obtain ⟨q, rfl⟩ := hw'
   have bD := aa (HB.out.trans (q.h.mono HB.out.size))
   clear Ui cq PE TI
   go_wp2
   go_roundw
   case rel => exact ⟨i + 1, r + 1, by omega, by go_num, by go_num, qI, fun h => absurd h (by omega), fh.out, bD.out⟩
   case measure => simp [intOf]; omega
  ·have jQ : i = n := by omega
   have MU : r = k' := by
    by_cases EE : n = 0
    ·exact Cd EE
    ·obtain ⟨b, off, ks, eo, hS, e0, e1, e2, e3⟩ := H1.out (by omega)
     have er : ks i = r := E3.out b off ks eo e0 e3
     rw [jQ, e1] at er
     exact er.symm
   subst jQ
   subst MU
   clear hb KL Cd
   go_wp2
   go_ret
   exact ⟨rfl, HB.out⟩
theorem HR.le {sz : Nat} {R : Nat -> Nat -> Nat -> Nat -> Prop} {S : Nat -> Prop} {v : Value} {k k' : Nat} (h : HR sz R S v k k') : k <= k' := by
 obtain ⟨o, n, c, e, h1, h2, h3, h4⟩ := h
 exact h2
theorem HR.open {sz : Nat} {R : Nat -> Nat -> Nat -> Nat -> Prop} {S : Nat -> Prop} {v : Value} {k k' : Nat} (h : HR sz R S v k k') : ∃ o n c b off, ∃ ks : Nat -> Nat, v = .slice o n c /\ n <= maxLen /\ (0 < n -> o = some ⟨b, off, none⟩ /\ S b) /\ ks 0 = k /\ ks n = k' /\ (∀ i, i <= n -> ks i <= k') /\ ∀ i, i < n -> R b (off + i * sz) (ks i) (ks (i + 1)) := by
 obtain ⟨o, n, c, e, h1, h2, h3, h4⟩ := h
 rcases Nat.eq_zero_or_pos n with h0 | h0
 ·exact ⟨o, n, c, 0, 0, fun _ => k, e, h1, fun h => absurd h (by omega), rfl, (h3 h0).symm, fun _ _ => h2, fun i hi => absurd hi (by omega)⟩
 ·obtain ⟨b, off, ks, e1, hS, e2, e3, e4, e5⟩ := h4 h0
  exact ⟨o, n, c, b, off, ks, e, h1, fun _ => ⟨e1, hS⟩, e2, e3, e4, e5⟩
theorem A8 {H : Nat} (ih : ∀ h, h < H -> JJ h /\ JS h /\ JB h) : JJ H := by
 intro S v k k' w hr hk
 obtain ⟨o, n, c, b, off, ks, rfl, hn, ho, e0, e1, e2, e3⟩ := hr.open
 have ml : n <= 9223372036854775807 := hn
 have HO := aa ho
 have Dz := aa e2
 have Lj := aa e3
 have Fs := aa e1
 have IH := aa ih
 subst e0
 clear ho e2 e3 ih hr e1 hn
 go_enter Tryz.func51, Tryz.ntmps51
 go_wp2
 go_loopw [1, 5] (fun t1 t5 wr => ∃ i r : Nat, i <= n /\ t5 = .int .i64 i /\ t1 = .int .i64 ((r : Int) + 1) /\ ks i = r /\ Below w.heap.size w wr) (fun _ t5 _ => n - (intOf t5).toNat)
 case atStart => exact ⟨0, ks 0, Nat.zero_le _, rfl, rfl, rfl, Below.refl _ _⟩
 case round =>
  obtain ⟨i, r, hi, rfl, rfl, hkr, hb⟩ := hrel
  have HB := aa hb
  have FF := aa hkr
  by_cases au : i < n
  ·obtain ⟨eo, hS⟩ := HO.out (by omega)
   subst eo
   have hx := Lj.out i au
   have qI := Dz.out (i + 1) (by omega)
   rw [hkr] at hx
   obtain ⟨r', hkr'⟩ : ∃ r', ks (i + 1) = r' := ⟨_, rfl⟩
   rw [hkr'] at hx qI
   have Cg := aa hkr'
   clear hb hkr hkr'
   cases H with
   | zero => exact hx.elim
   | succ H =>
    obtain ⟨ihEx, ihDx, ihAx⟩ := IH.out H (by omega)
    obtain ⟨c0x, c1x, c2x, v1x, v2x, v3x, k1x, k2x, c3x, c4x, c5x, r1x, r2x, r3x⟩ := hx
    have Qq := r1x.le
    have QO := r2x.le
    have P0 := r3x.le
    have Kr : Hid (w.cell? ⟨b, off + i * 6, none⟩ = some (.int .i64 ((r : Int) + 1))) := c0x
    have KU : Hid (w.cell? ⟨b, off + i * 6 + 1, none⟩ = some (.string (aD (r + 1)))) := c1x
    have Kt : Hid (w.cell? ⟨b, off + i * 6 + 2, none⟩ = some (.int .i64 ((r : Int) + 1 + 1 + 1))) := c2x
    have K9 : Hid (w.cell? ⟨b, off + i * 6 + 3, none⟩ = some (v1x)) := c3x
    have KY : Hid (w.cell? ⟨b, off + i * 6 + 4, none⟩ = some (v2x)) := c4x
    have Lk : Hid (w.cell? ⟨b, off + i * 6 + 5, none⟩ = some (v3x)) := c5x
    have Ka := aa r1x
    have J8 := aa r2x
    have Ko := aa r3x
    have Ll := aa ihEx
    have K4 := aa ihDx
    have KK := aa ihAx
    clear c0x c1x c2x c3x c4x c5x r1x r2x r3x ihEx ihDx ihAx
    have Ld := aE HB.out _ _ _ Kr.out
    have P9 : (((r : Nat) : Int) + 1 != ((r : Nat) : Int) + 1) = false := by simp
    have K1 : r <= 4900000 := by omega
    have CL : Nonempty (Later wr) := ax wr
    have Cj : ∀ q : Later wr, q.w.cell? ⟨b, off + i * 6 + 1, none⟩ = some (.string (aD (r + 1))) := fun q => aE q.h _ _ _ (aE HB.out _ _ _ KU.out)
    have uT := Nm.mt1 r K1
    have Cf : ((aD (r + 1)).toList != (aD (r + 1)).toList) = false := by simp
    go_upto_region 7 with fail
    refine av (S := fun v => Below wr.heap.size wr v) (by kernel_rfl) (by kernel_rfl) (aS _) ?_
    repeat (first | go_big_quiet_skip | (go_big_quiet_want; go_big_quiet_op; first | go_big_quiet_on | (apply Exists.intro; refine ⟨fun q => ?_, ?_⟩; ((go_at_call 91; refine (uT _).mono ?_; rintro e w9 ⟨rfl, hb9⟩; exact ⟨rfl, Later.on q hb9, rfl⟩)); go_big_quiet_on)))
    refine wpQuiet_nil ?_
    intro _ hw'
    obtain ⟨q, rfl⟩ := hw'
    have jU := aa (HB.out.trans (q.h.mono HB.out.size))
    obtain ⟨W21, hW21⟩ : ∃ W, W = q.w := ⟨_, rfl⟩
    rw [<- hW21] at jU ⊢
    clear hW21 q CL Cj uT Cf
    clear Ld
    have Lc := aE jU.out _ _ _ Kt.out
    have Qk : (((r : Nat) : Int) + 1 + 1 + 1 != ((r : Nat) : Int) + 1 + 1 + 1) = false := by simp
    have EV := aE jU.out _ _ _ K9.out
    have mT : Hid (Calls Tryz.prog 51 #[v1x, .int .i64 ((r : Int) + 1 + 1 + 1 + 1)] W21 (Ends k1x W21)) := by
     have h9 := Ll.out S v1x (r + 3) k1x W21 (Ka.out.frame ((eO jU.out _).1)) (by omega)
     have e9 : (((r + 3) : Nat) : Int) + 1 = (r : Int) + 1 + 1 + 1 + 1 := by omega
     rw [e9] at h9
     exact h9
    have K8 : ¬ ((k1x : Int) + 1 < 0) := by omega
    go_wp2_with fail
    refine Calls.mono mT.out ?_
    rintro ee W22 ⟨rfl, hb22⟩
    have mU := aa (jU.out.trans (hb22.mono jU.out.size))
    clear hb22 EV mT
    clear Lc
    have IA := aE mU.out _ _ _ KY.out
    have KS : Hid (Calls Tryz.prog 41 #[v2x, .int .i64 ((k1x : Int) + 1)] W22 (Ends k2x W22)) := by
     have h9 := K4.out S v2x (k1x) k2x W22 (J8.out.frame ((eO mU.out _).2.1)) (by omega)
     have e9 : (((k1x) : Nat) : Int) + 1 = (k1x : Int) + 1 := by omega
     rw [e9] at h9
     exact h9
    have Rr : ¬ ((k2x : Int) + 1 < 0) := by omega
    go_wp2_with fail
    refine Calls.mono KS.out ?_
    rintro ee W23 ⟨rfl, hb23⟩
    have jT := aa (mU.out.trans (hb23.mono mU.out.size))
    clear hb23 IA KS
    have Hh := aE jT.out _ _ _ Lk.out
    have qf : Hid (Calls Tryz.prog 52 #[v3x, .int .i64 ((k2x : Int) + 1)] W23 (Ends r' W23)) := by
     have h9 := KK.out S v3x (k2x) r' W23 (Ko.out.frame ((eO jT.out _).2.2)) (by omega)
     have e9 : (((k2x) : Nat) : Int) + 1 = (k2x : Int) + 1 := by omega
     rw [e9] at h9
     exact h9
    have Kh : ¬ ((r' : Int) + 1 < 0) := by omega
    go_wp2_with fail
    refine Calls.mono qf.out ?_
    rintro ee W24 ⟨rfl, hb24⟩
    have qg := aa (jT.out.trans (hb24.mono jT.out.size))
    clear hb24 Hh qf
    go_wp2
    go_roundw
    case rel => exact ⟨i + 1, r', by omega, by go_num, rfl, Cg.out, qg.out⟩
    case measure => simp [intOf]; omega
  ·have jQ : i = n := by omega
   have Jo : r = k' := by
    have h9 := Fs.out
    rw [<- jQ, FF.out] at h9
    exact h9
   subst jQ
   subst Jo
   clear hb hkr
   go_wp2
   go_ret
   exact ⟨rfl, HB.out⟩
theorem Af {H : Nat} (ih : ∀ h, h < H -> JJ h /\ JS h /\ JB h) : JS H := by
 intro S v k k' w hr hk
 obtain ⟨o, n, c, b, off, ks, rfl, hn, ho, e0, e1, e2, e3⟩ := hr.open
 have ml : n <= 9223372036854775807 := hn
 have HO := aa ho
 have Dz := aa e2
 have Lj := aa e3
 have Fs := aa e1
 have IH := aa ih
 subst e0
 clear ho e2 e3 ih hr e1 hn
 go_enter Tryz.func41, Tryz.ntmps41
 go_wp2
 go_loopw [1, 5] (fun t1 t5 wr => ∃ i r : Nat, i <= n /\ t5 = .int .i64 i /\ t1 = .int .i64 ((r : Int) + 1) /\ ks i = r /\ Below w.heap.size w wr) (fun _ t5 _ => n - (intOf t5).toNat)
 case atStart => exact ⟨0, ks 0, Nat.zero_le _, rfl, rfl, rfl, Below.refl _ _⟩
 case round =>
  obtain ⟨i, r, hi, rfl, rfl, hkr, hb⟩ := hrel
  have HB := aa hb
  have FF := aa hkr
  by_cases au : i < n
  ·obtain ⟨eo, hS⟩ := HO.out (by omega)
   subst eo
   have hx := Lj.out i au
   have qI := Dz.out (i + 1) (by omega)
   rw [hkr] at hx
   obtain ⟨r', hkr'⟩ : ∃ r', ks (i + 1) = r' := ⟨_, rfl⟩
   rw [hkr'] at hx qI
   have Cg := aa hkr'
   clear hb hkr hkr'
   cases H with
   | zero => exact hx.elim
   | succ H =>
    obtain ⟨n0, vp, v8, kp, ke, n1, n8, rp, hxe, rw8⟩ := hx
    obtain ⟨ihE1, ihD1, ihA1⟩ := IH.out H (by omega)
    cases H with
    | zero => exact hxe.elim
    | succ H =>
     obtain ⟨ihEx, ihDx, ihAx⟩ := IH.out H (by omega)
     obtain ⟨c0x, c1x, c2x, v1x, v2x, v3x, k1x, k2x, c3x, c4x, c5x, r1x, r2x, r3x⟩ := hxe
     have Qq := r1x.le
     have QO := r2x.le
     have P0 := r3x.le
     have Kr : Hid (w.cell? ⟨b, off + i * 9 + 2, none⟩ = some (.int .i64 ((kp : Int) + 1))) := c0x
     have KU : Hid (w.cell? ⟨b, off + i * 9 + 3, none⟩ = some (.string (aD (kp + 1)))) := c1x
     have Kt : Hid (w.cell? ⟨b, off + i * 9 + 4, none⟩ = some (.int .i64 ((kp : Int) + 1 + 1 + 1))) := c2x
     have K9 : Hid (w.cell? ⟨b, off + i * 9 + 5, none⟩ = some (v1x)) := c3x
     have KY : Hid (w.cell? ⟨b, off + i * 9 + 6, none⟩ = some (v2x)) := c4x
     have Lk : Hid (w.cell? ⟨b, off + i * 9 + 7, none⟩ = some (v3x)) := c5x
     have Ka := aa r1x
     have J8 := aa r2x
     have Ko := aa r3x
     have Ll := aa ihEx
     have K4 := aa ihDx
     have KK := aa ihAx
     clear c0x c1x c2x c3x c4x c5x r1x r2x r3x ihEx ihDx ihAx
     have lp := rp.le
     have N0 : Hid (w.cell? ⟨b, off + i * 9, none⟩ = some (.string (aD r))) := n0
     have N1 : Hid (w.cell? ⟨b, off + i * 9 + 1, none⟩ = some vp) := n1
     have RP := aa rp
     have l8 := rw8.le
     have N8 : Hid (w.cell? ⟨b, off + i * 9 + 8, none⟩ = some v8) := n8
     have R8 := aa rw8
     have Ti := aa ihD1
     clear n8 rw8
     have Nk : r <= 4900000 := by omega
     clear n0 n1 rp ihE1 ihD1 ihA1
     have CL : Nonempty (Later wr) := ax wr
     have Cj : ∀ q : Later wr, q.w.cell? ⟨b, off + i * 9, none⟩ = some (.string (aD (r))) := fun q => aE q.h _ _ _ (aE HB.out _ _ _ N0.out)
     have uT := Nm.mt0 r Nk
     have Cf : ((aD (r)).toList != (aD (r)).toList) = false := by simp
     go_upto_region 4 with fail
     refine av (S := fun v => Below wr.heap.size wr v) (by kernel_rfl) (by kernel_rfl) (aS _) ?_
     repeat (first | go_big_quiet_skip | (go_big_quiet_want; go_big_quiet_op; first | go_big_quiet_on | (apply Exists.intro; refine ⟨fun q => ?_, ?_⟩; ((go_at_call 91; refine (uT _).mono ?_; rintro e w9 ⟨rfl, hb9⟩; exact ⟨rfl, Later.on q hb9, rfl⟩)); go_big_quiet_on)))
     refine wpQuiet_nil ?_
     intro _ hw'
     obtain ⟨q, rfl⟩ := hw'
     have jU := aa (HB.out.trans (q.h.mono HB.out.size))
     obtain ⟨W21, hW21⟩ : ∃ W, W = q.w := ⟨_, rfl⟩
     rw [<- hW21] at jU ⊢
     clear hW21 q CL Cj uT Cf
     have EV := aE jU.out _ _ _ N1.out
     have mT : Hid (Calls Tryz.prog 95 #[vp, .int .i64 ((r : Int) + 1 + 1)] W21 (Ends kp W21)) := by
      have h9 := rK S vp (r + 1) kp W21 (RP.out.frame (rH jU.out)) (by omega)
      have e9 : (((r + 1) : Nat) : Int) + 1 = (r : Int) + 1 + 1 := by omega
      rw [e9] at h9
      exact h9
     have K8 : ¬ ((kp : Int) + 1 < 0) := by omega
     go_wp2_with fail
     refine Calls.mono mT.out ?_
     rintro ee W22 ⟨rfl, hb22⟩
     have mU := aa (jU.out.trans (hb22.mono jU.out.size))
     clear hb22 EV mT
     have Ld := aE mU.out _ _ _ Kr.out
     have P9 : (((kp : Nat) : Int) + 1 != ((kp : Nat) : Int) + 1) = false := by simp
     have K1 : kp <= 4900000 := by omega
     have Hj : Nonempty (Later W22) := ax W22
     have I7 : ∀ q : Later W22, q.w.cell? ⟨b, off + i * 9 + 3, none⟩ = some (.string (aD (kp + 1))) := fun q => aE q.h _ _ _ (aE mU.out _ _ _ KU.out)
     have Cz := Nm.mt1 kp K1
     have IE : ((aD (kp + 1)).toList != (aD (kp + 1)).toList) = false := by simp
     go_upto_region 13 with fail
     refine av (S := fun v => Below W22.heap.size W22 v) (by kernel_rfl) (by kernel_rfl) (aS _) ?_
     repeat (first | go_big_quiet_skip | (go_big_quiet_want; go_big_quiet_op; first | go_big_quiet_on | (apply Exists.intro; refine ⟨fun q => ?_, ?_⟩; ((go_at_call 91; refine (Cz _).mono ?_; rintro e w9 ⟨rfl, hb9⟩; exact ⟨rfl, Later.on q hb9, rfl⟩)); go_big_quiet_on)))
     refine wpQuiet_nil ?_
     intro _ hw'
     obtain ⟨q, rfl⟩ := hw'
     have jT := aa (mU.out.trans (q.h.mono mU.out.size))
     obtain ⟨W23, hW23⟩ : ∃ W, W = q.w := ⟨_, rfl⟩
     rw [<- hW23] at jT ⊢
     clear hW23 q Hj I7 Cz IE
     clear Ld
     have Lc := aE jT.out _ _ _ Kt.out
     have Qk : (((kp : Nat) : Int) + 1 + 1 + 1 != ((kp : Nat) : Int) + 1 + 1 + 1) = false := by simp
     have Hh := aE jT.out _ _ _ K9.out
     have qf : Hid (Calls Tryz.prog 51 #[v1x, .int .i64 ((kp : Int) + 1 + 1 + 1 + 1)] W23 (Ends k1x W23)) := by
      have h9 := Ll.out S v1x (kp + 3) k1x W23 (Ka.out.frame ((eO jT.out _).1)) (by omega)
      have e9 : (((kp + 3) : Nat) : Int) + 1 = (kp : Int) + 1 + 1 + 1 + 1 := by omega
      rw [e9] at h9
      exact h9
     have Kh : ¬ ((k1x : Int) + 1 < 0) := by omega
     go_wp2_with fail
     refine Calls.mono qf.out ?_
     rintro ee W24 ⟨rfl, hb24⟩
     have qg := aa (jT.out.trans (hb24.mono jT.out.size))
     clear hb24 Hh qf
     clear Lc
     have OH := aE qg.out _ _ _ KY.out
     have CH : Hid (Calls Tryz.prog 41 #[v2x, .int .i64 ((k1x : Int) + 1)] W24 (Ends k2x W24)) := by
      have h9 := K4.out S v2x (k1x) k2x W24 (J8.out.frame ((eO qg.out _).2.1)) (by omega)
      have e9 : (((k1x) : Nat) : Int) + 1 = (k1x : Int) + 1 := by omega
      rw [e9] at h9
      exact h9
     have Pa : ¬ ((k2x : Int) + 1 < 0) := by omega
     go_wp2_with fail
     refine Calls.mono CH.out ?_
     rintro ee W25 ⟨rfl, hb25⟩
     have sU := aa (qg.out.trans (hb25.mono qg.out.size))
     clear hb25 OH CH
     have N5 := aE sU.out _ _ _ Lk.out
     have BZ : Hid (Calls Tryz.prog 52 #[v3x, .int .i64 ((k2x : Int) + 1)] W25 (Ends ke W25)) := by
      have h9 := KK.out S v3x (k2x) ke W25 (Ko.out.frame ((eO sU.out _).2.2)) (by omega)
      have e9 : (((k2x) : Nat) : Int) + 1 = (k2x : Int) + 1 := by omega
      rw [e9] at h9
      exact h9
     have Pn : ¬ ((ke : Int) + 1 < 0) := by omega
     go_wp2_with fail
     refine Calls.mono BZ.out ?_
     rintro ee W26 ⟨rfl, hb26⟩
     have zf := aa (sU.out.trans (hb26.mono sU.out.size))
     clear hb26 N5 BZ
     have Tm := aE zf.out _ _ _ N8.out
     have Kz : Hid (Calls Tryz.prog 41 #[v8, .int .i64 ((ke : Int) + 1)] W26 (Ends r' W26)) := by
      have h9 := Ti.out S v8 (ke) r' W26 (R8.out.frame ((eO zf.out _).2.1)) (by omega)
      have e9 : (((ke) : Nat) : Int) + 1 = (ke : Int) + 1 := by omega
      rw [e9] at h9
      exact h9
     have TU : ¬ ((r' : Int) + 1 < 0) := by omega
     go_wp2_with fail
     refine Calls.mono Kz.out ?_
     rintro ee W27 ⟨rfl, hb27⟩
     have Np := aa (zf.out.trans (hb27.mono zf.out.size))
     clear hb27 Tm Kz
     go_wp2
     go_roundw
     case rel => exact ⟨i + 1, r', by omega, by go_num, rfl, Cg.out, Np.out⟩
     case measure => simp [intOf]; omega
  ·have jQ : i = n := by omega
   have Jo : r = k' := by
    have h9 := Fs.out
    rw [<- jQ, FF.out] at h9
    exact h9
   subst jQ
   subst Jo
   clear hb hkr
   go_wp2
   go_ret
   exact ⟨rfl, HB.out⟩
theorem BJ {H : Nat} (ih : ∀ h, h < H -> JJ h /\ JS h /\ JB h) : JB H := by
 intro S v k k' w hr hk
 obtain ⟨o, n, c, b, off, ks, rfl, hn, ho, e0, e1, e2, e3⟩ := hr.open
 have ml : n <= 9223372036854775807 := hn
 have HO := aa ho
 have Dz := aa e2
 have Lj := aa e3
 have Fs := aa e1
 have IH := aa ih
 subst e0
 clear ho e2 e3 ih hr e1 hn
 go_enter Tryz.func52, Tryz.ntmps52
 go_wp2
 go_loopw [1, 5] (fun t1 t5 wr => ∃ i r : Nat, i <= n /\ t5 = .int .i64 i /\ t1 = .int .i64 ((r : Int) + 1) /\ ks i = r /\ Below w.heap.size w wr) (fun _ t5 _ => n - (intOf t5).toNat)
 case atStart => exact ⟨0, ks 0, Nat.zero_le _, rfl, rfl, rfl, Below.refl _ _⟩
 case round =>
  obtain ⟨i, r, hi, rfl, rfl, hkr, hb⟩ := hrel
  have HB := aa hb
  have FF := aa hkr
  by_cases au : i < n
  ·obtain ⟨eo, hS⟩ := HO.out (by omega)
   subst eo
   have hx := Lj.out i au
   have qI := Dz.out (i + 1) (by omega)
   rw [hkr] at hx
   obtain ⟨r', hkr'⟩ : ∃ r', ks (i + 1) = r' := ⟨_, rfl⟩
   rw [hkr'] at hx qI
   have Cg := aa hkr'
   clear hb hkr hkr'
   cases H with
   | zero => exact hx.elim
   | succ H =>
    obtain ⟨n0, vp, kp, n1, rp, hxe⟩ := hx
    obtain ⟨ihE1, ihD1, ihA1⟩ := IH.out H (by omega)
    cases H with
    | zero => exact hxe.elim
    | succ H =>
     obtain ⟨ihEx, ihDx, ihAx⟩ := IH.out H (by omega)
     obtain ⟨c0x, c1x, c2x, v1x, v2x, v3x, k1x, k2x, c3x, c4x, c5x, r1x, r2x, r3x⟩ := hxe
     have Qq := r1x.le
     have QO := r2x.le
     have P0 := r3x.le
     have Kr : Hid (w.cell? ⟨b, off + i * 8 + 2, none⟩ = some (.int .i64 ((kp : Int) + 1))) := c0x
     have KU : Hid (w.cell? ⟨b, off + i * 8 + 3, none⟩ = some (.string (aD (kp + 1)))) := c1x
     have Kt : Hid (w.cell? ⟨b, off + i * 8 + 4, none⟩ = some (.int .i64 ((kp : Int) + 1 + 1 + 1))) := c2x
     have K9 : Hid (w.cell? ⟨b, off + i * 8 + 5, none⟩ = some (v1x)) := c3x
     have KY : Hid (w.cell? ⟨b, off + i * 8 + 6, none⟩ = some (v2x)) := c4x
     have Lk : Hid (w.cell? ⟨b, off + i * 8 + 7, none⟩ = some (v3x)) := c5x
     have Ka := aa r1x
     have J8 := aa r2x
     have Ko := aa r3x
     have Ll := aa ihEx
     have K4 := aa ihDx
     have KK := aa ihAx
     clear c0x c1x c2x c3x c4x c5x r1x r2x r3x ihEx ihDx ihAx
     have lp := rp.le
     have N0 : Hid (w.cell? ⟨b, off + i * 8, none⟩ = some (.string (aD r))) := n0
     have N1 : Hid (w.cell? ⟨b, off + i * 8 + 1, none⟩ = some vp) := n1
     have RP := aa rp
     have Nk : r <= 4900000 := by omega
     clear n0 n1 rp ihE1 ihD1 ihA1
     have CL : Nonempty (Later wr) := ax wr
     have Cj : ∀ q : Later wr, q.w.cell? ⟨b, off + i * 8, none⟩ = some (.string (aD (r))) := fun q => aE q.h _ _ _ (aE HB.out _ _ _ N0.out)
     have uT := Nm.mt0 r Nk
     have Cf : ((aD (r)).toList != (aD (r)).toList) = false := by simp
     go_upto_region 4 with fail
     refine av (S := fun v => Below wr.heap.size wr v) (by kernel_rfl) (by kernel_rfl) (aS _) ?_
     repeat (first | go_big_quiet_skip | (go_big_quiet_want; go_big_quiet_op; first | go_big_quiet_on | (apply Exists.intro; refine ⟨fun q => ?_, ?_⟩; ((go_at_call 91; refine (uT _).mono ?_; rintro e w9 ⟨rfl, hb9⟩; exact ⟨rfl, Later.on q hb9, rfl⟩)); go_big_quiet_on)))
     refine wpQuiet_nil ?_
     intro _ hw'
     obtain ⟨q, rfl⟩ := hw'
     have jU := aa (HB.out.trans (q.h.mono HB.out.size))
     obtain ⟨W21, hW21⟩ : ∃ W, W = q.w := ⟨_, rfl⟩
     rw [<- hW21] at jU ⊢
     clear hW21 q CL Cj uT Cf
     have EV := aE jU.out _ _ _ N1.out
     have mT : Hid (Calls Tryz.prog 95 #[vp, .int .i64 ((r : Int) + 1 + 1)] W21 (Ends kp W21)) := by
      have h9 := rK S vp (r + 1) kp W21 (RP.out.frame (rH jU.out)) (by omega)
      have e9 : (((r + 1) : Nat) : Int) + 1 = (r : Int) + 1 + 1 := by omega
      rw [e9] at h9
      exact h9
     have K8 : ¬ ((kp : Int) + 1 < 0) := by omega
     go_wp2_with fail
     refine Calls.mono mT.out ?_
     rintro ee W22 ⟨rfl, hb22⟩
     have mU := aa (jU.out.trans (hb22.mono jU.out.size))
     clear hb22 EV mT
     have Ld := aE mU.out _ _ _ Kr.out
     have P9 : (((kp : Nat) : Int) + 1 != ((kp : Nat) : Int) + 1) = false := by simp
     have K1 : kp <= 4900000 := by omega
     have Hj : Nonempty (Later W22) := ax W22
     have I7 : ∀ q : Later W22, q.w.cell? ⟨b, off + i * 8 + 3, none⟩ = some (.string (aD (kp + 1))) := fun q => aE q.h _ _ _ (aE mU.out _ _ _ KU.out)
     have Cz := Nm.mt1 kp K1
     have IE : ((aD (kp + 1)).toList != (aD (kp + 1)).toList) = false := by simp
     go_upto_region 13 with fail
     refine av (S := fun v => Below W22.heap.size W22 v) (by kernel_rfl) (by kernel_rfl) (aS _) ?_
     repeat (first | go_big_quiet_skip | (go_big_quiet_want; go_big_quiet_op; first | go_big_quiet_on | (apply Exists.intro; refine ⟨fun q => ?_, ?_⟩; ((go_at_call 91; refine (Cz _).mono ?_; rintro e w9 ⟨rfl, hb9⟩; exact ⟨rfl, Later.on q hb9, rfl⟩)); go_big_quiet_on)))
     refine wpQuiet_nil ?_
     intro _ hw'
     obtain ⟨q, rfl⟩ := hw'
     have jT := aa (mU.out.trans (q.h.mono mU.out.size))
     obtain ⟨W23, hW23⟩ : ∃ W, W = q.w := ⟨_, rfl⟩
     rw [<- hW23] at jT ⊢
     clear hW23 q Hj I7 Cz IE
     clear Ld
     have Lc := aE jT.out _ _ _ Kt.out
     have Qk : (((kp : Nat) : Int) + 1 + 1 + 1 != ((kp : Nat) : Int) + 1 + 1 + 1) = false := by simp
     have Hh := aE jT.out _ _ _ K9.out
     have qf : Hid (Calls Tryz.prog 51 #[v1x, .int .i64 ((kp : Int) + 1 + 1 + 1 + 1)] W23 (Ends k1x W23)) := by
      have h9 := Ll.out S v1x (kp + 3) k1x W23 (Ka.out.frame ((eO jT.out _).1)) (by omega)
      have e9 : (((kp + 3) : Nat) : Int) + 1 = (kp : Int) + 1 + 1 + 1 + 1 := by omega
      rw [e9] at h9
      exact h9
     have Kh : ¬ ((k1x : Int) + 1 < 0) := by omega
     go_wp2_with fail
     refine Calls.mono qf.out ?_
     rintro ee W24 ⟨rfl, hb24⟩
     have qg := aa (jT.out.trans (hb24.mono jT.out.size))
     clear hb24 Hh qf
     clear Lc
     have OH := aE qg.out _ _ _ KY.out
     have CH : Hid (Calls Tryz.prog 41 #[v2x, .int .i64 ((k1x : Int) + 1)] W24 (Ends k2x W24)) := by
      have h9 := K4.out S v2x (k1x) k2x W24 (J8.out.frame ((eO qg.out _).2.1)) (by omega)
      have e9 : (((k1x) : Nat) : Int) + 1 = (k1x : Int) + 1 := by omega
      rw [e9] at h9
      exact h9
     have Pa : ¬ ((k2x : Int) + 1 < 0) := by omega
     go_wp2_with fail
     refine Calls.mono CH.out ?_
     rintro ee W25 ⟨rfl, hb25⟩
     have sU := aa (qg.out.trans (hb25.mono qg.out.size))
     clear hb25 OH CH
     have N5 := aE sU.out _ _ _ Lk.out
     have BZ : Hid (Calls Tryz.prog 52 #[v3x, .int .i64 ((k2x : Int) + 1)] W25 (Ends r' W25)) := by
      have h9 := KK.out S v3x (k2x) r' W25 (Ko.out.frame ((eO sU.out _).2.2)) (by omega)
      have e9 : (((k2x) : Nat) : Int) + 1 = (k2x : Int) + 1 := by omega
      rw [e9] at h9
      exact h9
     have Pn : ¬ ((r' : Int) + 1 < 0) := by omega
     go_wp2_with fail
     refine Calls.mono BZ.out ?_
     rintro ee W26 ⟨rfl, hb26⟩
     have zf := aa (sU.out.trans (hb26.mono sU.out.size))
     clear hb26 N5 BZ
     go_wp2
     go_roundw
     case rel => exact ⟨i + 1, r', by omega, by go_num, rfl, Cg.out, zf.out⟩
     case measure => simp [intOf]; omega
  ·have jQ : i = n := by omega
   have Jo : r = k' := by
    have h9 := Fs.out
    rw [<- jQ, FF.out] at h9
    exact h9
   subst jQ
   subst Jo
   clear hb hkr
   go_wp2
   go_ret
   exact ⟨rfl, HB.out⟩
theorem zP : ∀ h, JJ h /\ JS h /\ JB h := by
 intro h
 induction h using Nat.strongRecOn with
 | ind h ih => exact ⟨A8 ih, Af ih, BJ ih⟩
end Go.Proofs.YtfomndilhlgikajGreatDoor.Mh
