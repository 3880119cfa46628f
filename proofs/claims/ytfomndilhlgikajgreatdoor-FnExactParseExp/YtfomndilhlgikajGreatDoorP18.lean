import Derived.Test.YtfomndilhlgikajGreatDoorP17
import Derived.Test.YtfomndilhlgikajGreatDoorP09
set_option maxHeartbeats 8000000
set_option maxRecDepth 100000
namespace Go.Proofs.YtfomndilhlgikajGreatDoor
def vk (s : ByteArray) : Bool := s.toList == [95]
def dX (s : ByteArray) : Bool := s.toList == []
def mf (s : ByteArray) : Bool := fF s.data.toList
def Do (s : ByteArray) : Bool := hU s.data.toList
def cn (l : List ByteArray) (x : ByteArray) : Bool := l.any fun t => t.toList == x.toList
def td (l : List ByteArray) (i : Nat) : ByteArray := l.getD i ByteArray.empty
def fu (l : List ByteArray) : Nat -> Bool
 | 0 => true
 | i + 1 => fu l i && (vk (td l i) || (mf (td l i) && !cn (l.take i) (td l i)))
def iC (l : List ByteArray) : Nat -> Bool
 | 0 => true
 | i + 1 => iC l i && (vk (td l i) || mf (td l i))
def dB (l : List ByteArray) : Nat -> Bool
 | 0 => true
 | i + 1 => dB l i && (vk (td l i) || !cn (l.take i) (td l i))
def ju (l : List ByteArray) : Nat -> Bool
 | 0 => true
 | i + 1 => ju l i && !cn (l.take i) (td l i)
def eG (l : List ByteArray) : Bool := fu l l.length && decide ((l.length : Int) <= 4)
def nG (l : List ByteArray) : Bool := dB l l.length
def vQ (l : List ByteArray) : Bool := ju l l.length
theorem xA (l : List ByteArray) (i : Nat) : fu l i = (iC l i && dB l i) := by
 induction i with
 | zero => rfl
 | succ i ih =>
  show (fu l i && _) = ((iC l i && _) && (dB l i && _))
  rw [ih]
  cases iC l i <;> cases dB l i <;> cases vk (td l i) <;> cases mf (td l i) <;> cases cn (l.take i) (td l i) <;> rfl
theorem pf (f : Nat -> Bool) (g : Nat -> Bool) (hf : ∀ i, f (i + 1) = (f i && g i)) {i n : Nat} (h : f i = false) (hn : i <= n) : f n = false := by
 induction n with
 | zero => rw [show i = 0 by omega] at h; exact h
 | succ n ih =>
  by_cases e : i = n + 1
  ·rw [<- e]; exact h
  ·rw [hf, ih (by omega)]; rfl
theorem mK {l : List ByteArray} {i n : Nat} (h : fu l i = false) (hn : i <= n) : fu l n = false := pf (fu l) _ (fun _ => rfl) h hn
theorem uf {l : List ByteArray} {i n : Nat} (h : iC l i = false) (hn : i <= n) : iC l n = false := pf (iC l) _ (fun _ => rfl) h hn
theorem qD {l : List ByteArray} {i n : Nat} (h : dB l i = false) (hn : i <= n) : dB l n = false := pf (dB l) _ (fun _ => rfl) h hn
theorem EB {s : ByteArray} (h : mf s = true) : vk s = false := by
 cases hu : vk s with
 | false => rfl
 | true =>
  have e : s.data.toList = [95] := by rw [<- bd]; exact eq_of_beq hu
  unfold mf at h
  rw [e] at h
  revert h
  decide
theorem uc (l : List ByteArray) (n : Nat) (h : ∀ i, i < n -> mf (td l i) = true) : ju l n = dB l n := by
 induction n with
 | zero => rfl
 | succ n ih =>
  show (ju l n && _) = (dB l n && _)
  rw [ih fun i hi => h i (by omega), EB (h n (by omega))]
  rfl
def Aw (s : ByteArray) : Bool := s.toList == [43] || s.toList == [45] || s.toList == [42] || s.toList == [61, 61] || s.toList == [60]
def dk (k : Int) : Int := if k = 1 \/ k = 2 \/ k = 3 then 0 else if k = 5 \/ k = 6 \/ k = 7 then 1 else if k = 4 \/ k = 9 then 2 else if k = 8 then 3 else -1
def bw (e : Tr) : Bool := decide (dk e.k = e.l.length) && (decide (e.k = 6) || decide (e.ds.length = 0)) && (decide (e.k = 7) || decide (e.al.length = 0)) && (decide (e.k = 3) || decide (e.n = 0))
def co (e : Tr) : Bool :=
 if e.k = 1 then mf e.s else if e.k = 2 then Do e.s else if e.k = 3 then cz e.n 0 999999 && dX e.s else if e.k = 5 then mf e.s || vk e.s
 else if e.k = 9 then Aw e.s else if e.k = 7 then cz e.al.length 1 6 && dX e.s else dX e.s
def aH (e : Tr) : Bool := bw e && co e
def dY (a : Tr) : Bool := eG a.ss && (Do a.s || (dX a.s && decide ((a.ss.length : Int) = 1)))
structure Okz where
 ex : Tr -> Int -> Bool
 de : Tr -> Int -> Bool
 al : Tr -> Int -> Bool
def bW (f : Tr -> Int -> Bool) (xs : List Tr) (d : Int) : Bool := xs.all fun x => f x d
def cL (f : Tr -> Int -> Bool) (ds : List Tr) (most d : Int) : Bool := cz ds.length 1 most && (bW f ds d && vQ (ds.map Tr.s))
def bJ : Nat -> Okz
 | 0 => ⟨fun _ _ => false, fun _ _ => false, fun _ _ => false⟩
 | h + 1 =>
  ⟨fun e d => decide (d <= 12) && (aH e && (bW (bJ h).ex e.l (d + 1) && (bW (fun a d => dY a && (bJ h).al a d) e.al (d + 1) && (decide (e.k ≠ 6) || cL (bJ h).de e.ds 6 (d + 1))))),
   fun x d => (mf x.s && eG x.ss) && (bW (bJ h).ex x.l (d + 1) && (decide (x.ds.length = 0) || cL (bJ h).de x.ds 6 (d + 1))),
   fun a d => bW (bJ h).ex a.l d⟩
structure Cnt where
 ex : Tr -> Nat
 de : Tr -> Nat
 al : Tr -> Nat
def aB (f : Tr -> Nat) (xs : List Tr) : Nat := (xs.map f).sum
def aW : Nat -> Cnt
 | 0 => ⟨fun _ => 0, fun _ => 0, fun _ => 0⟩
 | h + 1 => ⟨fun e => 1 + aB (aW h).ex e.l + aB (aW h).al e.al + aB (aW h).de e.ds, fun x => aB (aW h).ex x.l + aB (aW h).de x.ds, fun a => aB (aW h).ex a.l⟩
def Trk (n : Int) (ok : Bool) (c : Nat) : Prop := (ok = true /\ c <= 200 /\ n = c) \/ (200 < n /\ ¬ (ok = true /\ c <= 200))
theorem Trk.add {n r : Int} {a b : Bool} {c d : Nat} (h : Trk n a c) (hn : n <= 200) (k : Trk r b d) : Trk (n + r) (a && b) (c + d) := by
 unfold Trk at *
 rcases h with ⟨h1, h2, h3⟩ | ⟨h1, -⟩
 ·rcases k with ⟨k1, k2, k3⟩ | ⟨k1, k2⟩
  ·by_cases hc : c + d <= 200
   ·exact Or.inl ⟨by rw [h1, k1]; rfl, hc, by omega⟩
   ·exact Or.inr ⟨by omega, fun h => hc h.2⟩
  ·refine Or.inr ⟨by omega, fun h => k2 ⟨?_, by omega⟩⟩
   have := h.1
   rw [Bool.and_eq_true] at this
   exact this.2
 ·omega
theorem Trk.stop {n : Int} {a b : Bool} {c d : Nat} (h : Trk n a c) (hn : 200 < n) : Trk n (a && b) (c + d) := by
 unfold Trk at *
 rcases h with ⟨h1, h2, h3⟩ | ⟨h1, h2⟩
 ·omega
 ·refine Or.inr ⟨hn, fun h => h2 ⟨?_, by omega⟩⟩
  have := h.1
  rw [Bool.and_eq_true] at this
  exact this.1
theorem Trk.bad {n : Int} {c : Nat} (hn : 200 < n) : Trk n false c := Or.inr ⟨hn, fun h => by cases h.1⟩
theorem Trk.pass {n : Int} {a b : Bool} {c d : Nat} (h : Trk n a c) (e : a = b) (e2 : c = d) : Trk n b d := e2 ▸ e ▸ h
theorem Trk.of_le {n : Int} {a : Bool} {c : Nat} (h : Trk n a c) (hn : n <= 200) : a = true /\ n = c := by
 unfold Trk at h
 rcases h with ⟨h1, h2, h3⟩ | ⟨h1, h2⟩
 ·exact ⟨h1, h3⟩
 ·omega
theorem nd (f : Tr -> Int -> Bool) (xs : List Tr) (d : Int) (i : Nat) (x : Tr) (hx : xs[i]? = some x) : bW f (xs.take (i + 1)) d = (bW f (xs.take i) d && f x d) := by
 unfold bW
 rw [List.take_add_one, hx, List.all_append]
 simp
theorem fc (f : Tr -> Nat) (xs : List Tr) (i : Nat) (x : Tr) (hx : xs[i]? = some x) : aB f (xs.take (i + 1)) = aB f (xs.take i) + f x := by
 unfold aB
 rw [List.take_add_one, hx, List.map_append, List.sum_append]
 simp
theorem pE (f : Tr -> Int -> Bool) (xs : List Tr) (d : Int) (i : Nat) : bW f xs d = (bW f (xs.take i) d && bW f (xs.drop i) d) := by
 unfold bW
 rw [<- List.all_append, List.take_append_drop]
theorem lW (f : Tr -> Nat) (xs : List Tr) (i : Nat) : aB f xs = aB f (xs.take i) + aB f (xs.drop i) := by
 unfold aB
 rw [<- List.sum_append, <- List.map_append, List.take_append_drop]
theorem su {l : List ByteArray} {i : Nat} {x : ByteArray} (h : l[i]? = some x) : td l i = x := by
 unfold td
 rw [List.getD_eq_getElem?_getD, h]
 rfl
open Go.ChangeShapes Go.WideShapes Go.ChangeAt Go.RowKit
theorem RowOf.take {α : Type} {K : Nat -> Prop} {w : World} {R : α -> List Value -> Prop} {size : Nat} {o : Option Addr} {xs : List α} (h : RowOf K w R size o xs) (i : Nat) : RowOf K w R size o (xs.take i) := by
 intro bU
 obtain ⟨b, off, e, hk, hl, hc⟩ := h (by intro e; rw [e] at bU; simp at bU)
 refine ⟨b, off, e, hk, hl, fun j x hx => hc j x ?_⟩
 rw [List.getElem?_take] at hx
 split at hx
 ·exact hx
 ·cases hx
theorem pq {K : Nat -> Prop} (xs : List ByteArray) (n : Nat) (hn : xs.length = n) (o : Option Addr) (cap : Nat) (s : ByteArray) (w : World) (hl : xs.length <= maxLen) (hm : RowOf K w fy 1 o xs) :
 Calls Tryz.prog 164 #[.slice o n cap, .string s] w fun e w' => e = .returned (.bool (cn xs s)) /\ w' = w := by
 subst hn
 have HM := aa hm
 have iT : xs.length <= 9223372036854775807 := hl
 clear hm hl
 go_enter Tryz.func164, Tryz.ntmps164
 go_wp2
 go_loop [5] (fun i => ∃ k : Nat, k <= xs.length /\ i = .int .i64 k /\ cn (xs.take k) s = false) (fun i => xs.length - (intOf i).toNat)
 case atStart => exact ⟨0, Nat.zero_le _, rfl, rfl⟩
 case round =>
  obtain ⟨k, hk, rfl, hnone⟩ := hrel
  have HN := aa hnone
  clear hnone
  by_cases au : k < xs.length
  ·have bU : xs ≠ [] := by intro e; rw [e] at au; simp at au
   obtain ⟨b, off, eo, -, -, dF⟩ := HM.out bU
   subst eo
   obtain ⟨_, -, hkey, rfl, -⟩ := dF k _ (List.getElem?_eq_getElem au)
   have q0 := hkey 0 _ rfl
   rw [Nat.mul_one, Nat.add_zero] at q0
   clear dF bU hkey
   go_wp2
   ·go_ret
    exact ⟨ah (xh xs s k au (by assumption)).symm, rfl⟩
   ·go_round
    case rel => exact ⟨k + 1, by omega, by go_num, tw xs s k au HN.out (by assumption)⟩
    case measure => simp [intOf]; omega
  ·go_wp2
   go_ret
   refine ⟨ah ?_, rfl⟩
   have h := HN.out
   rw [List.take_of_length_le (by omega)] at h
   exact h.symm
theorem pV {K : Nat -> Prop} (xs : List ByteArray) (o : Option Addr) (cap : Nat) (w : World) (hl : xs.length <= maxLen) (hc : xs.length <= cap) (hm : RowOf K w fy 1 o xs) :
 Calls Tryz.prog 114 #[.slice o xs.length cap] w fun e w' => e = .returned (.bool (eG xs)) /\ Below w.heap.size w w' := by
 have HM := aa hm
 have iT : xs.length <= 9223372036854775807 := hl
 have HL := aa hl
 clear hm hl
 go_enter Tryz.func114, Tryz.ntmps114
 go_wp2
 go_loopw [3] (fun t wr => ∃ k : Nat, k <= xs.length /\ t = .int .i64 k /\ fu xs k = true /\ Below w.heap.size w wr) (fun t _ => xs.length - (intOf t).toNat)
 case atStart => exact ⟨0, Nat.zero_le _, rfl, rfl, Below.refl _ _⟩
 case round =>
  obtain ⟨k, hk, rfl, hv, cA⟩ := hrel
  have HV := aa hv
  have dH := aa cA
  clear hv cA
  by_cases au : k < xs.length
  ·have bU : xs ≠ [] := by intro e; rw [e] at au; simp at au
   have PX := HM.out.later dH.out (fun _ _ h => h)
   have Sl := aa PX
   obtain ⟨b, off, eo, -, ay, dF⟩ := PX bU
   subst eo
   obtain ⟨x, hx⟩ : ∃ x, xs[k]? = some x := ⟨xs[k], List.getElem?_eq_getElem au⟩
   obtain ⟨_, -, hkey, rfl, hxs⟩ := dF k _ hx
   have q0 := hkey 0 _ rfl
   rw [Nat.mul_one, Nat.add_zero] at q0
   have HX := aa (su hx)
   have Lb := aa hxs
   clear dF bU hkey hx hxs
   have fX : (k : Int) < xs.length := by omega
   have R7 : (k : Int) <= cap := by omega
   have TK : k <= cap := by omega
   cases hu : vk x
   ·have rV : (x.toList == [95]) = false := hu
    have HU := aa hu
    clear hu
    have tf : ∀ q : Later wr, q.w.cell? ⟨b, off + k, none⟩ = some (.string x) := fun q => (q.h.cell (p := ⟨b, off + k, none⟩) ay).trans q0
    have PY : Hid (∀ q : Later wr, RowOf K q.w fy 1 (some ⟨b, off, none⟩) (xs.take k)) := fun q => (Sl.out.take k).later q.h (fun _ _ h => h)
    cases hn : mf x
    ·have HN : Hid (fF x.data.toList = false) := hn
     have EL := aa hn
     clear hn
     go_wp2_with fail
     have jl : Nonempty (Later wr) := ax wr
     refine av (S := fun v => Below wr.heap.size wr v) (by kernel_rfl) (by kernel_rfl) (aS _) ?_
     repeat (first | go_big_quiet_skip | (go_big_quiet_want; go_big_quiet_op; first | go_big_quiet_on | (apply Exists.intro; refine ⟨fun q => ?_, ?_⟩; (first | (go_at_call 113; refine (cv _ _ Lb.out).mono ?_; rintro e w1 ⟨rfl, bS⟩; rw [HN.out]; exact ⟨rfl, Later.on q bS, rfl⟩)); go_big_quiet_on)))
     refine wpQuiet_nil ?_
     intro _ hw'
     obtain ⟨q, rfl⟩ := hw'
     go_wp2
     go_ret
     refine ⟨ah ?_, dH.out.trans (q.h.mono dH.out.size)⟩
     have hf : fu xs (k + 1) = false := by
      show (fu xs k && _) = false
      rw [HX.out, HU.out, EL.out]
      simp
     unfold eG
     rw [mK hf au]
     rfl
    ·have HN : Hid (fF x.data.toList = true) := hn
     have EL := aa hn
     clear hn
     cases ha : cn (xs.take k) x
     ·have HA := aa ha
      clear ha
      go_wp2_with fail
      have jl : Nonempty (Later wr) := ax wr
      refine av (S := fun v => Below wr.heap.size wr v) (by kernel_rfl) (by kernel_rfl) (aS _) ?_
      repeat (first | go_big_quiet_skip | (go_big_quiet_want; go_big_quiet_op; first | go_big_quiet_on | (apply Exists.intro; refine ⟨fun q => ?_, ?_⟩; (first | (go_at_call 113; refine (cv _ _ Lb.out).mono ?_; rintro e w1 ⟨rfl, bS⟩; rw [HN.out]; exact ⟨rfl, Later.on q bS, rfl⟩) | (go_at_call 164; refine (pq (xs.take k) k (by rw [List.length_take]; omega) _ cap x _ (by rw [List.length_take]; exact Nat.le_trans (Nat.min_le_right _ _) HL.out) (PY.out q)).mono ?_; rintro e w2 ⟨rfl, rfl⟩; rw [HA.out]; exact ⟨rfl, q, rfl⟩)); go_big_quiet_on)))
      refine wpQuiet_nil ?_
      intro _ hw'
      obtain ⟨q, rfl⟩ := hw'
      go_wp2
      go_roundw
      case rel =>
       refine ⟨k + 1, by omega, by go_num, ?_, dH.out.trans (q.h.mono dH.out.size)⟩
       show (fu xs k && _) = true
       rw [HX.out, HU.out, EL.out, HA.out, HV.out]
       rfl
      case measure => simp [intOf]; omega
     ·have HA := aa ha
      clear ha
      go_wp2_with fail
      have jl : Nonempty (Later wr) := ax wr
      refine av (S := fun v => Below wr.heap.size wr v) (by kernel_rfl) (by kernel_rfl) (aS _) ?_
      repeat (first | go_big_quiet_skip | (go_big_quiet_want; go_big_quiet_op; first | go_big_quiet_on | (apply Exists.intro; refine ⟨fun q => ?_, ?_⟩; (first | (go_at_call 113; refine (cv _ _ Lb.out).mono ?_; rintro e w1 ⟨rfl, bS⟩; rw [HN.out]; exact ⟨rfl, Later.on q bS, rfl⟩) | (go_at_call 164; refine (pq (xs.take k) k (by rw [List.length_take]; omega) _ cap x _ (by rw [List.length_take]; exact Nat.le_trans (Nat.min_le_right _ _) HL.out) (PY.out q)).mono ?_; rintro e w2 ⟨rfl, rfl⟩; rw [HA.out]; exact ⟨rfl, q, rfl⟩)); go_big_quiet_on)))
      refine wpQuiet_nil ?_
      intro _ hw'
      obtain ⟨q, rfl⟩ := hw'
      go_wp2
      go_ret
      refine ⟨ah ?_, dH.out.trans (q.h.mono dH.out.size)⟩
      have hf : fu xs (k + 1) = false := by
       show (fu xs k && _) = false
       rw [HX.out, HU.out, HA.out]
       simp
      unfold eG
      rw [mK hf au]
      rfl
   ·have rV : (x.toList == [95]) = true := hu
    have HU := aa hu
    clear hu
    go_wp2
    refine ⟨⟨k + 1, by omega, by go_num, ?_, dH.out⟩, by simp [intOf]; omega⟩
    show (fu xs k && _) = true
    rw [HX.out, HU.out, HV.out]
    rfl
  ·go_wp2
   go_ret
   refine ⟨ah ?_, dH.out⟩
   have aL : k = xs.length := by omega
   have h := HV.out
   rw [aL] at h
   unfold eG
   rw [h, Bool.true_and]
def nu (s : ByteArray) : Bool := vk s || mf s
theorem nJ (s : ByteArray) (w : World) (hs : s.size <= maxLen) : Calls Tryz.prog 216 #[.string s] w fun e w' => e = .returned (.bool (nu s)) /\ Below w.heap.size w w' := by
 cases hu : vk s
 ·have rV : (s.toList == [95]) = false := hu
  have HU := aa hu
  clear hu
  go_enter Tryz.func216, Tryz.ntmps216
  go_wp2_with fail
  refine (dw _ _ hs).mono ?_
  rintro e w1 ⟨rfl, hb⟩
  have HB := aa hb
  clear hb
  go_wp2
  go_ret
  exact ⟨ah (by unfold nu mf; rw [HU.out, Bool.false_or]), HB.out⟩
 ·have rV : (s.toList == [95]) = true := hu
  have HU := aa hu
  clear hu
  go_enter Tryz.func216, Tryz.ntmps216
  go_wp2
  go_ret
  exact ⟨ah (by unfold nu; rw [HU.out, Bool.true_or]), Below.refl _ _⟩
theorem tP (s : ByteArray) (w : World) (hs : s.size <= maxLen) : Calls Tryz.prog 262 #[.string s] w fun e w' => e = .returned (.bool (!nu s)) /\ Below w.heap.size w w' := by
 go_enter Tryz.func262, Tryz.ntmps262
 go_wp2_with fail
 refine (nJ _ _ hs).mono ?_
 rintro e w1 ⟨rfl, hb⟩
 have HB := aa hb
 clear hb
 go_wp2
 go_ret
 exact ⟨rfl, HB.out⟩
theorem vR {l : List ByteArray} {k : Nat} {z s : ByteArray} (hz : l[k]? = some z) (h0 : cn (l.take k) s = false) (h1 : (s.toList == z.toList) = false) : cn (l.take (k + 1)) s = false := by
 unfold cn at *
 rw [List.take_add_one, hz, List.any_append, h0]
 rw [fw] at h1
 simpa using h1
theorem yT {K : Nat -> Prop} (xs : List ByteArray) (n : Nat) (hn : xs.length = n) (o : Option Addr) (cap : Nat) (s : ByteArray) (w : World) (hl : xs.length <= maxLen) (hm : RowOf K w fy 1 o xs) :
 Calls Tryz.prog 258 #[.slice o n cap, .string s] w fun e w' => ∃ r : Int, e = .returned (.int .i64 r) /\ decide (0 <= r) = cn xs s /\ w' = w := by
 subst hn
 have HM := aa hm
 have iT : xs.length <= 9223372036854775807 := hl
 clear hm hl
 go_enter Tryz.func258, Tryz.ntmps258
 go_wp2
 go_loop [8] (fun i => ∃ k : Nat, k <= xs.length /\ i = .int .i64 k /\ cn (xs.take k) s = false) (fun i => xs.length - (intOf i).toNat)
 case atStart => exact ⟨0, Nat.zero_le _, rfl, rfl⟩
 case round =>
  obtain ⟨k, hk, rfl, hnone⟩ := hrel
  have HN := aa hnone
  clear hnone
  by_cases au : k < xs.length
  ·have bU : xs ≠ [] := by intro e; rw [e] at au; simp at au
   obtain ⟨b, off, eo, -, -, dF⟩ := HM.out bU
   subst eo
   obtain ⟨z, hz⟩ : ∃ z, xs[k]? = some z := ⟨xs[k], List.getElem?_eq_getElem au⟩
   obtain ⟨_, -, hkey, rfl, -⟩ := dF k _ hz
   have q0 := hkey 0 _ rfl
   rw [Nat.mul_one, Nat.add_zero] at q0
   have HZ := aa hz
   clear dF bU hkey hz
   cases hq : (s.toList == z.toList)
   ·go_wp2
    have fH := hq
    exact ⟨⟨k + 1, by omega, by go_num, vR HZ.out HN.out fH⟩, by simp [intOf]; omega⟩
   ·go_wp2
    go_ret
    refine ⟨k, rfl, ?_, rfl⟩
    have hy : cn xs s = true := by
     unfold cn
     rw [List.any_eq_true]
     exact ⟨z, List.mem_of_getElem? HZ.out, by rw [fw]; exact hq⟩
    rw [hy]
    exact decide_eq_true (by omega)
  ·go_wp2
   go_ret
   refine ⟨-1, rfl, ?_, rfl⟩
   have h := HN.out
   rw [List.take_of_length_le (by omega)] at h
   rw [h]
   rfl
theorem mG {K : Nat -> Prop} (xs : List ByteArray) (n : Nat) (hn : xs.length = n) (o : Option Addr) (cap : Nat) (s : ByteArray) (w : World) (hl : xs.length <= maxLen) (hm : RowOf K w fy 1 o xs) :
 Calls Tryz.prog 197 #[.slice o n cap, .string s] w fun e w' => e = .returned (.bool (cn xs s)) /\ w' = w := by
 have HM := aa hm
 clear hm
 go_enter Tryz.func197, Tryz.ntmps197
 go_wp2_with fail
 refine (yT xs n hn o cap s _ hl HM.out).mono ?_
 rintro e w1 ⟨r, rfl, hr, rfl⟩
 have HR := aa hr
 clear hr
 go_wp2
 go_ret
 exact ⟨ah HR.out, rfl⟩
theorem qV {K : Nat -> Prop} (xs : List ByteArray) (n : Nat) (hn : xs.length = n) (o : Option Addr) (cap : Nat) (w : World) (hl : xs.length <= maxLen) (hc : xs.length <= cap) (hm : RowOf K w fy 1 o xs) :
 Calls Tryz.prog 143 #[.slice o n cap] w fun e w' => e = .returned (.bool (nG xs)) /\ w' = w := by
 subst hn
 have HM := aa hm
 have iT : xs.length <= 9223372036854775807 := hl
 have HL := aa hl
 clear hm hl
 go_enter Tryz.func143, Tryz.ntmps143
 go_wp2
 go_loop [7] (fun t => ∃ k : Nat, k <= xs.length /\ t = .int .i64 k /\ dB xs k = true) (fun t => xs.length - (intOf t).toNat)
 case atStart => exact ⟨0, Nat.zero_le _, rfl, rfl⟩
 case round =>
  obtain ⟨k, hk, rfl, hv⟩ := hrel
  have HV := aa hv
  clear hv
  by_cases au : k < xs.length
  ·have bU : xs ≠ [] := by intro e; rw [e] at au; simp at au
   obtain ⟨b, off, eo, -, -, dF⟩ := HM.out bU
   subst eo
   obtain ⟨x, hx⟩ : ∃ x, xs[k]? = some x := ⟨xs[k], List.getElem?_eq_getElem au⟩
   obtain ⟨_, -, hkey, rfl, hxs⟩ := dF k _ hx
   have q0 := hkey 0 _ rfl
   rw [Nat.mul_one, Nat.add_zero] at q0
   have HX := aa (su hx)
   clear dF bU hkey hx hxs
   have fX : (k : Int) < xs.length := by omega
   have R7 : (k : Int) <= cap := by omega
   cases hu : vk x
   ·have rV : (x.toList != [95]) = true := by show (!(vk x)) = true; rw [hu]; rfl
    have Mp : (x.toList == [95]) = false := hu
    have HU := aa hu
    clear hu
    cases ha : cn (xs.take k) x
    all_goals
     have HA := aa ha
     clear ha
     go_wp2_with fail
     refine (mG (xs.take k) k (by rw [List.length_take]; omega) _ cap x _ (by rw [List.length_take]; exact Nat.le_trans (Nat.min_le_right _ _) HL.out) (HM.out.take k)).mono ?_
     rintro e w1 ⟨rfl, rfl⟩
     rw [HA.out]
     go_wp2
    ·refine ⟨⟨k + 1, by omega, by go_num, ?_⟩, by simp [intOf]; omega⟩
     show (dB xs k && _) = true
     rw [HX.out, HU.out, HA.out, HV.out]
     rfl
    ·go_ret
     refine ⟨ah ?_, rfl⟩
     have hf : dB xs (k + 1) = false := by
      show (dB xs k && _) = false
      rw [HX.out, HU.out, HA.out]
      simp
     unfold nG
     rw [qD hf au]
   ·have rV : (x.toList != [95]) = false := by show (!(vk x)) = false; rw [hu]; rfl
    have Mp : (x.toList == [95]) = true := hu
    have HU := aa hu
    clear hu
    go_wp2
    refine ⟨⟨k + 1, by omega, by go_num, ?_⟩, by simp [intOf]; omega⟩
    show (dB xs k && _) = true
    rw [HX.out, HU.out, HV.out]
    rfl
  ·go_wp2
   go_ret
   refine ⟨ah ?_, rfl⟩
   have aL : k = xs.length := by omega
   have h := HV.out
   rw [aL] at h
   unfold nG
   rw [h]
theorem tT (s : ByteArray) (w : World) : Calls Tryz.prog 218 #[.string s] w fun e w' => e = .returned (.bool (Aw s)) /\ w' = w := by
 go_enter Tryz.func218, Tryz.ntmps218
 go_wp2
 all_goals
  go_ret
  refine ⟨ah ?_, rfl⟩
  unfold Aw
  simp_all
theorem qp {K : Nat -> Prop} (xs : List ByteArray) (o : Option Addr) (cap : Nat) (w : World) (hl : xs.length <= maxLen) (hm : RowOf K w fy 1 o xs) :
 Calls Tryz.prog 279 #[.slice o xs.length cap, .func (.func 262) #[] #[]] w fun e w' => ∃ r : Int, e = .returned (.int .i64 r) /\ decide (0 <= r) = !iC xs xs.length /\ Below w.heap.size w w' := by
 have HM := aa hm
 have iT : xs.length <= 9223372036854775807 := hl
 clear hm hl
 go_enter Tryz.func279, Tryz.ntmps279
 go_wp2
 go_loopw [8] (fun t wr => ∃ k : Nat, k <= xs.length /\ t = .int .i64 k /\ iC xs k = true /\ Below w.heap.size w wr) (fun t _ => xs.length - (intOf t).toNat)
 case atStart => exact ⟨0, Nat.zero_le _, rfl, rfl, Below.refl _ _⟩
 case round =>
  obtain ⟨k, hk, rfl, hp, cA⟩ := hrel
  have HP := aa hp
  have dH := aa cA
  clear hp cA
  by_cases au : k < xs.length
  ·have bU : xs ≠ [] := by intro e; rw [e] at au; simp at au
   obtain ⟨b, off, eo, -, -, dF⟩ := (HM.out.later dH.out fun _ _ h => h) bU
   subst eo
   obtain ⟨x, hx⟩ : ∃ x, xs[k]? = some x := ⟨xs[k], List.getElem?_eq_getElem au⟩
   obtain ⟨_, -, hkey, rfl, hxs⟩ := dF k _ hx
   have q0 := hkey 0 _ rfl
   rw [Nat.mul_one, Nat.add_zero] at q0
   have HX := aa (su hx)
   have Lb := aa hxs
   clear dF bU hkey hx hxs
   have fX : (k : Int) < xs.length := by omega
   cases L0 : nu x
   all_goals
    have J6 := aa L0
    clear L0
    go_wp2_with fail
    refine (tP x _ Lb.out).mono ?_
    rintro e w1 ⟨rfl, hb⟩
    rw [J6.out]
    have HB := aa (dH.out.trans (hb.mono dH.out.size))
    clear hb
    go_wp2
   ·go_ret
    refine ⟨k, rfl, ?_, HB.out⟩
    have hf : iC xs (k + 1) = false := by
     show (iC xs k && nu (td xs k)) = false
     rw [HX.out, J6.out]
     simp
    rw [uf hf au]
    exact decide_eq_true (by omega)
   ·refine ⟨⟨k + 1, by omega, by go_num, ?_, HB.out⟩, by simp [intOf]; omega⟩
    show (iC xs k && nu (td xs k)) = true
    rw [HX.out, J6.out, HP.out]
    rfl
  ·go_wp2
   go_ret
   refine ⟨-1, rfl, ?_, dH.out⟩
   have h := HP.out
   rw [show k = xs.length by omega] at h
   rw [h]
   rfl
theorem ng {K : Nat -> Prop} (xs : List ByteArray) (o : Option Addr) (cap : Nat) (w : World) (hl : xs.length <= maxLen) (hm : RowOf K w fy 1 o xs) :
 Calls Tryz.prog 261 #[.slice o xs.length cap, .func (.func 262) #[] #[]] w fun e w' => e = .returned (.bool (!iC xs xs.length)) /\ Below w.heap.size w w' := by
 have HM := aa hm
 clear hm
 go_enter Tryz.func261, Tryz.ntmps261
 go_wp2_with fail
 refine (qp xs o cap _ hl HM.out).mono ?_
 rintro e w1 ⟨r, rfl, hr, hb⟩
 have HR := aa hr
 have HB := aa hb
 clear hr hb
 go_wp2
 go_ret
 exact ⟨ah HR.out, HB.out⟩
theorem lP {K : Nat -> Prop} (xs : List ByteArray) (o : Option Addr) (cap : Nat) (w : World) (hl : xs.length <= maxLen) (hc : xs.length <= cap) (hm : RowOf K w fy 1 o xs) :
 Calls Tryz.prog 199 #[.slice o xs.length cap] w fun e w' => e = .returned (.bool (eG xs)) /\ Below w.heap.size w w' := by
 have HM := aa hm
 have iT : xs.length <= 9223372036854775807 := hl
 have HL := aa hl
 clear hm hl
 by_cases h4 : (xs.length : Int) <= 4
 ·cases hp : iC xs xs.length
  all_goals
   have HP := aa hp
   clear hp
   go_enter Tryz.func199, Tryz.ntmps199
   go_wp2_with fail
   refine (ng xs o cap _ HL.out HM.out).mono ?_
   rintro e w1 ⟨rfl, hb⟩
   rw [HP.out]
   have HB := aa hb
   clear hb
  ·go_wp2
   go_ret
   refine ⟨ah ?_, HB.out⟩
   unfold eG
   rw [xA, HP.out]
   rfl
  ·go_wp2_with fail
   refine (qV xs xs.length rfl o cap _ HL.out hc (HM.out.later HB.out fun _ _ h => h)).mono ?_
   rintro e w2 ⟨rfl, rfl⟩
   go_wp2
   go_ret
   refine ⟨ah ?_, HB.out⟩
   unfold eG nG
   rw [xA, HP.out, decide_eq_true h4]
   simp
 ·go_enter Tryz.func199, Tryz.ntmps199
  go_wp2
  go_ret
  refine ⟨ah ?_, Below.refl _ _⟩
  unfold eG
  rw [decide_eq_false (show ¬ (xs.length : Int) <= 4 by omega)]
  simp
theorem rt {K : Nat -> Prop} {w : World} {h : Nat} {x : Tr} {cs : List Value} (hr : (reads K w h).al x cs) :
 Calls Tryz.prog 269 #[.agg cs.toArray] w fun e w' => e = .returned (.bool (dY x)) /\ Below w.heap.size w w' := by
 cases h with
 | zero => exact hr.elim
 | succ h =>
 obtain ⟨-, -, -, -, y, o1, c1, ce, -, rfl, hs, hl, q1, hce, -⟩ := hr
 obtain ⟨a0, a1, a2, a3, a4, a5, rfl⟩ := six hce
 simp only [List.cons_append, List.nil_append]
 have Q1 := aa q1
 have HL := aa hl
 have HS := aa hs
 have iT : x.ss.length <= 9223372036854775807 := hl.1
 clear q1 hl hs hce
 have aF : Hid ((w.alloc (.cells #[.string x.s, .slice o1 x.ss.length c1, a0, a1, a2, a3, a4, a5] 142)).heap[w.heap.size]? = some (.cells #[.string x.s, .slice o1 x.ss.length c1, a0, a1, a2, a3, a4, a5] 142 (0, 0))) := heap_alloc_new w _
 have aq : Hid (Below w.heap.size w (w.alloc (.cells #[.string x.s, .slice o1 x.ss.length c1, a0, a1, a2, a3, a4, a5] 142))) := (U4 w).alloc U0 _
 cases hm : dX x.s
 ·have jo : (x.s.toList == []) = false := hm
  have Mw : (x.s.toList != []) = true := by show (!(dX x.s)) = true; rw [hm]; rfl
  have HM := aa hm
  clear hm
  cases hg : Do x.s
  all_goals
   have HG : Hid (hU x.s.data.toList = _) := hg
   have xK := aa hg
   clear hg
   go_enter Tryz.func269, Tryz.ntmps269
   go_wp2_with fail
   refine (fY _ _ HS.out).mono ?_
   rintro e w1 ⟨rfl, hb⟩
   rw [HG.out]
   have aR := aa (aq.out.trans (hb.mono aq.out.size))
   have aK := aa ((hb.block w.heap.size (ad aF.out)).trans aF.out)
   clear hb
   have I6 := cell_of aK.out 1
   simp only [U7, U8, U9] at I6
  ·go_wp2
   go_ret
   refine ⟨ah ?_, aR.out⟩
   unfold dY
   rw [xK.out, HM.out]
   simp
  ·go_wp2_with fail
   refine (lP x.ss o1 c1 _ HL.out.1 HL.out.2 (Q1.out.later aR.out fun _ _ h => h)).mono ?_
   rintro e w2 ⟨rfl, hb⟩
   have bD := aa (aR.out.trans (hb.mono aR.out.size))
   clear hb
   go_wp2
   go_ret
   refine ⟨ah ?_, bD.out⟩
   unfold dY
   rw [xK.out]
   simp
 ·have jo : (x.s.toList == []) = true := hm
  have Mw : (x.s.toList != []) = false := by show (!(dX x.s)) = false; rw [hm]; rfl
  have HM := aa hm
  have TN : Hid (Do x.s = false) := by
   show hU x.s.data.toList = false
   have e : x.s.data.toList = [] := by rw [<- bd]; exact eq_of_beq hm
   rw [e]
   decide
  clear hm
  by_cases h1 : (x.ss.length : Int) = 1
  ·have h2 : ((x.ss.length : Int) != 1) = false := by simpa using h1
   have H1 := aa h1
   clear h1
   go_enter Tryz.func269, Tryz.ntmps269
   go_wp2_with fail
   refine (lP x.ss o1 c1 _ HL.out.1 HL.out.2 (Q1.out.later aq.out fun _ _ h => h)).mono ?_
   rintro e w2 ⟨rfl, hb⟩
   have bD := aa (aq.out.trans (hb.mono aq.out.size))
   clear hb
   go_wp2
   go_ret
   refine ⟨ah ?_, bD.out⟩
   unfold dY
   rw [HM.out, decide_eq_true H1.out]
   simp
  ·have h2 : ((x.ss.length : Int) != 1) = true := by simpa using h1
   have H1 := aa h1
   clear h1
   go_enter Tryz.func269, Tryz.ntmps269
   go_wp2
   go_ret
   refine ⟨ah ?_, aq.out⟩
   unfold dY
   rw [TN.out, decide_eq_false H1.out]
   simp
end Go.Proofs.YtfomndilhlgikajGreatDoor
namespace Go.Proofs.YtfomndilhlgikajGreatDoor.Rd
open Go.ChangeShapes Go.WideShapes Go.ChangeAt Go.RowKit
def Ir (b g : Nat) (w : World) (d : Nat) (ts : List TokZ) : Prop :=
 ∃ off cap : Nat, w.heap[b]? = some (.cells #[.slice (some ⟨g, off, none⟩) ts.length cap, .int .i64 d] 177 (0, 0)) /\ fq w (some ⟨g, off, none⟩) g off ts /\ g ≠ b /\ ts.length <= 2000 /\ ts.length <= cap /\ Ends ts
def ey : Ending := .panicked [{ v := .iface 180 (.agg #[]), recovered := false }]
theorem Ir.lt {b g d : Nat} {w : World} {ts : List TokZ} (h : Ir b g w d ts) : b < w.heap.size := by
 obtain ⟨off, cap, h, -⟩ := h
 exact ad h
theorem Ir.ends {b g d : Nat} {w : World} {ts : List TokZ} (h : Ir b g w d ts) : Ends ts := by
 obtain ⟨off, cap, -, -, -, -, -, h⟩ := h
 exact h
theorem Ir.glt {b g d : Nat} {w : World} {ts : List TokZ} (h : Ir b g w d ts) : g < w.heap.size := by
 obtain ⟨off, cap, h0, h1, -, -, -, h5⟩ := h
 exact (h1 h5.ne).2.1
theorem Ir.below {b g d : Nat} {w w' : World} {ts : List TokZ} (h : Ir b g w d ts) (hb : Below w.heap.size w w') : Ir b g w' d ts := by
 have au := h.lt
 obtain ⟨off, cap, h0, h1, h2⟩ := h
 exact ⟨off, cap, (hb.block b au).trans h0, dy h1 hb, h2⟩
theorem Ir.other {b g d k : Nat} {w w' : World} {ts : List TokZ} (h : Ir b g w d ts) (hk : Keeps (fun i => i ≠ k) w w') (hb : b ≠ k) (hg : g ≠ k) : Ir b g w' d ts := by
 obtain ⟨off, cap, h0, h1, h2⟩ := h
 exact ⟨off, cap, (hk.block b hb).trans h0, cw h1 hk.size fun _ => hk.block g hg, h2⟩
theorem Ir.head {b g d : Nat} {w : World} {ts : List TokZ} (h : Ir b g w d ts) : ∃ (off cap : Nat) (t : TokZ) (q : List TokZ), ts = t :: q /\ w.heap[b]? = some (.cells #[.slice (some ⟨g, off, none⟩) (q.length + 1) cap, .int .i64 d] 177 (0, 0)) /\ pF w g off t /\ fq w (some ⟨g, off + 4, none⟩) g (off + 4) q /\ g ≠ b /\ q.length + 1 <= 2000 /\ q.length + 1 <= cap /\ Ends (t :: q) := by
 obtain ⟨off, cap, h0, h1, h2, h3, h4, h5⟩ := h
 obtain ⟨t, q, rfl⟩ := h5.form
 obtain ⟨e1, e2, e3⟩ := h1 (by simp)
 refine ⟨off, cap, t, q, rfl, h0, ?_, fun _ => ⟨rfl, e2, fun i u hu => ?_⟩, h2, h3, h4, h5⟩
 ·have := e3 0 t rfl
  rwa [Nat.zero_mul, Nat.add_zero] at this
 ·have := e3 (i + 1) u (by simpa using hu)
  rwa [show off + (i + 1) * 4 = off + 4 + i * 4 by omega] at this
section
variable {b g d : Nat} {w : World} {ts : List TokZ}
theorem cX (b : Nat) (w : World) : Calls Tryz.prog 85 #[.pointer (some ⟨b, 0, none⟩), .bool false] w fun e w' => e = ey /\ w' = w := by
 go_enter Tryz.func85, Tryz.ntmps85
 go_wp2
 exact ⟨rfl, rfl, rfl⟩
theorem dt (b : Nat) (w : World) : Calls Tryz.prog 85 #[.pointer (some ⟨b, 0, none⟩), .bool true] w fun e w' => e = .returned (.tuple #[]) /\ w' = w := by
 go_enter Tryz.func85, Tryz.ntmps85
 go_wp2
 go_end0
 exact ⟨rfl, rfl⟩
theorem bL (k : Int) (h : Ir b g w d ts) : Calls Tryz.prog 135 #[.pointer (some ⟨b, 0, none⟩), .int .i64 k] w fun e w' => e = .returned (.bool (isK ts k)) /\ w' = w := by
 obtain ⟨off, cap, t, q, rfl, h0, ⟨t0, t1, t2, t3⟩, -, uU, hl, hc, aC⟩ := h.head
 have x0 := cell_of h0 0
 simp only [List.getElem?_toArray, List.getElem?_cons_zero] at x0
 have au := h.lt
 have e9 : isK (t :: q) k = (t.k == k) := by simp [isK]; rfl
 rw [e9]
 clear h h0 t1 t2 t3 aC e9
 go_enter Tryz.func135, Tryz.ntmps135
 go_wp2
 go_ret
 exact ⟨rfl, rfl⟩
theorem eN {t : TokZ} {q : List TokZ} (h : Ir b g w d (t :: q)) (hq : Ends q) : Calls Tryz.prog 136 #[.pointer (some ⟨b, 0, none⟩)] w fun e w' => e = .returned (.string t.s) /\ Ir b g w' d q /\ Mv b w w' := by
 obtain ⟨off, cap, t', q', e9, h0, ⟨t0, t1, t2, t3⟩, h1, uU, hl, hc, aC⟩ := h.head
 cases e9
 have x0 := cell_of h0 0
 have xf := aj h0 0
 simp only [List.getElem?_toArray, List.getElem?_cons_zero] at x0
 have au := h.lt
 have H0 := aa h0
 have H1 := aa h1
 have io : 1 <= q.length := by
  obtain ⟨u, v, rfl⟩ := hq.form
  simp
 have mZ : ¬ cap = 1 := by omega
 clear h h0 h1 t0 t2 t3 aC
 go_enter Tryz.func136, Tryz.ntmps136
 go_wp2
 go_ret
 refine ⟨rfl, ⟨off + 4, cap - 1, ?_, cw H1.out (by simp) fun _ => az _ uU, uU, by omega, by omega, hq⟩, Mv.set b 0 _ _⟩
 have h9 := ae (j := 0) (Value.slice (some ⟨g, off + 4, none⟩) q.length (cap - 1)) H0.out
 simpa using h9
end
end Go.Proofs.YtfomndilhlgikajGreatDoor.Rd
