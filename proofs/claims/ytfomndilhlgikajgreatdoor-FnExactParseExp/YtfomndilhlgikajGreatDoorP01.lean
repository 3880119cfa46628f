import Derived.Laws.IdiomStrings
import Derived.LaidEql
import Derived.LaidEqlPtr
import Derived.Laws.StructEq
import Derived.Maps.OwnSet
import Derived.MapKept
import Derived.Test.YtfomndilhlgikajGreatDoorP00
set_option maxHeartbeats 8000000
set_option maxRecDepth 100000
namespace Go.Proofs.YtfomndilhlgikajGreatDoor
open Go.RowKit
def Fh (j : Nat) : UInt8 := UInt8.ofNat (48 + j % 10)
def yy : Nat -> Nat -> List UInt8 -> List UInt8
 | 0, _, out => out
 | f + 1, k, out => if 0 < k then yy f (k / 10) (Fh k :: out) else out
def wZ (k : Nat) : List UInt8 := 109 :: yy k k []
theorem BL (n : Nat) : (Fh n).toNat = 48 + n % 10 := by
 rw [Fh, UInt8.toNat_ofNat']
 omega
theorem tE (j : Nat) (wr : World) : (convert 96 9 (.slice (some ⟨wr.heap.size, 0, none⟩) 1 1)).run Tryz.prog (wr.alloc (.cells #[.int .u8 (48 + (j : Int) % 10)] 5)) = .ok (.string ⟨#[Fh j]⟩) (wr.alloc (.cells #[.int .u8 (48 + (j : Int) % 10)] 5)) := by
 refine run_convert_bytes_back _ _ _ 5 _ 1 [Fh j] Tryz.underlying96 Tryz.underlying5 Tryz.underlying9 ?_
 intro m hm
 have : m = 0 := by simpa using hm
 subst this
 show (wr.alloc _).cell? (Addr.add ⟨wr.heap.size, 0, none⟩ 0) = some (.int .u8 ((Fh j).toNat : Int))
 rw [BL]
 simp [Addr.add]
theorem uC (b : UInt8) (out : List UInt8) : (ByteArray.mk #[b]) ++ (ByteArray.mk out.toArray) = ⟨(b :: out).toArray⟩ := by
 apply ByteArray.ext
 rw [ByteArray.data_append]
 simp
theorem sN (k : Nat) (h1 : 1 <= k) (h2 : k <= 10000000) (w : World) :
 Calls Tryz.prog 91 #[.int .i64 k] w fun e w' => e = .returned (.string ⟨(wZ k).toArray⟩) /\ Below w.heap.size w w' := by
 have iL : ¬ (k : Int) <= 0 := by omega
 go_enter Tryz.func91, Tryz.ntmps91
 go_wp2
 go_loopw [0, 3] (fun t0 t3 wr => ∃ (j f : Nat) (out : List UInt8), j + out.length <= k /\ j <= f /\ t0 = .int .i64 j /\ t3 = .string ⟨out.toArray⟩ /\ yy f j out = yy k k [] /\ Below w.heap.size w wr) (fun t0 _ _ => (intOf t0).toNat)
 case atStart => exact ⟨k, k, [], Nat.le_refl _, Nat.le_refl _, rfl, rfl, rfl, Below.refl _ _⟩
 case round =>
  obtain ⟨j, f, out, hjk, hjf, rfl, rfl, hd, cA⟩ := hrel
  have HD := aa hd
  have dH := aa cA
  clear hd cA
  by_cases hj : (0 : Int) < j
  ·have UU := tE j wr
   have Nw := uC (Fh j) out
   have bK : 1 + out.length <= 9223372036854775807 := by omega
   go_wp2
   refine ⟨⟨j / 10, f - 1, Fh j :: out, by simp; omega, by omega, by go_num, ?_, ?_, dH.out.alloc dH.out.size _⟩, ?_⟩
   ·rfl
   ·rw [<- HD.out]
    obtain ⟨f', rfl⟩ : ∃ f', f = f' + 1 := ⟨f - 1, by omega⟩
    rw [yy, if_pos (by omega)]
    rfl
   ·simp [intOf]; omega
  ·have Nw := uC 109 out
   have bK : ¬ 9223372036854775807 < 1 + out.length := by omega
   go_wp2
   go_ret
   refine ⟨?_, dH.out⟩
   have h0 : j = 0 := by omega
   subst h0
   have L4 := HD.out
   have : yy f 0 out = out := by cases f <;> rfl
   rw [this] at L4
   rw [wZ, <- L4]
   rfl
theorem tv (k : Nat) (h2 : k <= 5000000) (w : World) :
 Calls Tryz.prog 91 #[.int .i64 ((k : Int) + 1)] w fun e w' => e = .returned (.string ⟨(wZ (k + 1)).toArray⟩) /\ Below w.heap.size w w' := by
 have h := sN (k + 1) (by omega) (by omega) w
 rw [Int.natCast_add] at h
 exact h
def aD (k : Nat) : ByteArray := ⟨(wZ (k + 1)).toArray⟩
theorem pp (W : World) (g a m : Nat) (v u : Value) (h : W.cell? ⟨g, a, none⟩ = some u) : (W.setCell ⟨g, a, none⟩ v).cell? ⟨g, m, none⟩ = if m = a then some v else W.cell? ⟨g, m, none⟩ := by
 by_cases e : m = a
 ·subst e
  rw [if_pos rfl]
  exact World.cell?_setCell_same _ _ _ h
 ·rw [if_neg e]
  refine World.cell?_setCell_other _ _ _ _ fun h2 => e ?_
  cases h2
  rfl
def marked (w2 : World) (g i : Nat) (k : Nat) : World := ((w2.setCell ⟨g, i * 4 + 1, none⟩ (.string (aD k))).setCell ⟨g, i * 4 + 2, none⟩ (.int .i64 ((k : Int) + 1 + 1))).setCell ⟨g, i * 4 + 3, none⟩ (.int .i64 ((k : Int) + 1 + 1 + 1))
theorem lN (k : Nat) (h2 : k <= 5000000) (w : World) :
 Calls Tryz.prog 91 #[.int .i64 ((k : Int) + 1)] w fun e w' => e = .returned (.string (aD k)) /\ Below w.heap.size w w' := tv k h2 w
def sB (w : World) (a : Addr) : Prop := ∃ c e, w.heap[a.block]? = some (.cells c e (0, 0))
end Go.Proofs.YtfomndilhlgikajGreatDoor
namespace Go.Proofs.YtfomndilhlgikajGreatDoor.Nm
open Go.ChangeShapes Go.WideShapes Go.ChangeAt Go.RowKit
def Sk (v v' : Value) : Prop := v' = v \/ (∃ i j : Int, v = .int .i64 i /\ v' = .int .i64 j) \/ (∃ s t : ByteArray, v = .string s /\ v' = .string t)
theorem Sk.refl (v : Value) : Sk v v := .inl rfl
theorem Sk.trans {a b c : Value} (h : Sk a b) (k : Sk b c) : Sk a c := by
 rcases h with rfl | ⟨i, j, rfl, rfl⟩ | ⟨s, t, rfl, rfl⟩
 ·exact k
 ·rcases k with rfl | ⟨i', j', h1, rfl⟩ | ⟨s, t, h1, -⟩
  ·exact .inr (.inl ⟨i, j, rfl, rfl⟩)
  ·exact .inr (.inl ⟨i, j', rfl, rfl⟩)
  ·cases h1
 ·rcases k with rfl | ⟨i', j', h1, -⟩ | ⟨s', t', h1, rfl⟩
  ·exact .inr (.inr ⟨s, t, rfl, rfl⟩)
  ·cases h1
  ·exact .inr (.inr ⟨s, t', rfl, rfl⟩)
theorem Sk.slice {o : Option Addr} {n c : Nat} {v : Value} (h : Sk (.slice o n c) v) : v = .slice o n c := by
 rcases h with h | ⟨i, j, h, -⟩ | ⟨s, t, h, -⟩
 ·exact h
 ·cases h
 ·cases h
theorem Sk.int {i : Int} {v : Value} (h : Sk (.int .i64 i) v) : ∃ j, v = .int .i64 j := by
 rcases h with h | ⟨i, j, h, rfl⟩ | ⟨s, t, h, -⟩
 ·exact ⟨_, h⟩
 ·exact ⟨_, rfl⟩
 ·cases h
theorem Sk.str {s : ByteArray} {v : Value} (h : Sk (.string s) v) : ∃ t, v = .string t := by
 rcases h with h | ⟨i, j, h, -⟩ | ⟨s, t, h, rfl⟩
 ·exact ⟨_, h⟩
 ·cases h
 ·exact ⟨_, rfl⟩
structure Mk (K : Nat -> Prop) (w w' : World) : Prop where
 keep : Keeps (fun b => ¬ K b /\ b < w.heap.size) w w'
 kin : ∀ (a : Addr) (v : Value), K a.block -> w.cell? a = some v -> ∃ v', w'.cell? a = some v' /\ Sk v v'
 plain : ∀ b, K b -> sB w ⟨b, 0, none⟩ -> sB w' ⟨b, 0, none⟩
theorem Mk.refl (K : Nat -> Prop) (w : World) : Mk K w w := ⟨Keeps.refl _ _, fun _ v _ h => ⟨v, h, Sk.refl v⟩, fun _ _ h => h⟩
theorem Mk.trans {K : Nat -> Prop} {a b c : World} (h : Mk K a b) (k : Mk K b c) : Mk K a c :=
 ⟨h.keep.trans (k.keep.mono fun x hx => ⟨hx.1, Nat.lt_of_lt_of_le hx.2 h.keep.size⟩), fun x v hx hv => by
  obtain ⟨v1, h1, s1⟩ := h.kin x v hx hv
  obtain ⟨v2, h2, s2⟩ := k.kin x v1 hx h1
  exact ⟨v2, h2, s1.trans s2⟩, fun x hx hp => k.plain x hx (h.plain x hx hp)⟩
theorem Mk.later {K : Nat -> Prop} {w w' : World} (hb : Below w.heap.size w w') : Mk K w w' :=
 ⟨cJ hb fun _ h => h.2, fun a v _ hv => ⟨v, (hb.cell (p := a) (World.block_lt_of_cell? w a hv)).trans hv, Sk.refl v⟩, fun b _ ⟨c, e, h⟩ => ⟨c, e, (hb.block b (ad h)).trans h⟩⟩
theorem Mk.set {K : Nat -> Prop} {w : World} {b j : Nat} {v u : Value} (hb : K b) (hv : w.cell? ⟨b, j, none⟩ = some v) (hs : Sk v u) : Mk K w (w.setCell ⟨b, j, none⟩ u) := by
 refine ⟨ak w b j u fun h => h.1 hb, fun a x ha hx => ?_, fun c hc ⟨cs, e, h⟩ => ?_⟩
 ·obtain ⟨ab, ao, asp⟩ := a
  by_cases h1 : ab = b
  ·subst h1
   cases asp with
   | some q =>
    have h9 := World.cell?_spot hx
    cases h9
   | none =>
    by_cases h2 : ao = j
    ·subst h2
     have e := hx.symm.trans hv
     have e2 := Option.some.inj e
     rw [e2]
     refine ⟨u, ?_, hs⟩
     rw [pp w ab ao ao u v hv, if_pos rfl]
    ·refine ⟨x, ?_, Sk.refl x⟩
     rw [pp w ab j ao u v hv, if_neg h2]
     exact hx
  ·refine ⟨x, ?_, Sk.refl x⟩
   exact (World.cell?_of_block (a := ⟨ab, ao, asp⟩) (az u h1)).trans hx
 ·by_cases h1 : c = b
  ·subst h1
   exact ⟨_, e, ae u h⟩
  ·exact ⟨cs, e, (az u h1).trans h⟩
def strQ (_ : ByteArray) (cs : List Value) : Prop := ∃ s, cs = [.string s]
def SkL (cs cs' : List Value) : Prop := cs'.length = cs.length /\ ∀ (j : Nat) (v v' : Value), cs[j]? = some v -> cs'[j]? = some v' -> Sk v v'
theorem SkL.six {a b c d e f : Value} {cs' : List Value} (h : SkL [a, b, c, d, e, f] cs') : ∃ a' b' c' d' e' f', cs' = [a', b', c', d', e', f'] /\ Sk a a' /\ Sk b b' /\ Sk c c' /\ Sk d d' /\ Sk e e' /\ Sk f f' := by
 obtain ⟨a', b', c', d', e', f', rfl⟩ := Go.Proofs.YtfomndilhlgikajGreatDoor.six h.1
 exact ⟨a', b', c', d', e', f', rfl, h.2 0 _ _ rfl rfl, h.2 1 _ _ rfl rfl, h.2 2 _ _ rfl rfl, h.2 3 _ _ rfl rfl, h.2 4 _ _ rfl rfl, h.2 5 _ _ rfl rfl⟩
theorem El {α : Type} {K : Nat -> Prop} {w w' : World} {R R' : α -> List Value -> Prop} {sz : Nat} {o : Option Addr} {xs : List α} (h : RowOf K w R sz o xs) (hm : Mk K w w') (hR : ∀ x cs cs', SkL cs cs' -> R x cs -> R' x cs') : RowOf K w' R' sz o xs := by
 intro bU
 obtain ⟨b, off, ho, hk, au, hc⟩ := h bU
 refine ⟨b, off, ho, hk, Nat.lt_of_lt_of_le au hm.keep.size, fun i x hx => ?_⟩
 obtain ⟨cs, h1, h2, h3⟩ := hc i x hx
 obtain ⟨cs', hl', hp⟩ := AU (α := Value) (n := sz) (p := fun j v' => w'.cell? ⟨b, off + i * sz + j, none⟩ = some v' /\ ∀ v, cs[j]? = some v -> Sk v v') (fun j hj => by
  obtain ⟨v', h4, h5⟩ := hm.kin ⟨b, off + i * sz + j, none⟩ (cs[j]'(by omega)) hk (h2 j _ (List.getElem?_eq_getElem _))
  refine ⟨v', h4, fun v hv => ?_⟩
  rw [List.getElem?_eq_getElem (by omega)] at hv
  cases hv
  exact h5)
 exact ⟨cs', hl', fun j u hu => (hp j u hu).1, hR x cs cs' ⟨hl'.trans h1.symm, fun j v v' hv hv' => (hp j v' hv').2 v hv⟩ h3⟩
theorem Au (x : ByteArray) (cs cs' : List Value) (h : SkL cs cs') (hx : strQ x cs) : strQ x cs' := by
 obtain ⟨s, rfl⟩ := hx
 match cs', h.1 with
 | [v], _ =>
  obtain ⟨t, rfl⟩ := (h.2 0 _ _ rfl rfl).str
  exact ⟨t, rfl⟩
theorem markStrS_any {K : Nat -> Prop} (xs : List ByteArray) (o : Option Addr) (c kk : Nat) (w : World) (hx : RowOf K w strQ 1 o xs) (hp : ∀ b, K b -> sB w ⟨b, 0, none⟩) (hl : kk + xs.length <= 4900000) :
 Calls Tryz.prog 93 #[.slice o xs.length c, .int .i64 ((kk : Int) + 1)] w fun e w' => e = .returned (.int .i64 (((kk + xs.length : Nat) : Int) + 1)) /\ Mk K w w' /\ (∀ b off, o = some ⟨b, off, none⟩ -> ∀ j, j < xs.length -> w'.cell? ⟨b, off + j, none⟩ = some (.string (aD (kk + j)))) := by
 have HX := aa hx
 have HP := aa hp
 have ml : xs.length <= 9223372036854775807 := by omega
 clear hx hp
 go_enter Tryz.func93, Tryz.ntmps93
 go_wp2
 go_loopw [1, 5] (fun t1 t5 wr => ∃ i : Nat, i <= xs.length /\ t5 = .int .i64 i /\ t1 = .int .i64 (((kk + i : Nat) : Int) + 1) /\ Mk K w wr /\ (∀ b off, o = some ⟨b, off, none⟩ -> ∀ j, j < i -> wr.cell? ⟨b, off + j, none⟩ = some (.string (aD (kk + j))))) (fun _ t5 _ => xs.length - (intOf t5).toNat)
 case atStart => exact ⟨0, Nat.zero_le _, rfl, by simp, Mk.refl _ _, fun b off _ j hj => absurd hj (by omega)⟩
 case round =>
  obtain ⟨i, hi, rfl, rfl, hm, hd⟩ := hrel
  have HM := aa hm
  have HD := aa hd
  by_cases au : i < xs.length
  ·have bU : xs ≠ [] := by intro e; rw [e] at au; simp at au
   obtain ⟨b, off, eo, Jt, ay, dF⟩ := El HX.out hm Au bU
   subst eo
   obtain ⟨_, -, hkey, s, rfl⟩ := dF i _ (List.getElem?_eq_getElem au)
   have q0 := hkey 0 _ rfl
   rw [Nat.mul_one, Nat.add_zero] at q0
   have zi := hm.plain b Jt (HP.out b Jt)
   have HQ := aa q0
   have Rt := aa zi
   have SJ := aa Jt
   generalize wN : kk + i = ki at *
   have vq := aa wN
   have Rm : ki <= 4900000 := by omega
   clear hm hd dF hkey bU zi Jt q0 wN
   go_wp2_with fail
   refine (lN ki (by have := vq.out; omega) wr).mono ?_
   rintro e w2 ⟨rfl, aX⟩
   have qm := (aX.cell (p := ⟨b, off + i, none⟩) ay).trans HQ.out
   obtain ⟨cc, ct, hpc⟩ := Rt.out
   have DB := aj ((aX.block b ay).trans hpc) (off + i)
   have EU : Mk K wr (w2.setCell ⟨b, off + i, none⟩ (.string (aD ki))) := (Mk.later aX).trans (Mk.set SJ.out qm (.inr (.inr ⟨_, _, rfl, rfl⟩)))
   have NV := aa (HM.out.trans EU)
   have wJ : Hid (∀ j, j < i + 1 -> (w2.setCell ⟨b, off + i, none⟩ (.string (aD ki))).cell? ⟨b, off + j, none⟩ = some (.string (aD (kk + j)))) := fun j hj => by
    rw [pp w2 b (off + i) (off + j) _ _ qm]
    by_cases e : j = i
    ·subst e
     rw [if_pos rfl, vq.out]
    ·rw [if_neg (by omega)]
     exact (aX.cell (p := ⟨b, off + j, none⟩) ay).trans (HD.out b off rfl j (by omega))
   clear aX hpc EU
   go_wp2
   go_roundw
   case rel =>
    refine ⟨i + 1, by omega, by go_num, ?_, NV.out, fun b' off' e j hj => ?_⟩
    ·have := vq.out
     have e9 : kk + (i + 1) = ki + 1 := by omega
     rw [e9]
     go_num
    ·cases e
     exact wJ.out j hj
   case measure => simp [intOf]; omega
  ·have jQ : i = xs.length := by omega
   subst jQ
   clear hm hd
   go_wp2
   go_ret
   exact ⟨rfl, HM.out, HD.out⟩
end Go.Proofs.YtfomndilhlgikajGreatDoor.Nm
