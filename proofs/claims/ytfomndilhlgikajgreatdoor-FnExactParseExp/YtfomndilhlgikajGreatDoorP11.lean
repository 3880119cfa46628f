import Derived.Laws.Runes
import Derived.BigQuiet
import Derived.Deep.QuietTactic
import Derived.Test.YtfomndilhlgikajGreatDoorP10
import Derived.Test.YtfomndilhlgikajGreatDoorShelf
set_option maxHeartbeats 8000000
set_option maxRecDepth 100000
namespace Go.Proofs.YtfomndilhlgikajGreatDoor
def bM (c : UInt8) : Bool := cz c.toNat 48 57
def fC (c : UInt8) : Bool := cz c.toNat 97 122 || cz c.toNat 65 90
def cO (c : UInt8) : Bool := eC c.toNat
def mL (l : List UInt8) : Bool := l.all bM && cz l.length 1 6 && (l.length == 1 || !(l.headD 0 == 48))
def dl (l : List UInt8) : Nat := if sJ l then 4 else if fF l then 1 else if hU l then 2 else 0
def gm (l : List UInt8) : Nat := if mL l then 3 else 0
def gI (l : List UInt8) : Bool := l.take 2 == [45, 45]
def gL (l : List UInt8) : Bool := l.take 2 == [45, 62] || l.take 2 == [61, 61]
def marksL : List UInt8 := [40, 41, 123, 125, 59, 61, 92, 124, 43, 45, 42, 60, 95]
def fm (c : UInt8) : Bool := marksL.any fun m => m == c
def cr (l : List UInt8) : Nat :=
 if bM (l.headD 0) then gm (l.takeWhile bM)
 else if fC (l.headD 0) then dl (l.takeWhile cO)
 else if gL l then 5
 else if fm (l.headD 0) then 5
 else 0
def bA (l : List UInt8) : Nat :=
 if bM (l.headD 0) then (l.takeWhile bM).length
 else if fC (l.headD 0) then (l.takeWhile cO).length
 else if gL l then 2
 else 1
structure TokP where
 k : Nat
 s : List UInt8
 line : Nat
 col : Nat
def bN (L : List UInt8) : Nat -> Nat
 | 0 => 1
 | p + 1 => if L[p]? = some 10 then bN L p + 1 else bN L p
def db (L : List UInt8) : Nat -> Nat
 | 0 => 0
 | p + 1 => if L[p]? = some 10 then p + 1 else db L p
theorem mu (L : List UInt8) (p : Nat) : db L p <= p := by
 induction p with
 | zero => exact Nat.le_refl _
 | succ p ih => unfold db; split <;> omega
theorem pR (L : List UInt8) (p : Nat) : 1 <= bN L p /\ bN L p <= p + 1 := by
 induction p with
 | zero => exact ⟨Nat.le_refl _, Nat.le_refl _⟩
 | succ p ih => unfold bN; split <;> omega
theorem mz (L : List UInt8) (p : Nat) : ∀ d, (∀ i, p <= i -> i < p + d -> L[i]? ≠ some 10) -> bN L (p + d) = bN L p /\ db L (p + d) = db L p := by
 intro d
 induction d with
 | zero => intro _; exact ⟨rfl, rfl⟩
 | succ d ih =>
  intro h
  obtain ⟨h1, h2⟩ := ih (fun i a b => h i a (by omega))
  have hn := h (p + d) (by omega) (by omega)
  refine ⟨?_, ?_⟩
  ·show bN L (p + d + 1) = _
   rw [bN, if_neg hn, h1]
  ·show db L (p + d + 1) = _
   rw [db, if_neg hn, h2]
def jL (L : List UInt8) (at' : Nat) : TokP := ⟨cr (L.drop at'), (L.drop at').take (bA (L.drop at')), bN L at', at' - db L at' + 1⟩
def cE (l : List UInt8) : Nat := (l.takeWhile fun c => c != 10).length
def jR (L : List UInt8) : Nat -> Nat -> Option (List TokP)
 | 0, _ => some []
 | f + 1, at' =>
  if at' < L.length then
   if L[at']? = some 10 \/ L[at']? = some 32 then jR L f (at' + 1)
   else if gI (L.drop at') then jR L f (at' + cE (L.drop at'))
   else if cr (L.drop at') = 0 then none
   else (jR L f (at' + bA (L.drop at'))).map (jL L at' :: ·)
  else some []
theorem fZ (p : UInt8 -> Bool) (l : List UInt8) (h : 0 < l.length) (h1 : p (l.headD 0) = true) : 1 <= (l.takeWhile p).length := by
 cases l with
 | nil => simp at h
 | cons c r =>
  have Nu : p c = true := h1
  rw [List.takeWhile_cons, if_pos Nu]
  simp
theorem oP (c : UInt8) (h : fC c = true) : cO c = true := by
 unfold fC at h; unfold cO eC; rw [h]; rfl
theorem eX (l : List UInt8) (h : 0 < l.length) : 1 <= bA l := by
 unfold bA
 split
 ·exact fZ _ _ h ‹_›
 ·split
  ·exact fZ _ _ h (oP _ ‹_›)
  ·split <;> omega
theorem jA (l : List UInt8) (h : 0 < l.length) (h1 : l.headD 0 ≠ 10) : 1 <= cE l := fZ _ _ h (by simpa using h1)
theorem qU (L : List UInt8) (p : Nat) (h : p < L.length) : (L.drop p).headD 0 = L[p] := by
 rw [List.headD_eq_head?_getD, List.head?_drop, List.getElem?_eq_getElem h]
 rfl
theorem dm (L : List UInt8) (p : Nat) (h : p < L.length) : 0 < (L.drop p).length := by
 rw [List.length_drop]; omega
theorem yL (L : List UInt8) : ∀ f at', L.length <= at' + f -> jR L f at' = jR L (f + 1) at' := by
 intro f
 induction f with
 | zero =>
  intro a h
  have h' : ¬ a < L.length := by omega
  simp [jR, h']
 | succ f ih =>
  intro a h
  rw [jR, jR]
  by_cases ha : a < L.length
  ·rw [if_pos ha, if_pos ha]
   by_cases hb : L[a]? = some 10 \/ L[a]? = some 32
   ·rw [if_pos hb, if_pos hb]
    exact ih _ (by omega)
   ·rw [if_neg hb, if_neg hb]
    have bU : (L.drop a).headD 0 ≠ 10 := by
     rw [qU L a ha]
     intro e
     exact hb (Or.inl (by rw [List.getElem?_eq_getElem ha, e]))
    by_cases hd : gI (L.drop a) = true
    ·rw [if_pos hd, if_pos hd]
     have := jA (L.drop a) (dm L a ha) bU
     exact ih _ (by omega)
    ·rw [if_neg hd, if_neg hd]
     by_cases hk : cr (L.drop a) = 0
     ·rw [if_pos hk, if_pos hk]
     ·rw [if_neg hk, if_neg hk]
      have := eX (L.drop a) (dm L a ha)
      rw [ih _ (by omega)]
  ·rw [if_neg ha, if_neg ha]
def cd (L : List UInt8) (at' : Nat) : Option (List TokP) := jR L L.length at'
theorem nb (L : List UInt8) (b : Nat) (h : 1 <= b) : jR L (L.length - 1) b = cd L b := by
 by_cases h0 : L.length = 0
 ·unfold cd; rw [h0]
 ·have e : L.length = (L.length - 1) + 1 := by omega
  have e2 : cd L b = jR L ((L.length - 1) + 1) b := by unfold cd; rw [<- e]
  rw [e2]
  exact yL L _ _ (by omega)
theorem dO (L : List UInt8) (a : Nat) (ha : a < L.length) : cd L a =
 if L[a]? = some 10 \/ L[a]? = some 32 then cd L (a + 1)
 else if gI (L.drop a) then cd L (a + cE (L.drop a))
 else if cr (L.drop a) = 0 then none
 else (cd L (a + bA (L.drop a))).map (jL L a :: ·) := by
 have e : L.length = (L.length - 1) + 1 := by omega
 have e2 : cd L a = jR L ((L.length - 1) + 1) a := by unfold cd; rw [<- e]
 rw [e2, jR, if_pos ha]
 by_cases hb : L[a]? = some 10 \/ L[a]? = some 32
 ·rw [if_pos hb, if_pos hb]
  exact nb L _ (by omega)
 ·rw [if_neg hb, if_neg hb]
  have bU : (L.drop a).headD 0 ≠ 10 := by
   rw [qU L a ha]
   intro e
   exact hb (Or.inl (by rw [List.getElem?_eq_getElem ha, e]))
  have h1 := jA (L.drop a) (dm L a ha) bU
  have h2 := eX (L.drop a) (dm L a ha)
  rw [nb L _ (by omega), nb L _ (by omega)]
theorem rP (L : List UInt8) (a : Nat) (ha : ¬ a < L.length) : cd L a = some [] := by
 unfold cd
 cases h : L.length with
 | zero => rfl
 | succ n => rw [jR, if_neg ha]
def lu (L : List UInt8) : Option (List TokP) :=
 if L.length <= 1500 then
  match cd L 0 with
  | some ts => if ts.length < 400 then some (ts ++ [⟨6, [], bN L L.length, L.length - db L L.length + 1⟩]) else none
  | none => none
 else none
open Go.RowKit
theorem nR (s : ByteArray) (pos : Nat) (h : pos < s.size) : 1 <= (Utf8.decode s pos).2 /\ pos + (Utf8.decode s pos).2 <= s.size /\ (∀ i, 1 <= i -> i < (Utf8.decode s pos).2 -> 128 <= (s.get! (pos + i)).toNat) := by
 simp only [Utf8.decode]
 repeat' split
 all_goals simp_all
 all_goals try omega
 all_goals
  refine ⟨by omega, fun i h1 h2 => ?_⟩
  have hi : i = 1 \/ i = 2 \/ i = 3 := by omega
  rcases hi with rfl | rfl | rfl <;> omega
theorem bE (s : ByteArray) (i : Nat) (h : i < s.size) : s.data.toList.getD i 0 = s[i] := by
 rw [List.getD_eq_getElem?_getD, List.getElem?_eq_getElem (by rw [ai]; exact h)]
 rfl
theorem uh (s : ByteArray) (i : Nat) (h : i < s.size) : s.get! i = s[i] := get_at s i h
theorem cM (p : UInt8 -> Bool) (L : List UInt8) : ∀ k, k <= L.length -> (∀ i, i < k -> p (L.getD i 0) = true) -> (k = L.length \/ p (L.getD k 0) = false) -> (L.takeWhile p).length = k := by
 induction L with
 | nil => intro k hk _ _; simp at hk; simp [hk]
 | cons c r ih =>
  intro k hk cl hend
  cases k with
  | zero =>
   rcases hend with he | he
   ·simp at he
   ·have : p c = false := he
    simp [this]
  | succ k =>
   have h0 : p c = true := cl 0 (by omega)
   rw [List.takeWhile_cons, if_pos h0, List.length_cons]
   congr 1
   refine ih k (by simpa using hk) (fun i hi => cl (i + 1) (by omega)) ?_
   rcases hend with he | he
   ·left; simpa using he
   ·right; simpa using he
def qy (c : UInt8) : Bool := c != 10
theorem jM (r : Int) (w : World) : Calls Tryz.prog 184 #[.int .i32 r] w fun e w' => e = .returned (.bool (r != 10)) /\ w' = w := by
 go_enter Tryz.func184, Tryz.ntmps184
 go_wp2
 go_ret
 exact ⟨rfl, rfl⟩
def Ad (P : Int -> Bool) (p : UInt8 -> Bool) : Prop := ∀ (s : ByteArray) (pos : Nat) (_ : pos < s.size), ∃ r d : Nat, Utf8.decode s pos = (r, d) /\ P (r : Int) = p (s.data.toList.getD pos 0) /\ 1 <= d /\ (p (s.data.toList.getD pos 0) = true -> pos + d <= s.size /\ ∀ i, pos <= i -> i < pos + d -> p (s.data.toList.getD i 0) = true)
theorem oA (P : Int -> Bool) (p : UInt8 -> Bool) (h1 : ∀ c : UInt8, P (c.toNat : Int) = p c) (h2 : ∀ r : Nat, 128 <= r -> P (r : Int) = p 128) (h3 : ∀ c : UInt8, 128 <= c.toNat -> p c = p 128) : Ad P p := by
 intro s pos h
 have vi := nR s pos h
 by_cases ha : (s[pos]'h).toNat < 128
 ·refine ⟨(s[pos]'h).toNat, 1, decode_ascii s pos h ha, ?_, Nat.le_refl _, ?_⟩
  ·rw [bE s pos h, h1]
  ·intro ht
   refine ⟨by omega, fun i a b => ?_⟩
   have : i = pos := by omega
   rw [this]; exact ht
 ·have hd := decode_high s pos h (by omega)
  refine ⟨(Utf8.decode s pos).1, (Utf8.decode s pos).2, rfl, ?_, hd.2, ?_⟩
  ·rw [bE s pos h, h2 _ hd.1]
   exact (h3 _ (by omega)).symm
  ·intro ht
   refine ⟨vi.2.1, fun i a b => ?_⟩
   rw [bE s pos h, h3 _ (by omega)] at ht
   rw [bE s i (by omega)]
   by_cases e : i = pos
   ·subst e; rw [h3 _ (by omega)]; exact ht
   ·have hb := vi.2.2 (i - pos) (by omega) (by omega)
    rw [show pos + (i - pos) = i from by omega, uh s i (by omega)] at hb
    rw [h3 _ hb]; exact ht
theorem A9 : Ad eC cO := by
 refine oA _ _ (fun _ => rfl) (fun r h => ?_) (fun c h => ?_)
 ·rw [show cO 128 = false from by decide]
  rw [eC, bO (by omega), bO (by omega), bO (by omega)]
  rfl
 ·rw [show cO 128 = false from by decide]
  rw [cO, eC, bO (by omega), bO (by omega), bO (by omega)]
  rfl
theorem uy : Ad (fun r => cz r 48 57) bM := by
 refine oA _ _ (fun _ => rfl) (fun r h => ?_) (fun c h => ?_)
 ·rw [show bM 128 = false from by decide]
  show cz r 48 57 = false
  rw [bO (by omega)]
 ·rw [show bM 128 = false from by decide, bM, bO (by omega)]
theorem rj (c : UInt8) : ((c.toNat : Int) != 10) = qy c := by
 unfold qy
 rw [Bool.eq_iff_iff, bne_iff_ne, bne_iff_ne]
 constructor
 ·intro h e
  subst e
  exact h rfl
 ·intro h e
  have : c.toNat = 10 := by omega
  exact h (UInt8.toNat_inj.1 (by simpa using this))
theorem DF : Ad (fun r => r != 10) qy := by
 refine oA _ _ rj (fun r h => ?_) (fun c h => ?_)
 ·rw [show qy 128 = true from by decide]
  show ((r : Int) != 10) = true
  rw [bne_iff_ne]; omega
 ·rw [show qy 128 = true from by decide]
  rw [<- rj, bne_iff_ne]; omega
theorem vE (s : ByteArray) (w : World) (hs : s.size <= maxLen) :
 Calls Tryz.prog 183 #[.string s, .func (.func 235) #[] #[]] w fun e w' => e = .returned (.int .i64 ((s.data.toList.takeWhile cO).length : Nat)) /\ Below w.heap.size w w' := by
 unfold maxLen at hs
 go_enter Tryz.func183, Tryz.ntmps183
 go_wp2
 go_loopw [] (fun wr => ∃ pos : Nat, wr.heap[w.heap.size]? = some (.stringIter s pos) /\ Below w.heap.size w wr /\ pos <= s.size /\ (∀ i, i < pos -> cO (s.data.toList.getD i 0) = true)) (fun wr => s.size - wr.iterPos w.heap.size)
 case atStart =>
  exact ⟨0, World.iter_heap w s 0, (U4 w).alloc U0 _, by omega, by omega⟩
 case round =>
  obtain ⟨pos, hit, cA, nP, cl⟩ := hrel
  have HN := aa cl
  clear cl
  by_cases hp : pos < s.size
  ·obtain ⟨r, d, hdec, hPp, jq, gz⟩ := A9 s pos hp
   have zr : ∀ ty, (Instr.next (.pointer (some ⟨w.heap.size, 0, none⟩)) true ty).run Tryz.prog wr = _ := fun ty => kJ wr w.heap.size s pos r d ty hit hp hdec
   have HP := aa hPp
   have HR := aa gz
   have fi := aa (Lib.iterAt_heap wr w.heap.size s pos (pos + d) hit)
   have bZ := aa (Lib.below_iterAt cA (k := w.heap.size) U0 s (pos + d))
   clear hPp gz hdec
   cases hl : cO (s.data.toList.getD pos 0)
   ·have HL := aa hl
    clear hl
    go_wp2_with fail
    refine (bh _ _).mono ?_
    rintro e w' ⟨rfl, rfl⟩
    rw [show eC (r : Int) = false from HP.out.trans HL.out]
    go_wp2
    go_ret
    refine ⟨?_, bZ.out⟩
    rw [cM cO s.data.toList pos (by rw [ai]; omega) HN.out (Or.inr HL.out)]
    rfl
   ·have HL := aa hl
    clear hl
    go_wp2_with fail
    refine (bh _ _).mono ?_
    rintro e w' ⟨rfl, rfl⟩
    rw [show eC (r : Int) = true from HP.out.trans HL.out]
    go_wp2
    go_roundw
    case rel =>
     refine ⟨pos + d, fi.out, bZ.out, (HR.out HL.out).1, fun i hi => ?_⟩
     by_cases hip : i < pos
     ·exact HN.out i hip
     ·exact (HR.out HL.out).2 i (by omega) hi
    case measure =>
     have hh := (HR.out HL.out).1
     rw [aV _ _ s _ fi.out, aV _ _ s _ hit]
     omega
  ·have zr : ∀ ty, (Instr.next (.pointer (some ⟨w.heap.size, 0, none⟩)) true ty).run Tryz.prog wr = _ := fun ty => Lib.run_next_end_at wr w.heap.size s pos ty hit hp
   have bZ := aa cA
   clear cA
   go_wp2
   go_ret
   refine ⟨?_, bZ.out⟩
   rw [cM cO s.data.toList pos (by rw [ai]; omega) HN.out (Or.inl (by rw [ai]; omega))]
   rw [show pos = s.size from by omega]
   rfl
theorem wu (s : ByteArray) (w : World) (hs : s.size <= maxLen) :
 Calls Tryz.prog 183 #[.string s, .func (.func 237) #[] #[]] w fun e w' => e = .returned (.int .i64 ((s.data.toList.takeWhile bM).length : Nat)) /\ Below w.heap.size w w' := by
 unfold maxLen at hs
 go_enter Tryz.func183, Tryz.ntmps183
 go_wp2
 go_loopw [] (fun wr => ∃ pos : Nat, wr.heap[w.heap.size]? = some (.stringIter s pos) /\ Below w.heap.size w wr /\ pos <= s.size /\ (∀ i, i < pos -> bM (s.data.toList.getD i 0) = true)) (fun wr => s.size - wr.iterPos w.heap.size)
 case atStart =>
  exact ⟨0, World.iter_heap w s 0, (U4 w).alloc U0 _, by omega, by omega⟩
 case round =>
  obtain ⟨pos, hit, cA, nP, cl⟩ := hrel
  have HN := aa cl
  clear cl
  by_cases hp : pos < s.size
  ·obtain ⟨r, d, hdec, hPp, jq, gz⟩ := uy s pos hp
   have zr : ∀ ty, (Instr.next (.pointer (some ⟨w.heap.size, 0, none⟩)) true ty).run Tryz.prog wr = _ := fun ty => kJ wr w.heap.size s pos r d ty hit hp hdec
   have HP := aa hPp
   have HR := aa gz
   have fi := aa (Lib.iterAt_heap wr w.heap.size s pos (pos + d) hit)
   have bZ := aa (Lib.below_iterAt cA (k := w.heap.size) U0 s (pos + d))
   clear hPp gz hdec
   cases hl : bM (s.data.toList.getD pos 0)
   ·have HL := aa hl
    clear hl
    go_wp2_with fail
    refine (ej _ _).mono ?_
    rintro e w' ⟨rfl, rfl⟩
    rw [show cz (r : Int) 48 57 = false from HP.out.trans HL.out]
    go_wp2
    go_ret
    refine ⟨?_, bZ.out⟩
    rw [cM bM s.data.toList pos (by rw [ai]; omega) HN.out (Or.inr HL.out)]
    rfl
   ·have HL := aa hl
    clear hl
    go_wp2_with fail
    refine (ej _ _).mono ?_
    rintro e w' ⟨rfl, rfl⟩
    rw [show cz (r : Int) 48 57 = true from HP.out.trans HL.out]
    go_wp2
    go_roundw
    case rel =>
     refine ⟨pos + d, fi.out, bZ.out, (HR.out HL.out).1, fun i hi => ?_⟩
     by_cases hip : i < pos
     ·exact HN.out i hip
     ·exact (HR.out HL.out).2 i (by omega) hi
    case measure =>
     have hh := (HR.out HL.out).1
     rw [aV _ _ s _ fi.out, aV _ _ s _ hit]
     omega
  ·have zr : ∀ ty, (Instr.next (.pointer (some ⟨w.heap.size, 0, none⟩)) true ty).run Tryz.prog wr = _ := fun ty => Lib.run_next_end_at wr w.heap.size s pos ty hit hp
   have bZ := aa cA
   clear cA
   go_wp2
   go_ret
   refine ⟨?_, bZ.out⟩
   rw [cM bM s.data.toList pos (by rw [ai]; omega) HN.out (Or.inl (by rw [ai]; omega))]
   rw [show pos = s.size from by omega]
   rfl
theorem yM (s : ByteArray) (w : World) (hs : s.size <= maxLen) :
 Calls Tryz.prog 183 #[.string s, .func (.func 184) #[] #[]] w fun e w' => e = .returned (.int .i64 ((s.data.toList.takeWhile qy).length : Nat)) /\ Below w.heap.size w w' := by
 unfold maxLen at hs
 go_enter Tryz.func183, Tryz.ntmps183
 go_wp2
 go_loopw [] (fun wr => ∃ pos : Nat, wr.heap[w.heap.size]? = some (.stringIter s pos) /\ Below w.heap.size w wr /\ pos <= s.size /\ (∀ i, i < pos -> qy (s.data.toList.getD i 0) = true)) (fun wr => s.size - wr.iterPos w.heap.size)
 case atStart =>
  exact ⟨0, World.iter_heap w s 0, (U4 w).alloc U0 _, by omega, by omega⟩
 case round =>
  obtain ⟨pos, hit, cA, nP, cl⟩ := hrel
  have HN := aa cl
  clear cl
  by_cases hp : pos < s.size
  ·obtain ⟨r, d, hdec, hPp, jq, gz⟩ := DF s pos hp
   have zr : ∀ ty, (Instr.next (.pointer (some ⟨w.heap.size, 0, none⟩)) true ty).run Tryz.prog wr = _ := fun ty => kJ wr w.heap.size s pos r d ty hit hp hdec
   have HP := aa hPp
   have HR := aa gz
   have fi := aa (Lib.iterAt_heap wr w.heap.size s pos (pos + d) hit)
   have bZ := aa (Lib.below_iterAt cA (k := w.heap.size) U0 s (pos + d))
   clear hPp gz hdec
   cases hl : qy (s.data.toList.getD pos 0)
   ·have HL := aa hl
    clear hl
    go_wp2_with fail
    refine (jM _ _).mono ?_
    rintro e w' ⟨rfl, rfl⟩
    rw [show ((r : Int) != 10) = false from HP.out.trans HL.out]
    go_wp2
    go_ret
    refine ⟨?_, bZ.out⟩
    rw [cM qy s.data.toList pos (by rw [ai]; omega) HN.out (Or.inr HL.out)]
    rfl
   ·have HL := aa hl
    clear hl
    go_wp2_with fail
    refine (jM _ _).mono ?_
    rintro e w' ⟨rfl, rfl⟩
    rw [show ((r : Int) != 10) = true from HP.out.trans HL.out]
    go_wp2
    go_roundw
    case rel =>
     refine ⟨pos + d, fi.out, bZ.out, (HR.out HL.out).1, fun i hi => ?_⟩
     by_cases hip : i < pos
     ·exact HN.out i hip
     ·exact (HR.out HL.out).2 i (by omega) hi
    case measure =>
     have hh := (HR.out HL.out).1
     rw [aV _ _ s _ fi.out, aV _ _ s _ hit]
     omega
  ·have zr : ∀ ty, (Instr.next (.pointer (some ⟨w.heap.size, 0, none⟩)) true ty).run Tryz.prog wr = _ := fun ty => Lib.run_next_end_at wr w.heap.size s pos ty hit hp
   have bZ := aa cA
   clear cA
   go_wp2
   go_ret
   refine ⟨?_, bZ.out⟩
   rw [cM qy s.data.toList pos (by rw [ai]; omega) HN.out (Or.inl (by rw [ai]; omega))]
   rw [show pos = s.size from by omega]
   rfl
theorem pM (c : UInt8) : ∀ l : List UInt8, (∀ x ∈ l, x ≠ c) -> Lib.indexByte l c = -1 := by
 intro l
 induction l with
 | nil => intro _; rfl
 | cons b l ih =>
  intro h
  have hb : (b == c) = false := by simpa using h b (by simp)
  rw [Lib.indexByte, hb, ih (fun x hx => h x (by simp [hx]))]
  rfl
theorem px (a b : Nat) (c : UInt8) (hc : 128 <= c.toNat) : Lib.indexByte ((ByteArray.mk #[40, 41, 123, 125, 59, 61, 92, 124, 43, 45, 42, 60, 95]).extract a b).data.toList c = -1 := by
 refine pM c _ fun x hx e => ?_
 have hm := mem_extract hx
 have hs : ∀ y ∈ (ByteArray.mk #[40, 41, 123, 125, 59, 61, 92, 124, 43, 45, 42, 60, 95]).data.toList, y.toNat < 128 := by decide
 have := hs x hm
 rw [e] at this
 omega
theorem uN (r : Nat) (w : World) (h1 : 128 <= r) (hv : Lib.validRune (r : Int) = true) (bU : r ≠ 65533) (b0 b1 : UInt8) (he : Utf8.encode (r : Int) = ⟨#[b0, b1]⟩) (hb : 128 <= b1.toNat) :
 Calls Tryz.prog 273 #[.string ⟨#[40, 41, 123, 125, 59, 61, 92, 124, 43, 45, 42, 60, 95]⟩, .int .i32 r] w fun e w' => e = .returned (.int .i64 (-1)) /\ Below w.heap.size w w' := by
 have lJ : ((r : Int) == 65533) = false := by simp; omega
 have hm : ((((ByteArray.mk #[40, 41, 123, 125, 59, 61, 92, 124, 43, 45, 42, 60, 95])[1]'(by decide)).toNat : Int) != (((ByteArray.mk #[b0, b1])[1]'(by show 1 < 2; omega)).toNat : Int)) = true := by
  show ((41 : Int) != (b1.toNat : Int)) = true
  rw [bne_iff_ne]; omega
 have hn : ¬ (r : Int) < 128 := by omega
 have Qe : IntKind.i64.wrap 2 = 2 := by decide
 have zC : ∀ W, (Instr.slice 9 (.string ⟨#[40, 41, 123, 125, 59, 61, 92, 124, 43, 45, 42, 60, 95]⟩) (some (.int .i64 2)) none none).run Tryz.prog W = .ok (.string ((ByteArray.mk #[40, 41, 123, 125, 59, 61, 92, 124, 43, 45, 42, 60, 95]).extract 2 13)) W := fun _ => by kernel_rfl
 have QP : Lib.indexByte [123, 125, 59, 61, 92, 124, 43, 45, 42, 60, 95] ((ByteArray.mk #[b0, b1])[1]'(by show 1 < 2; omega)) = -1 := px 2 13 b1 hb
 go_enter Tryz.func273, Tryz.ntmps273
 go_wp2_with fail
 refine (Tryz.utf8_ValidRune _ _).mono ?_
 rintro e w' ⟨rfl, rfl⟩
 rw [hv]
 clear hv bU
 go_wp2_with fail
 go_step3
 go_wp2
 refine wp_loop_rounds 1 ?_
 rw [rounds_succ]
 go_wp2
 go_step3
 go_wp2
 go_quiet (fail)
 go_wp2
 go_quiet ((go_at_call 290; refine (Tryz.strings_IndexByte _ _ _).mono ?_; rintro e w1 ⟨rfl, rfl⟩; exact ⟨rfl, _, rfl⟩))
 go_wp2
 rw [Exit.noGoto_ret]
 go_wp2
 rw [Exit.noGoto_ret]
 go_wp2
 go_ret
 exact ⟨rfl, below_drewN (U4 _) _⟩
theorem uw (r : Nat) (w : World) (h1 : 128 <= r) (hv : Lib.validRune (r : Int) = true) (bU : r ≠ 65533) (b0 b1 b2 : UInt8) (he : Utf8.encode (r : Int) = ⟨#[b0, b1, b2]⟩) (hb : 128 <= b2.toNat) :
 Calls Tryz.prog 273 #[.string ⟨#[40, 41, 123, 125, 59, 61, 92, 124, 43, 45, 42, 60, 95]⟩, .int .i32 r] w fun e w' => e = .returned (.int .i64 (-1)) /\ Below w.heap.size w w' := by
 have lJ : ((r : Int) == 65533) = false := by simp; omega
 have hm : ((((ByteArray.mk #[40, 41, 123, 125, 59, 61, 92, 124, 43, 45, 42, 60, 95])[2]'(by decide)).toNat : Int) != (((ByteArray.mk #[b0, b1, b2])[2]'(by show 2 < 3; omega)).toNat : Int)) = true := by
  show ((123 : Int) != (b2.toNat : Int)) = true
  rw [bne_iff_ne]; omega
 have hn : ¬ (r : Int) < 128 := by omega
 have Qe : IntKind.i64.wrap 3 = 3 := by decide
 have zC : ∀ W, (Instr.slice 9 (.string ⟨#[40, 41, 123, 125, 59, 61, 92, 124, 43, 45, 42, 60, 95]⟩) (some (.int .i64 3)) none none).run Tryz.prog W = .ok (.string ((ByteArray.mk #[40, 41, 123, 125, 59, 61, 92, 124, 43, 45, 42, 60, 95]).extract 3 13)) W := fun _ => by kernel_rfl
 have QP : Lib.indexByte [125, 59, 61, 92, 124, 43, 45, 42, 60, 95] ((ByteArray.mk #[b0, b1, b2])[2]'(by show 2 < 3; omega)) = -1 := px 3 13 b2 hb
 go_enter Tryz.func273, Tryz.ntmps273
 go_wp2_with fail
 refine (Tryz.utf8_ValidRune _ _).mono ?_
 rintro e w' ⟨rfl, rfl⟩
 rw [hv]
 clear hv bU
 go_wp2_with fail
 go_step3
 go_wp2
 refine wp_loop_rounds 1 ?_
 rw [rounds_succ]
 go_wp2
 go_step3
 go_wp2
 go_quiet (fail)
 go_wp2
 go_quiet ((go_at_call 290; refine (Tryz.strings_IndexByte _ _ _).mono ?_; rintro e w1 ⟨rfl, rfl⟩; exact ⟨rfl, _, rfl⟩))
 go_wp2
 rw [Exit.noGoto_ret]
 go_wp2
 rw [Exit.noGoto_ret]
 go_wp2
 go_ret
 exact ⟨rfl, below_drewN (U4 _) _⟩
theorem uz (r : Nat) (w : World) (h1 : 128 <= r) (hv : Lib.validRune (r : Int) = true) (bU : r ≠ 65533) (b0 b1 b2 b3 : UInt8) (he : Utf8.encode (r : Int) = ⟨#[b0, b1, b2, b3]⟩) (hb : 128 <= b3.toNat) :
 Calls Tryz.prog 273 #[.string ⟨#[40, 41, 123, 125, 59, 61, 92, 124, 43, 45, 42, 60, 95]⟩, .int .i32 r] w fun e w' => e = .returned (.int .i64 (-1)) /\ Below w.heap.size w w' := by
 have lJ : ((r : Int) == 65533) = false := by simp; omega
 have hm : ((((ByteArray.mk #[40, 41, 123, 125, 59, 61, 92, 124, 43, 45, 42, 60, 95])[3]'(by decide)).toNat : Int) != (((ByteArray.mk #[b0, b1, b2, b3])[3]'(by show 3 < 4; omega)).toNat : Int)) = true := by
  show ((125 : Int) != (b3.toNat : Int)) = true
  rw [bne_iff_ne]; omega
 have hn : ¬ (r : Int) < 128 := by omega
 have Qe : IntKind.i64.wrap 4 = 4 := by decide
 have zC : ∀ W, (Instr.slice 9 (.string ⟨#[40, 41, 123, 125, 59, 61, 92, 124, 43, 45, 42, 60, 95]⟩) (some (.int .i64 4)) none none).run Tryz.prog W = .ok (.string ((ByteArray.mk #[40, 41, 123, 125, 59, 61, 92, 124, 43, 45, 42, 60, 95]).extract 4 13)) W := fun _ => by kernel_rfl
 have QP : Lib.indexByte [59, 61, 92, 124, 43, 45, 42, 60, 95] ((ByteArray.mk #[b0, b1, b2, b3])[3]'(by show 3 < 4; omega)) = -1 := px 4 13 b3 hb
 go_enter Tryz.func273, Tryz.ntmps273
 go_wp2_with fail
 refine (Tryz.utf8_ValidRune _ _).mono ?_
 rintro e w' ⟨rfl, rfl⟩
 rw [hv]
 clear hv bU
 go_wp2_with fail
 go_step3
 go_wp2
 refine wp_loop_rounds 1 ?_
 rw [rounds_succ]
 go_wp2
 go_step3
 go_wp2
 go_quiet (fail)
 go_wp2
 go_quiet ((go_at_call 290; refine (Tryz.strings_IndexByte _ _ _).mono ?_; rintro e w1 ⟨rfl, rfl⟩; exact ⟨rfl, _, rfl⟩))
 go_wp2
 rw [Exit.noGoto_ret]
 go_wp2
 rw [Exit.noGoto_ret]
 go_wp2
 go_ret
 exact ⟨rfl, below_drewN (U4 _) _⟩
theorem sx (s : ByteArray) (pos : Nat) : Lib.validRune ((Utf8.decode s pos).1 : Int) = true := by
 have hb : ∀ k, (s.get! (pos + k)).toNat < 256 := fun k => (s.get! (pos + k)).toNat_lt
 have h0 := hb 0; have h1 := hb 1; have h2 := hb 2; have h3 := hb 3
 rw [show Lib.validRune = validRune from rfl, <- validRune_eq]
 simp only [Utf8.decode]
 repeat' split
 all_goals simp_all [Utf8.valid, Utf8.runeError]
 all_goals omega
theorem qw (w : World) :
 Calls Tryz.prog 273 #[.string ⟨#[40, 41, 123, 125, 59, 61, 92, 124, 43, 45, 42, 60, 95]⟩, .int .i32 65533] w fun e w' => e = .returned (.int .i64 (-1)) /\ Below w.heap.size w w' := by
 go_enter Tryz.func273, Tryz.ntmps273
 go_wp2
 go_loopw [] (fun wr => ∃ pos : Nat, wr.heap[w.heap.size]? = some (.stringIter ⟨#[40, 41, 123, 125, 59, 61, 92, 124, 43, 45, 42, 60, 95]⟩ pos) /\ Below w.heap.size w wr /\ pos <= 13) (fun wr => 13 - wr.iterPos w.heap.size)
 case atStart =>
  exact ⟨0, World.iter_heap w _ 0, (U4 w).alloc U0 _, by omega⟩
 case round =>
  obtain ⟨pos, hit, cA, nP⟩ := hrel
  by_cases hp : pos < 13
  ·have Ij : pos < (ByteArray.mk #[40, 41, 123, 125, 59, 61, 92, 124, 43, 45, 42, 60, 95]).size := hp
   have ha : ((ByteArray.mk #[40, 41, 123, 125, 59, 61, 92, 124, 43, 45, 42, 60, 95])[pos]'Ij).toNat < 128 := by
    have hs : ∀ y ∈ (ByteArray.mk #[40, 41, 123, 125, 59, 61, 92, 124, 43, 45, 42, 60, 95]).data.toList, y.toNat < 128 := by decide
    exact hs _ (Array.getElem_mem_toList (xs := (ByteArray.mk #[40, 41, 123, 125, 59, 61, 92, 124, 43, 45, 42, 60, 95]).data) Ij)
   generalize hc : ((ByteArray.mk #[40, 41, 123, 125, 59, 61, 92, 124, 43, 45, 42, 60, 95])[pos]'Ij).toNat = c at ha
   have zr : ∀ ty, (Instr.next (.pointer (some ⟨w.heap.size, 0, none⟩)) true ty).run Tryz.prog wr = .ok (.tuple #[.bool true, .int .i64 pos, .int .i32 c]) (wr.iterAt w.heap.size ⟨#[40, 41, 123, 125, 59, 61, 92, 124, 43, 45, 42, 60, 95]⟩ (pos + 1)) := fun ty => by
    rw [<- hc]
    exact Lib.run_next_ascii_at wr w.heap.size _ pos ty hit Ij (by rw [hc]; exact ha)
   have bU : ((c : Int) == 65533) = false := by simp; omega
   have fi := aa (Lib.iterAt_heap wr w.heap.size _ pos (pos + 1) hit)
   have bZ := aa (Lib.below_iterAt cA (k := w.heap.size) U0 ⟨#[40, 41, 123, 125, 59, 61, 92, 124, 43, 45, 42, 60, 95]⟩ (pos + 1))
   clear hc
   go_wp2
   go_roundw
   case rel => exact ⟨pos + 1, fi.out, bZ.out, by omega⟩
   case measure =>
    rw [aV _ _ _ _ fi.out, aV _ _ _ _ hit]
    omega
  ·have zr : ∀ ty, (Instr.next (.pointer (some ⟨w.heap.size, 0, none⟩)) true ty).run Tryz.prog wr = _ := fun ty => Lib.run_next_end_at wr w.heap.size _ pos ty hit hp
   have bZ := aa cA
   clear cA
   go_wp2
   go_ret
   exact ⟨rfl, bZ.out⟩
theorem pA (r : Nat) (w : World) (h1 : 128 <= r) (hv : Lib.validRune (r : Int) = true) :
 Calls Tryz.prog 273 #[.string ⟨#[40, 41, 123, 125, 59, 61, 92, 124, 43, 45, 42, 60, 95]⟩, .int .i32 r] w fun e w' => e = .returned (.int .i64 (-1)) /\ Below w.heap.size w w' := by
 by_cases bU : r = 65533
 ·subst bU
  exact qw w
 ·obtain ⟨f1, f2, f3⟩ := encode_facts (r : Int) (by rw [validRune_eq]; exact hv) (by omega)
  generalize he : Utf8.encode (r : Int) = E at f1 f2 f3
  obtain ⟨⟨l⟩⟩ := E
  match l, f1, f2, f3, he with
  | [b0, b1], _, _, f3, he => exact uN r w h1 hv bU b0 b1 he (f3 (by show 1 < 2; omega))
  | [b0, b1, b2], _, _, f3, he => exact uw r w h1 hv bU b0 b1 b2 he (f3 (by show 2 < 3; omega))
  | [b0, b1, b2, b3], _, _, f3, he => exact uz r w h1 hv bU b0 b1 b2 b3 he (f3 (by show 3 < 4; omega))
  | [], f1, _, _, _ => exact absurd f1 (by show ¬ 2 <= 0; omega)
  | [_], f1, _, _, _ => exact absurd f1 (by show ¬ 2 <= 1; omega)
  | _ :: _ :: _ :: _ :: _ :: l, _, f2, _, _ => exact absurd f2 (by show ¬ (l.length + 1 + 1 + 1 + 1 + 1 <= 4); omega)
theorem qv (c : UInt8) : ∀ l : List UInt8, -1 <= Lib.indexByte l c /\ decide (0 <= Lib.indexByte l c) = l.any fun m => m == c := by
 intro l
 induction l with
 | nil => exact ⟨by show (-1 : Int) <= -1; omega, rfl⟩
 | cons b l ih =>
  rw [Lib.indexByte, List.any_cons]
  cases hb : b == c
  ·rw [<- ih.2]
   have h1 := ih.1
   by_cases hm : Lib.indexByte l c = -1
   ·rw [hm]; exact ⟨by decide, by decide⟩
   ·have : (Lib.indexByte l c == -1) = false := by simp [hm]
    rw [this]
    refine ⟨by simp; omega, ?_⟩
    simp
    omega
  ·exact ⟨by simp, by simp⟩
def qZ (r : Nat) : Bool := decide (r < 128) && fm (r.toUInt8)
theorem nH (r : Nat) (w : World) (hv : Lib.validRune (r : Int) = true) :
 Calls Tryz.prog 239 #[.string ⟨#[40, 41, 123, 125, 59, 61, 92, 124, 43, 45, 42, 60, 95]⟩, .int .i32 r] w fun e w' => e = .returned (.bool (qZ r)) /\ Below w.heap.size w w' := by
 by_cases h : r < 128
 ·refine (Tryz.strings_ContainsRune_ascii _ _ _ (by omega) (by omega)).mono ?_
  rintro e w' ⟨rfl, rfl⟩
  refine ⟨ah ?_, Below.refl _ _⟩
  rw [Int.toNat_natCast, (qv _ _).2, qZ, decide_eq_true h, Bool.true_and]
  rfl
 ·go_enter Tryz.func239, Tryz.ntmps239
  go_wp2_with fail
  refine (pA r _ (by omega) hv).mono ?_
  rintro e w1 ⟨rfl, hb⟩
  have HB := aa hb
  clear hb
  go_wp2
  go_ret
  exact ⟨ah (by rw [qZ, decide_eq_false h]; rfl), HB.out⟩
end Go.Proofs.YtfomndilhlgikajGreatDoor
