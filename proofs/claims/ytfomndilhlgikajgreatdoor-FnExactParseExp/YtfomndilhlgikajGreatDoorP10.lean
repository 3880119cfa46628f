import Derived.Lib.Strings
import Derived.Test.YtfomndilhlgikajGreatDoorP00
set_option maxHeartbeats 8000000
set_option maxRecDepth 100000
namespace Go.Proofs.YtfomndilhlgikajGreatDoor
open Go.RowKit
def cz (x a b : Int) : Bool := decide (a <= x) && decide (x <= b)
def eC (x : Int) : Bool := (cz x 97 122 || cz x 65 90) || cz x 48 57
theorem kF {x a b : Int} (h1 : a <= x) (h2 : x <= b) : cz x a b = true := by simp [cz, h1, h2]
theorem lU {x a b : Int} (h1 : x < a) : cz x a b = false := by simp [cz]; omega
theorem bO {x a b : Int} (h2 : b < x) : cz x a b = false := by simp [cz]; omega
theorem fR (x a b : Int) (w : World) : Calls Tryz.prog 56 #[.int .i64 x, .int .i64 a, .int .i64 b] w fun e w' => e = .returned (.bool (cz x a b)) /\ w' = w := by
 by_cases h1 : a <= x
 ·by_cases h2 : x <= b
  ·go_enter Tryz.func56, Tryz.ntmps56
   go_wp2
   go_ret
   exact ⟨ah (kF (by omega) (by omega)).symm, rfl⟩
  ·go_enter Tryz.func56, Tryz.ntmps56
   go_wp2
   go_ret
   exact ⟨ah (bO (by omega)).symm, rfl⟩
 ·go_enter Tryz.func56, Tryz.ntmps56
  go_wp2
  go_ret
  exact ⟨ah (lU (by omega)).symm, rfl⟩
theorem gq (r : Int) (w : World) : Calls Tryz.prog 259 #[.int .i32 r] w fun e w' => e = .returned (.bool (cz r 97 122)) /\ w' = w := by
 by_cases h1 : 97 <= r
 ·by_cases h2 : r <= 122
  ·go_enter Tryz.func259, Tryz.ntmps259
   go_wp2
   go_ret
   exact ⟨ah (kF (by omega) (by omega)).symm, rfl⟩
  ·go_enter Tryz.func259, Tryz.ntmps259
   go_wp2
   go_ret
   exact ⟨ah (bO (by omega)).symm, rfl⟩
 ·go_enter Tryz.func259, Tryz.ntmps259
  go_wp2
  go_ret
  exact ⟨ah (lU (by omega)).symm, rfl⟩
theorem iB (r : Int) (w : World) : Calls Tryz.prog 256 #[.int .i32 r] w fun e w' => e = .returned (.bool (cz r 65 90)) /\ w' = w := by
 by_cases h1 : 65 <= r
 ·by_cases h2 : r <= 90
  ·go_enter Tryz.func256, Tryz.ntmps256
   go_wp2
   go_ret
   exact ⟨ah (kF (by omega) (by omega)).symm, rfl⟩
  ·go_enter Tryz.func256, Tryz.ntmps256
   go_wp2
   go_ret
   exact ⟨ah (bO (by omega)).symm, rfl⟩
 ·go_enter Tryz.func256, Tryz.ntmps256
  go_wp2
  go_ret
  exact ⟨ah (lU (by omega)).symm, rfl⟩
theorem ej (r : Int) (w : World) : Calls Tryz.prog 237 #[.int .i32 r] w fun e w' => e = .returned (.bool (cz r 48 57)) /\ w' = w := by
 by_cases h1 : 48 <= r
 ·by_cases h2 : r <= 57
  ·go_enter Tryz.func237, Tryz.ntmps237
   go_wp2
   go_ret
   exact ⟨ah (kF (by omega) (by omega)).symm, rfl⟩
  ·go_enter Tryz.func237, Tryz.ntmps237
   go_wp2
   go_ret
   exact ⟨ah (bO (by omega)).symm, rfl⟩
 ·go_enter Tryz.func237, Tryz.ntmps237
  go_wp2
  go_ret
  exact ⟨ah (lU (by omega)).symm, rfl⟩
theorem dp (c : UInt8) (w : World) : Calls Tryz.prog 162 #[.int .u8 c.toNat] w fun e w' => e = .returned (.bool (cz c.toNat 97 122)) /\ w' = w := by
 have hc : c.toNat < 256 := c.toNat_lt
 go_enter Tryz.func162, Tryz.ntmps162
 go_wp2_with (go_at_call 56; refine (fR _ _ _ _).mono ?_; rintro e w' ⟨rfl, rfl⟩)
 go_ret
 exact ⟨rfl, rfl⟩
theorem eY (c : UInt8) (w : World) : Calls Tryz.prog 172 #[.int .u8 c.toNat] w fun e w' => e = .returned (.bool (cz c.toNat 65 90)) /\ w' = w := by
 have hc : c.toNat < 256 := c.toNat_lt
 go_enter Tryz.func172, Tryz.ntmps172
 go_wp2_with (go_at_call 56; refine (fR _ _ _ _).mono ?_; rintro e w' ⟨rfl, rfl⟩)
 go_ret
 exact ⟨rfl, rfl⟩
theorem cW (c : UInt8) (w : World) : Calls Tryz.prog 170 #[.int .u8 c.toNat] w fun e w' => e = .returned (.bool (cz c.toNat 48 57)) /\ w' = w := by
 have hc : c.toNat < 256 := c.toNat_lt
 go_enter Tryz.func170, Tryz.ntmps170
 go_wp2_with (go_at_call 56; refine (fR _ _ _ _).mono ?_; rintro e w' ⟨rfl, rfl⟩)
 go_ret
 exact ⟨rfl, rfl⟩
theorem dA (r : Int) (w : World) : Calls Tryz.prog 234 #[.int .i32 r] w fun e w' => e = .returned (.bool (cz r 97 122 || cz r 65 90)) /\ w' = w := by
 cases h1 : cz r 97 122
 ·have H1 := aa h1
  clear h1
  go_enter Tryz.func234, Tryz.ntmps234
  go_wp2_with fail
  refine (gq _ _).mono ?_
  rintro e w' ⟨rfl, rfl⟩
  rw [H1.out]
  go_wp2_with (go_at_call 256; refine (iB _ _).mono ?_; rintro e w' ⟨rfl, rfl⟩)
  go_ret
  exact ⟨ah (by simp), rfl⟩
 ·have H1 := aa h1
  clear h1
  go_enter Tryz.func234, Tryz.ntmps234
  go_wp2_with fail
  refine (gq _ _).mono ?_
  rintro e w' ⟨rfl, rfl⟩
  rw [H1.out]
  go_wp2
  go_ret
  exact ⟨ah (by simp), rfl⟩
theorem bh (r : Int) (w : World) : Calls Tryz.prog 235 #[.int .i32 r] w fun e w' => e = .returned (.bool (eC r)) /\ w' = w := by
 cases h1 : (cz r 97 122 || cz r 65 90)
 ·have H1 := aa h1
  clear h1
  go_enter Tryz.func235, Tryz.ntmps235
  go_wp2_with fail
  refine (dA _ _).mono ?_
  rintro e w' ⟨rfl, rfl⟩
  rw [H1.out]
  go_wp2_with (go_at_call 237; refine (ej _ _).mono ?_; rintro e w' ⟨rfl, rfl⟩)
  go_ret
  exact ⟨ah (by rw [eC, H1.out]; simp), rfl⟩
 ·have H1 := aa h1
  clear h1
  go_enter Tryz.func235, Tryz.ntmps235
  go_wp2_with fail
  refine (dA _ _).mono ?_
  rintro e w' ⟨rfl, rfl⟩
  rw [H1.out]
  go_wp2
  go_ret
  exact ⟨ah (by rw [eC, H1.out]; simp), rfl⟩
theorem fI (c : UInt8) (w : World) : Calls Tryz.prog 173 #[.int .u8 c.toNat] w fun e w' => e = .returned (.bool (eC c.toNat)) /\ w' = w := by
 have hc : c.toNat < 256 := c.toNat_lt
 cases h1 : cz c.toNat 97 122
 ·cases h2 : cz c.toNat 65 90
  ·have H1 := aa h1
   have H2 := aa h2
   clear h1 h2
   go_enter Tryz.func173, Tryz.ntmps173
   go_wp2_with fail
   refine (dp _ _).mono ?_
   rintro e w' ⟨rfl, rfl⟩
   rw [H1.out]
   go_wp2_with fail
   refine (eY _ _).mono ?_
   rintro e w' ⟨rfl, rfl⟩
   rw [H2.out]
   go_wp2_with fail
   refine (cW _ _).mono ?_
   rintro e w' ⟨rfl, rfl⟩
   go_wp2
   go_ret
   exact ⟨ah (by rw [eC, H1.out, H2.out]; simp), rfl⟩
  ·have H1 := aa h1
   have H2 := aa h2
   clear h1 h2
   go_enter Tryz.func173, Tryz.ntmps173
   go_wp2_with fail
   refine (dp _ _).mono ?_
   rintro e w' ⟨rfl, rfl⟩
   rw [H1.out]
   go_wp2_with fail
   refine (eY _ _).mono ?_
   rintro e w' ⟨rfl, rfl⟩
   rw [H2.out]
   go_wp2
   go_ret
   exact ⟨ah (by rw [eC, H1.out, H2.out]; simp), rfl⟩
 ·have H1 := aa h1
  clear h1
  go_enter Tryz.func173, Tryz.ntmps173
  go_wp2_with fail
  refine (dp _ _).mono ?_
  rintro e w' ⟨rfl, rfl⟩
  rw [H1.out]
  go_wp2
  go_ret
  exact ⟨ah (by rw [eC, H1.out]; simp), rfl⟩
def sJ (l : List UInt8) : Bool := l == [108, 101, 116] || l == [105, 110] || l == [119, 104, 101, 114, 101] || l == [99, 97, 115, 101] || l == [111, 102] || l == [105, 102] || l == [116, 104, 101, 110] || l == [101, 108, 115, 101] || l == [100, 97, 116, 97]
theorem eT (s : ByteArray) (w : World) : Calls Tryz.prog 260 #[.string s] w fun e w' => e = .returned (.bool (sJ s.toList)) /\ w' = w := by
 go_enter Tryz.func260, Tryz.ntmps260
 go_wp2
 all_goals
  go_ret
  refine ⟨ah ?_, rfl⟩
  simp_all [sJ]
theorem xh (ss : List ByteArray) (s : ByteArray) (k : Nat) (h : k < ss.length) (hk : (ss[k].toList == s.toList) = true) : (ss.any fun t => t.toList == s.toList) = true := by
 rw [List.any_eq_true]
 exact ⟨ss[k], List.getElem_mem h, hk⟩
theorem tw (ss : List ByteArray) (s : ByteArray) (k : Nat) (h : k < ss.length) (h0 : ((ss.take k).any fun t => t.toList == s.toList) = false) (hk : (ss[k].toList == s.toList) = false) :
 ((ss.take (k + 1)).any fun t => t.toList == s.toList) = false := by
 rw [List.take_succ_eq_append_getElem h, List.any_append, h0]
 simpa using hk
theorem oC (ss : List ByteArray) (b n : Nat) (hn : ss.length = n) (hm : n <= 1000) (s : ByteArray) (w : World) (hc : ∀ i, i < n -> w.cell? ⟨b, i, none⟩ = some (.string (ss.getD i ByteArray.empty))) :
 Calls Tryz.prog 164 #[.slice (some ⟨b, 0, none⟩) n n, .string s] w fun e w' => e = .returned (.bool (ss.any fun t => t.toList == s.toList)) /\ w' = w := by
 go_enter Tryz.func164, Tryz.ntmps164
 go_wp2
 go_loop [5] (fun i => ∃ k : Nat, k <= n /\ i = .int .i64 k /\ ((ss.take k).any fun t => t.toList == s.toList) = false) (fun i => n - (intOf i).toNat)
 case atStart => exact ⟨0, Nat.zero_le _, rfl, rfl⟩
 case round =>
  obtain ⟨k, hk, rfl, hnone⟩ := hrel
  have HN := aa hnone
  clear hnone
  by_cases au : k < n
  ·have UX := hc k au
   go_wp2
   ·go_ret
    exact ⟨ah (xh ss s k (by omega) (by assumption)).symm, rfl⟩
   ·go_round
    case rel => exact ⟨k + 1, by omega, by go_num, tw ss s k (by omega) HN.out (by assumption)⟩
    case measure => simp [intOf]; omega
  ·go_wp2
   go_ret
   refine ⟨ah ?_, rfl⟩
   have h := HN.out
   rw [List.take_of_length_le (by omega)] at h
   exact h.symm
def wordsL : List ByteArray := [⟨#[108, 101, 116]⟩, ⟨#[105, 110]⟩, ⟨#[119, 104, 101, 114, 101]⟩, ⟨#[99, 97, 115, 101]⟩, ⟨#[111, 102]⟩, ⟨#[105, 102]⟩, ⟨#[116, 104, 101, 110]⟩, ⟨#[101, 108, 115, 101]⟩, ⟨#[100, 97, 116, 97]⟩]
theorem tD : wordsL.map ByteArray.toList = [[108, 101, 116], [105, 110], [119, 104, 101, 114, 101], [99, 97, 115, 101], [111, 102], [105, 102], [116, 104, 101, 110], [101, 108, 115, 101], [100, 97, 116, 97]] := by kernel_rfl
theorem fw (a b : List UInt8) : (a == b) = (b == a) := by rw [Bool.eq_iff_iff, beq_iff_eq, beq_iff_eq]; exact eq_comm
theorem yZ (s : ByteArray) : (wordsL.any fun t => t.toList == s.toList) = sJ s.toList := by
 have h : (wordsL.any fun t => t.toList == s.toList) = (wordsL.map ByteArray.toList).any fun t => s.toList == t := by
  rw [List.any_map]
  congr 1
  funext t
  exact fw _ _
 rw [h, tD]
 simp [sJ, List.any_cons, Bool.or_assoc]
theorem gp (s : ByteArray) (w : World) : Calls Tryz.prog 163 #[.string s] w fun e w' => e = .returned (.bool (sJ s.toList)) /\ Below w.heap.size w w' := by
 go_enter Tryz.func163, Tryz.ntmps163
 go_wp2_with fail
 refine (oC wordsL w.heap.size 9 rfl (by omega) s _ ?_).mono ?_
 ·intro i hi
  rw [World.cell?_alloc_new]
  match i, hi with
  | 0, _ => rfl
  | 1, _ => rfl
  | 2, _ => rfl
  | 3, _ => rfl
  | 4, _ => rfl
  | 5, _ => rfl
  | 6, _ => rfl
  | 7, _ => rfl
  | 8, _ => rfl
 rintro e w' ⟨rfl, rfl⟩
 rw [yZ]
 go_wp2
 go_ret
 exact ⟨rfl, (U4 _).alloc U0 _⟩
def ik (l : List UInt8) : Bool := l.all fun c => eC c.toNat
def ek (l : List UInt8) : Bool := ik l && cz l.length 1 8
def dW (lo hi : Int) (l : List UInt8) : Bool := ek l && cz (l.headD 0).toNat lo hi
theorem rR (s : ByteArray) (k : Nat) (h : k < s.size) : s.data.toList.take (k + 1) = s.data.toList.take k ++ [s[k]] := by
 rw [List.take_succ_eq_append_getElem (by simpa using h)]; rfl
theorem gr (s : ByteArray) (k : Nat) (h : k < s.size) (h0 : ik (s.data.toList.take k) = true) (h1 : eC (s[k].toNat : Int) = true) : ik (s.data.toList.take (k + 1)) = true := by
 rw [rR s k h]
 unfold ik at *
 rw [List.all_append, h0]
 simp [h1]
theorem iX (s : ByteArray) (k : Nat) (h : k < s.size) (h1 : eC (s[k].toNat : Int) = false) : ik s.data.toList = false := by
 unfold ik
 rw [List.all_eq_false]
 exact ⟨s[k], by rw [show s[k] = s.data.toList[k]'(by simpa using h) from rfl]; exact List.getElem_mem _, by simp [h1]⟩
theorem ai (s : ByteArray) : s.data.toList.length = s.size := by rw [Array.length_toList]; rfl
theorem gu (s : ByteArray) (w : World) (hs : s.size <= maxLen) :
 Calls Tryz.prog 161 #[.string s] w fun e w' => e = .returned (.bool (ek s.data.toList)) /\ w' = w := by
 unfold maxLen at hs
 go_enter Tryz.func161, Tryz.ntmps161
 go_wp2
 go_loop [3] (fun i => ∃ k : Nat, k <= s.size /\ i = .int .i64 k /\ ik (s.data.toList.take k) = true) (fun i => s.size - (intOf i).toNat)
 case atStart => exact ⟨0, Nat.zero_le _, rfl, rfl⟩
 case round =>
  obtain ⟨k, hk, rfl, cl⟩ := hrel
  have HN := aa cl
  clear cl
  by_cases au : k < s.size
  ·cases hl : eC (s[k].toNat : Int)
   ·have HL := aa hl
    clear hl
    go_wp2_with fail
    refine (fI _ _).mono ?_
    rintro e w' ⟨rfl, rfl⟩
    rw [HL.out]
    go_wp2
    go_ret
    exact ⟨ah (by rw [ek, iX s k au HL.out]; rfl), rfl⟩
   ·have HL := aa hl
    clear hl
    go_wp2_with fail
    refine (fI _ _).mono ?_
    rintro e w' ⟨rfl, rfl⟩
    rw [HL.out]
    go_wp2
    go_round
    case rel => exact ⟨k + 1, by omega, by go_num, gr s k au HN.out HL.out⟩
    case measure => simp [intOf]; omega
  ·go_wp2_with fail
   refine (fR _ _ _ _).mono ?_
   rintro e w' ⟨rfl, rfl⟩
   go_wp2
   go_ret
   refine ⟨ah ?_, rfl⟩
   have h := HN.out
   rw [List.take_of_length_le (by rw [ai]; omega)] at h
   rw [ek, h, ai]
   rfl
theorem iz (lo hi : Int) (l : List UInt8) (h : cz l.length 1 8 = false) : dW lo hi l = false := by simp [dW, ek, h]
theorem jy (lo hi : Int) (l : List UInt8) (h : ik l = false) : dW lo hi l = false := by simp [dW, ek, h]
theorem mq (lo hi : Int) (s : ByteArray) (h0 : 0 < s.size) (h : cz (s[0].toNat : Int) lo hi = false) : dW lo hi s.data.toList = false := by
 have e : s.data.toList.headD 0 = s[0] := by
  rw [List.headD_eq_head?_getD, List.head?_eq_getElem?, List.getElem?_eq_getElem (by rw [ai]; omega)]
  rfl
 rw [dW, e, h, Bool.and_false]
theorem oO (lo hi : Int) (s : ByteArray) (h0 : 0 < s.size) (h8 : s.size <= 8) (hl : ik s.data.toList = true) (h : cz (s[0].toNat : Int) lo hi = true) : dW lo hi s.data.toList = true := by
 have e : s.data.toList.headD 0 = s[0] := by
  rw [List.headD_eq_head?_getD, List.head?_eq_getElem?, List.getElem?_eq_getElem (by rw [ai]; omega)]
  rfl
 rw [dW, e, h, ek, hl, ai, kF (by omega) (by omega)]
 rfl
theorem bd (s : ByteArray) : s.toList = s.data.toList := ByteArray.toList_eq s
theorem oY (s : ByteArray) (pos : Nat) (h : pos < s.size) : ∃ r d : Nat, Utf8.decode s pos = (r, d) /\ eC (r : Int) = eC (s[pos].toNat : Int) /\ cz (r : Int) 97 122 = cz (s[pos].toNat : Int) 97 122 /\ cz (r : Int) 65 90 = cz (s[pos].toNat : Int) 65 90 /\ (eC (s[pos].toNat : Int) = true -> d = 1) := by
 by_cases ha : (s[pos]'h).toNat < 128
 ·exact ⟨(s[pos]'h).toNat, 1, decode_ascii s pos h ha, rfl, rfl, rfl, fun _ => rfl⟩
 ·have hd := decode_high s pos h (by omega)
  refine ⟨(Utf8.decode s pos).1, (Utf8.decode s pos).2, rfl, ?_, ?_, ?_, ?_⟩
  ·rw [eC, eC, bO (by omega), bO (by omega), bO (by omega), bO (by omega), bO (by omega), bO (by omega)]
  ·rw [bO (by omega), bO (by omega)]
  ·rw [bO (by omega), bO (by omega)]
  ·rw [eC, bO (by omega), bO (by omega), bO (by omega)]
   simp
theorem kJ (wr : World) (k : Nat) (s : ByteArray) (pos r d : Nat) (ty : TypeId) (hk : wr.heap[k]? = some (.stringIter s pos)) (h : pos < s.size) (hd : Utf8.decode s pos = (r, d)) :
 (Instr.next (.pointer (some ⟨k, 0, none⟩)) true ty).run Tryz.prog wr = .ok (.tuple #[.bool true, .int .i64 pos, .int .i32 r]) (wr.iterAt k s (pos + d)) := by
 rw [Lib.run_next_any_at wr k s pos ty hk h, hd]
theorem aV (wr : World) (k : Nat) (s : ByteArray) (pos : Nat) (hk : wr.heap[k]? = some (.stringIter s pos)) : wr.iterPos k = pos := by
 simp [World.iterPos, hk]
theorem kG (s : ByteArray) (w : World) (hs : s.size <= maxLen) :
 Calls Tryz.prog 255 #[.string s, .func (.func 259) #[] #[]] w fun e w' => e = .returned (.bool (dW 97 122 s.data.toList)) /\ Below w.heap.size w w' := by
 unfold maxLen at hs
 by_cases h0 : s.size = 0
 ·have he : s.toList.isEmpty = true := by rw [bd, List.isEmpty_iff_length_eq_zero, ai]; exact h0
  go_enter Tryz.func255, Tryz.ntmps255
  go_wp2
  go_ret
  exact ⟨ah (iz _ _ _ (lU (by rw [ai]; omega))).symm, Below.refl _ _⟩
 have he : s.toList.isEmpty = false := by
  rw [Bool.eq_false_iff, Ne, bd, List.isEmpty_iff_length_eq_zero, ai]; exact h0
 by_cases h8 : 8 < s.size
 ·have Ng : (8 : Int) < s.size := by omega
  go_enter Tryz.func255, Tryz.ntmps255
  go_wp2
  go_ret
  exact ⟨ah (iz _ _ _ (bO (by rw [ai]; omega))).symm, Below.refl _ _⟩
 have Ng : ¬ (8 : Int) < s.size := by omega
 go_enter Tryz.func255, Tryz.ntmps255
 go_wp2
 go_loopw [] (fun wr => ∃ pos : Nat, wr.heap[w.heap.size]? = some (.stringIter s pos) /\ Below w.heap.size w wr /\ pos <= s.size /\ ik (s.data.toList.take pos) = true /\ (∀ h : 0 < s.size, 0 < pos -> cz (s[0].toNat : Int) 97 122 = true)) (fun wr => s.size - wr.iterPos w.heap.size)
 case atStart =>
  exact ⟨0, World.iter_heap w s 0, (U4 w).alloc U0 _, by omega, rfl, by omega⟩
 case round =>
  obtain ⟨pos, hit, cA, nP, cl, hfst⟩ := hrel
  have HN := aa cl
  have HF := aa hfst
  clear cl hfst
  by_cases hp : pos < s.size
  ·obtain ⟨r, d, hdec, hlet, hsm, hla, nN⟩ := oY s pos hp
   have zr : ∀ ty, (Instr.next (.pointer (some ⟨w.heap.size, 0, none⟩)) true ty).run Tryz.prog wr = _ := fun ty => kJ wr w.heap.size s pos r d ty hit hp hdec
   have HL := aa hlet
   have HO := aa nN
   have H1 := aa hsm
   have fi := aa (Lib.iterAt_heap wr w.heap.size s pos (pos + d) hit)
   have bZ := aa (Lib.below_iterAt cA (k := w.heap.size) U0 s (pos + d))
   clear hlet hsm hla nN hdec
   by_cases hp0 : pos = 0
   ·subst hp0
    cases hf : cz (r : Int) 97 122
    ·have zn := aa hf
     clear hf
     go_wp2_with fail
     refine (gq _ _).mono ?_
     rintro e w' ⟨rfl, rfl⟩
     rw [zn.out]
     go_wp2
     go_ret
     exact ⟨ah (mq _ _ s (by omega) (H1.out.symm.trans zn.out)).symm, by have h := bZ.out; rwa [Nat.zero_add] at h⟩
    ·have zn := aa hf
     clear hf
     cases hl : eC (r : Int)
     ·have mc := aa hl
      clear hl
      go_wp2_with fail
      refine (gq _ _).mono ?_
      rintro e w' ⟨rfl, rfl⟩
      rw [zn.out]
      go_wp2_with fail
      refine (bh _ _).mono ?_
      rintro e w' ⟨rfl, rfl⟩
      rw [mc.out]
      go_wp2
      go_ret
      exact ⟨ah (jy _ _ _ (iX s 0 hp (HL.out.symm.trans mc.out))).symm, by have h := bZ.out; rwa [Nat.zero_add] at h⟩
     ·have mc := aa hl
      clear hl
      go_wp2_with fail
      refine (gq _ _).mono ?_
      rintro e w' ⟨rfl, rfl⟩
      rw [zn.out]
      go_wp2_with fail
      refine (bh _ _).mono ?_
      rintro e w' ⟨rfl, rfl⟩
      rw [mc.out]
      go_wp2
      go_roundw
      case rel =>
       have hd : d = 1 := HO.out (HL.out.symm.trans mc.out)
       subst hd
       exact ⟨0 + 1, fi.out, bZ.out, by omega, gr s 0 hp HN.out (HL.out.symm.trans mc.out), fun h _ => H1.out.symm.trans zn.out⟩
      case measure =>
       have hd : d = 1 := HO.out (HL.out.symm.trans mc.out)
       subst hd
       rw [aV _ _ s _ fi.out, aV _ _ s _ hit]
       omega
   ·have NE : ((pos : Int) == 0) = false := by simp; omega
    cases hl : eC (r : Int)
    ·have mc := aa hl
     clear hl
     go_wp2_with fail
     refine (bh _ _).mono ?_
     rintro e w' ⟨rfl, rfl⟩
     rw [mc.out]
     go_wp2
     go_ret
     exact ⟨ah (jy _ _ _ (iX s pos hp (HL.out.symm.trans mc.out))).symm, bZ.out⟩
    ·have mc := aa hl
     clear hl
     go_wp2_with fail
     refine (bh _ _).mono ?_
     rintro e w' ⟨rfl, rfl⟩
     rw [mc.out]
     go_wp2
     go_roundw
     case rel =>
      have hd : d = 1 := HO.out (HL.out.symm.trans mc.out)
      subst hd
      exact ⟨pos + 1, fi.out, bZ.out, by omega, gr s pos hp HN.out (HL.out.symm.trans mc.out), fun h _ => HF.out h (by omega)⟩
     case measure =>
      have hd : d = 1 := HO.out (HL.out.symm.trans mc.out)
      subst hd
      rw [aV _ _ s _ fi.out, aV _ _ s _ hit]
      omega
  ·have zr : ∀ ty, (Instr.next (.pointer (some ⟨w.heap.size, 0, none⟩)) true ty).run Tryz.prog wr = _ := fun ty => Lib.run_next_end_at wr w.heap.size s pos ty hit hp
   have bZ := aa cA
   clear cA
   go_wp2
   go_ret
   have h := HN.out
   rw [List.take_of_length_le (by rw [ai]; omega)] at h
   exact ⟨ah (oO _ _ s (by omega) (by omega) h (HF.out (by omega) (by omega))).symm, bZ.out⟩
theorem pD (s : ByteArray) (w : World) (hs : s.size <= maxLen) :
 Calls Tryz.prog 255 #[.string s, .func (.func 256) #[] #[]] w fun e w' => e = .returned (.bool (dW 65 90 s.data.toList)) /\ Below w.heap.size w w' := by
 unfold maxLen at hs
 by_cases h0 : s.size = 0
 ·have he : s.toList.isEmpty = true := by rw [bd, List.isEmpty_iff_length_eq_zero, ai]; exact h0
  go_enter Tryz.func255, Tryz.ntmps255
  go_wp2
  go_ret
  exact ⟨ah (iz _ _ _ (lU (by rw [ai]; omega))).symm, Below.refl _ _⟩
 have he : s.toList.isEmpty = false := by
  rw [Bool.eq_false_iff, Ne, bd, List.isEmpty_iff_length_eq_zero, ai]; exact h0
 by_cases h8 : 8 < s.size
 ·have Ng : (8 : Int) < s.size := by omega
  go_enter Tryz.func255, Tryz.ntmps255
  go_wp2
  go_ret
  exact ⟨ah (iz _ _ _ (bO (by rw [ai]; omega))).symm, Below.refl _ _⟩
 have Ng : ¬ (8 : Int) < s.size := by omega
 go_enter Tryz.func255, Tryz.ntmps255
 go_wp2
 go_loopw [] (fun wr => ∃ pos : Nat, wr.heap[w.heap.size]? = some (.stringIter s pos) /\ Below w.heap.size w wr /\ pos <= s.size /\ ik (s.data.toList.take pos) = true /\ (∀ h : 0 < s.size, 0 < pos -> cz (s[0].toNat : Int) 65 90 = true)) (fun wr => s.size - wr.iterPos w.heap.size)
 case atStart =>
  exact ⟨0, World.iter_heap w s 0, (U4 w).alloc U0 _, by omega, rfl, by omega⟩
 case round =>
  obtain ⟨pos, hit, cA, nP, cl, hfst⟩ := hrel
  have HN := aa cl
  have HF := aa hfst
  clear cl hfst
  by_cases hp : pos < s.size
  ·obtain ⟨r, d, hdec, hlet, hsm, hla, nN⟩ := oY s pos hp
   have zr : ∀ ty, (Instr.next (.pointer (some ⟨w.heap.size, 0, none⟩)) true ty).run Tryz.prog wr = _ := fun ty => kJ wr w.heap.size s pos r d ty hit hp hdec
   have HL := aa hlet
   have HO := aa nN
   have H1 := aa hla
   have fi := aa (Lib.iterAt_heap wr w.heap.size s pos (pos + d) hit)
   have bZ := aa (Lib.below_iterAt cA (k := w.heap.size) U0 s (pos + d))
   clear hlet hsm hla nN hdec
   by_cases hp0 : pos = 0
   ·subst hp0
    cases hf : cz (r : Int) 65 90
    ·have zn := aa hf
     clear hf
     go_wp2_with fail
     refine (iB _ _).mono ?_
     rintro e w' ⟨rfl, rfl⟩
     rw [zn.out]
     go_wp2
     go_ret
     exact ⟨ah (mq _ _ s (by omega) (H1.out.symm.trans zn.out)).symm, by have h := bZ.out; rwa [Nat.zero_add] at h⟩
    ·have zn := aa hf
     clear hf
     cases hl : eC (r : Int)
     ·have mc := aa hl
      clear hl
      go_wp2_with fail
      refine (iB _ _).mono ?_
      rintro e w' ⟨rfl, rfl⟩
      rw [zn.out]
      go_wp2_with fail
      refine (bh _ _).mono ?_
      rintro e w' ⟨rfl, rfl⟩
      rw [mc.out]
      go_wp2
      go_ret
      exact ⟨ah (jy _ _ _ (iX s 0 hp (HL.out.symm.trans mc.out))).symm, by have h := bZ.out; rwa [Nat.zero_add] at h⟩
     ·have mc := aa hl
      clear hl
      go_wp2_with fail
      refine (iB _ _).mono ?_
      rintro e w' ⟨rfl, rfl⟩
      rw [zn.out]
      go_wp2_with fail
      refine (bh _ _).mono ?_
      rintro e w' ⟨rfl, rfl⟩
      rw [mc.out]
      go_wp2
      go_roundw
      case rel =>
       have hd : d = 1 := HO.out (HL.out.symm.trans mc.out)
       subst hd
       exact ⟨0 + 1, fi.out, bZ.out, by omega, gr s 0 hp HN.out (HL.out.symm.trans mc.out), fun h _ => H1.out.symm.trans zn.out⟩
      case measure =>
       have hd : d = 1 := HO.out (HL.out.symm.trans mc.out)
       subst hd
       rw [aV _ _ s _ fi.out, aV _ _ s _ hit]
       omega
   ·have NE : ((pos : Int) == 0) = false := by simp; omega
    cases hl : eC (r : Int)
    ·have mc := aa hl
     clear hl
     go_wp2_with fail
     refine (bh _ _).mono ?_
     rintro e w' ⟨rfl, rfl⟩
     rw [mc.out]
     go_wp2
     go_ret
     exact ⟨ah (jy _ _ _ (iX s pos hp (HL.out.symm.trans mc.out))).symm, bZ.out⟩
    ·have mc := aa hl
     clear hl
     go_wp2_with fail
     refine (bh _ _).mono ?_
     rintro e w' ⟨rfl, rfl⟩
     rw [mc.out]
     go_wp2
     go_roundw
     case rel =>
      have hd : d = 1 := HO.out (HL.out.symm.trans mc.out)
      subst hd
      exact ⟨pos + 1, fi.out, bZ.out, by omega, gr s pos hp HN.out (HL.out.symm.trans mc.out), fun h _ => HF.out h (by omega)⟩
     case measure =>
      have hd : d = 1 := HO.out (HL.out.symm.trans mc.out)
      subst hd
      rw [aV _ _ s _ fi.out, aV _ _ s _ hit]
      omega
  ·have zr : ∀ ty, (Instr.next (.pointer (some ⟨w.heap.size, 0, none⟩)) true ty).run Tryz.prog wr = _ := fun ty => Lib.run_next_end_at wr w.heap.size s pos ty hit hp
   have bZ := aa cA
   clear cA
   go_wp2
   go_ret
   have h := HN.out
   rw [List.take_of_length_le (by rw [ai]; omega)] at h
   exact ⟨ah (oO _ _ s (by omega) (by omega) h (HF.out (by omega) (by omega))).symm, bZ.out⟩
def fF (l : List UInt8) : Bool := dW 97 122 l && !sJ l
def hU (l : List UInt8) : Bool := dW 65 90 l
theorem dw (s : ByteArray) (w : World) (hs : s.size <= maxLen) :
 Calls Tryz.prog 198 #[.string s] w fun e w' => e = .returned (.bool (fF s.data.toList)) /\ Below w.heap.size w w' := by
 cases h : dW 97 122 s.data.toList
 ·have H := aa h
  clear h
  go_enter Tryz.func198, Tryz.ntmps198
  go_wp2_with fail
  refine (kG _ _ hs).mono ?_
  rintro e w1 ⟨rfl, hb⟩
  rw [H.out]
  have HB := aa hb
  clear hb
  go_wp2
  go_ret
  exact ⟨ah (by rw [fF, H.out]; rfl), HB.out⟩
 ·have H := aa h
  clear h
  go_enter Tryz.func198, Tryz.ntmps198
  go_wp2_with fail
  refine (kG _ _ hs).mono ?_
  rintro e w1 ⟨rfl, hb⟩
  rw [H.out]
  have HB := aa hb
  clear hb
  go_wp2_with fail
  refine (eT _ _).mono ?_
  rintro e w2 ⟨rfl, rfl⟩
  go_wp2
  go_ret
  exact ⟨ah (by rw [fF, H.out, <- bd]; rfl), HB.out⟩
theorem fY (s : ByteArray) (w : World) (hs : s.size <= maxLen) :
 Calls Tryz.prog 193 #[.string s] w fun e w' => e = .returned (.bool (hU s.data.toList)) /\ Below w.heap.size w w' := by
 go_enter Tryz.func193, Tryz.ntmps193
 go_wp2_with fail
 refine (pD _ _ hs).mono ?_
 rintro e w1 ⟨rfl, hb⟩
 have HB := aa hb
 clear hb
 go_wp2
 go_ret
 exact ⟨rfl, HB.out⟩
theorem mF (s : ByteArray) (h : ek s.data.toList = true) : 0 < s.size := by
 unfold ek at h
 rw [Bool.and_eq_true, ai] at h
 have := h.2
 unfold cz at this
 simp at this
 omega
theorem hZ (s : ByteArray) (h0 : 0 < s.size) : s.data.toList.headD 0 = s[0] := by
 rw [List.headD_eq_head?_getD, List.head?_eq_getElem?, List.getElem?_eq_getElem (by rw [ai]; omega)]
 rfl
theorem ga (s : ByteArray) (w : World) (hs : s.size <= maxLen) :
 Calls Tryz.prog 129 #[.string s] w fun e w' => e = .returned (.bool (hU s.data.toList)) /\ w' = w := by
 cases h : ek s.data.toList
 ·have H := aa h
  clear h
  go_enter Tryz.func129, Tryz.ntmps129
  go_wp2_with fail
  refine (gu _ _ hs).mono ?_
  rintro e w1 ⟨rfl, rfl⟩
  rw [H.out]
  go_wp2
  go_ret
  exact ⟨ah (by rw [hU, dW, H.out]; rfl), rfl⟩
 ·have h0 := mF s h
  have H := aa h
  clear h
  go_enter Tryz.func129, Tryz.ntmps129
  go_wp2_with fail
  refine (gu _ _ hs).mono ?_
  rintro e w1 ⟨rfl, rfl⟩
  rw [H.out]
  go_wp2_with fail
  refine (eY _ _).mono ?_
  rintro e w1 ⟨rfl, rfl⟩
  go_wp2
  go_ret
  exact ⟨ah (by rw [hU, dW, H.out, hZ s h0]; rfl), rfl⟩
theorem cv (s : ByteArray) (w : World) (hs : s.size <= maxLen) :
 Calls Tryz.prog 113 #[.string s] w fun e w' => e = .returned (.bool (fF s.data.toList)) /\ Below w.heap.size w w' := by
 cases h : ek s.data.toList
 ·have H := aa h
  clear h
  go_enter Tryz.func113, Tryz.ntmps113
  go_wp2_with fail
  refine (gu _ _ hs).mono ?_
  rintro e w1 ⟨rfl, rfl⟩
  rw [H.out]
  go_wp2
  go_ret
  exact ⟨ah (by rw [fF, dW, H.out]; rfl), Below.refl _ _⟩
 ·have h0 := mF s h
  have H := aa h
  clear h
  cases h1 : cz (s[0].toNat : Int) 97 122
  ·have H1 := aa h1
   clear h1
   go_enter Tryz.func113, Tryz.ntmps113
   go_wp2_with fail
   refine (gu _ _ hs).mono ?_
   rintro e w1 ⟨rfl, rfl⟩
   rw [H.out]
   go_wp2_with fail
   refine (dp _ _).mono ?_
   rintro e w1 ⟨rfl, rfl⟩
   rw [H1.out]
   go_wp2
   go_ret
   exact ⟨ah (by rw [fF, dW, H.out, hZ s h0, H1.out]; rfl), Below.refl _ _⟩
  ·have H1 := aa h1
   clear h1
   go_enter Tryz.func113, Tryz.ntmps113
   go_wp2_with fail
   refine (gu _ _ hs).mono ?_
   rintro e w1 ⟨rfl, rfl⟩
   rw [H.out]
   go_wp2_with fail
   refine (dp _ _).mono ?_
   rintro e w1 ⟨rfl, rfl⟩
   rw [H1.out]
   go_wp2_with fail
   refine (gp _ _).mono ?_
   rintro e w1 ⟨rfl, hb⟩
   have HB := aa hb
   clear hb
   go_wp2
   go_ret
   exact ⟨ah (by rw [fF, dW, H.out, hZ s h0, H1.out, <- bd]; rfl), HB.out⟩
end Go.Proofs.YtfomndilhlgikajGreatDoor
