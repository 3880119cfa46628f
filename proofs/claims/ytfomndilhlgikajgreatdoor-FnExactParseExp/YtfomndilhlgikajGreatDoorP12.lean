import Derived.Test.YtfomndilhlgikajGreatDoorP11
set_option maxHeartbeats 8000000
set_option maxRecDepth 100000
namespace Go.Proofs.YtfomndilhlgikajGreatDoor
open Go.RowKit
theorem eR {a b : Nat} (h : a = b) : Ending.returned (.int .i64 (a : Int)) = .returned (.int .i64 (b : Int)) := by rw [h]
theorem oe (s : ByteArray) (w : World) (hs : s.size <= maxLen) :
 Calls Tryz.prog 236 #[.string s] w fun e w' => e = .returned (.int .i64 (dl s.data.toList : Nat)) /\ Below w.heap.size w w' := by
 cases h1 : sJ s.data.toList
 ·cases h2 : fF s.data.toList
  ·cases h3 : hU s.data.toList
   ·have H1 := aa h1
    have H2 := aa h2
    have H3 := aa h3
    have HK := aa (show dl s.data.toList = 0 by simp [dl, h1, h2, h3])
    clear h1 h2 h3
    go_enter Tryz.func236, Tryz.ntmps236
    go_wp2_with fail
    refine (eT _ _).mono ?_
    rintro e w' ⟨rfl, rfl⟩
    rw [bd, H1.out]
    go_wp2_with fail
    refine (dw _ _ hs).mono ?_
    rintro e w1 ⟨rfl, bS⟩
    rw [H2.out]
    have aR := aa bS
    clear bS
    go_wp2_with fail
    refine (fY _ _ hs).mono ?_
    rintro e w2 ⟨rfl, aX⟩
    rw [H3.out]
    have bD := aa aX
    clear aX
    go_wp2
    go_ret
    exact ⟨eR HK.out.symm, aR.out.trans (bD.out.mono aR.out.size)⟩
   ·have H1 := aa h1
    have H2 := aa h2
    have H3 := aa h3
    have HK := aa (show dl s.data.toList = 2 by simp [dl, h1, h2, h3])
    clear h1 h2 h3
    go_enter Tryz.func236, Tryz.ntmps236
    go_wp2_with fail
    refine (eT _ _).mono ?_
    rintro e w' ⟨rfl, rfl⟩
    rw [bd, H1.out]
    go_wp2_with fail
    refine (dw _ _ hs).mono ?_
    rintro e w1 ⟨rfl, bS⟩
    rw [H2.out]
    have aR := aa bS
    clear bS
    go_wp2_with fail
    refine (fY _ _ hs).mono ?_
    rintro e w2 ⟨rfl, aX⟩
    rw [H3.out]
    have bD := aa aX
    clear aX
    go_wp2
    go_ret
    exact ⟨eR HK.out.symm, aR.out.trans (bD.out.mono aR.out.size)⟩
  ·have H1 := aa h1
   have H2 := aa h2
   have HK := aa (show dl s.data.toList = 1 by simp [dl, h1, h2])
   clear h1 h2
   go_enter Tryz.func236, Tryz.ntmps236
   go_wp2_with fail
   refine (eT _ _).mono ?_
   rintro e w' ⟨rfl, rfl⟩
   rw [bd, H1.out]
   go_wp2_with fail
   refine (dw _ _ hs).mono ?_
   rintro e w1 ⟨rfl, bS⟩
   rw [H2.out]
   have aR := aa bS
   clear bS
   go_wp2
   go_ret
   exact ⟨eR HK.out.symm, aR.out⟩
 ·have H1 := aa h1
  have HK := aa (show dl s.data.toList = 4 by simp [dl, h1])
  clear h1
  go_enter Tryz.func236, Tryz.ntmps236
  go_wp2_with fail
  refine (eT _ _).mono ?_
  rintro e w' ⟨rfl, rfl⟩
  rw [bd, H1.out]
  go_wp2
  go_ret
  exact ⟨eR HK.out.symm, Below.refl _ _⟩
theorem kV (s : ByteArray) (w : World) (hs : s.size <= maxLen) :
 Calls Tryz.prog 174 #[.string s] w fun e w' => e = .returned (.int .i64 (dl s.data.toList : Nat)) /\ Below w.heap.size w w' := by
 cases h1 : sJ s.data.toList
 ·cases h2 : fF s.data.toList
  ·cases h3 : hU s.data.toList
   ·have H1 := aa h1
    have H2 := aa h2
    have H3 := aa h3
    have HK := aa (show dl s.data.toList = 0 by simp [dl, h1, h2, h3])
    clear h1 h2 h3
    go_enter Tryz.func174, Tryz.ntmps174
    go_wp2_with fail
    refine (gp _ _).mono ?_
    rintro e w0 ⟨rfl, lJ⟩
    rw [bd, H1.out]
    have aq := aa lJ
    clear lJ
    go_wp2_with fail
    refine (cv _ _ hs).mono ?_
    rintro e w1 ⟨rfl, bS⟩
    rw [H2.out]
    have aR := aa (aq.out.trans (bS.mono aq.out.size))
    clear bS
    go_wp2_with fail
    refine (ga _ _ hs).mono ?_
    rintro e w2 ⟨rfl, rfl⟩
    rw [H3.out]
    go_wp2
    go_ret
    exact ⟨eR HK.out.symm, aR.out⟩
   ·have H1 := aa h1
    have H2 := aa h2
    have H3 := aa h3
    have HK := aa (show dl s.data.toList = 2 by simp [dl, h1, h2, h3])
    clear h1 h2 h3
    go_enter Tryz.func174, Tryz.ntmps174
    go_wp2_with fail
    refine (gp _ _).mono ?_
    rintro e w0 ⟨rfl, lJ⟩
    rw [bd, H1.out]
    have aq := aa lJ
    clear lJ
    go_wp2_with fail
    refine (cv _ _ hs).mono ?_
    rintro e w1 ⟨rfl, bS⟩
    rw [H2.out]
    have aR := aa (aq.out.trans (bS.mono aq.out.size))
    clear bS
    go_wp2_with fail
    refine (ga _ _ hs).mono ?_
    rintro e w2 ⟨rfl, rfl⟩
    rw [H3.out]
    go_wp2
    go_ret
    exact ⟨eR HK.out.symm, aR.out⟩
  ·have H1 := aa h1
   have H2 := aa h2
   have HK := aa (show dl s.data.toList = 1 by simp [dl, h1, h2])
   clear h1 h2
   go_enter Tryz.func174, Tryz.ntmps174
   go_wp2_with fail
   refine (gp _ _).mono ?_
   rintro e w0 ⟨rfl, lJ⟩
   rw [bd, H1.out]
   have aq := aa lJ
   clear lJ
   go_wp2_with fail
   refine (cv _ _ hs).mono ?_
   rintro e w1 ⟨rfl, bS⟩
   rw [H2.out]
   have aR := aa (aq.out.trans (bS.mono aq.out.size))
   clear bS
   go_wp2
   go_ret
   exact ⟨eR HK.out.symm, aR.out⟩
 ·have H1 := aa h1
  have HK := aa (show dl s.data.toList = 4 by simp [dl, h1])
  clear h1
  go_enter Tryz.func174, Tryz.ntmps174
  go_wp2_with fail
  refine (gp _ _).mono ?_
  rintro e w0 ⟨rfl, lJ⟩
  rw [bd, H1.out]
  have aq := aa lJ
  clear lJ
  go_wp2
  go_ret
  exact ⟨eR HK.out.symm, aq.out⟩
theorem Gn (p : UInt8 -> Bool) (s : ByteArray) (k : Nat) (h : k < s.size) (h1 : p s[k] = false) : s.data.toList.all p = false := by
 rw [List.all_eq_false]
 exact ⟨s[k], by rw [show s[k] = s.data.toList[k]'(by simpa using h) from rfl]; exact List.getElem_mem _, by simp [h1]⟩
theorem Ba (p : UInt8 -> Bool) (s : ByteArray) (k : Nat) (h : k < s.size) (h0 : (s.data.toList.take k).all p = true) (h1 : p s[k] = true) : (s.data.toList.take (k + 1)).all p = true := by
 rw [rR s k h, List.all_append, h0]
 simp [h1]
theorem zY (l : List UInt8) (h : l.all bM = false) : mL l = false := by simp [mL, h]
theorem qT (l : List UInt8) (h : cz l.length 1 6 = false) : mL l = false := by simp [mL, h]
theorem uH (l : List UInt8) (h : l.all bM = true) (h1 : l.length = 1) : mL l = true := by
 rw [mL, h, kF (by omega) (by omega), h1]; rfl
theorem ny (s : ByteArray) (h : s.data.toList.all bM = true) (h1 : cz s.size 1 6 = true) (h2 : s.size ≠ 1) (h0 : 0 < s.size) : mL s.data.toList = (s[0] != 48) := by
 rw [mL, h, ai, h1, hZ s h0]
 have : (s.size == 1) = false := by simp [h2]
 rw [this]
 rfl
theorem mB (c d : UInt8) : ((c.toNat : Int) != (d.toNat : Int)) = (c != d) := by
 rw [Bool.eq_iff_iff, bne_iff_ne, bne_iff_ne]
 constructor
 ·intro h e
  subst e
  exact h rfl
 ·intro h e
  exact h (UInt8.toNat_inj.1 (by omega))
theorem DP (c d : UInt8) (h : (c.toNat : Int) = (d.toNat : Int)) : c = d := UInt8.toNat_inj.1 (by omega)
theorem wD (s : ByteArray) (h0 : 0 < s.size) (cl : s.data.toList.all bM = true) (h : (s[0].toNat : Int) = 48) (hn : (s.toList == [48]) = false) (h6 : s.size <= 6) : gm s.data.toList = 0 := by
 have Mm : s[0] = 48 := DP s[0] 48 h
 have h1 : s.size ≠ 1 := by
  intro e
  rw [bd, beq_eq_false_iff_ne] at hn
  apply hn
  have hl : s.data.toList.length = 1 := by rw [ai]; exact e
  obtain ⟨c, hc⟩ := List.length_eq_one_iff.1 hl
  have hh := hZ s h0
  rw [hc] at hh
  have : c = s[0] := hh
  rw [hc, this, Mm]
 rw [gm, ny s cl (kF (by omega) (by omega)) h1 h0, Mm]
 rfl
theorem DO (s : ByteArray) (h : (s.toList == [48]) = true) : gm s.data.toList = 3 := by
 rw [bd, beq_iff_eq] at h
 rw [h]
 decide
theorem D8 (s : ByteArray) (h0 : 0 < s.size) (cl : s.data.toList.all bM = true) (h : ¬ (s[0].toNat : Int) = 48) (h6 : s.size <= 6) : gm s.data.toList = 3 := by
 by_cases h1 : s.size = 1
 ·rw [gm, uH _ cl (by rw [ai]; exact h1)]
  rfl
 ·have Mm : (s[0] != 48) = true := by
   rw [bne_iff_ne]
   intro e
   rw [e] at h
   exact h rfl
  rw [gm, ny s cl (kF (by omega) (by omega)) h1 h0, Mm]
  rfl
theorem Ez (s : ByteArray) (h6 : 6 < s.size) : gm s.data.toList = 0 := by
 rw [gm, qT _ (bO (by rw [ai]; omega))]
 rfl
theorem kN (s : ByteArray) (w : World) (hs : s.size <= maxLen) :
 Calls Tryz.prog 171 #[.string s] w fun e w' => e = .returned (.bool (mL s.data.toList)) /\ w' = w := by
 unfold maxLen at hs
 go_enter Tryz.func171, Tryz.ntmps171
 go_wp2
 go_loop [3] (fun i => ∃ k : Nat, k <= s.size /\ i = .int .i64 k /\ (s.data.toList.take k).all bM = true) (fun i => s.size - (intOf i).toNat)
 case atStart => exact ⟨0, Nat.zero_le _, rfl, rfl⟩
 case round =>
  obtain ⟨k, hk, rfl, cl⟩ := hrel
  have HN := aa cl
  clear cl
  by_cases au : k < s.size
  ·cases hl : cz (s[k].toNat : Int) 48 57
   ·have HL := aa hl
    clear hl
    go_wp2_with fail
    refine (cW _ _).mono ?_
    rintro e w' ⟨rfl, rfl⟩
    rw [HL.out]
    go_wp2
    go_ret
    exact ⟨ah (zY _ (Gn bM s k au HL.out)).symm, rfl⟩
   ·have HL := aa hl
    clear hl
    go_wp2_with fail
    refine (cW _ _).mono ?_
    rintro e w' ⟨rfl, rfl⟩
    rw [HL.out]
    go_wp2
    go_round
    case rel => exact ⟨k + 1, by omega, by go_num, Ba bM s k au HN.out HL.out⟩
    case measure => simp [intOf]; omega
  ·have h := HN.out
   rw [List.take_of_length_le (by rw [ai]; omega)] at h
   have HA := aa h
   clear h
   cases gA : cz (s.size : Int) 1 6
   ·have HI := aa gA
    clear gA
    go_wp2_with fail
    refine (fR _ _ _ _).mono ?_
    rintro e w' ⟨rfl, rfl⟩
    rw [HI.out]
    go_wp2
    go_ret
    exact ⟨ah (qT _ (by rw [ai]; exact HI.out)).symm, rfl⟩
   ·have h0 : 0 < s.size := by
     unfold cz at gA
     simp at gA
     omega
    have HI := aa gA
    clear gA
    by_cases h1 : s.size = 1
    ·have Nu : ((s.size : Int) == 1) = true := by simp; omega
     have H1 := aa h1
     clear h1
     go_wp2_with fail
     refine (fR _ _ _ _).mono ?_
     rintro e w' ⟨rfl, rfl⟩
     rw [HI.out]
     go_wp2
     go_ret
     exact ⟨ah (uH _ HA.out (by rw [ai]; exact H1.out)).symm, rfl⟩
    ·have Nu : ((s.size : Int) == 1) = false := by simp; omega
     go_wp2_with fail
     refine (fR _ _ _ _).mono ?_
     rintro e w' ⟨rfl, rfl⟩
     rw [HI.out]
     go_wp2
     go_ret
     refine ⟨ah ?_, rfl⟩
     rw [ny s HA.out HI.out h1 h0]
     exact mB s[0] 48
theorem oK (s : ByteArray) (w : World) (hs : s.size <= maxLen) (h0 : 0 < s.size) (cl : s.data.toList.all bM = true) :
 Calls Tryz.prog 238 #[.string s] w fun e w' => e = .returned (.int .i64 (gm s.data.toList : Nat)) /\ w' = w := by
 unfold maxLen at hs
 have HA := aa cl
 clear cl
 go_enter Tryz.func238, Tryz.ntmps238
 go_wp2
 ·go_ret
  have hx : (6 : Int) < (s.size : Int) \/ (!s.toList == [48]) = true := by assumption
  refine ⟨eR (wD s h0 HA.out (by assumption) ?_ (by omega)).symm, rfl⟩
  rcases hx with hx | hx
  ·omega
  ·simpa using hx
 ·go_ret
  have hx : (s.size : Int) <= 6 /\ (!s.toList == [48]) = false := by assumption
  exact ⟨eR (DO s (by simpa using hx.2)).symm, rfl⟩
 ·go_ret
  exact ⟨eR (D8 s h0 HA.out (by assumption) (by omega)).symm, rfl⟩
 ·go_ret
  exact ⟨eR (Ez s (by omega)).symm, rfl⟩
theorem zV : Ad (fun r => cz r 97 122 || cz r 65 90) fC := by
 refine oA _ _ (fun _ => rfl) (fun r h => ?_) (fun c h => ?_)
 ·rw [show fC 128 = false from by decide]
  show (cz r 97 122 || cz r 65 90) = false
  rw [bO (by omega), bO (by omega)]
  rfl
 ·rw [show fC 128 = false from by decide, fC, bO (by omega), bO (by omega)]
  rfl
theorem lE (s : ByteArray) (n : Nat) : (s.extract 0 n).data.toList = s.data.toList.take n := by
 rw [ByteArray.data_extract, Array.toList_extract]; rfl
theorem eu (p : UInt8 -> Bool) (l : List UInt8) : l.take (l.takeWhile p).length = l.takeWhile p := by
 induction l with
 | nil => rfl
 | cons c r ih =>
  rw [List.takeWhile_cons]
  split
  ·rw [List.length_cons, List.take_succ_cons, ih]
  ·rfl
theorem fj (p : UInt8 -> Bool) (l : List UInt8) : (l.takeWhile p).length <= l.length := (List.takeWhile_sublist p).length_le
theorem qx (p : UInt8 -> Bool) (l : List UInt8) : (l.takeWhile p).all p = true := by
 induction l with
 | nil => rfl
 | cons c r ih =>
  rw [List.takeWhile_cons]
  split
  ·rw [List.all_cons, ih, Bool.and_true]; assumption
  ·rfl
theorem fQ (a b : UInt8) (l : List UInt8) : Lib.hasPrefix l [a, b] = (l.take 2 == [a, b]) := by
 unfold Lib.hasPrefix
 match l with
 | [] => rfl
 | [x] => simp [List.isPrefixOf]
 | x :: y :: r =>
  simp [List.isPrefixOf]
  rw [Bool.eq_iff_iff]
  simp
  constructor
  ·rintro ⟨rfl, rfl⟩; exact ⟨rfl, rfl⟩
  ·rintro ⟨rfl, rfl⟩; exact ⟨rfl, rfl⟩
theorem Bk (s : ByteArray) (pos r d : Nat) (h : pos < s.size) (hd : Utf8.decode s pos = (r, d)) : qZ r = fm (s.data.toList.getD pos 0) := by
 rw [bE s pos h]
 by_cases ha : (s[pos]'h).toNat < 128
 ·have e := decode_ascii s pos h ha
  rw [hd] at e
  have e1 : r = (s[pos]'h).toNat := congrArg Prod.fst e
  rw [qZ, e1, decide_eq_true ha, Bool.true_and]
  congr 1
  exact UInt8.ofNat_toNat
 ·have e := (decode_high s pos h (by omega)).1
  rw [hd] at e
  have e1 : ¬ r < 128 := by show ¬ (r, d).1 < 128; omega
  rw [qZ, decide_eq_false e1, Bool.false_and]
  generalize s[pos] = c at *
  have hm : ∀ m ∈ marksL, m.toNat < 128 := by decide
  symm
  unfold fm
  rw [List.any_eq_false]
  intro m hmm hc
  have := hm m hmm
  rw [beq_iff_eq] at hc
  rw [hc] at this
  omega
theorem zO (s : ByteArray) (pos r d : Nat) (hd : Utf8.decode s pos = (r, d)) : Lib.validRune (r : Int) = true := by
 have := sx s pos
 rw [hd] at this
 exact this
theorem fU (l : List UInt8) (h : fC (l.headD 0) = true) : cr l = dl (l.takeWhile cO) /\ bA l = (l.takeWhile cO).length := by
 have hd : bM (l.headD 0) = false := by
  unfold fC cz at h
  unfold bM cz
  generalize (l.headD 0).toNat = n at *
  simp at *
  omega
 unfold cr bA
 rw [hd, h]
 exact ⟨rfl, rfl⟩
theorem ja (l : List UInt8) (h : bM (l.headD 0) = true) : cr l = gm (l.takeWhile bM) /\ bA l = (l.takeWhile bM).length := by
 unfold cr bA
 rw [h]
 exact ⟨rfl, rfl⟩
theorem gY (l : List UInt8) (h1 : fC (l.headD 0) = false) (h2 : bM (l.headD 0) = false) (h : gL l = true) : cr l = 5 /\ bA l = 2 := by
 unfold cr bA
 rw [h1, h2, h]
 exact ⟨rfl, rfl⟩
theorem iY (l : List UInt8) (h1 : fC (l.headD 0) = false) (h2 : bM (l.headD 0) = false) (h : gL l = false) (h3 : fm (l.headD 0) = true) : cr l = 5 /\ bA l = 1 := by
 unfold cr bA
 rw [h1, h2, h, h3]
 exact ⟨rfl, rfl⟩
theorem fJ (l : List UInt8) (h1 : fC (l.headD 0) = false) (h2 : bM (l.headD 0) = false) (h : gL l = false) (h3 : fm (l.headD 0) = false) : cr l = 0 := by
 unfold cr
 rw [h1, h2, h, h3]
 rfl
theorem kL (l : List UInt8) : l.getD 0 0 = l.headD 0 := by cases l <;> rfl
theorem ur (s : ByteArray) (w : World) (hs : s.size <= maxLen) (h0 : 0 < s.size) (r d : Nat) (hdec : Utf8.decode s 0 = (r, d)) :
 Calls Tryz.prog 185 #[.int .i32 r, .string s] w fun e w' => ∃ n : Nat, e = .returned (.tuple #[.int .i64 (cr s.data.toList : Nat), .int .i64 n]) /\ (cr s.data.toList ≠ 0 -> n = bA s.data.toList) /\ Below w.heap.size w w' := by
 have Q7 : s.size <= 9223372036854775807 := hs
 obtain ⟨r1, d1, e1, habc, _⟩ := zV s 0 h0
 obtain ⟨r2, d2, e2, hdig, _⟩ := uy s 0 h0
 rw [hdec] at e1 e2
 obtain ⟨rfl, rfl⟩ := Prod.mk.inj e1
 obtain ⟨e3, _⟩ := Prod.mk.inj e2
 subst e3
 have EU := Bk s 0 r d h0 hdec
 have Dg := zO s 0 r d hdec
 rw [kL] at habc hdig EU
 have HA : Hid ((cz (r : Int) 97 122 || cz (r : Int) 65 90) = fC (s.data.toList.headD 0)) := habc
 have HD : Hid (cz (r : Int) 48 57 = bM (s.data.toList.headD 0)) := hdig
 have HM := aa EU
 have HV := aa Dg
 clear habc hdig EU Dg e1 e2 hdec
 cases ha : fC (s.data.toList.headD 0)
 ·cases hd : bM (s.data.toList.headD 0)
  ·have H1 := aa ha
   have H2 := aa hd
   clear ha hd
   cases ht1 : (s.data.toList.take 2 == [45, 62])
   ·cases ht2 : (s.data.toList.take 2 == [61, 61])
    ·have HT := aa (show gL s.data.toList = false by rw [gL, ht1, ht2]; rfl)
     have Ic := aa ht1
     have OI := aa ht2
     clear ht1 ht2
     go_enter Tryz.func185, Tryz.ntmps185
     go_wp2_with fail
     refine (dA _ _).mono ?_
     rintro e w' ⟨rfl, rfl⟩
     rw [HA.out, H1.out]
     go_wp2_with fail
     refine (ej _ _).mono ?_
     rintro e w' ⟨rfl, rfl⟩
     rw [HD.out, H2.out]
     go_wp2_with fail
     refine (Tryz.strings_HasPrefix _ _ _).mono ?_
     rintro e w' ⟨rfl, rfl⟩
     rw [show Lib.hasPrefix s.data.toList [45, 62] = false from (fQ _ _ _).trans Ic.out]
     go_wp2_with fail
     refine (Tryz.strings_HasPrefix _ _ _).mono ?_
     rintro e w' ⟨rfl, rfl⟩
     rw [show Lib.hasPrefix s.data.toList [61, 61] = false from (fQ _ _ _).trans OI.out]
     go_wp2_with fail
     refine (nH _ _ HV.out).mono ?_
     rintro e w1 ⟨rfl, hb⟩
     have HB := aa hb
     clear hb
     rw [HM.out]
     cases hm : fm (s.data.toList.headD 0)
     ·have H3 := aa hm
      clear hm
      go_wp2
      go_ret2
      exact ⟨0, by rw [fJ _ H1.out H2.out HT.out H3.out]; rfl, by rw [fJ _ H1.out H2.out HT.out H3.out]; simp, HB.out⟩
     ·have H3 := aa hm
      clear hm
      go_wp2
      go_ret2
      have hk := iY _ H1.out H2.out HT.out H3.out
      exact ⟨1, by rw [hk.1]; rfl, fun _ => hk.2.symm, HB.out⟩
    ·have HT := aa (show gL s.data.toList = true by rw [gL, ht2]; simp)
     have Ic := aa ht1
     have OI := aa ht2
     clear ht1 ht2
     go_enter Tryz.func185, Tryz.ntmps185
     go_wp2_with fail
     refine (dA _ _).mono ?_
     rintro e w' ⟨rfl, rfl⟩
     rw [HA.out, H1.out]
     go_wp2_with fail
     refine (ej _ _).mono ?_
     rintro e w' ⟨rfl, rfl⟩
     rw [HD.out, H2.out]
     go_wp2_with fail
     refine (Tryz.strings_HasPrefix _ _ _).mono ?_
     rintro e w' ⟨rfl, rfl⟩
     rw [show Lib.hasPrefix s.data.toList [45, 62] = false from (fQ _ _ _).trans Ic.out]
     go_wp2_with fail
     refine (Tryz.strings_HasPrefix _ _ _).mono ?_
     rintro e w' ⟨rfl, rfl⟩
     rw [show Lib.hasPrefix s.data.toList [61, 61] = true from (fQ _ _ _).trans OI.out]
     go_wp2
     go_ret2
     have hk := gY _ H1.out H2.out HT.out
     exact ⟨2, by rw [hk.1]; rfl, fun _ => hk.2.symm, Below.refl _ _⟩
   ·have HT := aa (show gL s.data.toList = true by rw [gL, ht1]; rfl)
    have Ic := aa ht1
    clear ht1
    go_enter Tryz.func185, Tryz.ntmps185
    go_wp2_with fail
    refine (dA _ _).mono ?_
    rintro e w' ⟨rfl, rfl⟩
    rw [HA.out, H1.out]
    go_wp2_with fail
    refine (ej _ _).mono ?_
    rintro e w' ⟨rfl, rfl⟩
    rw [HD.out, H2.out]
    go_wp2_with fail
    refine (Tryz.strings_HasPrefix _ _ _).mono ?_
    rintro e w' ⟨rfl, rfl⟩
    rw [show Lib.hasPrefix s.data.toList [45, 62] = true from (fQ _ _ _).trans Ic.out]
    go_wp2
    go_ret2
    have hk := gY _ H1.out H2.out HT.out
    exact ⟨2, by rw [hk.1]; rfl, fun _ => hk.2.symm, Below.refl _ _⟩
  ·have H1 := aa ha
   have H2 := aa hd
   have HK := aa (ja _ hd)
   have nP := fZ bM s.data.toList (by rw [ai]; exact h0) hd
   clear ha hd
   go_enter Tryz.func185, Tryz.ntmps185
   go_wp2_with fail
   refine (dA _ _).mono ?_
   rintro e w' ⟨rfl, rfl⟩
   rw [HA.out, H1.out]
   go_wp2_with fail
   refine (ej _ _).mono ?_
   rintro e w' ⟨rfl, rfl⟩
   rw [HD.out, H2.out]
   go_wp2_with fail
   refine (wu _ _ hs).mono ?_
   rintro e w1 ⟨rfl, hb⟩
   have HB := aa hb
   clear hb
   have iL := fj bM s.data.toList
   rw [ai] at iL
   generalize hn : (s.data.toList.takeWhile bM).length = n at iL nP
   have HN := aa hn
   clear hn
   go_wp2_with fail
   have lk : (s.extract 0 n).data.toList = s.data.toList.takeWhile bM := by rw [lE, <- HN.out, eu]
   have cI : (s.extract 0 n).size = n := by rw [<- ai, lk, HN.out]
   refine (oK _ _ (by rw [cI]; exact Nat.le_trans iL hs) (by rw [cI]; omega) (by rw [lk]; exact qx _ _)).mono ?_
   rw [lk]
   clear lk cI
   rintro e w2 ⟨rfl, rfl⟩
   rw [<- HK.out.1]
   go_wp2
   go_ret2
   exact ⟨n, rfl, fun _ => HN.out.symm.trans HK.out.2.symm, HB.out⟩
 ·have H1 := aa ha
  have HK := aa (fU _ ha)
  clear ha
  go_enter Tryz.func185, Tryz.ntmps185
  go_wp2_with fail
  refine (dA _ _).mono ?_
  rintro e w' ⟨rfl, rfl⟩
  rw [HA.out, H1.out]
  go_wp2_with fail
  refine (vE _ _ hs).mono ?_
  rintro e w1 ⟨rfl, hb⟩
  have HB := aa hb
  clear hb
  have iL := fj cO s.data.toList
  rw [ai] at iL
  generalize hn : (s.data.toList.takeWhile cO).length = n at iL
  have HN := aa hn
  clear hn
  go_wp2_with fail
  have lk : (s.extract 0 n).data.toList = s.data.toList.takeWhile cO := by rw [lE, <- HN.out, eu]
  have cI : (s.extract 0 n).size = n := by rw [<- ai, lk, HN.out]
  refine (oe _ _ (by rw [cI]; exact Nat.le_trans iL hs)).mono ?_
  rw [lk]
  clear lk cI
  rintro e w2 ⟨rfl, aX⟩
  have bD := aa aX
  clear aX
  rw [<- HK.out.1]
  go_wp2
  go_ret2
  exact ⟨n, rfl, fun _ => HN.out.symm.trans HK.out.2.symm, HB.out.trans (bD.out.mono HB.out.size)⟩
theorem nK (s : ByteArray) (w : World) (hs : s.size <= 1500) :
 Calls Tryz.prog 186 #[.string s] w fun e w' => e = .returned (.string s) /\ Below w.heap.size w w' := by
 go_enter Tryz.func186, Tryz.ntmps186
 go_wp2_with fail
 refine (Tryz.stringslite_Clone _ _ (by omega)).mono ?_
 rintro e w1 ⟨rfl, hb⟩
 have HB := aa hb
 clear hb
 go_wp2
 go_ret
 exact ⟨rfl, HB.out⟩
theorem iJ (p : UInt8 -> Bool) : ∀ (l : List UInt8) (i : Nat), i < (l.takeWhile p).length -> p (l.getD i 0) = true := by
 intro l
 induction l with
 | nil => intro i h; simp at h
 | cons c r ih =>
  intro i h
  rw [List.takeWhile_cons] at h
  by_cases hp : p c = true
  ·rw [if_pos hp] at h
   cases i with
   | zero => exact hp
   | succ i => exact ih i (by simpa using h)
  ·rw [if_neg hp] at h
   simp at h
theorem rr (c : UInt8) (h : cO c = true) : c.toNat < 128 /\ c ≠ 10 := by
 have hc : c.toNat < 256 := c.toNat_lt
 constructor
 ·unfold cO eC cz at h
  simp at h
  omega
 ·intro e
  subst e
  revert h
  decide
theorem Eu (c : UInt8) (h : bM c = true) : cO c = true := by
 unfold bM at h
 unfold cO eC
 rw [h]
 simp
theorem vI (c : UInt8) (h : fm c = true) : c.toNat < 128 /\ c ≠ 10 := by
 unfold fm at h
 rw [List.any_eq_true] at h
 obtain ⟨m, hm, he⟩ := h
 rw [beq_iff_eq] at he
 subst he
 revert hm
 have : ∀ m ∈ marksL, m.toNat < 128 /\ m ≠ 10 := by decide
 exact this m
theorem yw (l : List UInt8) (h : gL l = true) : 2 <= l.length /\ ∀ i, i < 2 -> (l.getD i 0).toNat < 128 /\ l.getD i 0 ≠ 10 := by
 match l, h with
 | [], h => exact absurd h (by decide)
 | [x], h => simp [gL] at h
 | x :: y :: r, h =>
  refine ⟨by simp, fun i hi => ?_⟩
  have Oz : (x = 45 /\ y = 62) \/ (x = 61 /\ y = 61) := by simpa [gL] using h
  have Ut : i = 0 \/ i = 1 := by omega
  rcases Oz with ⟨rfl, rfl⟩ | ⟨rfl, rfl⟩ <;> rcases Ut with rfl | rfl <;> exact ⟨by simp, by simp⟩
theorem jH (l : List UInt8) (h0 : 0 < l.length) (hk : cr l ≠ 0) : bA l <= l.length /\ ∀ i, i < bA l -> (l.getD i 0).toNat < 128 /\ l.getD i 0 ≠ 10 := by
 by_cases hd : bM (l.headD 0) = true
 ·rw [(ja l hd).2]
  exact ⟨fj _ _, fun i hi => rr _ (Eu _ (iJ _ _ _ hi))⟩
 ·by_cases ha : fC (l.headD 0) = true
  ·rw [(fU l ha).2]
   exact ⟨fj _ _, fun i hi => rr _ (iJ _ _ _ hi)⟩
  ·rw [Bool.not_eq_true] at hd ha
   by_cases ht : gL l = true
   ·rw [(gY l ha hd ht).2]
    exact yw l ht
   ·rw [Bool.not_eq_true] at ht
    by_cases hm : fm (l.headD 0) = true
    ·rw [(iY l ha hd ht hm).2]
     refine ⟨h0, fun i hi => ?_⟩
     have : i = 0 := by omega
     subst this
     rw [kL]
     exact vI _ hm
    ·rw [Bool.not_eq_true] at hm
     exact absurd (fJ l ha hd ht hm) hk
theorem cV (L : List UInt8) (p i : Nat) : (L.drop p).getD i 0 = L.getD (p + i) 0 := by
 rw [List.getD_eq_getElem?_getD, List.getElem?_drop, List.getD_eq_getElem?_getD]
theorem fv (L : List UInt8) (i : Nat) (h : i < L.length) : L[i]? = some (L.getD i 0) := by
 rw [List.getD_eq_getElem?_getD, List.getElem?_eq_getElem h]; rfl
theorem oR (L : List UInt8) (i : Nat) (c : UInt8) (h : L.getD i 0 ≠ c) (h0 : i < L.length) : L[i]? ≠ some c := by
 rw [fv L i h0]; intro e; exact h (Option.some.inj e)
structure Inv (L : List UInt8) (pos dn : Nat) (ts : List TokP) : Prop where
 hp : pos <= L.length
 hd : dn <= L.length
 lex : cd L 0 = (cd L (max pos dn)).map (ts ++ ·)
 flat : ∀ i, pos <= i -> i < dn -> L[i]? ≠ some 10
 edge : (∀ i, pos <= i -> i < dn -> (L.getD i 0).toNat < 128) \/ dn = L.length \/ L[dn]? = some 10
 few : ts.length <= max pos dn
theorem map_nil (o : Option (List TokP)) : o.map ([] ++ ·) = o := by cases o <;> rfl
theorem yS (L : List UInt8) : Inv L 0 0 [] := ⟨Nat.zero_le _, Nat.zero_le _, (map_nil _).symm, fun i a b => by omega, Or.inl fun i a b => by omega, Nat.zero_le _⟩
theorem GG {L : List UInt8} {pos dn : Nat} {ts : List TokP} (h : Inv L pos dn ts) (hp : pos < L.length) (hc : L.getD pos 0 = 10) : Inv L (pos + 1) dn ts := by
 have wQ : L[pos]? = some 10 := by rw [fv L pos hp, hc]
 have CN : dn <= pos := Nat.le_of_not_lt fun au => h.flat pos U0 au wQ
 refine ⟨hp, h.hd, ?_, fun i a b => by omega, Or.inl fun i a b => by omega, ?_⟩
 ·rw [h.lex, show max pos dn = pos by omega, show max (pos + 1) dn = pos + 1 by omega, dO L pos hp, if_pos (Or.inl wQ)]
 ·have := h.few; omega
theorem oy {L : List UInt8} {pos : Nat} (hp : pos < L.length) (hc : L.getD pos 0 = 10) : bN L (pos + 1) = bN L pos + 1 /\ db L (pos + 1) = pos + 1 := by
 have wQ : L[pos]? = some 10 := by rw [fv L pos hp, hc]
 exact ⟨by rw [bN, if_pos wQ], by rw [db, if_pos wQ]⟩
theorem jZ {L : List UInt8} {pos : Nat} (hp : pos < L.length) (hc : L.getD pos 0 ≠ 10) : bN L (pos + 1) = bN L pos /\ db L (pos + 1) = db L pos :=
 mz L pos 1 fun i a b => by
  have : i = pos := by omega
  subst this
  exact oR L i 10 hc hp
theorem FG {L : List UInt8} {pos dn d : Nat} {ts : List TokP} (h : Inv L pos dn ts) (au : pos < dn) (h1 : 1 <= d) (jq : (L.getD pos 0).toNat < 128 -> d = 1) (CN : pos + d <= L.length) (hb : ∀ i, 1 <= i -> i < d -> 128 <= (L.getD (pos + i) 0).toNat) :
 pos + d <= dn /\ Inv L (pos + d) dn ts /\ bN L (pos + d) = bN L pos /\ db L (pos + d) = db L pos := by
 have iL : pos + d <= dn := by
  rcases h.edge with he | he | he
  ·have := jq (he pos U0 au); omega
  ·omega
  ·refine Nat.le_of_not_lt fun hh => ?_
   have h2 := hb (dn - pos) (by omega) (by omega)
   rw [show pos + (dn - pos) = dn by omega] at h2
   rw [fv L dn (by omega)] at he
   rw [Option.some.inj he] at h2
   exact absurd h2 (by decide)
 have hf := mz L pos d fun i a b => h.flat i a (by omega)
 refine ⟨iL, ⟨CN, h.hd, ?_, fun i a b => h.flat i (by omega) b, ?_, ?_⟩, hf.1, hf.2⟩
 ·rw [h.lex, show max pos dn = dn by omega, show max (pos + d) dn = dn by omega]
 ·rcases h.edge with he | he | he
  ·exact Or.inl fun i a b => he i (by omega) b
  ·exact Or.inr (Or.inl he)
  ·exact Or.inr (Or.inr he)
 ·have := h.few; omega
theorem yc {L : List UInt8} {pos dn : Nat} {ts : List TokP} (h : Inv L pos dn ts) (CN : dn <= pos) (hp : pos < L.length) (hc : L.getD pos 0 = 32) : Inv L (pos + 1) dn ts := by
 have Hi : L[pos]? = some 32 := by rw [fv L pos hp, hc]
 refine ⟨hp, h.hd, ?_, fun i a b => by omega, Or.inl fun i a b => by omega, ?_⟩
 ·rw [h.lex, show max pos dn = pos by omega, show max (pos + 1) dn = pos + 1 by omega, dO L pos hp, if_pos (Or.inr Hi)]
 ·have := h.few; omega
theorem gU {L : List UInt8} {pos : Nat} (hp : pos < L.length) (h1 : L.getD pos 0 ≠ 10) (h2 : L.getD pos 0 ≠ 32) : ¬ (L[pos]? = some 10 \/ L[pos]? = some 32) := by
 intro h
 rcases h with h | h
 ·exact oR L pos 10 h1 hp h
 ·exact oR L pos 32 h2 hp h
theorem yj (L : List UInt8) (pos : Nat) (hp : pos < L.length) : pos + cE (L.drop pos) = L.length \/ L[pos + cE (L.drop pos)]? = some 10 := by
 have gF : ∀ l : List UInt8, (l.takeWhile fun c => c != 10).length = l.length \/ l[(l.takeWhile fun c => c != 10).length]? = some 10 := by
  intro l
  induction l with
  | nil => left; rfl
  | cons c r ih =>
   rw [List.takeWhile_cons]
   by_cases hc : c = 10
   ·right; simp [hc]
   ·have : (c != 10) = true := by simpa using hc
    rw [if_pos this]
    rcases ih with ih | ih
    ·left; simp [ih]
    ·right; simpa using ih
 rcases gF (L.drop pos) with k | k
 ·left; unfold cE; rw [k, List.length_drop]; omega
 ·right; rw [List.getElem?_drop] at k; exact k
theorem tB (L : List UInt8) (pos : Nat) (hp : pos < L.length) : pos + cE (L.drop pos) <= L.length := by
 have := fj (fun c => c != 10) (L.drop pos)
 rw [List.length_drop] at this
 unfold cE
 omega
theorem vY (L : List UInt8) (pos : Nat) (i : Nat) (h : i < cE (L.drop pos)) : L.getD (pos + i) 0 ≠ 10 := by
 have := iJ (fun c => c != 10) (L.drop pos) i h
 rw [cV] at this
 simpa using this
theorem kT (L : List UInt8) (pos : Nat) (h : gI (L.drop pos) = true) : pos < L.length /\ L.getD pos 0 = 45 := by
 have h2 : (L.drop pos).take 2 = [45, 45] := by simpa [gI] using h
 have hl : 0 < (L.drop pos).length := by
  refine Nat.pos_of_ne_zero fun e => ?_
  rw [List.length_eq_zero_iff.1 e] at h2
  cases h2
 rw [List.length_drop] at hl
 refine ⟨by omega, ?_⟩
 have h3 : ((L.drop pos).take 2).getD 0 0 = 45 := by rw [h2]; rfl
 have h4 := cV L pos 0
 rw [Nat.add_zero] at h4
 rw [<- h4]
 revert h3
 cases L.drop pos with
 | nil => intro h3; exact h3
 | cons a b => intro h3; exact h3
theorem yg {L : List UInt8} {pos dn : Nat} {ts : List TokP} (h : Inv L pos dn ts) (CN : dn <= pos) (hdash : gI (L.drop pos) = true) : Inv L (pos + 1) (pos + cE (L.drop pos)) ts := by
 obtain ⟨hp, Fr⟩ := kT L pos hdash
 have h1 : L.getD pos 0 ≠ 10 := by rw [Fr]; decide
 have h2 : L.getD pos 0 ≠ 32 := by rw [Fr]; decide
 have nP := jA (L.drop pos) (dm L pos hp) (by rw [<- kL, cV]; exact h1)
 have iL := tB L pos hp
 refine ⟨hp, iL, ?_, fun i a b => ?_, Or.inr (yj L pos hp), ?_⟩
 ·rw [h.lex, show max pos dn = pos by omega, show max (pos + 1) (pos + cE (L.drop pos)) = pos + cE (L.drop pos) by omega, dO L pos hp, if_neg (gU hp h1 h2), if_pos hdash]
 ·have := vY L pos (i - pos) (by omega)
  rw [show pos + (i - pos) = i by omega] at this
  exact oR L i 10 this (by omega)
 ·have := h.few; omega
theorem mJ (o : Option (List TokP)) (ts : List TokP) (t : TokP) : (o.map (t :: ·)).map (ts ++ ·) = o.map (ts ++ [t] ++ ·) := by
 cases o with
 | none => rfl
 | some x => simp
theorem Ee {L : List UInt8} {pos dn : Nat} {ts : List TokP} (h : Inv L pos dn ts) (CN : dn <= pos) (hp : pos < L.length) (h1 : L.getD pos 0 ≠ 10) (h2 : L.getD pos 0 ≠ 32) (hdash : gI (L.drop pos) = false) (hk : cr (L.drop pos) ≠ 0) :
 Inv L (pos + 1) (pos + bA (L.drop pos)) (ts ++ [jL L pos]) := by
 have nP := eX (L.drop pos) (dm L pos hp)
 obtain ⟨iL, Ci⟩ := jH (L.drop pos) (dm L pos hp) hk
 rw [List.length_drop] at iL
 refine ⟨hp, by omega, ?_, fun i a b => ?_, Or.inl fun i a b => ?_, ?_⟩
 ·rw [h.lex, show max pos dn = pos by omega, show max (pos + 1) (pos + bA (L.drop pos)) = pos + bA (L.drop pos) by omega, dO L pos hp, if_neg (gU hp h1 h2), hdash, if_neg (by decide), if_neg hk, mJ]
 ·have := (Ci (i - pos) (by omega)).2
  rw [cV, show pos + (i - pos) = i by omega] at this
  exact oR L i 10 this (by omega)
 ·have := (Ci (i - pos) (by omega)).1
  rw [cV, show pos + (i - pos) = i by omega] at this
  exact this
 ·have := h.few
  rw [List.length_append, List.length_singleton]
  omega
theorem DG {L : List UInt8} {pos dn : Nat} {ts : List TokP} (h : Inv L pos dn ts) (CN : dn <= pos) (hp : pos < L.length) (h1 : L.getD pos 0 ≠ 10) (h2 : L.getD pos 0 ≠ 32) (hdash : gI (L.drop pos) = false) (hk : cr (L.drop pos) = 0) : lu L = none := by
 have hn : cd L 0 = none := by
  rw [h.lex, show max pos dn = pos by omega, dO L pos hp, if_neg (gU hp h1 h2), hdash, if_neg (by decide), if_pos hk]
  rfl
 unfold lu
 rw [hn]
 split <;> rfl
theorem Es {L : List UInt8} {pos dn : Nat} {ts : List TokP} (h : Inv L pos dn ts) (hp : ¬ pos < L.length) : cd L 0 = some ts := by
 rw [h.lex, rP L _ (by have := h.hp; omega)]
 simp
theorem qS (L : List UInt8) (h : 1500 < L.length) : lu L = none := by
 unfold lu
 rw [if_neg (by omega)]
theorem nc (L : List UInt8) (ts : List TokP) (h : cd L 0 = some ts) (h2 : 400 <= ts.length) : lu L = none := by
 unfold lu
 rw [h]
 split
 ·show (if ts.length < 400 then _ else none) = none
  rw [if_neg (by omega)]
 ·rfl
theorem rk (L : List UInt8) (ts : List TokP) (hl : L.length <= 1500) (h : cd L 0 = some ts) (h2 : ts.length < 400) : lu L = some (ts ++ [⟨6, [], bN L L.length, L.length - db L L.length + 1⟩]) := by
 unfold lu
 rw [h, if_pos hl]
 show (if ts.length < 400 then _ else none) = _
 rw [if_pos h2]
end Go.Proofs.YtfomndilhlgikajGreatDoor
