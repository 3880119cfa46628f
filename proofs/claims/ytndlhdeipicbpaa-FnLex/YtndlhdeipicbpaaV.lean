/- What is drawn: texts of a bounded length. -/
import Derived.Test.YtndlhdeipicbpaaU
import Derived.Deep.RegionWith
import Derived.Laws.MakeOwn
import Derived.Laws.IdiomStrings
import Derived.Laws.OwnMore
namespace Go.Proofs.Ytndlhdeipicbpaa
open Go.RowKit

def StrsLe (w : World) (g n M : Nat) : Prop := g < w.heap.size ∧ ∀ i, i < n → ∃ t, w.cell? ⟨g, i, none⟩ = some (.string t) ∧ t.size ≤ M
def strLe (M : Nat) (v : Value) : Bool := match v with | .string t => decide (t.size ≤ M) | _ => false
theorem strLe_of {M : Nat} {v : Value} (h : strLe M v = true) : ∃ t, v = .string t ∧ t.size ≤ M := by
  cases v with
  | string t => exact ⟨t, rfl, by simpa [strLe] using h⟩
  | _ => simp [strLe] at h
theorem strs_lit (w : World) (c : Array Value) (e : TypeId) (n M : Nat) (hn : c.size = n) (h : c.all (strLe M) = true) : StrsLe (w.alloc (.cells c e)) w.heap.size n M := by
  refine ⟨by simp, fun i hi => ?_⟩
  have hi2 : i < c.size := by omega
  have hv : strLe M c[i] = true := by
    rw [Array.all_eq_true] at h
    exact h i hi2
  obtain ⟨t, ht, hM⟩ := strLe_of hv
  refine ⟨t, ?_, hM⟩
  rw [World.cell?_alloc_new, Array.getElem?_eq_getElem hi2, ht]
theorem strsLe_only {B b : Nat} {w w' : World} {g n M : Nat} (h : StrsLe w g n M) (ho : Only B b w w') (hg : g ≠ b) : StrsLe w' g n M := by
  refine ⟨Nat.lt_of_lt_of_le h.1 ho.1.size, fun i hi => ?_⟩
  obtain ⟨t, ht, hM⟩ := h.2 i hi
  exact ⟨t, (World.cell?_of_block (w := w) (ho.2 g hg)).trans ht, hM⟩

set_option maxHeartbeats 1000000 in
theorem strLe_any (g n M : Nat) (h1 : 1 ≤ n) (h2 : n ≤ 1000) (B b len cap : Nat) (o : Option Addr) (w : World) (hcur : Cur w b o len cap) (hB : B ≤ b) (hcode : Code B w o len) (hs : StrsLe w g n M) (hg : g ≠ b) :
    Calls Try.prog 19 #[.pointer (some ⟨b, 0, none⟩), .slice (some ⟨g, 0, none⟩) n n] w fun e w' => ∃ t : ByteArray, e = .returned (.string t) ∧ t.size ≤ M ∧ Cur w' b o len cap ∧ Only B b w w' := by
  have HS := hide hs
  clear hs
  go_enter Try.func19, Try.ntmps19
  go_wp2_with fail
  refine (below_any n (by omega) (by omega) B b len cap o _ hcur hB hcode).mono ?_
  rintro e w1 ⟨x, rfl, hx0, hx1, hc1, ho1⟩
  obtain ⟨r, rfl⟩ := Int.eq_ofNat_of_zero_le hx0
  obtain ⟨t, hc, hM⟩ := (strsLe_only HS.out ho1 hg).2 r (by omega)
  have HC1 := hide hc1
  have HO1 := hide ho1
  clear hc1 ho1
  go_wp2
  go_ret
  exact ⟨t, rfl, hM, HC1.out, HO1.out⟩

theorem Cur.lt {w : World} {b : Nat} {o : Option Addr} {len cap : Nat} (h : Cur w b o len cap) : b < w.heap.size := by
  obtain ⟨i, h, hb, _⟩ := h
  exact (Array.getElem?_eq_some_iff.1 hb).1
theorem Cur.alloc {w : World} {b : Nat} {o : Option Addr} {len cap : Nat} (h : Cur w b o len cap) (x : Obj) : Cur (w.alloc x) b o len cap := by
  have hlt := h.lt
  obtain ⟨i, h, hb, hi⟩ := h
  exact ⟨i, h, (Below.heap_alloc w x b hlt).trans hb, hi⟩
theorem Code.alloc {B : Nat} {w : World} {o : Option Addr} {len : Nat} (h : Code B w o len) (hB : B ≤ w.heap.size) (x : Obj) : Code B (w.alloc x) o len := code_below h ((Below.refl B w).alloc hB x)

theorem Cur.drew {w : World} {b : Nat} {o : Option Addr} {len cap : Nat} (h : Cur w b o len cap) : Cur w.drew b o len cap := h
theorem Code.drew {B : Nat} {w : World} {o : Option Addr} {len : Nat} (h : Code B w o len) : Code B w.drew o len := h
theorem strs_lit_drew (w : World) (c : Array Value) (e : TypeId) (n M : Nat) (hn : c.size = n) (h : c.all (strLe M) = true) : StrsLe (w.alloc (.cells c e)).drew w.heap.size n M := strs_lit w c e n M hn h
theorem byte_info : (Try.prog.info? 5).map (fun i => (i.zero, i.size, i.bytes)) = some (some (.int .u8 0), 1, 1) := by kernel_rfl
theorem make_bytes (n : Nat) (hn : n ≤ 100000) (w : World) : (Instr.makeSlice 22 (.int .i64 n) (.int .i64 n)).run Try.prog w = .ok (.slice (some ⟨w.heap.size, 0, none⟩) n n) (w.alloc (.cells (madeCells #[.int .u8 0] n) 5)) := by
  obtain ⟨i0, hi, hz0, hz1, hz2⟩ := info_parts byte_info
  have h := run_make (P := Try.prog) w 22 5 i0 (.int .u8 0) Try.underlying22 hi hz0 .i64 .i64 (n : Int) (n : Int) (by omega) (by omega) (by rw [hz2]; omega) (by omega)
  rw [hz1, Nat.mul_one, Int.toNat_natCast] at h
  exact h
theorem zero_string (n : Nat) (w : World) : (convert 22 9 (.slice (some ⟨w.heap.size, 0, none⟩) n n)).run Try.prog (w.alloc (.cells (madeCells #[.int .u8 0] n) 5)) = .ok (.string ⟨(List.replicate n (0 : UInt8)).toArray⟩) (w.alloc (.cells (madeCells #[.int .u8 0] n) 5)) := by
  have h := run_convert_bytes_back (P := Try.prog) (w.alloc (.cells (madeCells #[.int .u8 0] n) 5)) 22 9 5 ⟨w.heap.size, 0, none⟩ n (List.replicate n (0 : UInt8)) Try.underlying22 Try.underlying5 Try.underlying9 (by
    intro j hj
    rw [List.length_replicate] at hj
    have ea : (⟨w.heap.size, 0, none⟩ : Addr).add j = ⟨w.heap.size, j, none⟩ := by cases j <;> simp [Addr.add]
    rw [ea, World.cell?_alloc_new, ← Array.getElem?_toList, toList_madeCells_one, List.getElem?_replicate, if_pos hj, List.getElem_replicate]
    rfl)
  rw [List.length_replicate] at h
  exact h

set_option maxHeartbeats 1000000 in
theorem word_any (B b len cap : Nat) (o : Option Addr) (w : World) (hcur : Cur w b o len cap) (hB : B ≤ b) (hcode : Code B w o len) :
    Calls Try.prog 40 #[.pointer (some ⟨b, 0, none⟩)] w fun e w' => ∃ t : ByteArray, e = .returned (.string t) ∧ t.size ≤ 5 ∧ Cur w' b o len cap ∧ Below B w w' := by
  have hlt := hcur.lt
  have HCUR := hide hcur
  have HCODE := hide hcode
  clear hcur hcode
  go_enter Try.func40, Try.ntmps40
  go_wp2_with fail
  refine (strLe_any w.heap.size 31 5 (by omega) (by omega) B b len cap o _ (HCUR.out.alloc _) hB (HCODE.out.alloc (by omega) _) (strs_lit _ _ _ _ _ rfl (by kernel_rfl)) (by omega)).mono ?_
  rintro e w1 ⟨t, rfl, ht, hc1, ho1⟩
  have HC1 := hide hc1
  have HO1 := hide (((Below.refl B w).alloc (by omega) _).trans ho1.1)
  clear hc1 ho1
  go_wp2
  go_ret
  exact ⟨t, rfl, ht, HC1.out, HO1.out⟩

set_option maxHeartbeats 1000000 in
theorem prog_any (B b len cap : Nat) (o : Option Addr) (w : World) (hcur : Cur w b o len cap) (hB : B ≤ b) (hcode : Code B w o len) :
    Calls Try.prog 20 #[.pointer (some ⟨b, 0, none⟩)] w fun e w' => ∃ t : ByteArray, e = .returned (.string t) ∧ t.size ≤ 200 ∧ Cur w' b o len cap ∧ Below B w w' := by
  have hlt := hcur.lt
  have HCUR := hide hcur
  have HCODE := hide hcode
  clear hcur hcode
  go_enter Try.func20, Try.ntmps20
  go_wp2_with fail
  refine (strLe_any w.heap.size 9 200 (by omega) (by omega) B b len cap o _ (HCUR.out.alloc _) hB (HCODE.out.alloc (by omega) _) (strs_lit _ _ _ _ _ rfl (by kernel_rfl)) (by omega)).mono ?_
  rintro e w1 ⟨t, rfl, ht, hc1, ho1⟩
  have HC1 := hide hc1
  have HO1 := hide (((Below.refl B w).alloc (by omega) _).trans ho1.1)
  clear hc1 ho1
  go_wp2
  go_ret
  exact ⟨t, rfl, ht, HC1.out, HO1.out⟩

set_option maxHeartbeats 1000000 in
theorem text_any (B b len cap : Nat) (o : Option Addr) (w : World) (hcur : Cur w b o len cap) (hB : B ≤ b) (hcode : Code B w o len) :
    Calls Try.prog 17 #[.pointer (some ⟨b, 0, none⟩)] w fun e w' => ∃ t : ByteArray, e = .returned (.string t) ∧ t.size ≤ 130 ∧ Cur w' b o len cap ∧ Below B w w' := by
  have HCODE := hide hcode
  go_enter Try.func17, Try.ntmps17
  go_wp2_with fail
  refine (below_any 14 (by omega) (by omega) B b len cap o _ hcur hB hcode).mono ?_
  rintro e w1 ⟨x, rfl, hx0, hx1, hc1, ho1⟩
  obtain ⟨r, rfl⟩ := Int.eq_ofNat_of_zero_le hx0
  have HC1 := hide hc1
  have HO1 := hide ho1
  clear hc1 ho1 hcur hcode
  go_wp2
  go_loopw [3, 4] (fun t3 t4 wr => ∃ (t : ByteArray) (i : Nat), t3 = .string t ∧ t4 = .int .i64 i ∧ i ≤ 13 ∧ t.size + 10 * i ≤ 130 ∧ Cur wr b o len cap ∧ Below B w wr) (fun _ t4 _ => (intOf t4).toNat)
  case atStart => exact ⟨⟨#[]⟩, r, rfl, rfl, by omega, by show 0 + 10 * r ≤ 130; omega, HC1.out, HO1.out.1⟩
  case round =>
    obtain ⟨t, i, rfl, rfl, hi, hti, hcr, hbw⟩ := hrel
    have HC := hide hcr
    have HBW := hide hbw
    clear hcr hbw
    by_cases hpos : (0 : Int) < i
    · go_wp2_with fail
      refine (word_any B b len cap o _ HC.out hB (code_below HCODE.out HBW.out)).mono ?_
      rintro e w2 ⟨t2, rfl, ht2, hc2, hb2⟩
      have hlt := hc2.lt
      have HC2 := hide hc2
      have HB2 := hide (HBW.out.trans hb2)
      clear hc2 hb2
      go_wp2_with fail
      refine (strLe_any w2.heap.size 7 5 (by omega) (by omega) B b len cap o _ (HC2.out.alloc _) hB ((code_below HCODE.out HB2.out).alloc (by omega) _) (strs_lit _ _ _ _ _ rfl (by kernel_rfl)) (by omega)).mono ?_
      rintro e w3 ⟨t3, rfl, ht3, hc3, ho3⟩
      have HC3 := hide hc3
      have HB3 := hide ((HB2.out.alloc (by omega) _).trans ho3.1)
      clear hc3 ho3
      have hsz : (t ++ t2).size = t.size + t2.size := ByteArray.size_append
      go_wp2
      refine ⟨⟨t ++ t2 ++ t3, i - 1, rfl, ?_, by omega, ?_, HC3.out, HB3.out⟩, by simp [intOf]; omega⟩
      · rw [show ((i - 1 : Nat) : Int) = (i : Int) - 1 by omega]
      · rw [ByteArray.size_append, ByteArray.size_append]; omega
    · go_wp2
      go_ret
      exact ⟨t, rfl, by omega, HC.out, HBW.out⟩

set_option maxHeartbeats 1000000 in
theorem drawNameOk_any (len cap : Nat) (o : Option Addr) (w : World) (hcode : Code w.heap.size w o len) :
    Calls Try.prog 8 #[.slice o len cap] w fun e w' => ∃ t : ByteArray, e = .returned (.string t) ∧ t.size ≤ 9 ∧ Below w.heap.size w w' := by
  have HCODE := hide hcode
  go_enter Try.func8, Try.ntmps8
  go_wp2_with fail
  refine (new_any len cap o _ hcode).mono ?_
  rintro e w1 ⟨rfl, hc1, hb1⟩
  have hlt := hc1.lt
  have HC1 := hide hc1
  have HB1 := hide hb1
  clear hc1 hb1 hcode
  go_wp2_with fail
  refine (strLe_any w1.heap.size 11 9 (by omega) (by omega) w.heap.size w.heap.size len cap o _ (HC1.out.alloc _) (Nat.le_refl _) ((code_below HCODE.out HB1.out).alloc (by omega) _) (strs_lit _ _ _ _ _ rfl (by kernel_rfl)) (by omega)).mono ?_
  rintro e w2 ⟨t, rfl, ht, hc2, ho2⟩
  have HB2 := hide ((HB1.out.alloc (by omega) _).trans ho2.1)
  clear hc2 ho2
  go_wp2
  go_ret
  exact ⟨t, rfl, ht, HB2.out⟩

set_option maxHeartbeats 1000000 in
theorem drawGreatOk_any (len cap : Nat) (o : Option Addr) (w : World) (hcode : Code w.heap.size w o len) :
    Calls Try.prog 9 #[.slice o len cap] w fun e w' => ∃ t : ByteArray, e = .returned (.string t) ∧ t.size ≤ 9 ∧ Below w.heap.size w w' := by
  have HCODE := hide hcode
  go_enter Try.func9, Try.ntmps9
  go_wp2_with fail
  refine (new_any len cap o _ hcode).mono ?_
  rintro e w1 ⟨rfl, hc1, hb1⟩
  have hlt := hc1.lt
  have HC1 := hide hc1
  have HB1 := hide hb1
  clear hc1 hb1 hcode
  go_wp2_with fail
  refine (strLe_any w1.heap.size 8 9 (by omega) (by omega) w.heap.size w.heap.size len cap o _ (HC1.out.alloc _) (Nat.le_refl _) ((code_below HCODE.out HB1.out).alloc (by omega) _) (strs_lit _ _ _ _ _ rfl (by kernel_rfl)) (by omega)).mono ?_
  rintro e w2 ⟨t, rfl, ht, hc2, ho2⟩
  have HB2 := hide ((HB1.out.alloc (by omega) _).trans ho2.1)
  clear hc2 ho2
  go_wp2
  go_ret
  exact ⟨t, rfl, ht, HB2.out⟩

set_option maxHeartbeats 2000000 in
set_option maxRecDepth 100000 in
theorem drawLex_any (len cap : Nat) (o : Option Addr) (w : World) (hcode : Code w.heap.size w o len) :
    Calls Try.prog 5 #[.slice o len cap] w fun e w' => ∃ t : ByteArray, e = .returned (.string t) ∧ t.size ≤ 2000 ∧ Below w.heap.size w w' := by
  have HCODE := hide hcode
  go_enter Try.func5, Try.ntmps5
  go_wp2_with fail
  refine (new_any len cap o _ hcode).mono ?_
  rintro e w1 ⟨rfl, hc1, hb1⟩
  have HC1 := hide hc1
  have HB1 := hide hb1
  clear hc1 hb1 hcode
  go_wp2_with fail
  refine (text_any w.heap.size w.heap.size len cap o _ HC1.out (Nat.le_refl _) (code_below HCODE.out HB1.out)).mono ?_
  rintro e w2 ⟨t, rfl, ht, hc2, hb2⟩
  have HC2 := hide hc2
  have HB2 := hide (HB1.out.trans hb2)
  clear hc2 hb2
  go_wp2_with fail
  refine (below_any 8 (by omega) (by omega) w.heap.size w.heap.size len cap o _ HC2.out (Nat.le_refl _) (code_below HCODE.out HB2.out)).mono ?_
  rintro e w3 ⟨x, rfl, hx0, hx1, hc3, ho3⟩
  have hlt := hc3.lt
  have HC3 := hide hc3
  have HB3 := hide (HB2.out.trans ho3.1)
  clear hc3 ho3
  by_cases h0 : x = 0
  · subst h0
    go_wp2_with fail
    refine (strLe_any w3.heap.size 10 9 (by omega) (by omega) w.heap.size w.heap.size len cap o _ (HC3.out.alloc _) (Nat.le_refl _) ((code_below HCODE.out HB3.out).alloc (by omega) _) (strs_lit _ _ _ _ _ rfl (by kernel_rfl)) (by omega)).mono ?_
    rintro e w4 ⟨t4, rfl, ht4, hc4, ho4⟩
    have HB4 := hide ((HB3.out.alloc (by omega) _).trans ho4.1)
    clear hc4 ho4
    go_wp2
    go_ret
    exact ⟨t ++ t4, rfl, by rw [ByteArray.size_append]; omega, HB4.out⟩
  have e0 : (x == 0) = false := by simp [h0]
  by_cases h1 : x = 1
  · subst h1
    go_wp2_with fail
    refine (below_any ((t.size : Int) + 1) (by omega) (by omega) w.heap.size w.heap.size len cap o _ HC3.out (Nat.le_refl _) (code_below HCODE.out HB3.out)).mono ?_
    rintro e w4 ⟨y, rfl, hy0, hy1, hc4, ho4⟩
    obtain ⟨k, rfl⟩ := Int.eq_ofNat_of_zero_le hy0
    have hlt4 := hc4.lt
    have HC4 := hide hc4
    have HB4 := hide (HB3.out.trans ho4.1)
    clear hc4 ho4
    have hkl : (k : Int) ≤ t.size := by omega
    go_wp2_with fail
    go_region_with ((go_at_call 19; refine (strLe_any w4.heap.size 5 9 (by omega) (by omega) w.heap.size w.heap.size len cap o _ ?_ (Nat.le_refl _) ?_ ?_ (by omega)).mono ?_; (first | exact HC4.out.alloc _ | exact (HC4.out.alloc _).drew); (first | exact (code_below HCODE.out HB4.out).alloc (by omega) _ | exact ((code_below HCODE.out HB4.out).alloc (by omega) _).drew); (first | exact strs_lit _ _ _ _ _ rfl (by kernel_rfl) | exact strs_lit_drew _ _ _ _ _ rfl (by kernel_rfl)); rintro e w6 ⟨t6, rfl, ht6, hc6, ho6⟩))
    all_goals
      have HB6 : Hid (Below w.heap.size w w6) := ((HB4.out.alloc (by omega) _).drew).trans ho6.1
      clear hc6 ho6
      go_wp2
      go_ret
      refine ⟨t.extract 0 k ++ t6 ++ t.extract k t.size, rfl, ?_, HB6.out⟩
      rw [ByteArray.size_append, ByteArray.size_append]
      have h1 : (t.extract 0 k).size ≤ t.size := by rw [ByteArray.size_extract]; omega
      have h2 : (t.extract k t.size).size ≤ t.size := by rw [ByteArray.size_extract]; omega
      omega
  have e1 : (x == 1) = false := by simp [h1]
  by_cases h2 : x = 2
  · subst h2
    go_wp2_with fail
    refine (prog_any w.heap.size w.heap.size len cap o _ HC3.out (Nat.le_refl _) (code_below HCODE.out HB3.out)).mono ?_
    rintro e w4 ⟨t4, rfl, ht4, hc4, hb4⟩
    have HB4 := hide (HB3.out.trans hb4)
    clear hc4 hb4
    go_wp2
    go_ret
    exact ⟨t4, rfl, by omega, HB4.out⟩
  have e2 : (x == 2) = false := by simp [h2]
  go_wp2_with fail
  refine (once_any 60 (by omega) (by omega) w.heap.size w.heap.size len cap o _ HC3.out (Nat.le_refl _) (code_below HCODE.out HB3.out)).mono ?_
  rintro e w4 ⟨y, rfl, hc4, ho4⟩
  have HC4 := hide hc4
  have HB4 := hide (HB3.out.trans ho4.1)
  clear hc4 ho4
  cases y
  · go_wp2
    go_ret
    exact ⟨t, rfl, by omega, HB4.out⟩
  · go_wp2_with fail
    refine (below_any 2 (by omega) (by omega) w.heap.size w.heap.size len cap o _ HC4.out (Nat.le_refl _) (code_below HCODE.out HB4.out)).mono ?_
    rintro e w5 ⟨z, rfl, hz0, hz1, hc5, ho5⟩
    obtain ⟨m, rfl⟩ := Int.eq_ofNat_of_zero_le hz0
    have HB5 := hide (HB4.out.trans ho5.1)
    clear hc5 ho5
    have hmk := make_bytes (1500 + m) (by omega)
    have hcv := zero_string (1500 + m)
    rw [show ((1500 + m : Nat) : Int) = 1500 + (m : Int) by omega] at hmk
    go_wp2
    go_ret
    refine ⟨⟨(List.replicate (1500 + m) (0 : UInt8)).toArray⟩, rfl, ?_, HB5.out.alloc HB5.out.size _⟩
    show (List.replicate (1500 + m) (0 : UInt8)).toArray.size ≤ 2000
    rw [List.size_toArray, List.length_replicate]
    omega
end Go.Proofs.Ytndlhdeipicbpaa
