/- The cursor of a draw. -/
import Derived.Test.YtndlhdeipicbpaaA
import Derived.BigQuiet
import Derived.Deep.QuietTactic
import Derived.Laws.BitsLemmas
namespace Go.Proofs.Ytndlhdeipicbpaa
open Go.RowKit

/-- The code's bytes, in memory below B. -/
def Code (B : Nat) (w : World) (o : Option Addr) (len : Nat) : Prop :=
  len ≤ 1048576 ∧ (0 < len → ∃ blk off, o = some ⟨blk, off, none⟩ ∧ blk < B ∧ ∀ j, j < len → ∃ x : Int, w.cell? ⟨blk, off + j, none⟩ = some (.int .u8 x) ∧ 0 ≤ x ∧ x ≤ 255)
/-- A cursor over them in block b. -/
def Cur (w : World) (b : Nat) (o : Option Addr) (len cap : Nat) : Prop :=
  ∃ (i : Nat) (h : Int), w.heap[b]? = some (.cells #[.slice o len cap, .int .i64 i, .int .i64 h] 59 (0, 0)) ∧ i ≤ len
/-- Nothing but block b has turned. -/
def Only (B b : Nat) (w w' : World) : Prop := Below B w w' ∧ ∀ k, k ≠ b → w'.heap[k]? = w.heap[k]?
theorem cell_of {w : World} {b : Nat} {c : Array Value} {t : TypeId} (h : w.heap[b]? = some (.cells c t (0, 0))) (i : Nat) : w.cell? ⟨b, i, none⟩ = c[i]? ∧ w.frozen? ⟨b, i, none⟩ = false := by
  constructor
  · simp [World.cell?, h]
  · simp [World.frozen?, h]
theorem code_below {B : Nat} {w w' : World} {o : Option Addr} {len : Nat} (h : Code B w o len) (hb : Below B w w') : Code B w' o len := by
  refine ⟨h.1, fun hl => ?_⟩
  obtain ⟨blk, off, rfl, hblk, hall⟩ := h.2 hl
  refine ⟨blk, off, rfl, hblk, fun j hj => ?_⟩
  obtain ⟨x, hx, r⟩ := hall j hj
  exact ⟨x, (hb.cell (p := ⟨blk, off + j, none⟩) hblk).trans hx, r⟩

theorem and_bound (x : Int) (m : Nat) (hm : m < 2147483648) : 0 ≤ bits .and .i64 x (m : Int) ∧ bits .and .i64 x (m : Int) ≤ m := by
  have hmm : m % 2 ^ IntKind.i64.bits = m := Nat.mod_eq_of_lt (by show m < 2 ^ 64; omega)
  have h : bits .and .i64 x (m : Int) = IntKind.i64.wrap (((BitVec.ofInt IntKind.i64.bits x).toNat &&& m : Nat) : Int) := by
    simp only [bits, BitVec.ofInt_natCast, BitVec.toNat_and, BitVec.toNat_ofNat, hmm]
  rw [h]
  have hle : (BitVec.ofInt IntKind.i64.bits x).toNat &&& m ≤ m := Nat.and_le_right
  generalize (BitVec.ofInt IntKind.i64.bits x).toNat &&& m = y at *
  rw [IntKind.wrap_i64]
  omega
theorem and_255 (x : Int) : 0 ≤ bits .and .i64 x 255 ∧ bits .and .i64 x 255 ≤ 255 := and_bound x 255 (by omega)
theorem and_mask (x : Int) : 0 ≤ bits .and .i64 x 1073741823 ∧ bits .and .i64 x 1073741823 ≤ 1073741823 := and_bound x 1073741823 (by omega)
theorem set_block {w : World} {b : Nat} {c : Array Value} {t : TypeId} (h : w.heap[b]? = some (.cells c t (0, 0))) (i : Nat) (v : Value) : (w.setCell ⟨b, i, none⟩ v).heap[b]? = some (.cells (c.setIfInBounds i v) t (0, 0)) := by
  unfold World.setCell
  simp [Array.getElem?_modify, h]
theorem only_set (B b : Nat) (w : World) (i : Nat) (v : Value) (hB : B ≤ b) : Only B b w (w.setCell ⟨b, i, none⟩ v) :=
  ⟨(Below.refl B w).setCell hB v, fun k hk => Below.heap_setCell w ⟨b, i, none⟩ v k hk⟩
theorem Only.trans {B b : Nat} {w w1 w2 : World} (h : Only B b w w1) (k : Only B b w1 w2) : Only B b w w2 := ⟨h.1.trans k.1, fun x hx => (k.2 x hx).trans (h.2 x hx)⟩
theorem Only.drewN {B b : Nat} {w w1 : World} (h : Only B b w w1) (n : Nat) : Only B b w (w1.drewN n) := ⟨below_drewN h.1 n, h.2⟩

set_option maxHeartbeats 2000000 in
set_option maxRecDepth 100000 in
theorem byte_any (B b len cap : Nat) (o : Option Addr) (w : World) (hcur : Cur w b o len cap) (hB : B ≤ b) (hcode : Code B w o len) :
    Calls Try.prog 41 #[.pointer (some ⟨b, 0, none⟩)] w fun e w' => ∃ x : Int, e = .returned (.int .i64 x) ∧ 0 ≤ x ∧ x ≤ 255 ∧ Cur w' b o len cap ∧ Only B b w w' := by
  obtain ⟨i, h, hb, hil⟩ := hcur
  have c0 := (cell_of hb 0).1
  have c1 := (cell_of hb 1).1
  have c2 := (cell_of hb 2).1
  have f2 := (cell_of hb 2).2
  have f1 := (cell_of hb 1).2
  simp at c0 c1 c2
  have hlen := hcode.1
  have HBB := hide hb
  clear hb
  by_cases hlt : (i : Int) < len
  · obtain ⟨blk, off, rfl, hblk, hall⟩ := hcode.2 (by omega)
    obtain ⟨y, hy, hy0, hy1⟩ := hall i (by omega)
    have hbne : blk ≠ b := by omega
    clear hcode hall
    go_enter Try.func41, Try.ntmps41
    go_wp2
    generalize wrap64 (wrap64 (h * 6364136223846793005) + 1442695040888963407) = h2
    go_quiet (fail)
    go_wp2
    have hx := and_255 (bits BinOp.xor IntKind.i64 (h2 / 8589934592) (h2 / 140737488355328))
    generalize bits BinOp.and IntKind.i64 (bits BinOp.xor IntKind.i64 (h2 / 8589934592) (h2 / 140737488355328)) 255 = x at hx ⊢
    obtain ⟨hx0, hx1⟩ := hx
    go_quiet (fail)
    go_wp2
    go_quiet (fail)
    go_wp2
    have hx2 := and_255 (x + y)
    generalize bits BinOp.and IntKind.i64 (x + y) 255 = x2 at hx2 ⊢
    go_ret
    refine ⟨x2, rfl, hx2.1, hx2.2, ⟨i + 1, h2, ?_, by omega⟩, ?_⟩
    · have h3 := set_block (set_block HBB.out 2 (.int .i64 h2)) 1 (.int .i64 ((i : Int) + 1))
      exact h3
    · exact ((only_set B b w 2 _ hB).drewN _).trans (only_set B b _ 1 _ hB)
  · clear hcode
    go_enter Try.func41, Try.ntmps41
    go_wp2
    generalize wrap64 (wrap64 (h * 6364136223846793005) + 1442695040888963407) = h2
    go_quiet (fail)
    go_wp2
    have hx := and_255 (bits BinOp.xor IntKind.i64 (h2 / 8589934592) (h2 / 140737488355328))
    generalize bits BinOp.and IntKind.i64 (bits BinOp.xor IntKind.i64 (h2 / 8589934592) (h2 / 140737488355328)) 255 = x at hx ⊢
    obtain ⟨hx0, hx1⟩ := hx
    go_quiet (fail)
    go_wp2
    go_ret
    refine ⟨x, rfl, hx0, hx1, ⟨i, h2, ?_, hil⟩, ?_⟩
    · have h3 := set_block HBB.out 2 (.int .i64 h2)
      exact h3
    · exact ((only_set B b w 2 _ hB).drewN _).drewN _

theorem Only.code {B b : Nat} {w w' : World} {o : Option Addr} {len : Nat} (h : Only B b w w') (hc : Code B w o len) : Code B w' o len := code_below hc h.1

set_option maxHeartbeats 2000000 in
theorem below_any (n : Int) (h1 : 1 ≤ n) (h2 : n ≤ 1000000) (B b len cap : Nat) (o : Option Addr) (w : World) (hcur : Cur w b o len cap) (hB : B ≤ b) (hcode : Code B w o len) :
    Calls Try.prog 18 #[.pointer (some ⟨b, 0, none⟩), .int .i64 n] w fun e w' => ∃ x : Int, e = .returned (.int .i64 x) ∧ 0 ≤ x ∧ x < n ∧ Cur w' b o len cap ∧ Only B b w w' := by
  have HCUR := hide hcur
  have HCODE := hide hcode
  clear hcur hcode
  have hn0 : ¬ n ≤ 0 := by omega
  by_cases h256 : n ≤ 256
  · go_enter Try.func18, Try.ntmps18
    go_wp2_with fail
    refine (byte_any B b len cap o _ HCUR.out hB HCODE.out).mono ?_
    rintro e w1 ⟨x, rfl, hx0, hx1, hc1, ho1⟩
    have HC1 := hide hc1
    have HO1 := hide ho1
    clear hc1 ho1
    go_wp2
    go_ret
    exact ⟨x % n, rfl, Int.emod_nonneg _ (by omega), Int.emod_lt_of_pos _ (by omega), HC1.out, HO1.out⟩
  · go_enter Try.func18, Try.ntmps18
    go_wp2_with fail
    refine (byte_any B b len cap o _ HCUR.out hB HCODE.out).mono ?_
    rintro e w1 ⟨x, rfl, hx0, hx1, hc1, ho1⟩
    have HC1 := hide hc1
    have HO1 := hide ho1
    clear hc1 ho1
    go_wp2_with fail
    refine (byte_any B b len cap o _ HC1.out hB (HO1.out.code HCODE.out)).mono ?_
    rintro e w2 ⟨y, rfl, hy0, hy1, hc2, ho2⟩
    have HC2 := hide hc2
    have HO2 := hide (HO1.out.trans ho2)
    clear hc2 ho2
    go_wp2_with fail
    refine (byte_any B b len cap o _ HC2.out hB (HO2.out.code HCODE.out)).mono ?_
    rintro e w3 ⟨z, rfl, hz0, hz1, hc3, ho3⟩
    have HC3 := hide hc3
    have HO3 := hide (HO2.out.trans ho3)
    clear hc3 ho3
    go_wp2
    go_ret
    exact ⟨(x * 65536 + y * 256 + z) % n, rfl, Int.emod_nonneg _ (by omega), Int.emod_lt_of_pos _ (by omega), HC3.out, HO3.out⟩

theorem once_any (n : Int) (h1 : 1 ≤ n) (h2 : n ≤ 1000000) (B b len cap : Nat) (o : Option Addr) (w : World) (hcur : Cur w b o len cap) (hB : B ≤ b) (hcode : Code B w o len) :
    Calls Try.prog 21 #[.pointer (some ⟨b, 0, none⟩), .int .i64 n] w fun e w' => ∃ x : Bool, e = .returned (.bool x) ∧ Cur w' b o len cap ∧ Only B b w w' := by
  go_enter Try.func21, Try.ntmps21
  go_wp2_with fail
  refine (below_any n h1 h2 B b len cap o _ hcur hB hcode).mono ?_
  rintro e w1 ⟨x, rfl, hx0, hx1, hc1, ho1⟩
  have HC1 := hide hc1
  have HO1 := hide ho1
  clear hc1 ho1
  go_wp2
  go_ret
  exact ⟨(x == 0), rfl, HC1.out, HO1.out⟩

/-- A list of texts in memory. -/
def Strs (w : World) (g n : Nat) (ss : List ByteArray) : Prop := ss.length = n ∧ g < w.heap.size ∧ ∀ i, i < n → w.cell? ⟨g, i, none⟩ = some (.string (ss.getD i ByteArray.empty))
theorem strs_only {B b : Nat} {w w' : World} {g n : Nat} {ss : List ByteArray} (h : Strs w g n ss) (ho : Only B b w w') (hg : g ≠ b) : Strs w' g n ss :=
  ⟨h.1, Nat.lt_of_lt_of_le h.2.1 ho.1.size, fun i hi => (World.cell?_of_block (w := w) (ho.2 g hg)).trans (h.2.2 i hi)⟩

set_option maxHeartbeats 1000000 in
theorem str_any (ss : List ByteArray) (g n : Nat) (h1 : 1 ≤ n) (h2 : n ≤ 1000) (B b len cap : Nat) (o : Option Addr) (w : World) (hcur : Cur w b o len cap) (hB : B ≤ b) (hcode : Code B w o len) (hs : Strs w g n ss) (hg : g ≠ b) :
    Calls Try.prog 19 #[.pointer (some ⟨b, 0, none⟩), .slice (some ⟨g, 0, none⟩) n n] w fun e w' => ∃ r : Nat, r < n ∧ e = .returned (.string (ss.getD r ByteArray.empty)) ∧ Cur w' b o len cap ∧ Only B b w w' := by
  have HS := hide hs
  clear hs
  go_enter Try.func19, Try.ntmps19
  go_wp2_with fail
  refine (below_any n (by omega) (by omega) B b len cap o _ hcur hB hcode).mono ?_
  rintro e w1 ⟨x, rfl, hx0, hx1, hc1, ho1⟩
  obtain ⟨r, rfl⟩ := Int.eq_ofNat_of_zero_le hx0
  have hc := (strs_only HS.out ho1 hg).2.2 r (by omega)
  generalize ht : ss.getD r ByteArray.empty = t at hc
  have HT := hide ht
  clear ht
  have HC1 := hide hc1
  have HO1 := hide ho1
  clear hc1 ho1
  go_wp2
  go_ret
  exact ⟨r, by omega, by rw [HT.out]; rfl, HC1.out, HO1.out⟩

set_option maxHeartbeats 1000000 in
theorem new_any (len cap : Nat) (o : Option Addr) (w : World) (hcode : Code w.heap.size w o len) :
    Calls Try.prog 16 #[.slice o len cap] w fun e w' => e = .returned (.pointer (some ⟨w.heap.size, 0, none⟩)) ∧ Cur w' w.heap.size o len cap ∧ Below w.heap.size w w' := by
  have hlen := hcode.1
  have HCODE := hide hcode
  clear hcode
  go_enter Try.func16, Try.ntmps16
  go_wp2
  go_loop [3, 4] (fun t3 t4 => ∃ (h : Int) (i : Nat), t3 = .int .i64 h ∧ t4 = .int .i64 i ∧ i ≤ len ∧ 0 ≤ h ∧ h ≤ 1073741823) (fun _ t4 => len - (intOf t4).toNat)
  case atStart => exact ⟨_, 0, rfl, rfl, Nat.zero_le _, by omega, by omega⟩
  case round =>
    obtain ⟨h, i, rfl, rfl, hil, hh0, hh1⟩ := hrel
    by_cases hlt : (i : Int) < len
    · obtain ⟨blk, off, rfl, hblk, hall⟩ := HCODE.out.2 (by omega)
      obtain ⟨y, hy, hy0, hy1⟩ := hall i (by omega)
      clear hall
      by_cases h4 : (i : Int) < 4000
      · go_wp2
        have hm := and_mask (h * 137 + y + 11)
        go_round
        case rel => exact ⟨_, i + 1, rfl, by go_num, by omega, hm.1, hm.2⟩
        case measure => simp [intOf]; omega
      · go_wp2
        go_ret
        exact ⟨rfl, ⟨0, h, heap_alloc_new _ _, Nat.zero_le _⟩, (Below.refl _ _).alloc (Nat.le_refl _) _⟩
    · go_wp2
      go_ret
      exact ⟨rfl, ⟨0, h, heap_alloc_new _ _, Nat.zero_le _⟩, (Below.refl _ _).alloc (Nat.le_refl _) _⟩
end Go.Proofs.Ytndlhdeipicbpaa
