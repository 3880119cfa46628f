/- Made of EG, EH, EI, EJ. -/
import Derived.Test.YteoghpefilghdamDoorGE
import Derived.Shelf.Strings.BuilderK
import Derived.Test.YteoghpefilghdamDoorShelf
import Derived.Lib.AppendIntMem
namespace Go.Proofs.YteoghpefilghdamDoor
open Go.ChangeShapes Go.WideShapes Go.ChangeAt Go.RowKit
set_option linter.unusedVariables false

theorem info_builder : ∃ j, Tryd.prog.info? 40 = some j ∧ j.size = 2 := Option.map_eq_some_iff.1 (show (Tryd.prog.info? 40).map (·.size) = some 2 by kernel_rfl)
theorem lies_page : liesAt Tryd.prog Tryd.prog.depth 42 (2 / Tryd.prog.cellsOf 42) 0 40 1 = true := by kernel_rfl
set_option maxHeartbeats 1000000 in
set_option maxRecDepth 100000 in
theorem check_fresh (b : Nat) (w : World) (h0 : w.cell? ⟨b, 0, none⟩ = some (.pointer none)) (hsh : w.shape? b = some (42, 2)) (hfz : w.frozen? ⟨b, 0, none⟩ = false) :
    Calls Tryd.prog 21 #[.pointer (some ⟨b, 0, none⟩)] w fun e w' => e = .returned (.tuple #[]) ∧ w' = w.setCell ⟨b, 0, none⟩ (.pointer (some ⟨b, 0, none⟩)) := by
  obtain ⟨j, hj, hjs⟩ := info_builder
  have r1 : (convert 37 56 (.pointer (some ⟨b, 0, none⟩))).run Tryd.prog w = .ok (.pointer (some ⟨b, 0, none⟩)) w := by
    simp [convert, run_underlying Tryd.underlying37, run_underlying Tryd.underlying56, Conv.unsafePointer, Conv.seenAt, viewAt, cellsIn, hsh, sizeOf, typeInfo, hj, hjs]
  have r2 : (convert 56 37 (.pointer (some ⟨b, 0, none⟩))).run Tryd.prog w = .ok (.pointer (some ⟨b, 0, none⟩)) w := by
    simp [convert, run_underlying Tryd.underlying37, run_underlying Tryd.underlying56, Conv.unsafePointer, Conv.seenAt, viewAt, hsh, variablesAt, lies_page, sizeOf, typeInfo, hj]
  go_enter Tryd.func21, Tryd.ntmps21
  go_wp2
  rw [run_callFunc_extern Tryd.func23 (by kernel_rfl) (by kernel_rfl) (by kernel_rfl) (e := Extern.AbiNoEscape.same) (by kernel_rfl)]
  rw [Lib.run_noEscape]
  simp only [Result.andThen]
  rw [Oper.upon_value]
  go_wp2
  go_end0
  exact ⟨rfl, rfl⟩
set_option maxHeartbeats 1000000 in
set_option maxRecDepth 100000 in
theorem check_used (b : Nat) (w : World) (h0 : w.cell? ⟨b, 0, none⟩ = some (.pointer (some ⟨b, 0, none⟩))) :
    Calls Tryd.prog 21 #[.pointer (some ⟨b, 0, none⟩)] w fun e w' => e = .returned (.tuple #[]) ∧ w' = w := by
  obtain ⟨j, hj, -⟩ := info_builder
  have r1 := Lib.run_neq_ptr_same w ⟨b, 0, none⟩ Tryd.underlying37 hj
  go_enter Tryd.func21, Tryd.ntmps21
  go_wp2
  go_end0
  exact ⟨rfl, rfl⟩
theorem check_page (B b : Nat) (bs : List Value) (w : World) (h : Lib.IsBuilderF 42 5 B b bs w) :
    Calls Tryd.prog 21 #[.pointer (some ⟨b, 0, none⟩)] w fun e w' => e = .returned (.tuple #[]) ∧ (Lib.BuilderAtF 42 5 B b (.pointer (some ⟨b, 0, none⟩)) bs w' ∧ Below B w w' ∧ Lib.OthersKept 5 (some b) w w') := by
  rcases h with h | h
  · refine (check_fresh b w h.cell0 h.shape h.frozen0).mono ?_
    rintro e w' ⟨rfl, rfl⟩
    exact ⟨rfl, h.used _, (Below.refl B w).setCell (p := ⟨b, 0, none⟩) h.1 _, (Lib.OthersKept.refl _ _ w).setCell ⟨b, 0, none⟩ rfl _⟩
  · refine (check_used b w h.cell0).mono ?_
    rintro e w' ⟨rfl, rfl⟩
    exact ⟨rfl, h, Below.refl B _, Lib.OthersKept.refl _ _ _⟩
/-- The bytes on a page whose block is b; nothing of it lies below B. -/
def Pg (B b : Nat) (l : List UInt8) (w : World) : Prop := Lib.IsBuilderF 42 5 B b (Lib.byteCells l) w ∧ B ≤ w.heap.size
/-- What a call that writes on a page leaves as it was. -/
structure Fr (B b : Nat) (w w' : World) : Prop where
  below : Below B w w'
  others : Lib.OthersKept 5 (some b) w w'
theorem Fr.refl (B b : Nat) (w : World) : Fr B b w w := ⟨Below.refl _ _, Lib.OthersKept.refl _ _ _⟩
theorem Fr.trans {B b : Nat} {a c d : World} (h : Fr B b a c) (k : Fr B b c d) : Fr B b a d := ⟨h.below.trans k.below, h.others.trans k.others⟩
theorem Fr.of {B b : Nat} {w w' : World} (h : Below w.heap.size w w') (hB : B ≤ w.heap.size) : Fr B b w w' := ⟨h.mono hB, fun k o hk _ _ => (h.block k (Array.getElem?_eq_some_iff.1 hk).1).trans hk⟩
theorem Pg.lt {B b : Nat} {l : List UInt8} {w : World} (h : Pg B b l w) : b < w.heap.size ∧ B ≤ b := by
  rcases h.1 with h | h
  · exact ⟨h.lt, h.1⟩
  · exact ⟨h.lt, h.1⟩
theorem byte_ne : 42 ≠ 5 := by decide
theorem owned_keeps {w w' : World} {B : Nat} {v : Value} {n : Nat} {xs : List Value} (h : w.ownsRowF B 5 1 v n xs) (hb : Below w.heap.size w w') : w'.ownsRowF B 5 1 v n xs := by
  refine ⟨h.1, ?_⟩
  rcases h.2 with h | ⟨g, cap, cur, fz, hv, hbg, hg, r⟩
  · exact .inl h
  · exact .inr ⟨g, cap, cur, fz, hv, hbg, (hb.block g (Array.getElem?_eq_some_iff.1 hg).1).trans hg, r⟩
theorem at_keeps {B b : Nat} {p : Value} {bs : List Value} {w w' : World} (h : Lib.BuilderAtF 42 5 B b p bs w) (hb : Below w.heap.size w w') : Lib.BuilderAtF 42 5 B b p bs w' := by
  obtain ⟨hB, v, hbk, hown, hne⟩ := h
  exact ⟨hB, v, (hb.block b (Array.getElem?_eq_some_iff.1 hbk).1).trans hbk, owned_keeps hown hb, hne⟩
/-- A page is as it was where nothing that was there is written. -/
theorem Pg.later {B b : Nat} {l : List UInt8} {w w' : World} (h : Pg B b l w) (hb : Below w.heap.size w w') : Pg B b l w' :=
  ⟨h.1.elim (fun x => .inl (at_keeps x hb)) (fun x => .inr (at_keeps x hb)), Nat.le_trans h.2 hb.size⟩
theorem fresh_page (w : World) : Pg w.heap.size w.heap.size [] (w.alloc (.cells #[.pointer none, .slice none 0 0] 42)) :=
  ⟨.inl ⟨Nat.le_refl _, .slice none 0 0, heap_alloc_new w _, ⟨rfl, .inl ⟨rfl, rfl⟩⟩, by simp [Value.ownBlock]⟩, Nat.le_of_lt (heap_lt (heap_alloc_new w _))⟩
theorem str_cells (s : ByteArray) : Lib.strCells s = Lib.byteCells (bl s) := rfl

theorem info_u8 : ∃ i, Tryd.prog.info? 5 = some i ∧ i.zero = some (.int .u8 0) ∧ i.size = 1 ∧ i.bytes = 1 := by
  have h1 : ((Tryd.prog.info? 5).map fun i => (i.zero, i.size, i.bytes)) = some (some (.int .u8 0), 1, 1) := by kernel_rfl
  obtain ⟨i, hi, he⟩ := Option.map_eq_some_iff.1 h1
  simp only [Prod.mk.injEq] at he
  exact ⟨i, hi, he⟩
set_option maxHeartbeats 2000000 in
set_option maxRecDepth 100000 in
theorem write_page (B b : Nat) (l : List UInt8) (s : ByteArray) (w : World) (h : Pg B b l w) (hlen : l.length + s.size ≤ 100000000) :
    Calls Tryd.prog 19 #[.pointer (some ⟨b, 0, none⟩), .string s] w fun e w' => e = .returned (.tuple #[.int .i64 s.size, .nilIface]) ∧ Pg B b (l ++ bl s) w' ∧ Fr B b w w' := by
  obtain ⟨i0, hi, hz0, hz1, hz2⟩ := info_u8
  have hBw := h.2
  have H := hide h
  have hll : (Lib.byteCells l).length = l.length := Lib.byteCells_length l
  clear h
  go_enter Tryd.func19, Tryd.ntmps19
  go_wp2_with fail
  refine (check_page B b _ _ H.out.1).mono ?_
  rintro e w1 ⟨rfl, h1, hb1, hk1⟩
  obtain ⟨hB, v, hbk, hown, hne⟩ := h1
  have c1 : w1.cell? ⟨b, 1, none⟩ = some v := by rw [Lib.cell_of_heap hbk]; rfl
  have hs1 := hb1.size
  go_wp2_with (at_builtin; refine Lib.wpList_append_own_stringF _ rfl _ _ 38 9 rfl B 5 i0 Tryd.underlying38 Tryd.underlying9 hi hz0 hz1 hz2 _ _ _ rfl hown s rfl ?c3 ?c4 ?c5 ?_)
  case c3 => unfold maxLen; omega
  case c4 => omega
  case c5 => omega
  intro v' w2 hown' hgrow _
  have hlt : b < w1.heap.size := (Array.getElem?_eq_some_iff.1 hbk).1
  have hb2 : w2.heap[b]? = some (.cells #[.pointer (some ⟨b, 0, none⟩), v] 42 (0, 0)) := (hgrow.block b hlt (fun e => hne e.symm)).trans hbk
  have d1 : w2.cell? ⟨b, 1, none⟩ = some v := by rw [Lib.cell_of_heap hb2]; rfl
  have f1 : w2.frozen? ⟨b, 1, none⟩ = false := Lib.frozen_of_heap hb2 1
  obtain ⟨ao, n', cap, rfl⟩ : ∃ ao n' cap, v' = .slice ao n' cap := by
    rcases hown'.2 with ⟨hv, _⟩ | ⟨g, cap, cur, fz, hv, _⟩
    · exact ⟨_, _, _, hv⟩
    · exact ⟨_, _, _, hv⟩
  have hcells : Lib.byteCells l ++ Lib.strCells s = Lib.byteCells (l ++ bl s) := by rw [Lib.byteCells_append]; rfl
  have HOWN := hide hown'
  have HGROW := hide hgrow
  have HB1 := hide hb1
  have HK1 := hide hk1
  have HOWN0 := hide hown
  have HC := hide hcells
  clear hown' hgrow hb1 hk1 hown hcells H
  go_wp2
  go_ret2
  have hbel := (HB1.out.grown HGROW.out (by omega) (fun k hk => (HOWN0.out.lt k hk).1)).setCell (p := ⟨b, 1, none⟩) hB (.slice ao n' cap)
  refine ⟨rfl, ⟨.inr ?_, Nat.le_trans hBw hbel.size⟩, hbel, (HK1.out.grown HGROW.out (Lib.ownsRowF_kind HOWN0.out)).setCell ⟨b, 1, none⟩ rfl _⟩
  rw [← HC.out]
  exact Lib.BuilderAtF.put (T := 42) (e := 5) hB hb2 (bs' := Lib.byteCells l ++ Lib.strCells s) (by rw [List.length_append, hll, Lib.strCells_length]; exact HOWN.out) byte_ne
set_option maxHeartbeats 2000000 in
set_option maxRecDepth 100000 in
theorem string_page (B b : Nat) (l : List UInt8) (w : World) (h : Pg B b l w) (h0 : l ≠ []) :
    Calls Tryd.prog 13 #[.pointer (some ⟨b, 0, none⟩)] w fun e w' => e = .returned (.string (ofL l)) ∧ Fr B b w w' := by
  obtain ⟨p, hB, v, hbk, hown, hne⟩ : ∃ p, Lib.BuilderAtF 42 5 B b p (Lib.byteCells l) w := by
    rcases h.1 with h | h
    · exact ⟨_, h⟩
    · exact ⟨_, h⟩
  have hl0 : l.length ≠ 0 := by simpa using h0
  rw [Lib.byteCells_length] at hown
  obtain ⟨g, cap, cur, fz, hv, hbg, hg, hfz, hnc, hcm, hcs, htake⟩ := hown.2.resolve_left fun hx => hl0 hx.2
  subst hv
  have c1 : w.drew.cell? ⟨b, 1, none⟩ = some (.slice (some ⟨g, 0, none⟩) l.length cap) := by
    have hd : w.drew.heap[b]? = some (.cells #[p, .slice (some ⟨g, 0, none⟩) l.length cap] 42 (0, 0)) := hbk
    rw [Lib.cell_of_heap hd]; rfl
  have hSD : (Builtin.unsafeSliceData_ #[38] 49 #[.slice (some ⟨g, 0, none⟩) l.length cap]).run Tryd.prog w.drew = .ok (.pointer (some ⟨g, 0, none⟩)) w.drew :=
    Lib.run_unsafeSliceData_row _ _ _ _ _ _ (by omega)
  have hUS : (Builtin.unsafeString_ #[49, 3] 9 #[.pointer (some ⟨g, 0, none⟩), .int .i64 l.length]).run Tryd.prog w.drew = .ok (.string (ofL l)) (w.drew.freeze ⟨g, 0, none⟩ l.length) := by
    have hg' : w.drew.heap[g]? = some (.cells cur 5 fz) := hg
    refine Lib.run_unsafeString_row w.drew 49 3 9 5 Tryd.underlying49 (by kernel_rfl) g cur.size (by simp [World.shape?, hg']) l h0 (by omega) (by unfold maxLen at hcm; omega) ?_
    intro j x hx
    exact hown.cells (g := g) rfl j (.int .u8 x.toNat) (by simp [Lib.byteCells, hx])
  have HFR : Hid (Fr B b w (w.drew.freeze ⟨g, 0, none⟩ l.length)) := ⟨Lib.below_freeze (Below.drew (Below.refl B w)) (p := ⟨g, 0, none⟩) hbg _, ((Lib.OthersKept.refl _ _ w).drew).freeze ⟨g, 0, none⟩ _ ⟨cur, fz, hg⟩⟩
  clear h hown hbk hg htake hcs
  go_enter Tryd.func13, Tryd.ntmps13
  go_wp2
  have mixed : Tryd.prog.follows .mixedOrders = true := by kernel_rfl
  go_region_o
  all_goals (go_wp2; go_ret; exact ⟨rfl, HFR.out⟩)
end Go.Proofs.YteoghpefilghdamDoor
namespace Go.Proofs.YteoghpefilghdamDoor
open Go.ChangeShapes Go.WideShapes Go.ChangeAt Go.RowKit
set_option linter.unusedVariables false
set_option linter.unusedSimpArgs false

def catL (ss : List ByteArray) : List UInt8 := ss.flatMap bl
theorem catL_take (ss : List ByteArray) (i : Nat) (s : ByteArray) (h : ss[i]? = some s) : catL (ss.take (i + 1)) = catL (ss.take i) ++ bl s := by
  unfold catL
  rw [List.take_add_one, h, List.flatMap_append]
  simp
theorem catL_len (ss : List ByteArray) (i : Nat) : (catL (ss.take i)).length ≤ (catL ss).length := by
  unfold catL
  conv => rhs; rw [← List.take_append_drop i ss, List.flatMap_append, List.length_append]
  omega
theorem Pg.ne {B b : Nat} {l : List UInt8} {w : World} (h : Pg B b l w) {g : Nat} {c : Array Value} {t : TypeId} {fz : Nat × Nat} (hg : w.heap[g]? = some (.cells c t fz)) (ht : t ≠ 42) : g ≠ b := by
  intro e
  subst e
  rcases h.1 with ⟨-, v, hb, -⟩ | ⟨-, v, hb, -⟩
  · rw [hg] at hb
    simp only [Option.some.injEq, Obj.cells.injEq] at hb
    exact ht hb.2.1
  · rw [hg] at hb
    simp only [Option.some.injEq, Obj.cells.injEq] at hb
    exact ht hb.2.1
/-- A block of another type stays. -/
theorem Fr.keep {B b : Nat} {w w' : World} (h : Fr B b w w') {l : List UInt8} (hp : Pg B b l w) {g : Nat} {c : Array Value} {t : TypeId} {fz : Nat × Nat} (hg : w.heap[g]? = some (.cells c t fz)) (ht : t ≠ 42) (hu : t ≠ 5) : w'.heap[g]? = some (.cells c t fz) :=
  h.others g _ hg (fun e => hp.ne hg ht (Option.some.inj e)) (fun c' fz' e => by
    simp only [Obj.cells.injEq] at e
    exact hu e.2.1)

set_option maxHeartbeats 1000000 in
theorem put_any (B b : Nat) (l : List UInt8) (ss : List ByteArray) (g c : Nat) (w : World) (h : Pg B b l w) (hg : w.heap[g]? = some (.cells (ss.map Value.string).toArray 9 (0, 0))) (hn : ss.length ≤ 10) (hlen : l.length + (catL ss).length ≤ 100000000) :
    Calls Tryd.prog 16 #[.pointer (some ⟨b, 0, none⟩), .slice (some ⟨g, 0, none⟩) ss.length c] w fun e w' => e = .returned (.tuple #[]) ∧ Pg B b (l ++ catL ss) w' ∧ Fr B b w w' := by
  have H := hide h
  have HG := hide hg
  clear h hg
  go_enter Tryd.func16, Tryd.ntmps16
  go_wp2
  go_loopw [8] (fun t wr => ∃ i : Nat, i ≤ ss.length ∧ t = .int .i64 i ∧ Pg B b (l ++ catL (ss.take i)) wr ∧ Fr B b w wr) (fun t _ => ss.length - (intOf t).toNat)
  case atStart => exact ⟨0, Nat.zero_le _, rfl, by simpa [catL] using H.out, Fr.refl _ _ _⟩
  case round =>
    obtain ⟨i, hi, rfl, hp, hf⟩ := hrel
    have HP := hide hp
    have HF := hide hf
    clear hp hf
    by_cases hlt : i < ss.length
    · obtain ⟨s, hs⟩ : ∃ s, ss[i]? = some s := ⟨ss[i], List.getElem?_eq_getElem hlt⟩
      have hgr := HF.out.keep H.out HG.out (by decide) (by decide)
      have q0 : wr.cell? ⟨g, i, none⟩ = some (.string s) := by
        rw [Lib.cell_of_heap hgr]
        simp [hs]
      have hct := catL_take ss i s hs
      have hle := catL_len ss (i + 1)
      have hsl : (catL (ss.take i)).length + s.size ≤ (catL ss).length := by
        rw [hct, List.length_append, bl_len] at hle
        exact hle
      have HCT := hide hct
      have hlt2 : (i : Int) < ss.length := by omega
      clear hgr hct hle hs
      go_wp2_with fail
      refine (write_page B b _ s wr HP.out (by rw [List.length_append]; omega)).mono ?_
      rintro e w1 ⟨rfl, hp1, hf1⟩
      have HP1 := hide hp1
      have HF1 := hide (HF.out.trans hf1)
      clear hp1 hf1
      go_wp2
      refine ⟨⟨i + 1, by omega, by go_num, ?_, HF1.out⟩, by simp [intOf]; omega⟩
      rw [HCT.out, ← List.append_assoc]
      exact HP1.out
    · have hlt2 : ¬ (i : Int) < ss.length := by omega
      have hie : i = ss.length := by omega
      subst hie
      go_wp2
      go_end0
      refine ⟨rfl, ?_, HF.out⟩
      have := HP.out
      rw [List.take_length] at this
      exact this
end Go.Proofs.YteoghpefilghdamDoor
namespace Go.Proofs.YteoghpefilghdamDoor
open Go.ChangeShapes Go.WideShapes Go.ChangeAt Go.RowKit
set_option linter.unusedVariables false
set_option linter.unusedSimpArgs false

def LtK (B : Nat) : Nat → Prop := fun k => k < B
theorem Fr.stays {B b : Nat} {w w' : World} (h : Fr B b w w') : Stays (LtK B) w w' := ⟨h.below.size, fun k hk _ => h.below.block k hk⟩
theorem reads_fr {B b : Nat} {w w' : World} (h : Fr B b w w') (n : Nat) : (∀ e cs, (reads (LtK B) w n).ex e cs → (reads (LtK B) w' n).ex e cs) ∧ (∀ d cs, (reads (LtK B) w n).de d cs → (reads (LtK B) w' n).de d cs) ∧ (∀ a cs, (reads (LtK B) w n).al a cs → (reads (LtK B) w' n).al a cs) := reads_frame h.stays (fun _ h => h) n
theorem put1 (B b : Nat) (l : List UInt8) (s : ByteArray) (w : World) (h : Pg B b l w) (hlen : l.length + s.size ≤ 100000000) :
    Calls Tryd.prog 16 #[.pointer (some ⟨b, 0, none⟩), .slice (some ⟨w.heap.size, 0, none⟩) 1 1] (w.alloc (.cells #[.string s] 9)) fun e w' => e = .returned (.tuple #[]) ∧ Pg B b (l ++ bl s) w' ∧ Fr B b w w' := by
  have hb : Below w.heap.size w (w.alloc (.cells #[.string s] 9)) := (Below.refl _ w).alloc (Nat.le_refl _) _
  have hc : catL [s] = bl s := by simp [catL]
  have key := put_any B b l [s] w.heap.size 1 _ (h.later hb) (heap_alloc_new w _) (by simp) (by rw [hc, bl_len]; exact hlen)
  rw [hc] at key
  exact key.mono fun e w' ⟨h1, h2, h3⟩ => ⟨h1, h2, (Fr.of hb h.2).trans h3⟩
theorem put2 (B b : Nat) (l : List UInt8) (s t : ByteArray) (w : World) (h : Pg B b l w) (hlen : l.length + s.size + t.size ≤ 100000000) :
    Calls Tryd.prog 16 #[.pointer (some ⟨b, 0, none⟩), .slice (some ⟨w.heap.size, 0, none⟩) 2 2] (w.alloc (.cells #[.string s, .string t] 9)) fun e w' => e = .returned (.tuple #[]) ∧ Pg B b (l ++ (bl s ++ bl t)) w' ∧ Fr B b w w' := by
  have hb : Below w.heap.size w (w.alloc (.cells #[.string s, .string t] 9)) := (Below.refl _ w).alloc (Nat.le_refl _) _
  have hc : catL [s, t] = bl s ++ bl t := by simp [catL]
  have key := put_any B b l [s, t] w.heap.size 2 _ (h.later hb) (heap_alloc_new w _) (by simp) (by rw [hc, List.length_append, bl_len, bl_len]; omega)
  rw [hc] at key
  exact key.mono fun e w' ⟨h1, h2, h3⟩ => ⟨h1, h2, (Fr.of hb h.2).trans h3⟩
theorem put3 (B b : Nat) (l : List UInt8) (s t u : ByteArray) (w : World) (h : Pg B b l w) (hlen : l.length + s.size + t.size + u.size ≤ 100000000) :
    Calls Tryd.prog 16 #[.pointer (some ⟨b, 0, none⟩), .slice (some ⟨w.heap.size, 0, none⟩) 3 3] (w.alloc (.cells #[.string s, .string t, .string u] 9)) fun e w' => e = .returned (.tuple #[]) ∧ Pg B b (l ++ (bl s ++ (bl t ++ bl u))) w' ∧ Fr B b w w' := by
  have hb : Below w.heap.size w (w.alloc (.cells #[.string s, .string t, .string u] 9)) := (Below.refl _ w).alloc (Nat.le_refl _) _
  have hc : catL [s, t, u] = bl s ++ (bl t ++ bl u) := by simp [catL]
  have key := put_any B b l [s, t, u] w.heap.size 3 _ (h.later hb) (heap_alloc_new w _) (by simp) (by rw [hc, List.length_append, List.length_append, bl_len, bl_len, bl_len]; omega)
  rw [hc] at key
  exact key.mono fun e w' ⟨h1, h2, h3⟩ => ⟨h1, h2, (Fr.of hb h.2).trans h3⟩

theorem namesL_take (xs : List ByteArray) (i : Nat) (x : ByteArray) (h : xs[i]? = some x) : namesL (xs.take (i + 1)) = namesL (xs.take i) ++ (32 :: bl x) := by
  rw [List.take_add_one, h]
  exact namesL_snoc _ x
theorem namesL_take_len (xs : List ByteArray) (i : Nat) : (namesL (xs.take i)).length ≤ (namesL xs).length := by
  unfold namesL
  conv => rhs; rw [← List.take_append_drop i xs, List.flatMap_append, List.length_append]
  omega
end Go.Proofs.YteoghpefilghdamDoor
namespace Go.Proofs.YteoghpefilghdamDoor
open Go.ChangeShapes Go.WideShapes Go.ChangeAt Go.RowKit
set_option linter.unusedVariables false
set_option linter.unusedSimpArgs false

def Tb (B : Nat) (w : World) : Prop := Lib.TabBelow Tryd.prog B w "internal/strconv.uint64pow10" .u64 Lib.pow10Tab
theorem Tb.on {B : Nat} {w w' : World} (h : Tb B w) (hb : Below B w w') : Tb B w' := fun v hv => h v (hb.trans hv)
/-- The text t was written on the page behind l. -/
def Wr (B b : Nat) (l t : List UInt8) (w : World) (e : Ending) (w' : World) : Prop := e = .returned (.tuple #[]) ∧ Pg B b (l ++ t) w' ∧ Fr B b w w'
structure Stp (B b : Nat) (l : List UInt8) (w0 w : World) (g : Nat) (c : Array Value) (t : TypeId) : Prop where
  pg : Pg B b l w
  fr : Fr B b w0 w
  bx : w.heap[g]? = some (.cells c t (0, 0))
theorem Stp.next {B b : Nat} {l l' : List UInt8} {w0 w w' : World} {g : Nat} {c : Array Value} {t : TypeId} (h : Stp B b l w0 w g c t) (hp : Pg B b l' w') (hf : Fr B b w w') (ht : t ≠ 42) (hu : t ≠ 5) : Stp B b l' w0 w' g c t :=
  ⟨hp, h.fr.trans hf, hf.keep h.pg h.bx ht hu⟩
theorem Stp.first {B b : Nat} {l : List UInt8} {w : World} (h : Pg B b l w) (c : Array Value) (t : TypeId) : Stp B b l w (w.alloc (.cells c t)) w.heap.size c t :=
  have hb : Below w.heap.size w (w.alloc (.cells c t)) := (Below.refl _ w).alloc (Nat.le_refl _) _
  ⟨h.later hb, Fr.of hb h.2, heap_alloc_new w _⟩
theorem lit_size (a : Array UInt8) : ByteArray.size ⟨a⟩ = a.size := rfl
theorem px_add {a b : Int} (h0 : 0 ≤ a) (h1 : a ≤ 1000000) (h2 : 0 ≤ b) (h3 : b ≤ 1000000) : IntKind.i64.wrap (a + b) = a + b := by rw [IntKind.wrap_i64]; omega
theorem put1g (B b : Nat) (l : List UInt8) (s : ByteArray) (w : World) (g : Nat) (h : Pg B b l w) (hg : g = w.heap.size) (hlen : l.length + s.size ≤ 100000000) :
    Calls Tryd.prog 16 #[.pointer (some ⟨b, 0, none⟩), .slice (some ⟨g, 0, none⟩) 1 1] (w.alloc (.cells #[.string s] 9)) fun e w' => e = .returned (.tuple #[]) ∧ Pg B b (l ++ bl s) w' ∧ Fr B b w w' := by
  subst hg
  exact put1 B b l s w h hlen
theorem put3g (B b : Nat) (l : List UInt8) (s t u : ByteArray) (w : World) (g : Nat) (h : Pg B b l w) (hg : g = w.heap.size) (hlen : l.length + s.size + t.size + u.size ≤ 100000000) :
    Calls Tryd.prog 16 #[.pointer (some ⟨b, 0, none⟩), .slice (some ⟨g, 0, none⟩) 3 3] (w.alloc (.cells #[.string s, .string t, .string u] 9)) fun e w' => e = .returned (.tuple #[]) ∧ Pg B b (l ++ (bl s ++ (bl t ++ bl u))) w' ∧ Fr B b w w' := by
  subst hg
  exact put3 B b l s t u w h hlen
theorem itoa_any (B : Nat) (m : Nat) (w : World) (h : Tb B w) (hm : m ≤ 999999) : Calls Tryd.prog 18 #[.int .i64 m] w fun e w' => e = .returned (.string (ofL (Lib.decDigits m))) ∧ Below w.heap.size w w' := by
  have key := Tryd.strconv_Itoa m (by omega) (by omega) w h.here
  refine key.mono ?_
  rintro e w' ⟨rfl, k, os, rfl⟩
  refine ⟨?_, ?_⟩
  · unfold Lib.itoa
    rw [if_neg (by omega)]
    rfl
  · exact Lib.below_grow _ w (Nat.le_refl _) _ os
end Go.Proofs.YteoghpefilghdamDoor
