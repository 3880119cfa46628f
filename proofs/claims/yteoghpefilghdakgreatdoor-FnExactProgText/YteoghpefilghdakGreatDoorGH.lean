/- Made of EG, EH, EI, EJ. -/
import Derived.Test.YteoghpefilghdakGreatDoorGE
import Derived.Shelf.Strings.BuilderK
import Derived.Test.YteoghpefilghdakGreatDoorShelf
import Derived.Lib.AppendIntMem
namespace Go.Proofs.YteoghpefilghdakGreatDoor
open Go.ChangeShapes Go.WideShapes Go.ChangeAt Go.RowKit
set_option linter.unusedVariables false

theorem info_builder : ∃ j, Tryz.prog.info? 55 = some j ∧ j.size = 2 := Option.map_eq_some_iff.1 (show (Tryz.prog.info? 55).map (·.size) = some 2 by kernel_rfl)
theorem lies_page : liesAt Tryz.prog Tryz.prog.depth 57 (2 / Tryz.prog.cellsOf 57) 0 55 1 = true := by kernel_rfl
set_option maxHeartbeats 1000000 in
set_option maxRecDepth 100000 in
theorem check_fresh (b : Nat) (w : World) (h0 : w.cell? ⟨b, 0, none⟩ = some (.pointer none)) (hsh : w.shape? b = some (57, 2)) (hfz : w.frozen? ⟨b, 0, none⟩ = false) :
    Calls Tryz.prog 96 #[.pointer (some ⟨b, 0, none⟩)] w fun e w' => e = .returned (.tuple #[]) ∧ w' = w.setCell ⟨b, 0, none⟩ (.pointer (some ⟨b, 0, none⟩)) := by
  obtain ⟨j, hj, hjs⟩ := info_builder
  have r1 : (convert 52 194 (.pointer (some ⟨b, 0, none⟩))).run Tryz.prog w = .ok (.pointer (some ⟨b, 0, none⟩)) w := by
    simp [convert, run_underlying Tryz.underlying52, run_underlying Tryz.underlying194, Conv.unsafePointer, Conv.seenAt, viewAt, cellsIn, hsh, sizeOf, typeInfo, hj, hjs]
  have r2 : (convert 194 52 (.pointer (some ⟨b, 0, none⟩))).run Tryz.prog w = .ok (.pointer (some ⟨b, 0, none⟩)) w := by
    simp [convert, run_underlying Tryz.underlying52, run_underlying Tryz.underlying194, Conv.unsafePointer, Conv.seenAt, viewAt, hsh, variablesAt, lies_page, sizeOf, typeInfo, hj]
  go_enter Tryz.func96, Tryz.ntmps96
  go_wp2
  rw [run_callFunc_extern Tryz.func127 (by kernel_rfl) (by kernel_rfl) (by kernel_rfl) (e := Extern.AbiNoEscape.same) (by kernel_rfl)]
  rw [Lib.run_noEscape]
  simp only [Result.andThen]
  rw [Oper.upon_value]
  go_wp2
  go_end0
  exact ⟨rfl, rfl⟩
set_option maxHeartbeats 1000000 in
set_option maxRecDepth 100000 in
theorem check_used (b : Nat) (w : World) (h0 : w.cell? ⟨b, 0, none⟩ = some (.pointer (some ⟨b, 0, none⟩))) :
    Calls Tryz.prog 96 #[.pointer (some ⟨b, 0, none⟩)] w fun e w' => e = .returned (.tuple #[]) ∧ w' = w := by
  obtain ⟨j, hj, -⟩ := info_builder
  have r1 := Lib.run_neq_ptr_same w ⟨b, 0, none⟩ Tryz.underlying52 hj
  go_enter Tryz.func96, Tryz.ntmps96
  go_wp2
  go_end0
  exact ⟨rfl, rfl⟩
theorem check_page (B b : Nat) (bs : List Value) (w : World) (h : Lib.IsBuilderF 57 5 B b bs w) :
    Calls Tryz.prog 96 #[.pointer (some ⟨b, 0, none⟩)] w fun e w' => e = .returned (.tuple #[]) ∧ (Lib.BuilderAtF 57 5 B b (.pointer (some ⟨b, 0, none⟩)) bs w' ∧ Below B w w' ∧ Lib.OthersKept 5 (some b) w w') := by
  rcases h with h | h
  · refine (check_fresh b w h.cell0 h.shape h.frozen0).mono ?_
    rintro e w' ⟨rfl, rfl⟩
    exact ⟨rfl, h.used _, (Below.refl B w).setCell (p := ⟨b, 0, none⟩) h.1 _, (Lib.OthersKept.refl _ _ w).setCell ⟨b, 0, none⟩ rfl _⟩
  · refine (check_used b w h.cell0).mono ?_
    rintro e w' ⟨rfl, rfl⟩
    exact ⟨rfl, h, Below.refl B _, Lib.OthersKept.refl _ _ _⟩
/-- The bytes on a page whose block is b; nothing of it lies below B. -/
def Pg (B b : Nat) (l : List UInt8) (w : World) : Prop := Lib.IsBuilderF 57 5 B b (Lib.byteCells l) w ∧ B ≤ w.heap.size
/-- What a call that writes on a page leaves as it was. -/
structure Fr (B b : Nat) (w w' : World) : Prop where
  below : Below B w w'
  others : Lib.OthersKept 5 (some b) w w'
theorem Fr.refl (B b : Nat) (w : World) : Fr B b w w := ⟨Below.refl _ _, Lib.OthersKept.refl _ _ _⟩
theorem Fr.trans {B b : Nat} {a c d : World} (h : Fr B b a c) (k : Fr B b c d) : Fr B b a d := ⟨h.below.trans k.below, h.others.trans k.others⟩
theorem Fr.of {B b : Nat} {w w' : World} (h : Below w.heap.size w w') (hB : B ≤ w.heap.size) : Fr B b w w' := ⟨h.mono hB, fun k o hk _ _ => (h.block k (Array.getElem?_eq_some_iff.1 hk).1).trans hk⟩
theorem Pg.lt {B b : Nat} {l : List UInt8} {w : World} (h : Pg B b l w) : b < w.heap.size ∧ B ≤ b := by
  rcases h.1 with h | h
  · exact ⟨h.lt, h.1⟩
  · exact ⟨h.lt, h.1⟩
theorem byte_ne : 57 ≠ 5 := by decide
theorem owned_keeps {w w' : World} {B : Nat} {v : Value} {n : Nat} {xs : List Value} (h : w.ownsRowF B 5 1 v n xs) (hb : Below w.heap.size w w') : w'.ownsRowF B 5 1 v n xs := by
  refine ⟨h.1, ?_⟩
  rcases h.2 with h | ⟨g, cap, cur, fz, hv, hbg, hg, r⟩
  · exact .inl h
  · exact .inr ⟨g, cap, cur, fz, hv, hbg, (hb.block g (Array.getElem?_eq_some_iff.1 hg).1).trans hg, r⟩
theorem at_keeps {B b : Nat} {p : Value} {bs : List Value} {w w' : World} (h : Lib.BuilderAtF 57 5 B b p bs w) (hb : Below w.heap.size w w') : Lib.BuilderAtF 57 5 B b p bs w' := by
  obtain ⟨hB, v, hbk, hown, hne⟩ := h
  exact ⟨hB, v, (hb.block b (Array.getElem?_eq_some_iff.1 hbk).1).trans hbk, owned_keeps hown hb, hne⟩
/-- A page is as it was where nothing that was there is written. -/
theorem Pg.later {B b : Nat} {l : List UInt8} {w w' : World} (h : Pg B b l w) (hb : Below w.heap.size w w') : Pg B b l w' :=
  ⟨h.1.elim (fun x => .inl (at_keeps x hb)) (fun x => .inr (at_keeps x hb)), Nat.le_trans h.2 hb.size⟩
theorem fresh_page (w : World) : Pg w.heap.size w.heap.size [] (w.alloc (.cells #[.pointer none, .slice none 0 0] 57)) :=
  ⟨.inl ⟨Nat.le_refl _, .slice none 0 0, heap_alloc_new w _, ⟨rfl, .inl ⟨rfl, rfl⟩⟩, by simp [Value.ownBlock]⟩, Nat.le_of_lt (heap_lt (heap_alloc_new w _))⟩
theorem str_cells (s : ByteArray) : Lib.strCells s = Lib.byteCells (bl s) := rfl

theorem info_u8 : ∃ i, Tryz.prog.info? 5 = some i ∧ i.zero = some (.int .u8 0) ∧ i.size = 1 ∧ i.bytes = 1 := by
  have h1 : ((Tryz.prog.info? 5).map fun i => (i.zero, i.size, i.bytes)) = some (some (.int .u8 0), 1, 1) := by kernel_rfl
  obtain ⟨i, hi, he⟩ := Option.map_eq_some_iff.1 h1
  simp only [Prod.mk.injEq] at he
  exact ⟨i, hi, he⟩
set_option maxHeartbeats 2000000 in
set_option maxRecDepth 100000 in
theorem write_page (B b : Nat) (l : List UInt8) (s : ByteArray) (w : World) (h : Pg B b l w) (hlen : l.length + s.size ≤ 100000000) :
    Calls Tryz.prog 65 #[.pointer (some ⟨b, 0, none⟩), .string s] w fun e w' => e = .returned (.tuple #[.int .i64 s.size, .nilIface]) ∧ Pg B b (l ++ bl s) w' ∧ Fr B b w w' := by
  obtain ⟨i0, hi, hz0, hz1, hz2⟩ := info_u8
  have hBw := h.2
  have H := hide h
  have hll : (Lib.byteCells l).length = l.length := Lib.byteCells_length l
  clear h
  go_enter Tryz.func65, Tryz.ntmps65
  go_wp2_with fail
  refine (check_page B b _ _ H.out.1).mono ?_
  rintro e w1 ⟨rfl, h1, hb1, hk1⟩
  obtain ⟨hB, v, hbk, hown, hne⟩ := h1
  have c1 : w1.cell? ⟨b, 1, none⟩ = some v := by rw [Lib.cell_of_heap hbk]; rfl
  have hs1 := hb1.size
  go_wp2_with (at_builtin; refine Lib.wpList_append_own_stringF _ rfl _ _ 53 9 rfl B 5 i0 Tryz.underlying53 Tryz.underlying9 hi hz0 hz1 hz2 _ _ _ rfl hown s rfl ?c3 ?c4 ?c5 ?_)
  case c3 => unfold maxLen; omega
  case c4 => omega
  case c5 => omega
  intro v' w2 hown' hgrow _
  have hlt : b < w1.heap.size := (Array.getElem?_eq_some_iff.1 hbk).1
  have hb2 : w2.heap[b]? = some (.cells #[.pointer (some ⟨b, 0, none⟩), v] 57 (0, 0)) := (hgrow.block b hlt (fun e => hne e.symm)).trans hbk
  have d1 : w2.cell? ⟨b, 1, none⟩ = some v := by rw [Lib.cell_of_heap hb2]; rfl
  have f1 : w2.frozen? ⟨b, 1, none⟩ = false := Lib.frozen_of_heap hb2 1
  obtain ⟨ao, n', cap, rfl⟩ : ∃ ao n' cap, v' = .slice ao n' cap := by
    rcases hown'.2 with ⟨hv, _⟩ | ⟨g, cap, cur, fz, hv, _⟩
    · exact ⟨_, _, _, hv⟩
    · exact ⟨_, _, _, hv⟩
  have hcells : Lib.byteCells l ++ Lib.strCells s = Lib.byteCells (l ++ bl s) := by rw [Lib.byteCells_append]; rfl
  have HOWN := hide hown'
  have HGROW := hide hgrow
  have HB1 := hide hb1
  have HK1 := hide hk1
  have HOWN0 := hide hown
  have HC := hide hcells
  clear hown' hgrow hb1 hk1 hown hcells H
  go_wp2
  go_ret2
  have hbel := (HB1.out.grown HGROW.out (by omega) (fun k hk => (HOWN0.out.lt k hk).1)).setCell (p := ⟨b, 1, none⟩) hB (.slice ao n' cap)
  refine ⟨rfl, ⟨.inr ?_, Nat.le_trans hBw hbel.size⟩, hbel, (HK1.out.grown HGROW.out (Lib.ownsRowF_kind HOWN0.out)).setCell ⟨b, 1, none⟩ rfl _⟩
  rw [← HC.out]
  exact Lib.BuilderAtF.put (T := 57) (e := 5) hB hb2 (bs' := Lib.byteCells l ++ Lib.strCells s) (by rw [List.length_append, hll, Lib.strCells_length]; exact HOWN.out) byte_ne
set_option maxHeartbeats 2000000 in
set_option maxRecDepth 100000 in
theorem string_page (B b : Nat) (l : List UInt8) (w : World) (h : Pg B b l w) (h0 : l ≠ []) :
    Calls Tryz.prog 20 #[.pointer (some ⟨b, 0, none⟩)] w fun e w' => e = .returned (.string (ofL l)) ∧ Fr B b w w' := by
  obtain ⟨p, hB, v, hbk, hown, hne⟩ : ∃ p, Lib.BuilderAtF 57 5 B b p (Lib.byteCells l) w := by
    rcases h.1 with h | h
    · exact ⟨_, h⟩
    · exact ⟨_, h⟩
  have hl0 : l.length ≠ 0 := by simpa using h0
  rw [Lib.byteCells_length] at hown
  obtain ⟨g, cap, cur, fz, hv, hbg, hg, hfz, hnc, hcm, hcs, htake⟩ := hown.2.resolve_left fun hx => hl0 hx.2
  subst hv
  have c1 : w.drew.cell? ⟨b, 1, none⟩ = some (.slice (some ⟨g, 0, none⟩) l.length cap) := by
    have hd : w.drew.heap[b]? = some (.cells #[p, .slice (some ⟨g, 0, none⟩) l.length cap] 57 (0, 0)) := hbk
    rw [Lib.cell_of_heap hd]; rfl
  have hSD : (Builtin.unsafeSliceData_ #[53] 99 #[.slice (some ⟨g, 0, none⟩) l.length cap]).run Tryz.prog w.drew = .ok (.pointer (some ⟨g, 0, none⟩)) w.drew :=
    Lib.run_unsafeSliceData_row _ _ _ _ _ _ (by omega)
  have hUS : (Builtin.unsafeString_ #[99, 3] 9 #[.pointer (some ⟨g, 0, none⟩), .int .i64 l.length]).run Tryz.prog w.drew = .ok (.string (ofL l)) (w.drew.freeze ⟨g, 0, none⟩ l.length) := by
    have hg' : w.drew.heap[g]? = some (.cells cur 5 fz) := hg
    refine Lib.run_unsafeString_row w.drew 99 3 9 5 Tryz.underlying99 (by kernel_rfl) g cur.size (by simp [World.shape?, hg']) l h0 (by omega) (by unfold maxLen at hcm; omega) ?_
    intro j x hx
    exact hown.cells (g := g) rfl j (.int .u8 x.toNat) (by simp [Lib.byteCells, hx])
  have HFR : Hid (Fr B b w (w.drew.freeze ⟨g, 0, none⟩ l.length)) := ⟨Lib.below_freeze (Below.drew (Below.refl B w)) (p := ⟨g, 0, none⟩) hbg _, ((Lib.OthersKept.refl _ _ w).drew).freeze ⟨g, 0, none⟩ _ ⟨cur, fz, hg⟩⟩
  clear h hown hbk hg htake hcs
  go_enter Tryz.func20, Tryz.ntmps20
  go_wp2
  have mixed : Tryz.prog.follows .mixedOrders = true := by kernel_rfl
  go_region_o
  all_goals (go_wp2; go_ret; exact ⟨rfl, HFR.out⟩)
end Go.Proofs.YteoghpefilghdakGreatDoor
namespace Go.Proofs.YteoghpefilghdakGreatDoor
open Go.ChangeShapes Go.WideShapes Go.ChangeAt Go.RowKit
set_option linter.unusedVariables false
set_option linter.unusedSimpArgs false

def catL (ss : List ByteArray) : List UInt8 := ss.flatMap bl
theorem catL_take (ss : List ByteArray) (i : Nat) (s : ByteArray) (h : ss[i]? = some s) : catL (ss.take (i + 1)) = catL (ss.take i) ++ bl s := by
  unfold catL
  rw [List.take_add_one, h, List.flatMap_append]
  simp
theorem catL_len (ss : List ByteArray) (i : Nat) : (catL (ss.take i)).length ≤ (catL ss).length := by
  unfold catL
  conv => rhs; rw [← List.take_append_drop i ss, List.flatMap_append, List.length_append]
  omega
theorem Pg.ne {B b : Nat} {l : List UInt8} {w : World} (h : Pg B b l w) {g : Nat} {c : Array Value} {t : TypeId} {fz : Nat × Nat} (hg : w.heap[g]? = some (.cells c t fz)) (ht : t ≠ 57) : g ≠ b := by
  intro e
  subst e
  rcases h.1 with ⟨-, v, hb, -⟩ | ⟨-, v, hb, -⟩
  · rw [hg] at hb
    simp only [Option.some.injEq, Obj.cells.injEq] at hb
    exact ht hb.2.1
  · rw [hg] at hb
    simp only [Option.some.injEq, Obj.cells.injEq] at hb
    exact ht hb.2.1
/-- A block of another type stays. -/
theorem Fr.keep {B b : Nat} {w w' : World} (h : Fr B b w w') {l : List UInt8} (hp : Pg B b l w) {g : Nat} {c : Array Value} {t : TypeId} {fz : Nat × Nat} (hg : w.heap[g]? = some (.cells c t fz)) (ht : t ≠ 57) (hu : t ≠ 5) : w'.heap[g]? = some (.cells c t fz) :=
  h.others g _ hg (fun e => hp.ne hg ht (Option.some.inj e)) (fun c' fz' e => by
    simp only [Obj.cells.injEq] at e
    exact hu e.2.1)

set_option maxHeartbeats 1000000 in
theorem put_any (B b : Nat) (l : List UInt8) (ss : List ByteArray) (g c : Nat) (w : World) (h : Pg B b l w) (hg : w.heap[g]? = some (.cells (ss.map Value.string).toArray 9 (0, 0))) (hn : ss.length ≤ 10) (hlen : l.length + (catL ss).length ≤ 100000000) :
    Calls Tryz.prog 36 #[.pointer (some ⟨b, 0, none⟩), .slice (some ⟨g, 0, none⟩) ss.length c] w fun e w' => e = .returned (.tuple #[]) ∧ Pg B b (l ++ catL ss) w' ∧ Fr B b w w' := by
  have H := hide h
  have HG := hide hg
  clear h hg
  go_enter Tryz.func36, Tryz.ntmps36
  go_wp2
  go_loopw [8] (fun t wr => ∃ i : Nat, i ≤ ss.length ∧ t = .int .i64 i ∧ Pg B b (l ++ catL (ss.take i)) wr ∧ Fr B b w wr) (fun t _ => ss.length - (intOf t).toNat)
  case atStart => exact ⟨0, Nat.zero_le _, rfl, by simpa [catL] using H.out, Fr.refl _ _ _⟩
  case round =>
    obtain ⟨i, hi, rfl, hp, hf⟩ := hrel
    have HP := hide hp
    have HF := hide hf
    clear hp hf
    by_cases hlt : i < ss.length
    · obtain ⟨s, hs⟩ : ∃ s, ss[i]? = some s := ⟨ss[i], List.getElem?_eq_getElem hlt⟩
      have hgr := HF.out.keep H.out HG.out (by decide) (by decide)
      have q0 : wr.cell? ⟨g, i, none⟩ = some (.string s) := by
        rw [Lib.cell_of_heap hgr]
        simp [hs]
      have hct := catL_take ss i s hs
      have hle := catL_len ss (i + 1)
      have hsl : (catL (ss.take i)).length + s.size ≤ (catL ss).length := by
        rw [hct, List.length_append, bl_len] at hle
        exact hle
      have HCT := hide hct
      have hlt2 : (i : Int) < ss.length := by omega
      clear hgr hct hle hs
      go_wp2_with fail
      refine (write_page B b _ s wr HP.out (by rw [List.length_append]; omega)).mono ?_
      rintro e w1 ⟨rfl, hp1, hf1⟩
      have HP1 := hide hp1
      have HF1 := hide (HF.out.trans hf1)
      clear hp1 hf1
      go_wp2
      refine ⟨⟨i + 1, by omega, by go_num, ?_, HF1.out⟩, by simp [intOf]; omega⟩
      rw [HCT.out, ← List.append_assoc]
      exact HP1.out
    · have hlt2 : ¬ (i : Int) < ss.length := by omega
      have hie : i = ss.length := by omega
      subst hie
      go_wp2
      go_end0
      refine ⟨rfl, ?_, HF.out⟩
      have := HP.out
      rw [List.take_length] at this
      exact this
end Go.Proofs.YteoghpefilghdakGreatDoor
namespace Go.Proofs.YteoghpefilghdakGreatDoor
open Go.ChangeShapes Go.WideShapes Go.ChangeAt Go.RowKit
set_option linter.unusedVariables false
set_option linter.unusedSimpArgs false

def LtK (B : Nat) : Nat → Prop := fun k => k < B
theorem Fr.stays {B b : Nat} {w w' : World} (h : Fr B b w w') : Stays (LtK B) w w' := ⟨h.below.size, fun k hk _ => h.below.block k hk⟩
theorem reads_fr {B b : Nat} {w w' : World} (h : Fr B b w w') (n : Nat) : (∀ e cs, (reads (LtK B) w n).ex e cs → (reads (LtK B) w' n).ex e cs) ∧ (∀ d cs, (reads (LtK B) w n).de d cs → (reads (LtK B) w' n).de d cs) ∧ (∀ a cs, (reads (LtK B) w n).al a cs → (reads (LtK B) w' n).al a cs) := reads_frame h.stays (fun _ h => h) n
theorem repeat_pad (n : Nat) : Lib.repeatL [32] n = padL n := by
  induction n with
  | zero => rfl
  | succ n ih =>
    show [32] ++ Lib.repeatL [32] n = _
    rw [ih]
    rfl
theorem put1 (B b : Nat) (l : List UInt8) (s : ByteArray) (w : World) (h : Pg B b l w) (hlen : l.length + s.size ≤ 100000000) :
    Calls Tryz.prog 36 #[.pointer (some ⟨b, 0, none⟩), .slice (some ⟨w.heap.size, 0, none⟩) 1 1] (w.alloc (.cells #[.string s] 9)) fun e w' => e = .returned (.tuple #[]) ∧ Pg B b (l ++ bl s) w' ∧ Fr B b w w' := by
  have hb : Below w.heap.size w (w.alloc (.cells #[.string s] 9)) := (Below.refl _ w).alloc (Nat.le_refl _) _
  have hc : catL [s] = bl s := by simp [catL]
  have key := put_any B b l [s] w.heap.size 1 _ (h.later hb) (heap_alloc_new w _) (by simp) (by rw [hc, bl_len]; exact hlen)
  rw [hc] at key
  exact key.mono fun e w' ⟨h1, h2, h3⟩ => ⟨h1, h2, (Fr.of hb h.2).trans h3⟩
theorem put2 (B b : Nat) (l : List UInt8) (s t : ByteArray) (w : World) (h : Pg B b l w) (hlen : l.length + s.size + t.size ≤ 100000000) :
    Calls Tryz.prog 36 #[.pointer (some ⟨b, 0, none⟩), .slice (some ⟨w.heap.size, 0, none⟩) 2 2] (w.alloc (.cells #[.string s, .string t] 9)) fun e w' => e = .returned (.tuple #[]) ∧ Pg B b (l ++ (bl s ++ bl t)) w' ∧ Fr B b w w' := by
  have hb : Below w.heap.size w (w.alloc (.cells #[.string s, .string t] 9)) := (Below.refl _ w).alloc (Nat.le_refl _) _
  have hc : catL [s, t] = bl s ++ bl t := by simp [catL]
  have key := put_any B b l [s, t] w.heap.size 2 _ (h.later hb) (heap_alloc_new w _) (by simp) (by rw [hc, List.length_append, bl_len, bl_len]; omega)
  rw [hc] at key
  exact key.mono fun e w' ⟨h1, h2, h3⟩ => ⟨h1, h2, (Fr.of hb h.2).trans h3⟩
theorem put3 (B b : Nat) (l : List UInt8) (s t u : ByteArray) (w : World) (h : Pg B b l w) (hlen : l.length + s.size + t.size + u.size ≤ 100000000) :
    Calls Tryz.prog 36 #[.pointer (some ⟨b, 0, none⟩), .slice (some ⟨w.heap.size, 0, none⟩) 3 3] (w.alloc (.cells #[.string s, .string t, .string u] 9)) fun e w' => e = .returned (.tuple #[]) ∧ Pg B b (l ++ (bl s ++ (bl t ++ bl u))) w' ∧ Fr B b w w' := by
  have hb : Below w.heap.size w (w.alloc (.cells #[.string s, .string t, .string u] 9)) := (Below.refl _ w).alloc (Nat.le_refl _) _
  have hc : catL [s, t, u] = bl s ++ (bl t ++ bl u) := by simp [catL]
  have key := put_any B b l [s, t, u] w.heap.size 3 _ (h.later hb) (heap_alloc_new w _) (by simp) (by rw [hc, List.length_append, List.length_append, bl_len, bl_len, bl_len]; omega)
  rw [hc] at key
  exact key.mono fun e w' ⟨h1, h2, h3⟩ => ⟨h1, h2, (Fr.of hb h.2).trans h3⟩

set_option maxHeartbeats 1000000 in
theorem margin_any (B b : Nat) (l : List UInt8) (n : Nat) (w : World) (h : Pg B b l w) (hn : n ≤ 1000) (hlen : l.length + n ≤ 100000000) :
    Calls Tryz.prog 38 #[.pointer (some ⟨b, 0, none⟩), .int .i64 n] w fun e w' => e = .returned (.tuple #[]) ∧ Pg B b (l ++ padL n) w' ∧ Fr B b w w' := by
  have H := hide h
  have hBw := h.2
  clear h
  have HREP : Hid (Calls Tryz.prog 67 #[.string ⟨#[32]⟩, .int .i64 n] w fun e w' => e = .returned (.string (ofL (padL n))) ∧ Below w.heap.size w w') := by
    have key := Tryz.strings_Repeat ⟨#[32]⟩ n w (by omega) (by show 1 * n ≤ _; omega)
    rw [show (⟨#[32]⟩ : ByteArray).data.toList = [32] from rfl, repeat_pad] at key
    exact key
  go_enter Tryz.func38, Tryz.ntmps38
  go_wp2_with fail
  refine HREP.out.mono ?_
  rintro e w1 ⟨rfl, hb⟩
  have HB1 := hide hb
  clear hb HREP
  go_wp2_with fail
  refine (put1 B b l (ofL (padL n)) w1 (H.out.later HB1.out) (by rw [ofL_size, padL_len]; exact hlen)).mono ?_
  rintro e w2 ⟨rfl, h2, f2⟩
  have H2 := hide h2
  have F2 := hide ((Fr.of HB1.out hBw).trans f2)
  clear h2 f2
  go_wp2
  go_end0
  exact ⟨rfl, H2.out, F2.out⟩
set_option maxHeartbeats 1000000 in
theorem newLine_any (B b : Nat) (l : List UInt8) (n : Nat) (w : World) (h : Pg B b l w) (hn : n ≤ 1000) (hlen : l.length + n + 1 ≤ 100000000) :
    Calls Tryz.prog 18 #[.pointer (some ⟨b, 0, none⟩), .int .i64 n] w fun e w' => e = .returned (.tuple #[]) ∧ Pg B b (l ++ (10 :: padL n)) w' ∧ Fr B b w w' := by
  have H := hide h
  clear h
  go_enter Tryz.func18, Tryz.ntmps18
  go_wp2_with fail
  refine (put1 B b l ⟨#[10]⟩ w H.out (by show l.length + 1 ≤ _; omega)).mono ?_
  rintro e w1 ⟨rfl, h1, f1⟩
  have H1 := hide h1
  have F1 := hide f1
  clear h1 f1
  go_wp2_with fail
  refine (margin_any B b _ n w1 H1.out hn (by rw [List.length_append]; show l.length + 1 + n ≤ _; omega)).mono ?_
  rintro e w2 ⟨rfl, h2, f2⟩
  have H2 := hide h2
  have F2 := hide (F1.out.trans f2)
  clear h2 f2
  go_wp2
  go_end0
  refine ⟨rfl, ?_, F2.out⟩
  have := H2.out
  rw [List.append_assoc] at this
  exact this
theorem namesL_take (xs : List ByteArray) (i : Nat) (x : ByteArray) (h : xs[i]? = some x) : namesL (xs.take (i + 1)) = namesL (xs.take i) ++ (32 :: bl x) := by
  rw [List.take_add_one, h]
  exact namesL_snoc _ x
theorem namesL_take_len (xs : List ByteArray) (i : Nat) : (namesL (xs.take i)).length ≤ (namesL xs).length := by
  unfold namesL
  conv => rhs; rw [← List.take_append_drop i xs, List.flatMap_append, List.length_append]
  omega
set_option maxHeartbeats 1000000 in
theorem putNames_any (B b : Nat) (l : List UInt8) (s : ByteArray) (xs : List ByteArray) (o : Option Addr) (c : Nat) (w : World) (h : Pg B b l w) (hm : RowOf (LtK B) w strR 1 o xs) (hn : xs.length ≤ 4) (hlen : l.length + s.size + (namesL xs).length ≤ 100000000) :
    Calls Tryz.prog 39 #[.pointer (some ⟨b, 0, none⟩), .string s, .slice o xs.length c] w fun e w' => e = .returned (.tuple #[]) ∧ Pg B b (l ++ (bl s ++ namesL xs)) w' ∧ Fr B b w w' := by
  have H := hide h
  have HM := hide hm
  clear h hm
  go_enter Tryz.func39, Tryz.ntmps39
  go_wp2_with fail
  refine (put1 B b l s w H.out (by omega)).mono ?_
  rintro e w1 ⟨rfl, h1, f1⟩
  have H1 := hide h1
  have F1 := hide f1
  clear h1 f1
  go_wp2
  go_loopw [14] (fun t wr => ∃ i : Nat, i ≤ xs.length ∧ t = .int .i64 i ∧ Pg B b (l ++ bl s ++ namesL (xs.take i)) wr ∧ Fr B b w wr) (fun t _ => xs.length - (intOf t).toNat)
  case atStart => exact ⟨0, Nat.zero_le _, rfl, by simpa [namesL] using H1.out, F1.out⟩
  case round =>
    obtain ⟨i, hi, rfl, hp, hf⟩ := hrel
    have HP := hide hp
    have HF := hide hf
    clear hp hf
    by_cases hlt : i < xs.length
    · have hne : xs ≠ [] := by intro e; rw [e] at hlt; simp at hlt
      obtain ⟨x, hx⟩ : ∃ x, xs[i]? = some x := ⟨xs[i], List.getElem?_eq_getElem hlt⟩
      obtain ⟨g, off, eo, -, hbl, hcs⟩ := (HM.out.frame HF.out.stays (fun _ h => h) (fun _ _ h => h)) hne
      subst eo
      obtain ⟨_, -, hkey, rfl, hxs⟩ := hcs i _ hx
      have q0 := hkey 0 _ rfl
      simp only [Nat.mul_one, Nat.add_zero] at q0
      have hnt := namesL_take xs i x hx
      have hle := namesL_take_len xs (i + 1)
      have hsl : (namesL (xs.take i)).length + 1 + x.size ≤ (namesL xs).length := by
        rw [hnt, List.length_append, List.length_cons, bl_len] at hle
        omega
      have HNT := hide hnt
      have hlt2 : (i : Int) < xs.length := by omega
      clear hcs hkey hx hne hle hnt
      go_wp2_with fail
      refine (put2 B b _ ⟨#[32]⟩ x wr HP.out (by rw [List.length_append, List.length_append, bl_len]; show _ + 1 + _ ≤ _; omega)).mono ?_
      rintro e w2 ⟨rfl, h2, f2⟩
      have H2 := hide h2
      have F2 := hide (HF.out.trans f2)
      clear h2 f2
      go_wp2
      refine ⟨⟨i + 1, by omega, by go_num, ?_, F2.out⟩, by simp [intOf]; omega⟩
      rw [HNT.out, ← List.append_assoc]
      exact H2.out
    · have hlt2 : ¬ (i : Int) < xs.length := by omega
      have hie : i = xs.length := by omega
      subst hie
      go_wp2
      go_end0
      refine ⟨rfl, ?_, HF.out⟩
      have := HP.out
      rw [List.take_length, List.append_assoc] at this
      exact this
theorem tightOfOp_any (s : ByteArray) (w : World) : Calls Tryz.prog 104 #[.string s] w fun e w' => e = .returned (.int .i64 (opLev s : Nat)) ∧ w' = w := by
  go_enter Tryz.func104, Tryz.ntmps104
  go_wp2
  all_goals
    go_ret
    refine ⟨?_, rfl⟩
    unfold opLev
    simp_all
theorem leftOf_any (n : Nat) (w : World) : Calls Tryz.prog 105 #[.int .i64 n] w fun e w' => e = .returned (.int .i64 (leftL n : Nat)) ∧ w' = w := by
  by_cases h : n = 1
  · subst h
    go_enter Tryz.func105, Tryz.ntmps105
    go_wp2
    go_ret
    exact ⟨rfl, rfl⟩
  · have h2 : ((n : Int) == 1) = false := by simp; omega
    have hL : leftL n = n := by unfold leftL; rw [if_neg h]
    go_enter Tryz.func105, Tryz.ntmps105
    go_wp2
    go_ret
    exact ⟨by rw [hL]; rfl, rfl⟩
end Go.Proofs.YteoghpefilghdakGreatDoor
namespace Go.Proofs.YteoghpefilghdakGreatDoor
open Go.ChangeShapes Go.WideShapes Go.ChangeAt Go.RowKit
set_option linter.unusedVariables false
set_option linter.unusedSimpArgs false

theorem tb_1_1 (v : Value) (w : World) : (Instr.typeAssert (.iface 157 v) 128 157 true).run Tryz.prog w = .ok (.tuple #[v, .bool true]) w := by kernel_rfl
theorem tb_1_2 (v : Value) (w : World) : (Instr.typeAssert (.iface 157 v) 128 158 true).run Tryz.prog w = .ok (.tuple #[.agg #[.string ⟨#[]⟩], .bool false]) w := by kernel_rfl
theorem tb_1_3 (v : Value) (w : World) : (Instr.typeAssert (.iface 157 v) 128 160 true).run Tryz.prog w = .ok (.tuple #[.agg #[.int .i64 0], .bool false]) w := by kernel_rfl
theorem tb_1_4 (v : Value) (w : World) : (Instr.typeAssert (.iface 157 v) 128 162 true).run Tryz.prog w = .ok (.tuple #[.agg #[.int .i64 0, .string ⟨#[]⟩, .int .i64 0, .slice none 0 0, .slice none 0 0, .slice none 0 0, .int .i64 0, .string ⟨#[]⟩, .int .i64 0, .slice none 0 0, .slice none 0 0, .slice none 0 0], .bool false]) w := by kernel_rfl
theorem tb_1_9 (v : Value) (w : World) : (Instr.typeAssert (.iface 157 v) 128 174 true).run Tryz.prog w = .ok (.tuple #[.agg #[.string ⟨#[]⟩, .int .i64 0, .string ⟨#[]⟩, .int .i64 0, .slice none 0 0, .slice none 0 0, .slice none 0 0, .int .i64 0, .string ⟨#[]⟩, .int .i64 0, .slice none 0 0, .slice none 0 0, .slice none 0 0], .bool false]) w := by kernel_rfl
theorem tb_2_1 (v : Value) (w : World) : (Instr.typeAssert (.iface 158 v) 128 157 true).run Tryz.prog w = .ok (.tuple #[.agg #[.string ⟨#[]⟩], .bool false]) w := by kernel_rfl
theorem tb_2_2 (v : Value) (w : World) : (Instr.typeAssert (.iface 158 v) 128 158 true).run Tryz.prog w = .ok (.tuple #[v, .bool true]) w := by kernel_rfl
theorem tb_2_3 (v : Value) (w : World) : (Instr.typeAssert (.iface 158 v) 128 160 true).run Tryz.prog w = .ok (.tuple #[.agg #[.int .i64 0], .bool false]) w := by kernel_rfl
theorem tb_2_4 (v : Value) (w : World) : (Instr.typeAssert (.iface 158 v) 128 162 true).run Tryz.prog w = .ok (.tuple #[.agg #[.int .i64 0, .string ⟨#[]⟩, .int .i64 0, .slice none 0 0, .slice none 0 0, .slice none 0 0, .int .i64 0, .string ⟨#[]⟩, .int .i64 0, .slice none 0 0, .slice none 0 0, .slice none 0 0], .bool false]) w := by kernel_rfl
theorem tb_2_9 (v : Value) (w : World) : (Instr.typeAssert (.iface 158 v) 128 174 true).run Tryz.prog w = .ok (.tuple #[.agg #[.string ⟨#[]⟩, .int .i64 0, .string ⟨#[]⟩, .int .i64 0, .slice none 0 0, .slice none 0 0, .slice none 0 0, .int .i64 0, .string ⟨#[]⟩, .int .i64 0, .slice none 0 0, .slice none 0 0, .slice none 0 0], .bool false]) w := by kernel_rfl
theorem tb_3_1 (v : Value) (w : World) : (Instr.typeAssert (.iface 160 v) 128 157 true).run Tryz.prog w = .ok (.tuple #[.agg #[.string ⟨#[]⟩], .bool false]) w := by kernel_rfl
theorem tb_3_2 (v : Value) (w : World) : (Instr.typeAssert (.iface 160 v) 128 158 true).run Tryz.prog w = .ok (.tuple #[.agg #[.string ⟨#[]⟩], .bool false]) w := by kernel_rfl
theorem tb_3_3 (v : Value) (w : World) : (Instr.typeAssert (.iface 160 v) 128 160 true).run Tryz.prog w = .ok (.tuple #[v, .bool true]) w := by kernel_rfl
theorem tb_3_4 (v : Value) (w : World) : (Instr.typeAssert (.iface 160 v) 128 162 true).run Tryz.prog w = .ok (.tuple #[.agg #[.int .i64 0, .string ⟨#[]⟩, .int .i64 0, .slice none 0 0, .slice none 0 0, .slice none 0 0, .int .i64 0, .string ⟨#[]⟩, .int .i64 0, .slice none 0 0, .slice none 0 0, .slice none 0 0], .bool false]) w := by kernel_rfl
theorem tb_3_9 (v : Value) (w : World) : (Instr.typeAssert (.iface 160 v) 128 174 true).run Tryz.prog w = .ok (.tuple #[.agg #[.string ⟨#[]⟩, .int .i64 0, .string ⟨#[]⟩, .int .i64 0, .slice none 0 0, .slice none 0 0, .slice none 0 0, .int .i64 0, .string ⟨#[]⟩, .int .i64 0, .slice none 0 0, .slice none 0 0, .slice none 0 0], .bool false]) w := by kernel_rfl
theorem tb_4_1 (v : Value) (w : World) : (Instr.typeAssert (.iface 162 v) 128 157 true).run Tryz.prog w = .ok (.tuple #[.agg #[.string ⟨#[]⟩], .bool false]) w := by kernel_rfl
theorem tb_4_2 (v : Value) (w : World) : (Instr.typeAssert (.iface 162 v) 128 158 true).run Tryz.prog w = .ok (.tuple #[.agg #[.string ⟨#[]⟩], .bool false]) w := by kernel_rfl
theorem tb_4_3 (v : Value) (w : World) : (Instr.typeAssert (.iface 162 v) 128 160 true).run Tryz.prog w = .ok (.tuple #[.agg #[.int .i64 0], .bool false]) w := by kernel_rfl
theorem tb_4_4 (v : Value) (w : World) : (Instr.typeAssert (.iface 162 v) 128 162 true).run Tryz.prog w = .ok (.tuple #[v, .bool true]) w := by kernel_rfl
theorem tb_4_9 (v : Value) (w : World) : (Instr.typeAssert (.iface 162 v) 128 174 true).run Tryz.prog w = .ok (.tuple #[.agg #[.string ⟨#[]⟩, .int .i64 0, .string ⟨#[]⟩, .int .i64 0, .slice none 0 0, .slice none 0 0, .slice none 0 0, .int .i64 0, .string ⟨#[]⟩, .int .i64 0, .slice none 0 0, .slice none 0 0, .slice none 0 0], .bool false]) w := by kernel_rfl
theorem tb_5_1 (v : Value) (w : World) : (Instr.typeAssert (.iface 165 v) 128 157 true).run Tryz.prog w = .ok (.tuple #[.agg #[.string ⟨#[]⟩], .bool false]) w := by kernel_rfl
theorem tb_5_2 (v : Value) (w : World) : (Instr.typeAssert (.iface 165 v) 128 158 true).run Tryz.prog w = .ok (.tuple #[.agg #[.string ⟨#[]⟩], .bool false]) w := by kernel_rfl
theorem tb_5_3 (v : Value) (w : World) : (Instr.typeAssert (.iface 165 v) 128 160 true).run Tryz.prog w = .ok (.tuple #[.agg #[.int .i64 0], .bool false]) w := by kernel_rfl
theorem tb_5_4 (v : Value) (w : World) : (Instr.typeAssert (.iface 165 v) 128 162 true).run Tryz.prog w = .ok (.tuple #[.agg #[.int .i64 0, .string ⟨#[]⟩, .int .i64 0, .slice none 0 0, .slice none 0 0, .slice none 0 0, .int .i64 0, .string ⟨#[]⟩, .int .i64 0, .slice none 0 0, .slice none 0 0, .slice none 0 0], .bool false]) w := by kernel_rfl
theorem tb_5_5 (v : Value) (w : World) : (Instr.typeAssert (.iface 165 v) 128 165 true).run Tryz.prog w = .ok (.tuple #[v, .bool true]) w := by kernel_rfl
theorem tb_5_9 (v : Value) (w : World) : (Instr.typeAssert (.iface 165 v) 128 174 true).run Tryz.prog w = .ok (.tuple #[.agg #[.string ⟨#[]⟩, .int .i64 0, .string ⟨#[]⟩, .int .i64 0, .slice none 0 0, .slice none 0 0, .slice none 0 0, .int .i64 0, .string ⟨#[]⟩, .int .i64 0, .slice none 0 0, .slice none 0 0, .slice none 0 0], .bool false]) w := by kernel_rfl
theorem tb_6_1 (v : Value) (w : World) : (Instr.typeAssert (.iface 167 v) 128 157 true).run Tryz.prog w = .ok (.tuple #[.agg #[.string ⟨#[]⟩], .bool false]) w := by kernel_rfl
theorem tb_6_2 (v : Value) (w : World) : (Instr.typeAssert (.iface 167 v) 128 158 true).run Tryz.prog w = .ok (.tuple #[.agg #[.string ⟨#[]⟩], .bool false]) w := by kernel_rfl
theorem tb_6_3 (v : Value) (w : World) : (Instr.typeAssert (.iface 167 v) 128 160 true).run Tryz.prog w = .ok (.tuple #[.agg #[.int .i64 0], .bool false]) w := by kernel_rfl
theorem tb_6_4 (v : Value) (w : World) : (Instr.typeAssert (.iface 167 v) 128 162 true).run Tryz.prog w = .ok (.tuple #[.agg #[.int .i64 0, .string ⟨#[]⟩, .int .i64 0, .slice none 0 0, .slice none 0 0, .slice none 0 0, .int .i64 0, .string ⟨#[]⟩, .int .i64 0, .slice none 0 0, .slice none 0 0, .slice none 0 0], .bool false]) w := by kernel_rfl
theorem tb_6_5 (v : Value) (w : World) : (Instr.typeAssert (.iface 167 v) 128 165 true).run Tryz.prog w = .ok (.tuple #[.agg #[.string ⟨#[]⟩, .int .i64 0, .string ⟨#[]⟩, .int .i64 0, .slice none 0 0, .slice none 0 0, .slice none 0 0], .bool false]) w := by kernel_rfl
theorem tb_6_6 (v : Value) (w : World) : (Instr.typeAssert (.iface 167 v) 128 167 true).run Tryz.prog w = .ok (.tuple #[v, .bool true]) w := by kernel_rfl
theorem tb_6_9 (v : Value) (w : World) : (Instr.typeAssert (.iface 167 v) 128 174 true).run Tryz.prog w = .ok (.tuple #[.agg #[.string ⟨#[]⟩, .int .i64 0, .string ⟨#[]⟩, .int .i64 0, .slice none 0 0, .slice none 0 0, .slice none 0 0, .int .i64 0, .string ⟨#[]⟩, .int .i64 0, .slice none 0 0, .slice none 0 0, .slice none 0 0], .bool false]) w := by kernel_rfl
theorem tb_7_1 (v : Value) (w : World) : (Instr.typeAssert (.iface 169 v) 128 157 true).run Tryz.prog w = .ok (.tuple #[.agg #[.string ⟨#[]⟩], .bool false]) w := by kernel_rfl
theorem tb_7_2 (v : Value) (w : World) : (Instr.typeAssert (.iface 169 v) 128 158 true).run Tryz.prog w = .ok (.tuple #[.agg #[.string ⟨#[]⟩], .bool false]) w := by kernel_rfl
theorem tb_7_3 (v : Value) (w : World) : (Instr.typeAssert (.iface 169 v) 128 160 true).run Tryz.prog w = .ok (.tuple #[.agg #[.int .i64 0], .bool false]) w := by kernel_rfl
theorem tb_7_4 (v : Value) (w : World) : (Instr.typeAssert (.iface 169 v) 128 162 true).run Tryz.prog w = .ok (.tuple #[.agg #[.int .i64 0, .string ⟨#[]⟩, .int .i64 0, .slice none 0 0, .slice none 0 0, .slice none 0 0, .int .i64 0, .string ⟨#[]⟩, .int .i64 0, .slice none 0 0, .slice none 0 0, .slice none 0 0], .bool false]) w := by kernel_rfl
theorem tb_7_5 (v : Value) (w : World) : (Instr.typeAssert (.iface 169 v) 128 165 true).run Tryz.prog w = .ok (.tuple #[.agg #[.string ⟨#[]⟩, .int .i64 0, .string ⟨#[]⟩, .int .i64 0, .slice none 0 0, .slice none 0 0, .slice none 0 0], .bool false]) w := by kernel_rfl
theorem tb_7_6 (v : Value) (w : World) : (Instr.typeAssert (.iface 169 v) 128 167 true).run Tryz.prog w = .ok (.tuple #[.agg #[.slice none 0 0, .int .i64 0, .string ⟨#[]⟩, .int .i64 0, .slice none 0 0, .slice none 0 0, .slice none 0 0], .bool false]) w := by kernel_rfl
theorem tb_7_7 (v : Value) (w : World) : (Instr.typeAssert (.iface 169 v) 128 169 true).run Tryz.prog w = .ok (.tuple #[v, .bool true]) w := by kernel_rfl
theorem tb_7_9 (v : Value) (w : World) : (Instr.typeAssert (.iface 169 v) 128 174 true).run Tryz.prog w = .ok (.tuple #[.agg #[.string ⟨#[]⟩, .int .i64 0, .string ⟨#[]⟩, .int .i64 0, .slice none 0 0, .slice none 0 0, .slice none 0 0, .int .i64 0, .string ⟨#[]⟩, .int .i64 0, .slice none 0 0, .slice none 0 0, .slice none 0 0], .bool false]) w := by kernel_rfl
theorem tb_8_1 (v : Value) (w : World) : (Instr.typeAssert (.iface 172 v) 128 157 true).run Tryz.prog w = .ok (.tuple #[.agg #[.string ⟨#[]⟩], .bool false]) w := by kernel_rfl
theorem tb_8_2 (v : Value) (w : World) : (Instr.typeAssert (.iface 172 v) 128 158 true).run Tryz.prog w = .ok (.tuple #[.agg #[.string ⟨#[]⟩], .bool false]) w := by kernel_rfl
theorem tb_8_3 (v : Value) (w : World) : (Instr.typeAssert (.iface 172 v) 128 160 true).run Tryz.prog w = .ok (.tuple #[.agg #[.int .i64 0], .bool false]) w := by kernel_rfl
theorem tb_8_4 (v : Value) (w : World) : (Instr.typeAssert (.iface 172 v) 128 162 true).run Tryz.prog w = .ok (.tuple #[.agg #[.int .i64 0, .string ⟨#[]⟩, .int .i64 0, .slice none 0 0, .slice none 0 0, .slice none 0 0, .int .i64 0, .string ⟨#[]⟩, .int .i64 0, .slice none 0 0, .slice none 0 0, .slice none 0 0], .bool false]) w := by kernel_rfl
theorem tb_8_5 (v : Value) (w : World) : (Instr.typeAssert (.iface 172 v) 128 165 true).run Tryz.prog w = .ok (.tuple #[.agg #[.string ⟨#[]⟩, .int .i64 0, .string ⟨#[]⟩, .int .i64 0, .slice none 0 0, .slice none 0 0, .slice none 0 0], .bool false]) w := by kernel_rfl
theorem tb_8_6 (v : Value) (w : World) : (Instr.typeAssert (.iface 172 v) 128 167 true).run Tryz.prog w = .ok (.tuple #[.agg #[.slice none 0 0, .int .i64 0, .string ⟨#[]⟩, .int .i64 0, .slice none 0 0, .slice none 0 0, .slice none 0 0], .bool false]) w := by kernel_rfl
theorem tb_8_7 (v : Value) (w : World) : (Instr.typeAssert (.iface 172 v) 128 169 true).run Tryz.prog w = .ok (.tuple #[.agg #[.int .i64 0, .string ⟨#[]⟩, .int .i64 0, .slice none 0 0, .slice none 0 0, .slice none 0 0, .slice none 0 0], .bool false]) w := by kernel_rfl
theorem tb_8_8 (v : Value) (w : World) : (Instr.typeAssert (.iface 172 v) 128 172 true).run Tryz.prog w = .ok (.tuple #[v, .bool true]) w := by kernel_rfl
theorem tb_8_9 (v : Value) (w : World) : (Instr.typeAssert (.iface 172 v) 128 174 true).run Tryz.prog w = .ok (.tuple #[.agg #[.string ⟨#[]⟩, .int .i64 0, .string ⟨#[]⟩, .int .i64 0, .slice none 0 0, .slice none 0 0, .slice none 0 0, .int .i64 0, .string ⟨#[]⟩, .int .i64 0, .slice none 0 0, .slice none 0 0, .slice none 0 0], .bool false]) w := by kernel_rfl
theorem tb_9_1 (v : Value) (w : World) : (Instr.typeAssert (.iface 174 v) 128 157 true).run Tryz.prog w = .ok (.tuple #[.agg #[.string ⟨#[]⟩], .bool false]) w := by kernel_rfl
theorem tb_9_2 (v : Value) (w : World) : (Instr.typeAssert (.iface 174 v) 128 158 true).run Tryz.prog w = .ok (.tuple #[.agg #[.string ⟨#[]⟩], .bool false]) w := by kernel_rfl
theorem tb_9_3 (v : Value) (w : World) : (Instr.typeAssert (.iface 174 v) 128 160 true).run Tryz.prog w = .ok (.tuple #[.agg #[.int .i64 0], .bool false]) w := by kernel_rfl
theorem tb_9_4 (v : Value) (w : World) : (Instr.typeAssert (.iface 174 v) 128 162 true).run Tryz.prog w = .ok (.tuple #[.agg #[.int .i64 0, .string ⟨#[]⟩, .int .i64 0, .slice none 0 0, .slice none 0 0, .slice none 0 0, .int .i64 0, .string ⟨#[]⟩, .int .i64 0, .slice none 0 0, .slice none 0 0, .slice none 0 0], .bool false]) w := by kernel_rfl
theorem tb_9_5 (v : Value) (w : World) : (Instr.typeAssert (.iface 174 v) 128 165 true).run Tryz.prog w = .ok (.tuple #[.agg #[.string ⟨#[]⟩, .int .i64 0, .string ⟨#[]⟩, .int .i64 0, .slice none 0 0, .slice none 0 0, .slice none 0 0], .bool false]) w := by kernel_rfl
theorem tb_9_6 (v : Value) (w : World) : (Instr.typeAssert (.iface 174 v) 128 167 true).run Tryz.prog w = .ok (.tuple #[.agg #[.slice none 0 0, .int .i64 0, .string ⟨#[]⟩, .int .i64 0, .slice none 0 0, .slice none 0 0, .slice none 0 0], .bool false]) w := by kernel_rfl
theorem tb_9_7 (v : Value) (w : World) : (Instr.typeAssert (.iface 174 v) 128 169 true).run Tryz.prog w = .ok (.tuple #[.agg #[.int .i64 0, .string ⟨#[]⟩, .int .i64 0, .slice none 0 0, .slice none 0 0, .slice none 0 0, .slice none 0 0], .bool false]) w := by kernel_rfl
theorem tb_9_8 (v : Value) (w : World) : (Instr.typeAssert (.iface 174 v) 128 172 true).run Tryz.prog w = .ok (.tuple #[.agg #[.int .i64 0, .string ⟨#[]⟩, .int .i64 0, .slice none 0 0, .slice none 0 0, .slice none 0 0, .int .i64 0, .string ⟨#[]⟩, .int .i64 0, .slice none 0 0, .slice none 0 0, .slice none 0 0, .int .i64 0, .string ⟨#[]⟩, .int .i64 0, .slice none 0 0, .slice none 0 0, .slice none 0 0], .bool false]) w := by kernel_rfl
theorem tb_9_9 (v : Value) (w : World) : (Instr.typeAssert (.iface 174 v) 128 174 true).run Tryz.prog w = .ok (.tuple #[v, .bool true]) w := by kernel_rfl
set_option maxHeartbeats 2000000 in
set_option maxRecDepth 100000 in
theorem tight_1 (s : ByteArray) (w : World) : Calls Tryz.prog 133 #[.iface 157 (.agg #[.string s])] w fun e w' => e = .returned (.int .i64 5) ∧ Below w.heap.size w w' := by
  have t1 := tb_1_1 (.agg #[.string s])
  have t2 := tb_1_2 (.agg #[.string s])
  have t3 := tb_1_3 (.agg #[.string s])
  have t4 := tb_1_4 (.agg #[.string s])
  have t9 := tb_1_9 (.agg #[.string s])
  go_enter Tryz.func133, Tryz.ntmps133
  go_wp2
  go_ret
  exact ⟨rfl, Below.refl _ _⟩
set_option maxHeartbeats 2000000 in
set_option maxRecDepth 100000 in
theorem tight_2 (s : ByteArray) (w : World) : Calls Tryz.prog 133 #[.iface 158 (.agg #[.string s])] w fun e w' => e = .returned (.int .i64 5) ∧ Below w.heap.size w w' := by
  have t1 := tb_2_1 (.agg #[.string s])
  have t2 := tb_2_2 (.agg #[.string s])
  have t3 := tb_2_3 (.agg #[.string s])
  have t4 := tb_2_4 (.agg #[.string s])
  have t9 := tb_2_9 (.agg #[.string s])
  go_enter Tryz.func133, Tryz.ntmps133
  go_wp2
  go_ret
  exact ⟨rfl, Below.refl _ _⟩
set_option maxHeartbeats 2000000 in
set_option maxRecDepth 100000 in
theorem tight_3 (m : Int) (w : World) : Calls Tryz.prog 133 #[.iface 160 (.agg #[.int .i64 m])] w fun e w' => e = .returned (.int .i64 5) ∧ Below w.heap.size w w' := by
  have t1 := tb_3_1 (.agg #[.int .i64 m])
  have t2 := tb_3_2 (.agg #[.int .i64 m])
  have t3 := tb_3_3 (.agg #[.int .i64 m])
  have t4 := tb_3_4 (.agg #[.int .i64 m])
  have t9 := tb_3_9 (.agg #[.int .i64 m])
  go_enter Tryz.func133, Tryz.ntmps133
  go_wp2
  go_ret
  exact ⟨rfl, Below.refl _ _⟩
set_option maxHeartbeats 2000000 in
set_option maxRecDepth 100000 in
theorem tight_4 (x : Tr) (xo1 xo2 xo3 : Option Addr) (xg1 xg2 xg3 : Nat) (y : Tr) (yo1 yo2 yo3 : Option Addr) (yg1 yg2 yg3 : Nat) (w : World) : Calls Tryz.prog 133 #[.iface 162 (.agg #[.int .i64 x.k, .string x.s, .int .i64 x.n, .slice xo1 x.l.length xg1, .slice xo2 x.ds.length xg2, .slice xo3 x.al.length xg3, .int .i64 y.k, .string y.s, .int .i64 y.n, .slice yo1 y.l.length yg1, .slice yo2 y.ds.length yg2, .slice yo3 y.al.length yg3])] w fun e w' => e = .returned (.int .i64 4) ∧ Below w.heap.size w w' := by
  have t1 := tb_4_1 (.agg #[.int .i64 x.k, .string x.s, .int .i64 x.n, .slice xo1 x.l.length xg1, .slice xo2 x.ds.length xg2, .slice xo3 x.al.length xg3, .int .i64 y.k, .string y.s, .int .i64 y.n, .slice yo1 y.l.length yg1, .slice yo2 y.ds.length yg2, .slice yo3 y.al.length yg3])
  have t2 := tb_4_2 (.agg #[.int .i64 x.k, .string x.s, .int .i64 x.n, .slice xo1 x.l.length xg1, .slice xo2 x.ds.length xg2, .slice xo3 x.al.length xg3, .int .i64 y.k, .string y.s, .int .i64 y.n, .slice yo1 y.l.length yg1, .slice yo2 y.ds.length yg2, .slice yo3 y.al.length yg3])
  have t3 := tb_4_3 (.agg #[.int .i64 x.k, .string x.s, .int .i64 x.n, .slice xo1 x.l.length xg1, .slice xo2 x.ds.length xg2, .slice xo3 x.al.length xg3, .int .i64 y.k, .string y.s, .int .i64 y.n, .slice yo1 y.l.length yg1, .slice yo2 y.ds.length yg2, .slice yo3 y.al.length yg3])
  have t4 := tb_4_4 (.agg #[.int .i64 x.k, .string x.s, .int .i64 x.n, .slice xo1 x.l.length xg1, .slice xo2 x.ds.length xg2, .slice xo3 x.al.length xg3, .int .i64 y.k, .string y.s, .int .i64 y.n, .slice yo1 y.l.length yg1, .slice yo2 y.ds.length yg2, .slice yo3 y.al.length yg3])
  have t9 := tb_4_9 (.agg #[.int .i64 x.k, .string x.s, .int .i64 x.n, .slice xo1 x.l.length xg1, .slice xo2 x.ds.length xg2, .slice xo3 x.al.length xg3, .int .i64 y.k, .string y.s, .int .i64 y.n, .slice yo1 y.l.length yg1, .slice yo2 y.ds.length yg2, .slice yo3 y.al.length yg3])
  go_enter Tryz.func133, Tryz.ntmps133
  go_wp2
  go_ret
  exact ⟨rfl, (Below.refl _ w).alloc (Nat.le_refl _) _⟩
set_option maxHeartbeats 2000000 in
set_option maxRecDepth 100000 in
theorem tight_5 (s : ByteArray) (x : Tr) (xo1 xo2 xo3 : Option Addr) (xg1 xg2 xg3 : Nat) (w : World) : Calls Tryz.prog 133 #[.iface 165 (.agg #[.string s, .int .i64 x.k, .string x.s, .int .i64 x.n, .slice xo1 x.l.length xg1, .slice xo2 x.ds.length xg2, .slice xo3 x.al.length xg3])] w fun e w' => e = .returned (.int .i64 0) ∧ Below w.heap.size w w' := by
  have t1 := tb_5_1 (.agg #[.string s, .int .i64 x.k, .string x.s, .int .i64 x.n, .slice xo1 x.l.length xg1, .slice xo2 x.ds.length xg2, .slice xo3 x.al.length xg3])
  have t2 := tb_5_2 (.agg #[.string s, .int .i64 x.k, .string x.s, .int .i64 x.n, .slice xo1 x.l.length xg1, .slice xo2 x.ds.length xg2, .slice xo3 x.al.length xg3])
  have t3 := tb_5_3 (.agg #[.string s, .int .i64 x.k, .string x.s, .int .i64 x.n, .slice xo1 x.l.length xg1, .slice xo2 x.ds.length xg2, .slice xo3 x.al.length xg3])
  have t4 := tb_5_4 (.agg #[.string s, .int .i64 x.k, .string x.s, .int .i64 x.n, .slice xo1 x.l.length xg1, .slice xo2 x.ds.length xg2, .slice xo3 x.al.length xg3])
  have t9 := tb_5_9 (.agg #[.string s, .int .i64 x.k, .string x.s, .int .i64 x.n, .slice xo1 x.l.length xg1, .slice xo2 x.ds.length xg2, .slice xo3 x.al.length xg3])
  go_enter Tryz.func133, Tryz.ntmps133
  go_wp2
  go_ret
  exact ⟨rfl, Below.refl _ _⟩
set_option maxHeartbeats 2000000 in
set_option maxRecDepth 100000 in
theorem tight_6 (xs : List Tr) (o : Option Addr) (c : Nat) (x : Tr) (xo1 xo2 xo3 : Option Addr) (xg1 xg2 xg3 : Nat) (w : World) : Calls Tryz.prog 133 #[.iface 167 (.agg #[.slice o xs.length c, .int .i64 x.k, .string x.s, .int .i64 x.n, .slice xo1 x.l.length xg1, .slice xo2 x.ds.length xg2, .slice xo3 x.al.length xg3])] w fun e w' => e = .returned (.int .i64 0) ∧ Below w.heap.size w w' := by
  have t1 := tb_6_1 (.agg #[.slice o xs.length c, .int .i64 x.k, .string x.s, .int .i64 x.n, .slice xo1 x.l.length xg1, .slice xo2 x.ds.length xg2, .slice xo3 x.al.length xg3])
  have t2 := tb_6_2 (.agg #[.slice o xs.length c, .int .i64 x.k, .string x.s, .int .i64 x.n, .slice xo1 x.l.length xg1, .slice xo2 x.ds.length xg2, .slice xo3 x.al.length xg3])
  have t3 := tb_6_3 (.agg #[.slice o xs.length c, .int .i64 x.k, .string x.s, .int .i64 x.n, .slice xo1 x.l.length xg1, .slice xo2 x.ds.length xg2, .slice xo3 x.al.length xg3])
  have t4 := tb_6_4 (.agg #[.slice o xs.length c, .int .i64 x.k, .string x.s, .int .i64 x.n, .slice xo1 x.l.length xg1, .slice xo2 x.ds.length xg2, .slice xo3 x.al.length xg3])
  have t9 := tb_6_9 (.agg #[.slice o xs.length c, .int .i64 x.k, .string x.s, .int .i64 x.n, .slice xo1 x.l.length xg1, .slice xo2 x.ds.length xg2, .slice xo3 x.al.length xg3])
  go_enter Tryz.func133, Tryz.ntmps133
  go_wp2
  go_ret
  exact ⟨rfl, Below.refl _ _⟩
set_option maxHeartbeats 2000000 in
set_option maxRecDepth 100000 in
theorem tight_7 (xs : List Tr) (o : Option Addr) (c : Nat) (x : Tr) (xo1 xo2 xo3 : Option Addr) (xg1 xg2 xg3 : Nat) (w : World) : Calls Tryz.prog 133 #[.iface 169 (.agg #[.int .i64 x.k, .string x.s, .int .i64 x.n, .slice xo1 x.l.length xg1, .slice xo2 x.ds.length xg2, .slice xo3 x.al.length xg3, .slice o xs.length c])] w fun e w' => e = .returned (.int .i64 0) ∧ Below w.heap.size w w' := by
  have t1 := tb_7_1 (.agg #[.int .i64 x.k, .string x.s, .int .i64 x.n, .slice xo1 x.l.length xg1, .slice xo2 x.ds.length xg2, .slice xo3 x.al.length xg3, .slice o xs.length c])
  have t2 := tb_7_2 (.agg #[.int .i64 x.k, .string x.s, .int .i64 x.n, .slice xo1 x.l.length xg1, .slice xo2 x.ds.length xg2, .slice xo3 x.al.length xg3, .slice o xs.length c])
  have t3 := tb_7_3 (.agg #[.int .i64 x.k, .string x.s, .int .i64 x.n, .slice xo1 x.l.length xg1, .slice xo2 x.ds.length xg2, .slice xo3 x.al.length xg3, .slice o xs.length c])
  have t4 := tb_7_4 (.agg #[.int .i64 x.k, .string x.s, .int .i64 x.n, .slice xo1 x.l.length xg1, .slice xo2 x.ds.length xg2, .slice xo3 x.al.length xg3, .slice o xs.length c])
  have t9 := tb_7_9 (.agg #[.int .i64 x.k, .string x.s, .int .i64 x.n, .slice xo1 x.l.length xg1, .slice xo2 x.ds.length xg2, .slice xo3 x.al.length xg3, .slice o xs.length c])
  go_enter Tryz.func133, Tryz.ntmps133
  go_wp2
  go_ret
  exact ⟨rfl, Below.refl _ _⟩
set_option maxHeartbeats 2000000 in
set_option maxRecDepth 100000 in
theorem tight_8 (x : Tr) (xo1 xo2 xo3 : Option Addr) (xg1 xg2 xg3 : Nat) (y : Tr) (yo1 yo2 yo3 : Option Addr) (yg1 yg2 yg3 : Nat) (z : Tr) (zo1 zo2 zo3 : Option Addr) (zg1 zg2 zg3 : Nat) (w : World) : Calls Tryz.prog 133 #[.iface 172 (.agg #[.int .i64 x.k, .string x.s, .int .i64 x.n, .slice xo1 x.l.length xg1, .slice xo2 x.ds.length xg2, .slice xo3 x.al.length xg3, .int .i64 y.k, .string y.s, .int .i64 y.n, .slice yo1 y.l.length yg1, .slice yo2 y.ds.length yg2, .slice yo3 y.al.length yg3, .int .i64 z.k, .string z.s, .int .i64 z.n, .slice zo1 z.l.length zg1, .slice zo2 z.ds.length zg2, .slice zo3 z.al.length zg3])] w fun e w' => e = .returned (.int .i64 0) ∧ Below w.heap.size w w' := by
  have t1 := tb_8_1 (.agg #[.int .i64 x.k, .string x.s, .int .i64 x.n, .slice xo1 x.l.length xg1, .slice xo2 x.ds.length xg2, .slice xo3 x.al.length xg3, .int .i64 y.k, .string y.s, .int .i64 y.n, .slice yo1 y.l.length yg1, .slice yo2 y.ds.length yg2, .slice yo3 y.al.length yg3, .int .i64 z.k, .string z.s, .int .i64 z.n, .slice zo1 z.l.length zg1, .slice zo2 z.ds.length zg2, .slice zo3 z.al.length zg3])
  have t2 := tb_8_2 (.agg #[.int .i64 x.k, .string x.s, .int .i64 x.n, .slice xo1 x.l.length xg1, .slice xo2 x.ds.length xg2, .slice xo3 x.al.length xg3, .int .i64 y.k, .string y.s, .int .i64 y.n, .slice yo1 y.l.length yg1, .slice yo2 y.ds.length yg2, .slice yo3 y.al.length yg3, .int .i64 z.k, .string z.s, .int .i64 z.n, .slice zo1 z.l.length zg1, .slice zo2 z.ds.length zg2, .slice zo3 z.al.length zg3])
  have t3 := tb_8_3 (.agg #[.int .i64 x.k, .string x.s, .int .i64 x.n, .slice xo1 x.l.length xg1, .slice xo2 x.ds.length xg2, .slice xo3 x.al.length xg3, .int .i64 y.k, .string y.s, .int .i64 y.n, .slice yo1 y.l.length yg1, .slice yo2 y.ds.length yg2, .slice yo3 y.al.length yg3, .int .i64 z.k, .string z.s, .int .i64 z.n, .slice zo1 z.l.length zg1, .slice zo2 z.ds.length zg2, .slice zo3 z.al.length zg3])
  have t4 := tb_8_4 (.agg #[.int .i64 x.k, .string x.s, .int .i64 x.n, .slice xo1 x.l.length xg1, .slice xo2 x.ds.length xg2, .slice xo3 x.al.length xg3, .int .i64 y.k, .string y.s, .int .i64 y.n, .slice yo1 y.l.length yg1, .slice yo2 y.ds.length yg2, .slice yo3 y.al.length yg3, .int .i64 z.k, .string z.s, .int .i64 z.n, .slice zo1 z.l.length zg1, .slice zo2 z.ds.length zg2, .slice zo3 z.al.length zg3])
  have t9 := tb_8_9 (.agg #[.int .i64 x.k, .string x.s, .int .i64 x.n, .slice xo1 x.l.length xg1, .slice xo2 x.ds.length xg2, .slice xo3 x.al.length xg3, .int .i64 y.k, .string y.s, .int .i64 y.n, .slice yo1 y.l.length yg1, .slice yo2 y.ds.length yg2, .slice yo3 y.al.length yg3, .int .i64 z.k, .string z.s, .int .i64 z.n, .slice zo1 z.l.length zg1, .slice zo2 z.ds.length zg2, .slice zo3 z.al.length zg3])
  go_enter Tryz.func133, Tryz.ntmps133
  go_wp2
  go_ret
  exact ⟨rfl, Below.refl _ _⟩
set_option maxHeartbeats 2000000 in
set_option maxRecDepth 100000 in
theorem tight_9 (s : ByteArray) (x : Tr) (xo1 xo2 xo3 : Option Addr) (xg1 xg2 xg3 : Nat) (y : Tr) (yo1 yo2 yo3 : Option Addr) (yg1 yg2 yg3 : Nat) (w : World) : Calls Tryz.prog 133 #[.iface 174 (.agg #[.string s, .int .i64 x.k, .string x.s, .int .i64 x.n, .slice xo1 x.l.length xg1, .slice xo2 x.ds.length xg2, .slice xo3 x.al.length xg3, .int .i64 y.k, .string y.s, .int .i64 y.n, .slice yo1 y.l.length yg1, .slice yo2 y.ds.length yg2, .slice yo3 y.al.length yg3])] w fun e w' => e = .returned (.int .i64 (opLev s : Nat)) ∧ Below w.heap.size w w' := by
  have t1 := tb_9_1 (.agg #[.string s, .int .i64 x.k, .string x.s, .int .i64 x.n, .slice xo1 x.l.length xg1, .slice xo2 x.ds.length xg2, .slice xo3 x.al.length xg3, .int .i64 y.k, .string y.s, .int .i64 y.n, .slice yo1 y.l.length yg1, .slice yo2 y.ds.length yg2, .slice yo3 y.al.length yg3])
  have t2 := tb_9_2 (.agg #[.string s, .int .i64 x.k, .string x.s, .int .i64 x.n, .slice xo1 x.l.length xg1, .slice xo2 x.ds.length xg2, .slice xo3 x.al.length xg3, .int .i64 y.k, .string y.s, .int .i64 y.n, .slice yo1 y.l.length yg1, .slice yo2 y.ds.length yg2, .slice yo3 y.al.length yg3])
  have t3 := tb_9_3 (.agg #[.string s, .int .i64 x.k, .string x.s, .int .i64 x.n, .slice xo1 x.l.length xg1, .slice xo2 x.ds.length xg2, .slice xo3 x.al.length xg3, .int .i64 y.k, .string y.s, .int .i64 y.n, .slice yo1 y.l.length yg1, .slice yo2 y.ds.length yg2, .slice yo3 y.al.length yg3])
  have t4 := tb_9_4 (.agg #[.string s, .int .i64 x.k, .string x.s, .int .i64 x.n, .slice xo1 x.l.length xg1, .slice xo2 x.ds.length xg2, .slice xo3 x.al.length xg3, .int .i64 y.k, .string y.s, .int .i64 y.n, .slice yo1 y.l.length yg1, .slice yo2 y.ds.length yg2, .slice yo3 y.al.length yg3])
  have t9 := tb_9_9 (.agg #[.string s, .int .i64 x.k, .string x.s, .int .i64 x.n, .slice xo1 x.l.length xg1, .slice xo2 x.ds.length xg2, .slice xo3 x.al.length xg3, .int .i64 y.k, .string y.s, .int .i64 y.n, .slice yo1 y.l.length yg1, .slice yo2 y.ds.length yg2, .slice yo3 y.al.length yg3])
  go_enter Tryz.func133, Tryz.ntmps133
  go_wp2_with fail
  refine (tightOfOp_any s _).mono ?_
  rintro e w1 ⟨rfl, rfl⟩
  go_wp2
  go_ret
  exact ⟨rfl, (Below.refl _ w).alloc (Nat.le_refl _) _⟩

def Tb (B : Nat) (w : World) : Prop := Lib.TabBelow Tryz.prog B w "internal/strconv.uint64pow10" .u64 Lib.pow10Tab
theorem Tb.on {B : Nat} {w w' : World} (h : Tb B w) (hb : Below B w w') : Tb B w' := fun v hv => h v (hb.trans hv)
/-- The text t was written on the page behind l. -/
def Wr (B b : Nat) (l t : List UInt8) (w : World) (e : Ending) (w' : World) : Prop := e = .returned (.tuple #[]) ∧ Pg B b (l ++ t) w' ∧ Fr B b w w'
structure Stp (B b : Nat) (l : List UInt8) (w0 w : World) (g : Nat) (c : Array Value) (t : TypeId) : Prop where
  pg : Pg B b l w
  fr : Fr B b w0 w
  bx : w.heap[g]? = some (.cells c t (0, 0))
theorem Stp.next {B b : Nat} {l l' : List UInt8} {w0 w w' : World} {g : Nat} {c : Array Value} {t : TypeId} (h : Stp B b l w0 w g c t) (hp : Pg B b l' w') (hf : Fr B b w w') (ht : t ≠ 57) (hu : t ≠ 5) : Stp B b l' w0 w' g c t :=
  ⟨hp, h.fr.trans hf, hf.keep h.pg h.bx ht hu⟩
theorem Stp.first {B b : Nat} {l : List UInt8} {w : World} (h : Pg B b l w) (c : Array Value) (t : TypeId) : Stp B b l w (w.alloc (.cells c t)) w.heap.size c t :=
  have hb : Below w.heap.size w (w.alloc (.cells c t)) := (Below.refl _ w).alloc (Nat.le_refl _) _
  ⟨h.later hb, Fr.of hb h.2, heap_alloc_new w _⟩
def PxEx (h : Nat) : Prop := ∀ (x : Tr) (cs : List Value) (w : World) (B b : Nat) (l : List UInt8) (n : Nat) (d : Int), (reads (LtK B) w h).ex x cs → (okz h).ex x d = true → Pg B b l w → Tb B w → (n : Int) ≤ 60 + 4 * d → (cnt h).ex x ≤ 200 → l.length + ((txt h).ex x n).length ≤ 10000000 → Calls Tryz.prog 40 #[.pointer (some ⟨b, 0, none⟩), .agg cs.toArray, .int .i64 n] w (Wr B b l ((txt h).ex x n) w)
def PxPa (h : Nat) : Prop := ∀ (x : Tr) (cs : List Value) (w : World) (B b : Nat) (l : List UInt8) (n : Nat) (d : Int) (lv : Nat), (reads (LtK B) w h).ex x cs → (okz h).ex x d = true → Pg B b l w → Tb B w → (n : Int) ≤ 60 + 4 * d → (cnt h).ex x ≤ 200 → l.length + (atL (txt h).ex x lv n).length ≤ 10000000 → lv ≤ 5 → Calls Tryz.prog 102 #[.pointer (some ⟨b, 0, none⟩), .agg cs.toArray, .int .i64 n, .int .i64 lv] w (Wr B b l (atL (txt h).ex x lv n) w)
def PxDe (h : Nat) : Prop := ∀ (x : Tr) (cs : List Value) (w : World) (B b : Nat) (l : List UInt8) (n : Nat) (d : Int), (reads (LtK B) w h).de x cs → (okz h).de x d = true → Pg B b l w → Tb B w → (n : Int) ≤ 60 + 4 * d → (cnt h).de x ≤ 200 → l.length + ((txt h).de x n).length ≤ 10000000 → Calls Tryz.prog 19 #[.pointer (some ⟨b, 0, none⟩), .agg cs.toArray, .int .i64 n] w (Wr B b l ((txt h).de x n) w)
def PxDs (h : Nat) : Prop := ∀ (xs : List Tr) (o : Option Addr) (c : Nat) (w : World) (B b : Nat) (l : List UInt8) (n : Nat) (d : Int), RowOf (LtK B) w (reads (LtK B) w h).de 9 o xs → xs.length ≤ maxLen → (∀ x, x ∈ xs → (okz h).de x d = true) → d ≤ 12 → Pg B b l w → Tb B w → (n : Int) ≤ 60 + 4 * d → sumZ (cnt h).de xs ≤ 200 → l.length + (linesL (txt h).de xs n).length ≤ 10000000 → Calls Tryz.prog 41 #[.pointer (some ⟨b, 0, none⟩), .slice o xs.length c, .int .i64 n] w (Wr B b l (linesL (txt h).de xs n) w)
def PxAs (h : Nat) : Prop := ∀ (xs : List Tr) (o : Option Addr) (c : Nat) (w : World) (B b : Nat) (l : List UInt8) (n : Nat) (d : Int), RowOf (LtK B) w (reads (LtK B) w h).al 8 o xs → xs.length ≤ maxLen → 1 ≤ xs.length → (∀ x, x ∈ xs → altB x = true ∧ (okz h).al x d = true) → d ≤ 13 → Pg B b l w → Tb B w → (n : Int) + 2 ≤ 60 + 4 * d → sumZ (cnt h).al xs ≤ 200 → l.length + (linesL (txt h).al xs n).length ≤ 10000000 → Calls Tryz.prog 103 #[.pointer (some ⟨b, 0, none⟩), .slice o xs.length c, .int .i64 n] w (Wr B b l (linesL (txt h).al xs n) w)

theorem lit_size (a : Array UInt8) : ByteArray.size ⟨a⟩ = a.size := rfl
theorem px_add {a b : Int} (h0 : 0 ≤ a) (h1 : a ≤ 1000000) (h2 : 0 ≤ b) (h3 : b ≤ 1000000) : IntKind.i64.wrap (a + b) = a + b := by rw [IntKind.wrap_i64]; omega
theorem put1g (B b : Nat) (l : List UInt8) (s : ByteArray) (w : World) (g : Nat) (h : Pg B b l w) (hg : g = w.heap.size) (hlen : l.length + s.size ≤ 100000000) :
    Calls Tryz.prog 36 #[.pointer (some ⟨b, 0, none⟩), .slice (some ⟨g, 0, none⟩) 1 1] (w.alloc (.cells #[.string s] 9)) fun e w' => e = .returned (.tuple #[]) ∧ Pg B b (l ++ bl s) w' ∧ Fr B b w w' := by
  subst hg
  exact put1 B b l s w h hlen
theorem put3g (B b : Nat) (l : List UInt8) (s t u : ByteArray) (w : World) (g : Nat) (h : Pg B b l w) (hg : g = w.heap.size) (hlen : l.length + s.size + t.size + u.size ≤ 100000000) :
    Calls Tryz.prog 36 #[.pointer (some ⟨b, 0, none⟩), .slice (some ⟨g, 0, none⟩) 3 3] (w.alloc (.cells #[.string s, .string t, .string u] 9)) fun e w' => e = .returned (.tuple #[]) ∧ Pg B b (l ++ (bl s ++ (bl t ++ bl u))) w' ∧ Fr B b w w' := by
  subst hg
  exact put3 B b l s t u w h hlen
theorem itoa_any (B : Nat) (m : Nat) (w : World) (h : Tb B w) (hm : m ≤ 999999) : Calls Tryz.prog 97 #[.int .i64 m] w fun e w' => e = .returned (.string (ofL (Lib.decDigits m))) ∧ Below w.heap.size w w' := by
  have key := Tryz.strconv_Itoa m (by omega) (by omega) w h.here
  refine key.mono ?_
  rintro e w' ⟨rfl, k, os, rfl⟩
  refine ⟨?_, ?_⟩
  · unfold Lib.itoa
    rw [if_neg (by omega)]
    rfl
  · exact Lib.below_grow _ w (Nat.le_refl _) _ os
end Go.Proofs.YteoghpefilghdakGreatDoor
