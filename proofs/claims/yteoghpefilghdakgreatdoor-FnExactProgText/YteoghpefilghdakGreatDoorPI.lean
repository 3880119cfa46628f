/- The model's ProgOk. -/
import Derived.Test.YteoghpefilghdakGreatDoorPH
import Derived.Test.YteoghpefilghdakGreatDoorYQ
namespace Go.Proofs.YteoghpefilghdakGreatDoor
open Go.ChangeShapes Go.WideShapes Go.ChangeAt Go.RowKit

def datasTo (h : Nat) (ds : List Tr) : Nat → Bool
  | 0 => true
  | i + 1 => datasTo h ds i && (match ds[i]? with | some d => dataB h ds i d | none => true)
theorem datasTo_next {h : Nat} {ds : List Tr} {i : Nat} {d : Tr} (hd : ds[i]? = some d) (ht : datasTo h ds i = true) : datasTo h ds (i + 1) = dataB h ds i d := by
  show (datasTo h ds i && (match ds[i]? with | some d => dataB h ds i d | none => true)) = _
  rw [ht, hd]
  rfl
theorem datasTo_false {h : Nat} {ds : List Tr} {i n : Nat} (hf : datasTo h ds i = false) (hn : i ≤ n) : datasTo h ds n = false := up_false (datasTo h ds) _ (fun _ => rfl) hf hn
/-- A program is right, as the model has it. -/
def progB (h : Nat) (x : Tr) : Bool := datasTo h x.l x.l.length && (decide (x.l.length ≤ 5) && (decsB (okz h).de x.ds 12 0 && decide (sumZ (cnt h).de x.ds ≤ 200)))

set_option maxHeartbeats 1000000 in
set_option maxRecDepth 100000 in
theorem specProgOk_any {K : Nat → Prop} {w : World} {h : Nat} {x : Tr} {cs : List Value} (hr : prR K w h x cs) (hN : (consL x.l).length ≤ 1048576) :
    Calls Tryz.prog 11 #[.agg cs.toArray] w fun e w' => e = .returned (.bool (progB h x)) ∧ Below w.heap.size w w' := by
  have HR := hide hr
  obtain ⟨-, -, -, -, -, o1, c1, o2, c2, rfl, hl, hd, q1, q2⟩ := hr
  have HN := hide hN
  have HD := hide hd
  have HQ2 := hide q2
  have hl2 : x.l.length ≤ 9223372036854775807 := hl.1
  have HB0 : Hid (Below w.heap.size w (w.alloc (.cells #[.slice o1 x.l.length c1, .slice o2 x.ds.length c2] 31))) := (Below.refl _ w).alloc (Nat.le_refl _) _
  have HP0 : Hid ((w.alloc (.cells #[.slice o1 x.l.length c1, .slice o2 x.ds.length c2] 31)).heap[w.heap.size]? = some (.cells #[.slice o1 x.l.length c1, .slice o2 x.ds.length c2] 31 (0, 0))) := heap_alloc_new w _
  clear hl hd q1 q2 hN
  go_enter Tryz.func11, Tryz.ntmps11
  go_wp2
  generalize (w.alloc (.cells #[.slice o1 x.l.length c1, .slice o2 x.ds.length c2] 31)) = W at HB0 HP0 ⊢
  go_loopw [3] (fun t3 wr => ∃ k : Nat, k ≤ x.l.length ∧ t3 = .int .i64 k ∧ datasTo h x.l k = true ∧ Below W.heap.size W wr) (fun t3 _ => x.l.length - (intOf t3).toNat)
  case atStart => exact ⟨0, Nat.zero_le _, rfl, rfl, Below.refl _ _⟩
  case round =>
    obtain ⟨k, hk, rfl, hal, hbw⟩ := hrel
    have HAL := hide hal
    have HBW := hide hbw
    have HP1 := hide ((hbw.block w.heap.size (heap_lt HP0.out)).trans HP0.out)
    have HBT := hide (HB0.out.trans (hbw.mono HB0.out.size))
    clear hal hbw
    have p0 := cell_of HP1.out 0
    have p1 := cell_of HP1.out 1
    simp only [List.getElem?_toArray, List.getElem?_cons_succ, List.getElem?_cons_zero] at p0 p1
    by_cases hlt : k < x.l.length
    · obtain ⟨d, hx⟩ : ∃ d, x.l[k]? = some d := ⟨x.l[k], List.getElem?_eq_getElem hlt⟩
      have HX := hide hx
      clear hx
      have hlt2 : (k : Int) < x.l.length := by omega
      cases hb : dataB h x.l k d
      all_goals
        have HDB := hide hb
        clear hb
        go_wp2_with fail
        refine (data_any k d HX.out (prR_later HBT.out h _ _ HR.out) HN.out).mono ?_
        rintro e w1 ⟨rfl, hb⟩
        rw [HDB.out]
        have HB1 := hide (HBT.out.trans (hb.mono HBT.out.size))
        have HW1 := hide (HBW.out.trans (hb.mono HBW.out.size))
        clear hb
        go_wp2
      · go_ret
        refine ⟨ret_bool ?_, HB1.out⟩
        unfold progB
        rw [datasTo_false (i := k + 1) (by rw [datasTo_next HX.out HAL.out]; exact HDB.out) (by omega)]
        rfl
      · go_roundw
        case rel => exact ⟨k + 1, by omega, by go_num, by rw [datasTo_next HX.out HAL.out]; exact HDB.out, HW1.out⟩
        case measure => simp [intOf]; omega
    · have hke : k = x.l.length := by omega
      have HPB : Hid (progB h x = (decide (x.l.length ≤ 5) && (decsB (okz h).de x.ds 12 0 && decide (sumZ (cnt h).de x.ds ≤ 200)))) := by
        show progB h x = _
        unfold progB
        rw [← hke, HAL.out]
        rfl
      clear hke
      by_cases h5 : x.l.length ≤ 5
      · have h5i : (x.l.length : Int) ≤ 5 := by omega
        have h5d : decide ((x.l.length : Int) ≤ 5) = true := decide_eq_true h5i
        have h5e : decide (x.l.length ≤ 5) = true := decide_eq_true h5
        have HH5 := hide h5
        clear h5
        go_wp2_with fail
        refine ((co_all h).2.1 K x.ds o2 c2 _ 12 0 (HQ2.out.later HBT.out (reads_later HBT.out h).2.1) HD.out.1 (by omega) (by omega) (by omega) (by omega)).mono ?_
        rintro e w1 ⟨r, rfl, hr, -, -, hb⟩
        have HT := hide hr
        have HB1 := hide (HBT.out.trans (hb.mono HBT.out.size))
        clear hr hb
        go_wp2
        go_ret
        exact ⟨ret_bool (by rw [HPB.out, decide_eq_true HH5.out, Bool.true_and]; exact trk_bool HT.out), HB1.out⟩
      · have h5i : ¬ (x.l.length : Int) ≤ 5 := by omega
        have h5d : decide ((x.l.length : Int) ≤ 5) = false := decide_eq_false h5i
        have h5e : decide (x.l.length ≤ 5) = false := decide_eq_false h5
        have HH5 := hide h5
        clear h5
        go_wp2
        go_ret
        exact ⟨ret_bool (by rw [HPB.out, decide_eq_false HH5.out]; rfl), HBT.out⟩
end Go.Proofs.YteoghpefilghdakGreatDoor
