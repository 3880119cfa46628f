/- The model's l3Times: how often a maker is defined. -/
import Derived.Test.YteoghpefilghdakGreatDoorPF
namespace Go.Proofs.YteoghpefilghdakGreatDoor
open Go.ChangeShapes Go.WideShapes Go.ChangeAt Go.RowKit

/-- The makers' names, all in their order. -/
def consL (ds : List Tr) : List ByteArray := ds.flatMap fun d => d.l.map Tr.s
def cntS (l : List ByteArray) (s : ByteArray) : Nat := l.countP fun t => t.toList == s.toList
theorem cntS_le (l : List ByteArray) (s : ByteArray) : cntS l s ≤ l.length := List.countP_le_length
theorem cntS_app (a b : List ByteArray) (s : ByteArray) : cntS (a ++ b) s = cntS a s + cntS b s := List.countP_append
theorem cntS_one (t s : ByteArray) : cntS [t] s = cond (t.toList == s.toList) 1 0 := by
  unfold cntS
  rw [List.countP_cons]
  cases (t.toList == s.toList) <;> rfl
theorem consL_take {ds : List Tr} {i : Nat} {d : Tr} (h : ds[i]? = some d) : consL (ds.take (i + 1)) = consL (ds.take i) ++ d.l.map Tr.s := by
  unfold consL
  rw [List.take_add_one, h, List.flatMap_append]
  simp
theorem names_take {l : List Tr} {i : Nat} {d : Tr} (h : l[i]? = some d) : (l.take (i + 1)).map Tr.s = (l.take i).map Tr.s ++ [d.s] := by
  rw [List.take_add_one, h, List.map_append]
  rfl
theorem consL_len {ds : List Tr} {i : Nat} {d : Tr} (h : ds[i]? = some d) : (consL (ds.take i)).length + d.l.length ≤ (consL ds).length := by
  have h1 : ds = ds.take (i + 1) ++ ds.drop (i + 1) := (List.take_append_drop _ _).symm
  have h2 : consL ds = consL (ds.take (i + 1)) ++ consL (ds.drop (i + 1)) := by
    conv => lhs; rw [h1]
    unfold consL
    rw [List.flatMap_append]
  rw [h2, consL_take h, List.length_append, List.length_append, List.length_map]
  omega

set_option maxHeartbeats 1000000 in
set_option maxRecDepth 100000 in
theorem times_any {K : Nat → Prop} {w : World} {h : Nat} {x : Tr} {cs : List Value} (s : ByteArray) (hr : prR K w h x cs) (hN : (consL x.l).length ≤ 1048576) :
    Calls Tryz.prog 49 #[.agg cs.toArray, .string s] w fun e w' => e = .returned (.int .i64 ((cntS (consL x.l) s : Nat) : Int)) ∧ Below w.heap.size w w' := by
  obtain ⟨-, -, -, -, -, o1, c1, o2, c2, rfl, hl, hd, q1, q2⟩ := hr
  have HB0 : Hid (Below w.heap.size w (w.alloc (.cells #[.slice o1 x.l.length c1, .slice o2 x.ds.length c2] 31))) := (Below.refl _ w).alloc (Nat.le_refl _) _
  have HQ := hide (q1.later HB0.out (daR_later HB0.out h))
  have hl2 : x.l.length ≤ 9223372036854775807 := hl.1
  have HN := hide hN
  clear hl hd q1 q2 hN
  go_enter Tryz.func49, Tryz.ntmps49
  go_wp2
  go_loop [5, 6] (fun t5 t6 => ∃ i : Nat, i ≤ x.l.length ∧ t6 = .int .i64 i ∧ t5 = .int .i64 ((cntS (consL (x.l.take i)) s : Nat) : Int)) (fun _ t6 => x.l.length - (intOf t6).toNat)
  case atStart => exact ⟨0, Nat.zero_le _, rfl, rfl⟩
  case round =>
    obtain ⟨i, hi, rfl, rfl⟩ := hrel
    by_cases hlt : i < x.l.length
    · have hne : x.l ≠ [] := by intro e; rw [e] at hlt; simp at hlt
      obtain ⟨d, hx⟩ : ∃ d, x.l[i]? = some d := ⟨x.l[i], List.getElem?_eq_getElem hlt⟩
      obtain ⟨b, off, eo, -, hbl, hcs⟩ := HQ.out hne
      subst eo
      obtain ⟨cs, hlen, hkey, hrd⟩ := hcs i d hx
      obtain ⟨-, -, -, -, -, od, cd, rfl, -, hfd, hrd⟩ := hrd
      have z0 := hkey 0 _ rfl
      have z1 := hkey 1 _ rfl
      rw [Nat.add_zero] at z0
      have HX := hide hx
      have HRD := hide hrd
      have hd2 : d.l.length ≤ 9223372036854775807 := hfd.1
      have hcn : cntS (consL (x.l.take i)) s ≤ (consL (x.l.take i)).length := cntS_le _ _
      have hln := consL_len hx
      have hNN : (consL x.l).length ≤ 1048576 := HN.out
      generalize hn : cntS (consL (x.l.take i)) s = n at hcn
      have HNE := hide hn
      clear hcs hx hne hkey hlen hrd hfd hn
      have hlt2 : (i : Int) < x.l.length := by omega
      go_wp2
      go_loop [5, 7] (fun t5 t7 => ∃ k : Nat, k ≤ d.l.length ∧ t7 = .int .i64 k ∧ t5 = .int .i64 ((n + cntS ((d.l.take k).map Tr.s) s : Nat) : Int)) (fun _ t7 => d.l.length - (intOf t7).toNat)
      case atStart => exact ⟨0, Nat.zero_le _, rfl, rfl⟩
      case round =>
        obtain ⟨k, hk, rfl, rfl⟩ := hrel
        have hcn2 : cntS ((d.l.take k).map Tr.s) s ≤ k := by
          have := cntS_le ((d.l.take k).map Tr.s) s
          rw [List.length_map, List.length_take] at this
          omega
        generalize hm : cntS ((d.l.take k).map Tr.s) s = m at hcn2
        have HME := hide hm
        clear hm
        by_cases hlk : k < d.l.length
        · have hne : d.l ≠ [] := by intro e; rw [e] at hlk; simp at hlk
          obtain ⟨c, hx⟩ : ∃ c, d.l[k]? = some c := ⟨d.l[k], List.getElem?_eq_getElem hlk⟩
          obtain ⟨b2, off2, eo, -, hbl2, hcs⟩ := HRD.out hne
          subst eo
          obtain ⟨cs, hlen, hkey, hrd⟩ := hcs k c hx
          obtain ⟨-, -, -, -, -, oc, cc, rfl, -, -, -⟩ := hrd
          have y0 := hkey 0 _ rfl
          rw [Nat.add_zero] at y0
          have HC := hide hx
          clear hcs hx hne hkey hlen
          have hlk2 : (k : Int) < d.l.length := by omega
          cases heq : (c.s.toList == s.toList)
          · have HEQ := hide heq
            go_wp2
            go_round
            case rel =>
              refine ⟨k + 1, by omega, by go_num, ?_⟩
              rw [names_take HC.out, cntS_app, cntS_one, HEQ.out, HME.out]
              rfl
            case measure => simp [intOf]; omega
          · have HEQ := hide heq
            go_wp2
            go_round
            case rel =>
              refine ⟨k + 1, by omega, by go_num, ?_⟩
              rw [names_take HC.out, cntS_app, cntS_one, HEQ.out, HME.out]
              go_num
            case measure => simp [intOf]; omega
        · go_wp2
          go_round
          case rel =>
            refine ⟨i + 1, by omega, by go_num, ?_⟩
            rw [consL_take HX.out, cntS_app, HNE.out, ← HME.out, List.take_of_length_le (by omega)]
          case measure => simp [intOf]; omega
    · go_wp2
      go_ret
      refine ⟨ret_int ?_, HB0.out⟩
      rw [List.take_of_length_le (by omega)]
end Go.Proofs.YteoghpefilghdakGreatDoor
