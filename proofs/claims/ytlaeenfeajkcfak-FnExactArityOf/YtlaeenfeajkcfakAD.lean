/- The model's ArityOf, DataOf. -/
import Derived.Test.YtlaeenfeajkcfakAC
namespace Go.Proofs.Ytlaeenfeajkcfak.Kn
open Go.ChangeShapes Go.WideShapes Go.ChangeAt Go.RowKit

theorem find_one (e : Mk) (g : ByteArray) : findM [e] g = cond (g.toList == e.1.toList) (some e) none := by
  unfold findM
  rw [List.find?_cons]
  cases (g.toList == e.1.toList) <;> rfl
theorem lTrue : bTrue.toList = [84, 114, 117, 101] := by rw [ByteArray.toList_eq]; rfl
theorem lFalse : bFalse.toList = [70, 97, 108, 115, 101] := by rw [ByteArray.toList_eq]; rfl
theorem find_given (g : ByteArray) : findM given g = cond (g.toList == [84, 114, 117, 101]) (some (bTrue, bBool, 0)) (cond (g.toList == [70, 97, 108, 115, 101]) (some (bFalse, bBool, 0)) none) := by
  show findM ([(bTrue, bBool, 0)] ++ [(bFalse, bBool, 0)]) g = _
  rw [find_app, find_one, find_one]
  show (cond (g.toList == bTrue.toList) (some (bTrue, bBool, 0)) none).or (cond (g.toList == bFalse.toList) (some (bFalse, bBool, 0)) none) = _
  rw [lTrue, lFalse]
  cases (g.toList == [84, 114, 117, 101]) <;> cases (g.toList == [70, 97, 108, 115, 101]) <;> rfl
theorem consM_split {ds : List Tr} {i : Nat} {d : Tr} (h : ds[i]? = some d) : consM ds = consM (ds.take i) ++ ((d.l.map fun c => (c.s, d.s, c.l.length)) ++ consM (ds.drop (i + 1))) := by
  have h1 : ds = ds.take (i + 1) ++ ds.drop (i + 1) := (List.take_append_drop _ _).symm
  have h2 : consM ds = consM (ds.take (i + 1)) ++ consM (ds.drop (i + 1)) := by
    conv => lhs; rw [h1]
    unfold consM
    rw [List.flatMap_append]
  rw [h2, consM_take h, List.append_assoc]
theorem mk_split {l : List Tr} {k : Nat} {c : Tr} (d : ByteArray) (h : l[k]? = some c) : (l.map fun c => ((c.s, d, c.l.length) : Mk)) = ((l.take k).map fun c => (c.s, d, c.l.length)) ++ ([(c.s, d, c.l.length)] ++ ((l.drop (k + 1)).map fun c => (c.s, d, c.l.length))) := by
  conv => lhs; rw [← List.take_append_drop (k + 1) l]
  rw [List.map_append, mk_take d h, List.append_assoc]
theorem find_hit {ds : List Tr} {i k : Nat} {d c : Tr} {g : ByteArray} (hd : ds[i]? = some d) (hc : d.l[k]? = some c) (h0 : findM given g = none) (h1 : findM (consM (ds.take i)) g = none) (h2 : findM ((d.l.take k).map fun c => (c.s, d.s, c.l.length)) g = none) (h3 : (c.s.toList == g.toList) = true) :
    findM (given ++ consM ds) g = some (c.s, d.s, c.l.length) := by
  rw [find_app, h0, consM_split hd, find_app, h1, find_app, mk_split d.s hc, find_app, h2, find_app, find_one]
  show ((none : Option Mk).or _) = _
  have h4 : (g.toList == c.s.toList) = true := by rw [beq_iff_eq] at h3 ⊢; exact h3.symm
  show Option.or none (Option.or none (Option.or (Option.or none (Option.or (cond (g.toList == c.s.toList) _ _) _)) _)) = _
  rw [h4]
  rfl
theorem find_miss {l : List Tr} {k : Nat} {c : Tr} (d : ByteArray) {g : ByteArray} (hc : l[k]? = some c) (h2 : findM ((l.take k).map fun c => (c.s, d, c.l.length)) g = none) (h3 : (c.s.toList == g.toList) = false) : findM ((l.take (k + 1)).map fun c => (c.s, d, c.l.length)) g = none := by
  rw [mk_take d hc, find_app, h2, find_one]
  have h4 : (g.toList == c.s.toList) = false := by rw [beq_eq_false_iff_ne] at h3 ⊢; exact fun e => h3 e.symm
  show Option.or none (cond (g.toList == c.s.toList) _ _) = _
  rw [h4]
  rfl
theorem find_row {ds : List Tr} {i : Nat} {d : Tr} {g : ByteArray} (hd : ds[i]? = some d) (h1 : findM (consM (ds.take i)) g = none) (h2 : findM (d.l.map fun c => (c.s, d.s, c.l.length)) g = none) : findM (consM (ds.take (i + 1))) g = none := by
  rw [consM_take hd, find_app, h1, h2]
  rfl

set_option maxHeartbeats 1000000 in
set_option maxRecDepth 100000 in
theorem specArityOf_any {K : Nat → Prop} {w : World} {h : Nat} {x : Tr} {cs : List Value} (hr : prR K w h x cs) (g : ByteArray) :
    Calls Try.prog 15 #[.agg cs.toArray, .string g] w fun e w' => e = .returned (.int .i64 (arityZ x.l g)) ∧ Below w.heap.size w w' := by
  obtain ⟨-, -, -, -, -, o1, c1, o2, c2, rfl, hl, hd, q1, q2⟩ := hr
  have HB0 : Hid (Below w.heap.size w (w.alloc (.cells #[.slice o1 x.l.length c1, .slice o2 x.ds.length c2] 48))) := (Below.refl _ w).alloc (Nat.le_refl _) _
  have HQ := hide (q1.later HB0.out (daR_later HB0.out h))
  have hl2 : x.l.length ≤ 9223372036854775807 := hl.1
  clear hl hd q1 q2
  cases h1 : (g.toList == [84, 114, 117, 101])
  case true =>
    have HF : Hid (arityZ x.l g = 0) := by
      show arityZ x.l g = 0
      unfold arityZ
      rw [find_app, find_given, h1]
      rfl
    go_enter Try.func15, Try.ntmps15
    go_wp2
    go_ret
    exact ⟨retI HF.out.symm, HB0.out⟩
  cases h2 : (g.toList == [70, 97, 108, 115, 101])
  case true =>
    have HF : Hid (arityZ x.l g = 0) := by
      show arityZ x.l g = 0
      unfold arityZ
      rw [find_app, find_given, h1, h2]
      rfl
    go_enter Try.func15, Try.ntmps15
    go_wp2
    go_ret
    exact ⟨retI HF.out.symm, HB0.out⟩
  have HGV : Hid (findM given g = none) := by
    show findM given g = none
    rw [find_given, h1, h2]
    rfl
  go_enter Try.func15, Try.ntmps15
  go_wp2
  go_loop [5] (fun t => ∃ i : Nat, i ≤ x.l.length ∧ t = .int .i64 i ∧ findM (consM (x.l.take i)) g = none) (fun t => x.l.length - (intOf t).toNat)
  case atStart => exact ⟨0, Nat.zero_le _, rfl, rfl⟩
  case round =>
    obtain ⟨i, hi, rfl, hfi⟩ := hrel
    have HFI := hide hfi
    clear hfi
    by_cases hlt : i < x.l.length
    · have hne : x.l ≠ [] := by intro e; rw [e] at hlt; simp at hlt
      obtain ⟨d, hx⟩ : ∃ d, x.l[i]? = some d := ⟨x.l[i], List.getElem?_eq_getElem hlt⟩
      obtain ⟨b, off, eo, -, hbl, hcs⟩ := HQ.out hne
      subst eo
      obtain ⟨cs, hlen, hkey, hrd⟩ := hcs i d hx
      obtain ⟨-, -, -, -, -, od, cd, rfl, -, hfd, hrd⟩ := hrd
      have z0 := hkey 0 _ rfl
      have z1 := hkey 1 _ rfl
      rw [Nat.add_zero] at z0
      have HX := hide hx
      have HRD := hide hrd
      have hd2 : d.l.length ≤ 9223372036854775807 := hfd.1
      clear hcs hx hne hkey hlen hrd hfd
      have hlt2 : (i : Int) < x.l.length := by omega
      go_wp2
      go_loop [6] (fun t => ∃ k : Nat, k ≤ d.l.length ∧ t = .int .i64 k ∧ findM ((d.l.take k).map fun c => (c.s, d.s, c.l.length)) g = none) (fun t => d.l.length - (intOf t).toNat)
      case atStart => exact ⟨0, Nat.zero_le _, rfl, rfl⟩
      case round =>
        obtain ⟨k, hk, rfl, hfk⟩ := hrel
        have HFK := hide hfk
        clear hfk
        by_cases hlk : k < d.l.length
        · have hne : d.l ≠ [] := by intro e; rw [e] at hlk; simp at hlk
          obtain ⟨c, hx⟩ : ∃ c, d.l[k]? = some c := ⟨d.l[k], List.getElem?_eq_getElem hlk⟩
          obtain ⟨b2, off2, eo, -, hbl2, hcs⟩ := HRD.out hne
          subst eo
          obtain ⟨cs, hlen, hkey, hrd⟩ := hcs k c hx
          obtain ⟨-, -, -, -, -, oc, cc, rfl, -, hfc, -⟩ := hrd
          have y0 := hkey 0 _ rfl
          have y1 := hkey 1 _ rfl
          rw [Nat.add_zero] at y0
          have HC := hide hx
          have hc2 : c.l.length ≤ 9223372036854775807 := hfc.1
          clear hcs hx hne hkey hlen hfc
          have hlk2 : (k : Int) < d.l.length := by omega
          cases heq : (c.s.toList == g.toList)
          · have HEQ := hide heq
            go_wp2
            go_round
            case rel => exact ⟨k + 1, by omega, by go_num, find_miss d.s HC.out HFK.out HEQ.out⟩
            case measure => simp [intOf]; omega
          · have HF : Hid (arityZ x.l g = c.l.length) := by
              show arityZ x.l g = c.l.length
              unfold arityZ
              rw [find_hit HX.out HC.out HGV.out HFI.out HFK.out heq]
            go_wp2
            go_ret
            exact ⟨retI HF.out.symm, HB0.out⟩
        · go_wp2
          go_round
          case rel =>
            refine ⟨i + 1, by omega, by go_num, find_row HX.out HFI.out ?_⟩
            have := HFK.out
            rw [List.take_of_length_le (l := d.l) (by omega)] at this
            exact this
          case measure => simp [intOf]; omega
    · have HF : Hid (arityZ x.l g = -1) := by
        show arityZ x.l g = -1
        have := HFI.out
        rw [List.take_of_length_le (l := x.l) (by omega)] at this
        unfold arityZ
        rw [find_app, HGV.out, this]
        rfl
      go_wp2
      go_ret
      exact ⟨retI HF.out.symm, HB0.out⟩
end Go.Proofs.Ytlaeenfeajkcfak.Kn
