/- Made of TA, QD, QE, TB. -/
import Derived.Test.YtlaeenfeajkcfalGreatSH
import Derived.Test.YtlaeenfeajkcfalGreatSA
namespace Go.Proofs.YtlaeenfeajkcfalGreat.Fr
open Go.ChangeShapes Go.WideShapes Go.ChangeAt Go.RowKit Go.Proofs.YtlaeenfeajkcfalGreat.Nm
set_option linter.unusedVariables false

set_option maxHeartbeats 1000000 in
set_option maxRecDepth 100000 in
theorem decNames_any {K : Nat → Prop} {h : Nat} (xs : List Tr) (o : Option Addr) (c : Nat) (w : World) (hx : RowOf K w (reads K w h).de 9 o xs) (hl : xs.length ≤ 10000000) :
    Calls Tryz.prog 32 #[.slice o xs.length c] w fun e w' => ∃ v, e = .returned v ∧ NRow w.heap.size w' v (xs.map Tr.s) ∧ Below w.heap.size w w' := by
  have H := hide hx
  have HB0 : Hid (Below w.heap.size w (w.alloc (.cells #[] 9))) := (Below.refl _ w).alloc (Nat.le_refl _) _
  have HN0 := hide (NRow.empty w)
  clear hx
  go_enter Tryz.func32, Tryz.ntmps32
  go_wp2
  go_loopw [3, 4] (fun t3 t9 wr => ∃ (i : Nat) (l : List ByteArray), i ≤ xs.length ∧ t9 = .int .i64 i ∧ NRow w.heap.size wr t3 l ∧ l.length = i ∧ l = (xs.take i).map Tr.s ∧ Below w.heap.size w wr) (fun _ t9 _ => xs.length - (intOf t9).toNat)
  case atStart => exact ⟨0, [], Nat.zero_le _, rfl, HN0.out, rfl, rfl, HB0.out⟩
  case round =>
    obtain ⟨i, l, hi, rfl, hn, hlen, hfl, hb⟩ := hrel
    have HFL := hide hfl
    clear hfl
    by_cases hlt : i < xs.length
    · have hne : xs ≠ [] := by intro e; rw [e] at hlt; simp at hlt
      obtain ⟨b, off, eo, -, hblt, hcs⟩ := H.out hne
      subst eo
      obtain ⟨cs, hcl, hkey, hr⟩ := hcs i _ (List.getElem?_eq_getElem hlt)
      generalize hxd : xs[i] = d at hr
      have HF2 : Hid (l ++ [d.s] = (xs.take (i + 1)).map Tr.s) := by
        show l ++ [d.s] = _
        rw [HFL.out, List.take_succ_eq_append_getElem hlt, List.map_append, hxd]
        rfl
      clear hxd
      have hsz : d.s.size ≤ maxLen := de_size hr
      obtain ⟨y, p0, e0, p1, e1, p2, e2, p3, e3, p4, e4, rfl⟩ := de_form hr
      have q0 := (hb.cell (p := ⟨b, off + i * 9 + 0, none⟩) hblt).trans (hkey 0 _ rfl)
      rw [Nat.add_zero] at q0
      have hB1 : Below wr.heap.size wr (wr.alloc (.cells #[.string d.s] 9)) := (Below.refl _ wr).alloc (Nat.le_refl _) _
      obtain ⟨v2, w2, hr2, hn2, hg2, -⟩ := (hn.later hB1).app (Nat.le_trans hb.size hB1.size) 1 (one_row (heap_alloc_new wr (.cells #[.string d.s] 9)) hsz) (by simp only [List.length_singleton]; omega) 38
      rw [List.length_singleton] at hr2
      have HR2 := hide hr2
      have HN2 := hide hn2
      have HB2 : Hid (Below w.heap.size w w2) := hb.trans ((hB1.mono hb.size).trans (below_grown hg2 (Nat.le_trans hb.size hB1.size) fun k hk => ((hn.later hB1).lt k hk).2))
      have hlen2 : (l ++ [d.s]).length = i + 1 := by rw [List.length_append, hlen]; rfl
      have HL2 := hide hlen2
      clear hn hlen hb hcs hne hkey hr2 hn2 hg2 hB1 hsz hlen2 hcl hr
      go_wp2_with (at_builtin; refine Lib.wpList_append_run _ rfl _ _ _ _ rfl _ _ rfl rfl _ _ HR2.out ?_)
      go_roundw
      case rel => exact ⟨i + 1, _, by omega, by go_num, HN2.out, HL2.out, HF2.out, HB2.out⟩
      case measure => simp [intOf]; omega
    · have HN := hide hn
      have HB := hide hb
      clear hn hb
      go_wp2
      go_ret
      refine ⟨_, rfl, ?_, HB.out⟩
      have h9 := HN.out
      rw [HFL.out, List.take_of_length_le (by omega)] at h9
      exact h9
def lessL (a b : List ByteArray) : List ByteArray := a.filter fun x => !hasS b x
theorem less_mem {a b : List ByteArray} (x : ByteArray) : x ∈ lessL a b ↔ x ∈ a ∧ x ∉ b := by
  unfold lessL
  rw [List.mem_filter]
  constructor
  · rintro ⟨h1, h2⟩
    refine ⟨h1, fun h3 => ?_⟩
    rw [hasS_mem.2 h3] at h2
    cases h2
  · rintro ⟨h1, h2⟩
    refine ⟨h1, ?_⟩
    cases h3 : hasS b x with
    | false => rfl
    | true => exact absurd (hasS_mem.1 h3) h2
theorem less_asc {a b : List ByteArray} (h : Asc a) : Asc (lessL a b) := List.Pairwise.sublist List.filter_sublist h
theorem less_len (a b : List ByteArray) : (lessL a b).length ≤ a.length := List.length_filter_le _ _
theorem less_take {a b : List ByteArray} {i : Nat} {x : ByteArray} (h : a[i]? = some x) : lessL (a.take (i + 1)) b = lessL (a.take i) b ++ (if hasS b x then [] else [x]) := by
  unfold lessL
  rw [List.take_add_one, h, List.filter_append]
  congr 1
  show List.filter _ [x] = _
  rw [List.filter_cons]
  cases hasS b x <;> rfl
def LessP (a b : List ByteArray) (w : World) (e : Ending) (w' : World) : Prop := ∃ v, e = .returned v ∧ NRow w.heap.size w' v (lessL a b) ∧ Below w.heap.size w w'
set_option maxHeartbeats 1000000 in
set_option maxRecDepth 100000 in
theorem lessR_any {K K' : Nat → Prop} (a b : List ByteArray) (oa ob : Option Addr) (ca cb : Nat) (w : World) (hla : a.length ≤ 10000000) (hlb : b.length ≤ maxLen) (hma : RowOf K w strR 1 oa a) (hmb : RowOf K' w strR 1 ob b) :
    Calls Tryz.prog 31 #[.slice oa a.length ca, .slice ob b.length cb] w (LessP a b w) := by
  have HMA := hide hma
  have HMB := hide hmb
  have HB0 : Hid (Below w.heap.size w (w.alloc (.cells #[] 9))) := (Below.refl _ w).alloc (Nat.le_refl _) _
  have HN0 := hide (NRow.empty w)
  clear hma hmb
  go_enter Tryz.func31, Tryz.ntmps31
  go_wp2
  go_loopw [5, 6] (fun t5 t6 wr => ∃ (i : Nat) (l : List ByteArray), i ≤ a.length ∧ t6 = .int .i64 i ∧ NRow w.heap.size wr t5 l ∧ l = lessL (a.take i) b ∧ Below w.heap.size w wr) (fun _ t6 _ => a.length - (intOf t6).toNat)
  case atStart => exact ⟨0, [], Nat.zero_le _, rfl, HN0.out, rfl, HB0.out⟩
  case round =>
    obtain ⟨i, l, hi, rfl, hn, hfl, hb⟩ := hrel
    have HFL := hide hfl
    have hll : l.length ≤ 10000000 := by
      rw [hfl]
      have := less_len (a.take i) b
      rw [List.length_take] at this
      omega
    clear hfl
    by_cases hlt : i < a.length
    · have hne : a ≠ [] := by intro e; rw [e] at hlt; simp at hlt
      obtain ⟨x, hx⟩ : ∃ x, a[i]? = some x := ⟨a[i], List.getElem?_eq_getElem hlt⟩
      obtain ⟨ba, offa, eo, -, hblt, hcs⟩ := HMA.out hne
      subst eo
      obtain ⟨_, -, hkey, rfl, hsz⟩ := hcs i x hx
      have q0 := (hb.cell (p := ⟨ba, offa + i * 1 + 0, none⟩) hblt).trans (hkey 0 _ rfl)
      rw [Nat.mul_one, Nat.add_zero] at q0
      have HHS := hide (has_any b ob cb x wr hlb (HMB.out.later hb fun _ _ h => h))
      have HX := hide hx
      cases hh : hasS b x
      · obtain ⟨Y, hY⟩ : ∃ Y, wr.alloc (.cells #[.string x] 9) = Y := ⟨_, rfl⟩
        have hB1 : Below wr.heap.size wr Y := by rw [← hY]; exact (Below.refl _ wr).alloc (Nat.le_refl _) _
        have hbox : Y.heap[wr.heap.size]? = some (.cells #[.string x] 9 (0, 0)) := by rw [← hY]; exact heap_alloc_new wr _
        obtain ⟨v2, w2, hr2, hn2, hg2, -⟩ := (hn.later hB1).app (Nat.le_trans hb.size hB1.size) 1 (one_row hbox hsz) (by simp only [List.length_singleton]; omega) 38
        rw [List.length_singleton] at hr2
        have HR2 := hide hr2
        have HN2 := hide hn2
        have HB2 : Hid (Below w.heap.size w w2) := hb.trans ((hB1.mono hb.size).trans (below_grown hg2 (Nat.le_trans hb.size hB1.size) fun k hk => ((hn.later hB1).lt k hk).2))
        have HF2 : Hid (l ++ [x] = lessL (a.take (i + 1)) b) := by
          show l ++ [x] = _
          rw [less_take HX.out, hh, HFL.out]
          rfl
        rw [hh] at HHS
        clear hn hb hcs hne hkey hr2 hn2 hg2 hB1 hbox hsz hx
        go_wp2_with fail
        refine Calls.mono HHS.out ?_
        rintro e w5 ⟨rfl, rfl⟩
        go_wp2_with (at_builtin; refine Lib.wpList_append_run _ rfl _ _ _ _ rfl _ _ rfl rfl _ _ HR2.out ?_)
        go_roundw
        case rel => exact ⟨i + 1, _, by omega, by go_num, HN2.out, HF2.out, HB2.out⟩
        case measure => simp [intOf]; omega
      · have HF2 : Hid (l = lessL (a.take (i + 1)) b) := by
          show l = _
          rw [less_take HX.out, hh, HFL.out]
          simp
        rw [hh] at HHS
        have HN := hide hn
        have HB := hide hb
        clear hn hb hcs hne hkey hsz hx
        go_wp2_with fail
        refine Calls.mono HHS.out ?_
        rintro e w5 ⟨rfl, rfl⟩
        go_wp2
        go_roundw
        case rel => exact ⟨i + 1, _, by omega, by go_num, HN.out, HF2.out, HB.out⟩
        case measure => simp [intOf]; omega
    · have HN := hide hn
      have HB := hide hb
      clear hn hb
      go_wp2
      go_ret
      refine ⟨_, rfl, ?_, HB.out⟩
      have h9 := HN.out
      rw [HFL.out, List.take_of_length_le (by omega)] at h9
      exact h9
end Go.Proofs.YtlaeenfeajkcfalGreat.Fr
namespace Go.Proofs.YtlaeenfeajkcfalGreat
open Go.RowKit

/-- An operation that only reads. -/
def readB (o : Oper) : Bool := match o.op with
  | .move _ | .assign _ | .pick _ _ _ | .load _ _ | .nilCheck _ | .binOp _ _ _ _ _ | .unOp _ _ _ | .fieldAddr _ _ _ | .indexAddr _ _ _ => true
  | _ => false
theorem run_value {P : Program} {w w' : World} {f : FuncId} {args : Array Value} (s : Sem Value) : ((do let x ← s; pure (.value x) : Sem Next)).run P w ≠ .ok (.enter f args) w' := by
  rw [Sem.run_bind]
  cases s.run P w with
  | ok x w1 => simp [Result.andThen_ok, Sem.run_pure]
  | halt x w1 => intro h; cases h
theorem read_enter {P : Program} {o : Oper} (h : readB o = true) (ρ : Operand → Value) (w w' : World) (f : FuncId) (args : Array Value) : (execOp ρ o).run P w ≠ .ok (.enter f args) w' := by
  obtain ⟨dst, op, type, pos, after, guard⟩ := o
  cases op <;> simp only [readB] at h <;> first | (cases h; done) | skip
  case move x => simp [execOp, Sem.run_pure]
  case assign x => simp [execOp, Sem.run_pure]
  case pick c a b =>
    simp only [execOp, Sem.run_bind]
    cases (asBool (ρ c)).run P w with
    | ok x w1 => simp [Result.andThen_ok, Sem.run_pure]
    | halt x w1 => intro h; cases h
  case load t a => simp only [execOp]; exact run_value _
  case binOp => simp only [execOp]; exact run_value _
  case unOp => simp only [execOp]; exact run_value _
  case fieldAddr => simp only [execOp]; exact run_value _
  case indexAddr => simp only [execOp]; exact run_value _
  case nilCheck x =>
    simp only [execOp]
    split
    · intro h; cases h
    · intro h; cases h
    · intro h; cases h
    · split
      · intro h; cases h
      · rw [Sem.run_bind]
        generalize Sem.run P program w = r0
        cases r0 with
        | halt x w1 => intro h; cases h
        | ok p w1 =>
          rw [Result.andThen_ok, Sem.run_bind]
          generalize Sem.run P (nilAhead _ _ _ _) w1 = r
          cases r with
          | halt x w1 => intro h; cases h
          | ok b w1 =>
            rw [Result.andThen_ok]
            split
            · intro h; cases h
            · simp [Sem.run_pure]
      · simp [Sem.run_pure]
    · simp [Sem.run_pure]

section
variable {P : Program} {ops : Array Oper} {md : Region.Mode} {S : World → Prop} {Q : Exit → Act → World → Prop}

/-- One operation, in the very world: it yields a value, or nothing, or a call returns. -/
def stp (P : Program) (o : Oper) (a : Act) (w : World) (K : Act → World → Prop) : Prop :=
  match (execOp a.eval o).run P w with
  | .ok (.value u) w' => K (a.put o.dst u) w'
  | .ok .skip w' => K (a.put o.dst undef) w'
  | .ok (.defer d) w' => K ({ a with defers := d :: a.defers }.put o.dst undef) w'
  | .ok (.enter f args) w' => Calls P f args w' fun e w'' => ∃ u, e = .returned u ∧ K (a.put o.dst u) w''
  | .ok (.row row args) w' => Rows P row args w' fun v w'' => K (a.put o.dst v) w''
  | _ => False
def sOp (P : Program) (ops : Array Oper) (i : Nat) (K : Act → World → Prop) (a : Act) (w : World) : Prop :=
  match ops[i]? with
  | none => K a w
  | some o => (Region.wanted o (yielded ops a.tmps) = true ∧ stp P o a w K) ∨ (Region.wanted o (yielded ops a.tmps) = false ∧ K (a.put o.dst undef) w)
theorem stp_mono {o : Oper} {a : Act} {w : World} {K K' : Act → World → Prop} (h : ∀ a w, K a w → K' a w) (hh : stp P o a w K) : stp P o a w K' := by
  unfold stp at *
  generalize (execOp a.eval o).run P w = r at *
  cases r with
  | ok n w' =>
    cases n <;> simp only at hh ⊢
    case value u => exact h _ _ hh
    case skip => exact h _ _ hh
    case defer d => exact h _ _ hh
    case enter f args => exact hh.mono fun e w2 ⟨u, e1, e2⟩ => ⟨u, e1, h _ _ e2⟩
    case row row args => exact Rows.mono hh fun _ _ he => h _ _ he
  | halt x w' => exact hh
theorem sOp_mono {i : Nat} {a : Act} {w : World} {K K' : Act → World → Prop} (h : ∀ a w, K a w → K' a w) (hh : sOp P ops i K a w) : sOp P ops i K' a w := by
  unfold sOp at *
  cases ho : ops[i]? with
  | none => rw [ho] at hh; exact h _ _ hh
  | some o =>
    rw [ho] at hh
    rcases hh with ⟨h1, h2⟩ | ⟨h1, h2⟩
    · exact .inl ⟨h1, stp_mono h h2⟩
    · exact .inr ⟨h1, h _ _ h2⟩
theorem sOp_wp {i : Nat} {a : Act} {w : World} {K : Act → World → Prop} (hh : sOp P ops i K a w) : wpOp P ops Q i K a w := by
  unfold sOp at hh
  unfold wpOp
  cases ho : ops[i]? with
  | none => rw [ho] at hh; exact hh
  | some o =>
    rw [ho] at hh
    rcases hh with ⟨h1, h2⟩ | ⟨h1, h2⟩
    · simp only [h1, if_true]
      refine .inl ?_
      unfold stp at h2
      unfold Oper.wp
      generalize (execOp a.eval o).run P w = r at *
      cases r with
      | ok n w' =>
        cases n <;> simp only at h2 <;> simp only [Oper.upon]
        case value u => exact h2
        case skip => exact h2
        case defer d => exact h2
        case enter f args => exact h2.mono fun e w2 ⟨u, e1, e2⟩ => by subst e1; exact e2
        case row row args => exact h2
      | halt x w' => exact h2.elim
    · simp only [h1]
      exact h2
/-- In every world of the class the operation yields the value and leaves the world as it is. -/
def YldS (P : Program) (ops : Array Oper) (S : World → Prop) (o : Oper) (v : Value) (a : Act) : Prop :=
  (Region.wanted o (yielded ops a.tmps) = true ∧ ∀ w, S w → (execOp a.eval o).run P w = .ok (.value v) w ∨ ((execOp a.eval o).run P w = .ok .skip w ∧ v = undef)) ∨
  (Region.wanted o (yielded ops a.tmps) = false ∧ v = undef)
theorem YldS.same {o : Oper} {v : Value} {a a' : Act} (hy : YldS P ops S o v a) (he : execOp a'.eval o = execOp a.eval o) (hw : Region.wanted o (yielded ops a'.tmps) = Region.wanted o (yielded ops a.tmps)) : YldS P ops S o v a' := by
  unfold YldS at *
  rw [he, hw]
  exact hy
theorem YldS.op {i : Nat} {o : Oper} {v : Value} {a : Act} {w : World} {K : Act → World → Prop} (hi : ops[i]? = some o) (hy : YldS P ops S o v a) (hS : S w) (h : K (a.put o.dst v) w) : sOp P ops i K a w := by
  unfold sOp
  rw [hi]
  rcases hy with ⟨h1, h2⟩ | ⟨h1, rfl⟩
  · refine .inl ⟨h1, ?_⟩
    unfold stp
    rcases h2 w hS with h3 | ⟨h3, rfl⟩
    · rw [h3]; exact h
    · rw [h3]; exact h
  · exact .inr ⟨h1, h⟩
theorem yld_of_quiet {o : Oper} {a : Act} {K : Act → Prop} (hr : readB o = true) (h : if Region.wanted o (yielded ops a.tmps) then o.quiet P a S K else K (a.put o.dst undef)) : ∃ v, YldS P ops S o v a ∧ K (a.put o.dst v) := by
  by_cases hw : Region.wanted o (yielded ops a.tmps) = true
  · simp only [hw, if_true] at h
    obtain ⟨v, h1, h2⟩ := h
    refine ⟨v, .inl ⟨hw, fun w hS => ?_⟩, h2⟩
    have h3 := h1 w hS
    unfold Oper.quietAt at h3
    have h4 := read_enter (P := P) hr a.eval w
    generalize (execOp a.eval o).run P w = r at *
    cases r with
    | ok n w' =>
      cases n <;> simp only [Oper.quietUpon] at h3
      case value u => obtain ⟨rfl, rfl⟩ := h3; exact .inl rfl
      case skip => obtain ⟨rfl, rfl⟩ := h3; exact .inr ⟨rfl, rfl⟩
      case enter f args => exact absurd rfl (h4 _ _ _)
    | halt x w' => exact h3.elim
  · simp only [hw] at h
    exact ⟨undef, .inr ⟨by simpa using hw, rfl⟩, h⟩
/-- What is apart from an operation that only reads may come ahead of it. -/
theorem sOp_put {j : Nat} {oi oj : Oper} {v : Value} (hj : ops[j]? = some oj) (hap : oi.apart ops oj = true) (hsi : ∀ cs b, oi.op ≠ .select cs b) (hsj : ∀ cs b, oj.op ≠ .select cs b) {K : Act → World → Prop} {a : Act} {w : World}
    (hy : YldS P ops S oi v a) (h : sOp P ops j K (a.put oi.dst v) w) : sOp P ops j (fun a' w' => YldS P ops S oi v a' ∧ K (a'.put oi.dst v) w') a w := by
  obtain ⟨h1, h2, h3⟩ := Oper.apart_spec hap
  have keep : ∀ u, YldS P ops S oi v (a.put oj.dst u) := fun u => hy.same (execOp_put oi hsi a oj.dst u h3) (wanted_put oi a oj.dst u h3)
  unfold sOp at *
  rw [hj] at h ⊢
  simp only [wanted_put oj a oi.dst v h1] at h
  rcases h with ⟨hw, hs⟩ | ⟨hw, hs⟩
  · refine .inl ⟨hw, ?_⟩
    unfold stp at *
    rw [execOp_put oj hsj a oi.dst v h1] at hs
    generalize (execOp a.eval oj).run P w = r at *
    cases r with
    | ok n w' =>
      cases n <;> simp only at hs ⊢
      case value u => exact ⟨keep u, by rw [← Act.put_comm a v u h2]; exact hs⟩
      case skip => exact ⟨keep _, by rw [← Act.put_comm a v undef h2]; exact hs⟩
      case defer d =>
        refine ⟨(hy.same (a' := { a with defers := d :: a.defers }) rfl rfl).same (execOp_put oi hsi _ oj.dst undef h3) (wanted_put oi _ oj.dst undef h3), ?_⟩
        rw [← Act.put_comm _ v undef h2, ← Act.put_defers]
        exact hs
      case enter f args => exact hs.mono fun e w2 ⟨u, e1, e2⟩ => ⟨u, e1, keep u, by rw [← Act.put_comm a v u h2]; exact e2⟩
      case row row args => exact Rows.mono hs fun u w2 he => ⟨keep u, by rw [← Act.put_comm a v u h2]; exact he⟩
    | halt x w' => exact hs
  · exact .inr ⟨hw, keep _, by rw [← Act.put_comm a v undef h2]; exact hs⟩

/-- Whatever order is picked from here on; the worlds stay in the class. -/
def wpM (P : Program) (md : Region.Mode) (ops : Array Oper) (S : World → Prop) (Q : Exit → Act → World → Prop) : Nat → Array Bool → Act → World → Prop
  | 0, listed, a, w => Region.ready md ops listed = [] ∧ Q .normal a w
  | n + 1, listed, a, w => (Region.ready md ops listed = [] → Q .normal a w) ∧ ∀ i ∈ Region.ready md ops listed, sOp P ops i (fun a' w' => S w' ∧ wpM P md ops S Q n (listed.setIfInBounds i true) a' w') a w
theorem wpM_any : ∀ (n : Nat) (listed : Array Bool) (a : Act) (w : World), wpM P md ops S Q n listed a w → wpAny P md ops Q n listed a w
  | 0, _, _, _, h => h
  | n + 1, _, _, _, h => ⟨h.1, fun i hi => sOp_wp (sOp_mono (fun a w h2 => wpM_any n _ a w h2.2) (h.2 i hi))⟩
theorem wpM_first {i : Nat} {oi : Oper} {v : Value} (hi : ops[i]? = some oi) (hsel : ∀ (j : Nat) (o : Oper) cs b, ops[j]? = some o → o.op ≠ .select cs b) :
    ∀ (n : Nat) (listed : Array Bool) (a : Act) (w : World), S w →
      (∀ j oj, ops[j]? = some oj → j ≠ i → listed.getD j true = false → (∀ e ∈ oj.after, Region.binds md e = true → e.on ≠ i) → oi.apart ops oj = true) →
      i ∈ Region.ready md ops listed → YldS P ops S oi v a → wpM P md ops S Q n (listed.setIfInBounds i true) (a.put oi.dst v) w → wpM P md ops S Q (n + 1) listed a w := by
  intro n
  induction n with
  | zero =>
    intro listed a w hS _ hr hy H
    refine ⟨fun h => (by rw [h] at hr; cases hr), fun j hj => ?_⟩
    by_cases hji : j = i
    · subst hji
      exact hy.op hi hS ⟨hS, H⟩
    · have h9 := ready_mono hj hji
      rw [H.1] at h9
      cases h9
  | succ n ih =>
    intro listed a w hS hfree hr hy H
    refine ⟨fun h => (by rw [h] at hr; cases hr), fun j hj => ?_⟩
    by_cases hji : j = i
    · subst hji
      exact hy.op hi hS ⟨hS, H⟩
    have h1 := H.2 j (ready_mono hj hji)
    obtain ⟨hjun, oj, hoj, hall⟩ := mem_ready.1 hj
    have hnot : ∀ e ∈ oj.after, Region.binds md e = true → e.on ≠ i := by
      intro e he hb heq
      have h2 := hall e he hb
      have h0 := (mem_ready.1 hr).1
      rw [heq] at h2
      by_cases hlt : i < listed.size
      · simp [hlt] at h0 h2
        rw [h0] at h2
        cases h2
      · simp [Array.getElem?_eq_none (Nat.le_of_not_lt hlt)] at h2
    have h2 := sOp_put hoj (hfree j oj hoj hji hjun hnot) (fun cs b => hsel i oi cs b hi) (fun cs b => hsel j oj cs b hoj) hy h1
    refine sOp_mono (fun a' w' h3 => ?_) h2
    obtain ⟨h4, h5, h6⟩ := h3
    refine ⟨h5, ih _ a' w' h5 ?_ (ready_mono hr (Ne.symm hji)) h4 (by rw [Array.setIfInBounds_comm _ _ hji]; exact h6)⟩
    intro k ok hk hki hun hno
    refine hfree k ok hk hki ?_ hno
    by_cases hjk : j = k
    · subst hjk
      exact hjun
    · rw [getD_set_ne true hjk] at hun
      exact hun

theorem wpQuiet_mono2 {K K' : Act → Prop} (h : ∀ a, K a → K' a) : ∀ (l : List Oper) (a : Act), wpQuiet P ops S K l a → wpQuiet P ops S K' l a
  | [], a, hh => h a hh
  | o :: l, a, hh => by
    simp only [wpQuiet] at hh ⊢
    split
    · rename_i hw
      simp only [hw, if_true] at hh
      exact Oper.quiet_mono (wpQuiet_mono2 h l) hh
    · rename_i hw
      simp only [hw] at hh
      exact wpQuiet_mono2 h l _ hh
theorem stp_of_list {o : Oper} {a : Act} {w : World} {K : Act → World → Prop} (h : wpList P ops (fun ex a' w' => ex = .normal ∧ K a' w') [o] a w) : (Region.wanted o (yielded ops a.tmps) = true ∧ stp P o a w K) ∨ (Region.wanted o (yielded ops a.tmps) = false ∧ K (a.put o.dst undef) w) := by
  have no : ¬ LetsOut (fun ex (a' : Act) w' => ex = Exit.normal ∧ K a' w') := by
    rintro ⟨a', w', h1, -⟩
    cases h1
  simp only [wpList] at h
  by_cases hw : Region.wanted o (yielded ops a.tmps) = true
  · simp only [hw, if_true] at h
    refine .inl ⟨hw, ?_⟩
    rcases h with h | ⟨-, h⟩
    · unfold Oper.wp at h
      unfold stp
      generalize (execOp a.eval o).run P w = r at *
      cases r with
      | ok n w' =>
        cases n <;> simp only [Oper.upon] at h ⊢
        case value u => exact h.2
        case skip => exact h.2
        case enter f args =>
          refine h.mono fun e w2 he => ?_
          cases e with
          | returned u => exact ⟨u, rfl, he.2⟩
          | panicked c => exact absurd he.1 (by simp)
          | outgrown => exact absurd he no
        case defer d => exact h.2
        case row row args => exact Rows.mono h fun _ _ he => he.2
      | halt x w' =>
        cases x <;> simp only [Oper.upon] at h
        case panic v => exact absurd h.1 (by simp)
    · exact absurd h no
  · simp only [hw] at h
    exact .inr ⟨by simpa using hw, h.2⟩

end
end Go.Proofs.YtlaeenfeajkcfalGreat
namespace Go.Proofs.YtlaeenfeajkcfalGreat
open Go.RowKit

section
variable {P : Program} {ops : Array Oper} {md : Region.Mode} {S : World → Prop} {Q : Exit → Act → World → Prop}
def consO : Option Oper → List Oper → List Oper
  | none, l => l
  | some o, l => o :: l
def pickO (ops : Array Oper) : List Nat → List Oper
  | [] => []
  | i :: r => consO ops[i]? (pickO ops r)
def listIs : List Nat → Array Bool → Array Bool
  | [], listed => listed
  | i :: r, listed => listIs r (listed.setIfInBounds i true)
def segIs (md : Region.Mode) (ops : Array Oper) : List Nat → Array Bool → Bool
  | [], _ => true
  | i :: r, listed => ((Region.ready md ops listed).contains i && Region.free md ops listed i && ((ops[i]?).map readB).getD false) && segIs md ops r (listed.setIfInBounds i true)
theorem wpM_segI (hs : Region.noSelect ops = true) : ∀ (is : List Nat) (m : Nat) (listed : Array Bool) (a : Act) (w : World), segIs md ops is listed = true → S w →
    wpQuiet P ops S (fun a' => wpM P md ops S Q m (listIs is listed) a' w) (pickO ops is) a → wpM P md ops S Q (is.length + m) listed a w
  | [], m, listed, a, w, _, _, h => by rw [List.length_nil, Nat.zero_add]; exact h
  | i :: is, m, listed, a, w, hB, hS, h => by
    simp only [segIs, Bool.and_eq_true] at hB
    obtain ⟨⟨⟨hr, hf⟩, hrd⟩, hB'⟩ := hB
    cases h0 : ops[i]? with
    | none => rw [h0] at hrd; cases hrd
    | some o =>
      rw [h0] at hrd
      have hp : pickO ops (i :: is) = o :: pickO ops is := by
        show consO ops[i]? (pickO ops is) = _
        rw [h0]
        rfl
      rw [hp] at h
      obtain ⟨v, hy, hK⟩ := yld_of_quiet (by simpa using hrd) h
      have key := wpM_segI hs is m (listed.setIfInBounds i true) (a.put o.dst v) w hB' hS hK
      have e : (i :: is).length + m = is.length + m + 1 := by simp; omega
      rw [e]
      exact wpM_first h0 (Region.noSelect_spec hs) _ listed a w hS (Region.free_spec h0 hf) (by simpa using hr) hy key
def wpSch (P : Program) (ops : Array Oper) (S : World → Prop) (Q : Exit → Act → World → Prop) (fin : List Nat) : List (List Nat × Nat) → Act → World → Prop
  | [], a, w => wpQuiet P ops S (fun a' => Q .normal a' w) (pickO ops fin) a
  | p :: more, a, w => wpQuiet P ops S (fun a' => wpList P ops (fun ex a2 w' => ex = .normal ∧ (S w' ∧ wpSch P ops S Q fin more a2 w')) (pickO ops [p.2]) a' w) (pickO ops p.1) a
def schB (md : Region.Mode) (ops : Array Oper) (fin : List Nat) : List (List Nat × Nat) → Array Bool → Bool
  | [], listed => segIs md ops fin listed && (Region.ready md ops (listIs fin listed)).isEmpty
  | p :: more, listed => (segIs md ops p.1 listed && ((ops[p.2]?).isSome && (Region.ready md ops (listIs p.1 listed) == [p.2]))) && schB md ops fin more ((listIs p.1 listed).setIfInBounds p.2 true)
def schN (fin : List Nat) : List (List Nat × Nat) → Nat
  | [] => fin.length
  | p :: more => p.1.length + (schN fin more + 1)
theorem wpM_sch (hs : Region.noSelect ops = true) (fin : List Nat) : ∀ (segs : List (List Nat × Nat)) (listed : Array Bool) (a : Act) (w : World), schB md ops fin segs listed = true → S w →
    wpSch P ops S Q fin segs a w → wpM P md ops S Q (schN fin segs) listed a w
  | [], listed, a, w, hB, hS, h => by
    simp only [schB, Bool.and_eq_true] at hB
    have key := wpM_segI (Q := Q) hs fin 0 listed a w hB.1 hS (by
      have he : Region.ready md ops (listIs fin listed) = [] := by simpa using hB.2
      exact wpQuiet_mono2 (fun a' h9 => ⟨he, h9⟩) _ _ h)
    exact key
  | p :: more, listed, a, w, hB, hS, h => by
    simp only [schB, Bool.and_eq_true] at hB
    obtain ⟨⟨hseg, hso, hr⟩, hrest⟩ := hB
    have hr2 : Region.ready md ops (listIs p.1 listed) = [p.2] := by simpa using hr
    refine wpM_segI (Q := Q) hs p.1 (schN fin more + 1) listed a w hseg hS (wpQuiet_mono2 (fun a' h9 => ?_) _ _ h)
    refine ⟨fun h => (by rw [hr2] at h; cases h), fun i hi => ?_⟩
    rw [hr2] at hi
    have hi2 : i = p.2 := by simpa using hi
    subst hi2
    cases ho : ops[p.2]? with
    | none => rw [ho] at hso; cases hso
    | some o =>
      have ht : pickO ops [p.2] = [o] := by
        show consO ops[p.2]? (pickO ops []) = _
        rw [ho]
        rfl
      rw [ht] at h9
      have h8 := stp_of_list h9
      unfold sOp
      rw [ho]
      have step : ∀ a2 w', (S w' ∧ wpSch P ops S Q fin more a2 w') → S w' ∧ wpM P md ops S Q (schN fin more) ((listIs p.1 listed).setIfInBounds p.2 true) a2 w' := fun a2 w' hh => ⟨hh.1, wpM_sch hs fin more _ a2 w' hrest hh.1 hh.2⟩
      rcases h8 with ⟨h7, h6⟩ | ⟨h7, h6⟩
      · exact .inl ⟨h7, stp_mono step h6⟩
      · exact .inr ⟨h7, step _ _ h6⟩
theorem wp_region_sch {id : Nat} {a : Act} {w : World} {l : List Oper} (segs : List (List Nat × Nat)) (fin : List Nat) (hm : P.follows .mixedOrders = true) (hs : Region.noSelect l.toArray = true) (hB : schB .any l.toArray fin segs (Array.replicate l.toArray.size false) = true) (hn : schN fin segs = l.toArray.size) (hS : S (w.drewN 1))
    (h : wpSch P l.toArray S Q fin segs a (w.drewN 1)) : (Code.region id l.toArray true).wp P Q a w := by
  refine wp_region_any hm (wpM_any (S := S) _ _ _ _ ?_)
  have key := wpM_sch (md := .any) hs fin segs (Array.replicate l.toArray.size false) a (w.drewN 1) hB hS h
  rw [hn] at key
  exact key
end
end Go.Proofs.YtlaeenfeajkcfalGreat
namespace Go.Proofs.YtlaeenfeajkcfalGreat.Fr
open Go.ChangeShapes Go.WideShapes Go.ChangeAt Go.RowKit Go.Proofs.YtlaeenfeajkcfalGreat.Nm
set_option linter.unusedVariables false

/-- Which names are free in it, as the model has it. -/
def frm : Nat → Bnds
  | 0 => ⟨fun _ _ => False, fun _ _ => False, fun _ _ => False⟩
  | h + 1 => ⟨fun e y => if e.k = 1 then y = e.s ∧ y ≠ und else
      if e.k = 5 then (∃ c ∈ e.l, (frm h).ex c y) ∧ y ∉ [e.s] else
      if e.k = 6 then ((∃ c ∈ e.l, (frm h).ex c y) ∧ y ∉ e.ds.map Tr.s) ∨ ((∃ d ∈ e.ds, (frm h).de d y) ∧ y ∉ e.ds.map Tr.s) else
      if e.k = 7 then (∃ c ∈ e.l, (frm h).ex c y) ∨ (∃ a ∈ e.al, (frm h).al a y) else ∃ c ∈ e.l, (frm h).ex c y,
     fun d y => (((∃ c ∈ d.l, (frm h).ex c y) ∨ (∃ c ∈ d.ds, (frm h).de c y)) ∧ y ∉ d.ds.map Tr.s) ∧ y ∉ d.ss,
     fun a y => (∃ c ∈ a.l, (frm h).ex c y) ∧ y ∉ a.ss⟩
theorem frm_und : ∀ h, (∀ t y, (frm h).ex t y → y ≠ und) ∧ (∀ t y, (frm h).de t y → y ≠ und) ∧ (∀ t y, (frm h).al t y → y ≠ und) := by
  intro h
  induction h with
  | zero => exact ⟨fun _ _ h => h.elim, fun _ _ h => h.elim, fun _ _ h => h.elim⟩
  | succ h ih =>
    obtain ⟨i1, i2, i3⟩ := ih
    refine ⟨fun t y hy => ?_, fun t y hy => ?_, fun t y hy => ?_⟩
    · simp only [frm] at hy
      split at hy
      · exact hy.2
      · split at hy
        · obtain ⟨⟨c, -, h1⟩, -⟩ := hy
          exact i1 c y h1
        · split at hy
          · rcases hy with ⟨⟨c, -, h1⟩, -⟩ | ⟨⟨c, -, h1⟩, -⟩
            · exact i1 c y h1
            · exact i2 c y h1
          · split at hy
            · rcases hy with ⟨c, -, h1⟩ | ⟨c, -, h1⟩
              · exact i1 c y h1
              · exact i3 c y h1
            · obtain ⟨c, -, h1⟩ := hy
              exact i1 c y h1
    · obtain ⟨⟨⟨c, -, h1⟩ | ⟨c, -, h1⟩, -⟩, -⟩ := hy
      · exact i1 c y h1
      · exact i2 c y h1
    · obtain ⟨⟨c, -, h1⟩, -⟩ := hy
      exact i1 c y h1
/-- A call that answers a row of names: ascending, just those of which it holds, at most so many. -/
def AnsF (S : ByteArray → Prop) (N : Nat) (w : World) (e : Ending) (w' : World) : Prop := ∃ v l, e = .returned v ∧ NRow w.heap.size w' v l ∧ Asc l ∧ (∀ x, x ∈ l ↔ S x) ∧ l.length ≤ N ∧ Below w.heap.size w w'
def FrEx (h : Nat) : Prop := ∀ (K : Nat → Prop) (x : Tr) (cs : List Value) (w : World), (reads K w h).ex x cs → (nmb h).ex x ≤ 5000000 → Calls Tryz.prog 60 #[.agg cs.toArray] w (AnsF ((frm h).ex x) ((nmb h).ex x) w)
def FrDe (h : Nat) : Prop := ∀ (K : Nat → Prop) (x : Tr) (cs : List Value) (w : World), (reads K w h).de x cs → (nmb h).de x ≤ 5000000 → Calls Tryz.prog 30 #[.agg cs.toArray] w (AnsF ((frm h).de x) ((nmb h).de x) w)
def FrDs (h : Nat) : Prop := ∀ (K : Nat → Prop) (xs : List Tr) (o : Option Addr) (c : Nat) (w : World), RowOf K w (reads K w h).de 9 o xs → xs.length ≤ 10000000 → (xs.map (nmb h).de).sum ≤ 5000000 → Calls Tryz.prog 13 #[.slice o xs.length c] w (AnsF (fun y => (∃ d ∈ xs, (frm h).de d y) ∧ y ∉ xs.map Tr.s) ((xs.map (nmb h).de).sum) w)
theorem lat_cell {W : World} {b j : Nat} {v : Value} (h : W.cell? ⟨b, j, none⟩ = some v) : ∀ q : Later W, q.w.cell? ⟨b, j, none⟩ = some v := fun q => (q.h.cell (p := ⟨b, j, none⟩) (World.block_lt_of_cell? W _ h)).trans h
set_option maxHeartbeats 1000000 in
set_option maxRecDepth 100000 in
theorem frDs_of {h : Nat} (ih : FrDe h) : FrDs h := by
  intro K xs o c w hx hl hn
  have HX := hide hx
  have IH := hide ih
  have HN0 := hide (NRow.empty w)
  have HB0 : Hid (Below w.heap.size w (w.alloc (.cells #[] 9))) := (Below.refl _ w).alloc (Nat.le_refl _) _
  clear hx ih
  go_enter Tryz.func13, Tryz.ntmps13
  go_wp2
  go_loopw [3, 4] (fun t3 t4 wr => ∃ (i : Nat) (l : List ByteArray), i ≤ xs.length ∧ t4 = .int .i64 i ∧ NRow w.heap.size wr t3 l ∧ Asc l ∧ (∀ y, y ∈ l ↔ ∃ d ∈ xs.take i, (frm h).de d y) ∧ l.length ≤ ((xs.take i).map (nmb h).de).sum ∧ Below w.heap.size w wr) (fun _ t4 _ => xs.length - (intOf t4).toNat)
  case atStart => exact ⟨0, [], Nat.zero_le _, rfl, HN0.out, List.Pairwise.nil, fun y => by simp, by simp, HB0.out⟩
  case round =>
    obtain ⟨i, l, hi, rfl, hn1, hasc, hmem, hlen, hb⟩ := hrel
    have HNR := hide hn1
    have HASC := hide hasc
    have HMEM := hide hmem
    have HB := hide hb
    have hle0 := sum_take_le (nmb h).de xs i
    obtain ⟨o5, c5, rfl, -, hr5⟩ := hn1.rowOf
    by_cases hlt : i < xs.length
    · have hne : xs ≠ [] := by intro e; rw [e] at hlt; simp at hlt
      obtain ⟨b, off, eo, -, hblt, hcs⟩ := HX.out hne
      subst eo
      obtain ⟨cs, hcl, hkey, hr⟩ := hcs i _ (List.getElem?_eq_getElem hlt)
      have hsum := sum_take_succ (nmb h).de xs i hlt
      have hle := sum_take_le (nmb h).de xs (i + 1)
      have hmt := fun y => mem_take_succ (fun d => (frm h).de d y) xs i hlt
      obtain ⟨d, hd⟩ : ∃ d, xs[i] = d := ⟨_, rfl⟩
      rw [hd] at hsum hr
      simp only [hd] at hmt
      obtain ⟨y, p0, e0, p1, e1, p2, e2, p3, e3, p4, e4, rfl⟩ := de_form hr
      have p : ∀ j u, [.string d.s, .slice p0 d.ss.length e0, .int .i64 y.k, .string y.s, .int .i64 y.n, .slice p1 y.l.length e1, .slice p2 y.ds.length e2, .slice p3 y.al.length e3, .slice p4 d.ds.length e4][j]? = some u → wr.cell? ⟨b, off + i * 9 + j, none⟩ = some u := fun j u hu => (hb.cell (p := ⟨b, _, none⟩) hblt).trans (hkey j u hu)
      have q0 := p 0 _ rfl
      have q1 := p 1 _ rfl
      have q2 := p 2 _ rfl
      have q3 := p 3 _ rfl
      have q4 := p 4 _ rfl
      have q5 := p 5 _ rfl
      have q6 := p 6 _ rfl
      have q7 := p 7 _ rfl
      have q8 := p 8 _ rfl
      rw [Nat.add_zero] at q0
      have HCALL := hide (IH.out K d _ wr ((reads_later hb h).2.1 _ _ hr) (by omega))
      have HR5 : Hid (∀ W, Below wr.heap.size wr W → RowOf (fun _ => True) W strR 1 o5 l) := fun W hW => hr5.frame (Stays.of hW) (fun _ _ => trivial) (fun _ _ h => h)
      have HMT := hide hmt
      have hlt2 : (i : Int) < xs.length := by omega
      clear hn1 hasc hmem hb hcs hne hkey hr5 hmt hr hblt p hcl
      go_wp2_with fail
      refine Calls.mono HCALL.out ?_
      rintro ee w4 ⟨v4, l4, rfl, hn4, hasc4, hmem4, hlen4, hb4⟩
      obtain ⟨o8, c8, rfl, -, hr8⟩ := hn4.rowOf
      have HMEM4 := hide hmem4
      have HR8 := hide hr8
      have HB4 := hide hb4
      clear hn4 hasc4 hmem4 hb4 hr8 q0 q1 q2 q3 q4 q5 q6 q7 q8
      go_wp2_with fail
      refine (join_any l l4 o5 o8 c5 c8 _ (by omega) (HR5.out _ HB4.out) HR8.out HASC.out).mono ?_
      rintro ee w5 ⟨v5, l5, rfl, hn5, hasc5, hmem5, hlen5, hb5⟩
      have HB5 : Hid (Below w.heap.size w w5) := HB.out.trans ((HB4.out.trans (hb5.mono HB4.out.size)).mono HB.out.size)
      have HN5 := hide (hn5.base (Nat.le_trans HB.out.size HB4.out.size))
      have HASC5 := hide hasc5
      have HMEM5 : Hid (∀ y, y ∈ l5 ↔ ∃ d ∈ xs.take (i + 1), (frm h).de d y) := fun y => by
        rw [hmem5, HMT.out, HMEM.out, HMEM4.out]
        exact or_congr Iff.rfl ⟨fun h => h.1, fun h9 => ⟨h9, (frm_und h).2.1 _ _ h9⟩⟩
      clear hn5 hasc5 hmem5 hb5
      go_wp2
      go_roundw
      case rel => exact ⟨i + 1, l5, by omega, by go_num, HN5.out, HASC5.out, HMEM5.out, by omega, HB5.out⟩
      case measure => simp [intOf]; omega
    · have hie : i = xs.length := by omega
      subst hie
      rw [List.take_length] at hlen hle0
      have HDN := hide (decNames_any xs o c wr (HX.out.later hb fun _ _ hh => (reads_later hb h).2.1 _ _ hh) hl)
      have HR5 : Hid (∀ W, Below wr.heap.size wr W → RowOf (fun _ => True) W strR 1 o5 l) := fun W hW => hr5.frame (Stays.of hW) (fun _ _ => trivial) (fun _ _ h => h)
      clear hn1 hasc hmem hb hr5
      go_wp2_with fail
      refine Calls.mono HDN.out ?_
      rintro ee w4 ⟨v4, rfl, hn4, hb4⟩
      obtain ⟨o8, c8, rfl, -, hr8⟩ := hn4.rowOf
      have hnl : (xs.map Tr.s).length ≤ maxLen := hn4.2.2
      have HLS := lessR_any l (xs.map Tr.s) o5 o8 c5 c8 w4 (by omega) hnl (HR5.out _ hb4) hr8
      rw [List.length_map] at HLS ⊢
      have HL := hide HLS
      clear HLS
      have HB4 := hide (HB.out.trans (hb4.mono HB.out.size))
      clear hn4 hb4 hr8
      go_wp2_with fail
      refine Calls.mono HL.out ?_
      rintro ee w5 ⟨v5, rfl, hn5, hb5⟩
      have HN5 := hide (hn5.base HB4.out.size)
      have HB5 := hide (HB4.out.trans (hb5.mono HB4.out.size))
      clear hn5 hb5
      go_wp2
      go_ret
      refine ⟨_, _, rfl, HN5.out, less_asc HASC.out, fun y => ?_, by have := less_len l (xs.map Tr.s); omega, HB5.out⟩
      rw [less_mem, HMEM.out, List.take_length]
set_option maxHeartbeats 2000000 in
set_option maxRecDepth 100000 in
theorem frDe_of {h : Nat} (ih1 : FrEx h) (ih2 : FrDe h) : FrDe (h + 1) := by
  intro K x cs w hr hn
  obtain ⟨-, -, -, e, o1, c1, ce, o2, c2, el, rfl, hsz, hf1, hf2, r1, lc, re, r2⟩ := hr
  obtain ⟨a0, a1, a2, a3, a4, a5, rfl⟩ := six lc
  have hnn : (nmb (h + 1)).de x = 1 + x.ss.length + (x.l.map (nmb h).ex).sum + (x.ds.map (nmb h).de).sum := rfl
  rw [hnn, el] at hn
  simp only [List.map_cons, List.map_nil, List.sum_cons, List.sum_nil] at hn
  obtain ⟨X, hX⟩ : ∃ X, w.alloc (.cells #[.string x.s, .slice o1 x.ss.length c1, a0, a1, a2, a3, a4, a5, .slice o2 x.ds.length c2] 77) = X := ⟨_, rfl⟩
  have hbX : Below w.heap.size w X := by rw [← hX]; exact (Below.refl _ w).alloc (Nat.le_refl _) _
  have hbox : X.heap[w.heap.size]? = some (.cells #[.string x.s, .slice o1 x.ss.length c1, a0, a1, a2, a3, a4, a5, .slice o2 x.ds.length c2] 77 (0, 0)) := by rw [← hX]; exact heap_alloc_new w _
  have HBOX : Hid (∀ W, Below X.heap.size X W → W.heap[w.heap.size]? = some (.cells #[.string x.s, .slice o1 x.ss.length c1, a0, a1, a2, a3, a4, a5, .slice o2 x.ds.length c2] 77 (0, 0))) := fun W hW => (hW.block _ (heap_lt hbox)).trans hbox
  have z2 := cell_of hbox 2
  have z3 := cell_of hbox 3
  have z4 := cell_of hbox 4
  have z5 := cell_of hbox 5
  have z6 := cell_of hbox 6
  have z7 := cell_of hbox 7
  simp only [List.getElem?_toArray, List.getElem?_cons_succ, List.getElem?_cons_zero] at z2 z3 z4 z5 z6 z7
  have HCE := hide (ih1 K e [a0, a1, a2, a3, a4, a5] X ((reads_later hbX h).1 _ _ re) (by omega))
  have IH2 := hide ih2
  have HR1 : Hid (∀ W, Below w.heap.size w W → RowOf K W strR 1 o1 x.ss) := fun W hW => r1.later hW fun _ _ h => h
  have HR2 : Hid (∀ W, Below w.heap.size w W → RowOf K W (reads K W h).de 9 o2 x.ds) := fun W hW => r2.later hW fun _ _ hh => (reads_later hW h).2.1 _ _ hh
  have HBX := hide hbX
  have HEL := hide el
  have hdl : x.ds.length ≤ 9223372036854775807 := hf2.1
  have hsl : x.ss.length ≤ maxLen := hf1.1
  have hd10 : x.ds.length ≤ 5000000 := by
    have h9 : ∀ l : List Tr, l.length ≤ (l.map (nmb (h + 1)).de).sum := fun l => by
      induction l with
      | nil => simp
      | cons q r ih =>
        have : 1 ≤ (nmb (h + 1)).de q := by
          have e9 : (nmb (h + 1)).de q = 1 + q.ss.length + (q.l.map (nmb h).ex).sum + (q.ds.map (nmb h).de).sum := rfl
          omega
        simp only [List.length_cons, List.map_cons, List.sum_cons]
        omega
    cases h with
    | zero =>
      cases hds : x.ds with
      | nil => simp
      | cons q r =>
        obtain ⟨_, _, _, _, _, hc⟩ := r2 (by rw [hds]; simp)
        obtain ⟨_, _, _, h9⟩ := hc 0 q (by rw [hds]; rfl)
        exact h9.elim
    | succ h =>
      have h8 : ∀ l : List Tr, l.length ≤ (l.map (nmb (h + 1)).de).sum := fun l => by
        induction l with
        | nil => simp
        | cons q r ih =>
          have : 1 ≤ (nmb (h + 1)).de q := by
            have e9 : (nmb (h + 1)).de q = 1 + q.ss.length + (q.l.map (nmb h).ex).sum + (q.ds.map (nmb h).de).sum := rfl
            omega
          simp only [List.length_cons, List.map_cons, List.sum_cons]
          omega
      have := h8 x.ds
      omega
  clear r1 r2 re lc hbX ih1 ih2 hsz hf1 hf2 el hbox
  go_enter Tryz.func30, Tryz.ntmps30
  go_wp2_with fail
  refine Calls.mono HCE.out ?_
  rintro ee w1 ⟨v1, l1, rfl, hn1, hasc1, hmem1, hlen1, hb1⟩
  have HN1 := hide (hn1.base HBX.out.size)
  have HASC1 := hide hasc1
  have HMEM1 := hide hmem1
  have HB1 := hide hb1
  clear hn1 hasc1 hmem1 hb1 z2 z3 z4 z5 z6 z7 hX
  go_wp2
  go_loopw [3, 4] (fun t3 t4 wr => ∃ (i : Nat) (l : List ByteArray), i ≤ x.ds.length ∧ t4 = .int .i64 i ∧ NRow w.heap.size wr t3 l ∧ Asc l ∧ (∀ y, y ∈ l ↔ (frm h).ex e y ∨ ∃ d ∈ x.ds.take i, (frm h).de d y) ∧ l.length ≤ (nmb h).ex e + ((x.ds.take i).map (nmb h).de).sum ∧ Below X.heap.size X wr) (fun _ t4 _ => x.ds.length - (intOf t4).toNat)
  case atStart => exact ⟨0, l1, Nat.zero_le _, rfl, HN1.out, HASC1.out, fun y => by rw [HMEM1.out]; simp, by simpa using hlen1, HB1.out⟩
  case round =>
    obtain ⟨i, l, hi, rfl, hn1, hasc, hmem, hlen, hb⟩ := hrel
    have HASC := hide hasc
    have HMEM := hide hmem
    have HB := hide hb
    have hbw : Below w.heap.size w wr := HBX.out.trans (hb.mono HBX.out.size)
    have HBW := hide hbw
    have hle0 := sum_take_le (nmb h).de x.ds i
    obtain ⟨o5, c5, rfl, -, hr5⟩ := hn1.rowOf
    have hbx := HBOX.out wr hb
    have v8 := cell_of hbx 8
    simp only [List.getElem?_toArray, List.getElem?_cons_succ, List.getElem?_cons_zero] at v8
    have HR5 : Hid (∀ W, Below wr.heap.size wr W → RowOf (fun _ => True) W strR 1 o5 l) := fun W hW => hr5.frame (Stays.of hW) (fun _ _ => trivial) (fun _ _ h => h)
    by_cases hlt : i < x.ds.length
    · have hne : x.ds ≠ [] := by intro e; rw [e] at hlt; simp at hlt
      obtain ⟨b, off, eo, -, hblt, hcs⟩ := (HR2.out wr hbw) hne
      subst eo
      obtain ⟨cs, hcl, hkey, hr⟩ := hcs i _ (List.getElem?_eq_getElem hlt)
      have hsum := sum_take_succ (nmb h).de x.ds i hlt
      have hle := sum_take_le (nmb h).de x.ds (i + 1)
      have hmt := fun y => mem_take_succ (fun d => (frm h).de d y) x.ds i hlt
      obtain ⟨d, hd⟩ : ∃ d, x.ds[i] = d := ⟨_, rfl⟩
      rw [hd] at hsum hr
      simp only [hd] at hmt
      have HCALL := hide (IH2.out K d _ wr hr (by omega))
      obtain ⟨y, p0, e0, p1, e1, p2, e2, p3, e3, p4, e4, rfl⟩ := de_form hr
      have q0 := hkey 0 _ rfl
      have q1 := hkey 1 _ rfl
      have q2 := hkey 2 _ rfl
      have q3 := hkey 3 _ rfl
      have q4 := hkey 4 _ rfl
      have q5 := hkey 5 _ rfl
      have q6 := hkey 6 _ rfl
      have q7 := hkey 7 _ rfl
      have q8 := hkey 8 _ rfl
      rw [Nat.add_zero] at q0
      have HMT := hide hmt
      have hlt2 : (i : Int) < x.ds.length := by omega
      clear hn1 hasc hmem hb hcs hne hkey hr5 hmt hr hblt hcl hbx hbw
      go_wp2_with fail
      refine Calls.mono HCALL.out ?_
      rintro ee w4 ⟨v4, l4, rfl, hn4, hasc4, hmem4, hlen4, hb4⟩
      obtain ⟨o8, c8, rfl, -, hr8⟩ := hn4.rowOf
      have HMEM4 := hide hmem4
      have HR8 := hide hr8
      have HB4 := hide hb4
      clear hn4 hasc4 hmem4 hb4 hr8 q0 q1 q2 q3 q4 q5 q6 q7 q8 v8
      go_wp2_with fail
      refine (join_any l l4 o5 o8 c5 c8 _ (by omega) (HR5.out _ HB4.out) HR8.out HASC.out).mono ?_
      rintro ee w5 ⟨v5, l5, rfl, hn5, hasc5, hmem5, hlen5, hb5⟩
      have HB5 : Hid (Below X.heap.size X w5) := HB.out.trans ((HB4.out.trans (hb5.mono HB4.out.size)).mono HB.out.size)
      have HN5 := hide (hn5.base (Nat.le_trans HBW.out.size HB4.out.size))
      have HASC5 := hide hasc5
      have HMEM5 : Hid (∀ y, y ∈ l5 ↔ (frm h).ex e y ∨ ∃ d ∈ x.ds.take (i + 1), (frm h).de d y) := fun y => by
        rw [hmem5, HMT.out, HMEM.out, HMEM4.out, or_assoc]
        exact or_congr Iff.rfl (or_congr Iff.rfl ⟨fun h => h.1, fun h9 => ⟨h9, (frm_und h).2.1 _ _ h9⟩⟩)
      clear hn5 hasc5 hmem5 hb5
      go_wp2
      go_roundw
      case rel => exact ⟨i + 1, l5, by omega, by go_num, HN5.out, HASC5.out, HMEM5.out, by omega, HB5.out⟩
      case measure => simp [intOf]; omega
    · have hie : i = x.ds.length := by omega
      subst hie
      rw [List.take_length] at hlen hle0
      have v1 := cell_of hbx 1
      simp only [List.getElem?_toArray, List.getElem?_cons_succ, List.getElem?_cons_zero] at v1
      have HDN : Hid (∀ W, Below wr.heap.size wr W → Calls Tryz.prog 32 #[.slice o2 x.ds.length c2] W fun e w' => ∃ v, e = .returned v ∧ NRow W.heap.size w' v (x.ds.map Tr.s) ∧ Below W.heap.size W w') := fun W hW => decNames_any x.ds o2 c2 W (HR2.out W (HBW.out.trans (hW.mono HBW.out.size))) (by omega)
      have hq8 := lat_cell v8
      have hq1 := lat_cell v1
      have hne0 : Nonempty (Later wr) := later_nonempty wr
      have HBd : Hid (Below wr.heap.size wr (wr.drewN 1)) := (Below.refl _ _).drew
      clear hn1 hasc hmem hb hr5 hbx hbw
      go_upto_region 6 with fail
      clear v8 v1
      refine wp_region_sch (S := fun w' => ∃ q : Later wr, w' = q.w) [([0, 1, 2, 5, 6], 3), ([], 4), ([], 7)] [8] (by kernel_rfl) (by kernel_rfl) (by kernel_rfl) (by kernel_rfl) ⟨⟨_, HBd.out⟩, rfl⟩ ?_
      simp only [wpSch, pickO, consO, List.getElem?_toArray, List.getElem?_cons_succ, List.getElem?_cons_zero]
      repeat (first | go_big_quiet_skip | (go_big_quiet_want; go_big_quiet_op; go_big_quiet_on))
      refine wpQuiet_nil ?_
      go_wp2_with fail
      refine Calls.mono (HDN.out _ HBd.out) ?_
      rintro ee w4 ⟨v4, rfl, hn4, hb4⟩
      obtain ⟨o8, c8, rfl, -, hr8⟩ := hn4.rowOf
      have hnl : (x.ds.map Tr.s).length ≤ maxLen := hn4.2.2
      have HB4 : Hid (Below wr.heap.size wr w4) := HBd.out.trans (hb4.mono HBd.out.size)
      have HLS := lessR_any l (x.ds.map Tr.s) o5 o8 c5 c8 w4 (by omega) hnl (HR5.out _ HB4.out) hr8
      rw [List.length_map] at HLS ⊢
      have HL := hide HLS
      clear hn4 hb4 hr8 HLS
      go_wp2
      refine ⟨⟨⟨w4, HB4.out⟩, rfl⟩, ?_⟩
      repeat (first | go_big_quiet_skip | (go_big_quiet_want; go_big_quiet_op; go_big_quiet_on))
      refine wpQuiet_nil ?_
      go_wp2_with fail
      refine Calls.mono HL.out ?_
      rintro ee w5 ⟨v5, rfl, hn5, hb5⟩
      obtain ⟨o9, c9, rfl, -, hr9⟩ := hn5.rowOf
      have HB5 : Hid (Below wr.heap.size wr w5) := HB4.out.trans (hb5.mono HB4.out.size)
      have hl5 := less_len l (x.ds.map Tr.s)
      obtain ⟨lx, hlx⟩ : ∃ lx, lessL l (x.ds.map Tr.s) = lx := ⟨_, rfl⟩
      rw [hlx] at hr9 hl5 ⊢
      have HLX := hide hlx
      have HL2 := hide (lessR_any lx x.ss o9 o1 c9 c1 w5 (by omega) hsl hr9 (HR1.out w5 (HBW.out.trans (HB5.out.mono HBW.out.size))))
      clear hn5 hb5 hr9 hlx
      go_wp2
      refine ⟨⟨⟨w5, HB5.out⟩, rfl⟩, ?_⟩
      repeat (first | go_big_quiet_skip | (go_big_quiet_want; go_big_quiet_op; go_big_quiet_on))
      refine wpQuiet_nil ?_
      go_wp2_with fail
      refine Calls.mono HL2.out ?_
      rintro ee w6 ⟨v6, rfl, hn6, hb6⟩
      have HB6 : Hid (Below w.heap.size w w6) := HBW.out.trans ((HB5.out.trans (hb6.mono HB5.out.size)).mono HBW.out.size)
      have HN6 := hide (hn6.base (Nat.le_trans HBW.out.size HB5.out.size))
      have HB6' : Hid (Below wr.heap.size wr w6) := HB5.out.trans (hb6.mono HB5.out.size)
      clear hn6 hb6
      go_wp2
      refine ⟨⟨⟨w6, HB6'.out⟩, rfl⟩, ?_⟩
      repeat (first | go_big_quiet_skip | (go_big_quiet_want; go_big_quiet_op; go_big_quiet_on))
      refine wpQuiet_nil ?_
      go_wp2
      go_ret
      refine ⟨_, _, rfl, HN6.out, ?_, fun y => ?_, ?_, HB6.out⟩
      · rw [← HLX.out]
        exact less_asc (less_asc HASC.out)
      · rw [less_mem, ← HLX.out, less_mem, HMEM.out, List.take_length]
        show _ ↔ (((∃ c ∈ x.l, (frm h).ex c y) ∨ (∃ c ∈ x.ds, (frm h).de c y)) ∧ y ∉ x.ds.map Tr.s) ∧ y ∉ x.ss
        rw [HEL.out]
        simp
      · have h9 := less_len lx x.ss
        show _ ≤ 1 + x.ss.length + (x.l.map (nmb h).ex).sum + (x.ds.map (nmb h).de).sum
        rw [HEL.out]
        simp only [List.map_cons, List.map_nil, List.sum_cons, List.sum_nil]
        omega
end Go.Proofs.YtlaeenfeajkcfalGreat.Fr
