/- A region that draws its order, with calls that write: what only reads yields one value in every world of a class, so one walk serves every order of it; a call that all that is left waits for is taken where it stands, in the very world. -/
import Derived.Test.YtpkibfmjhlfafaaQC
namespace Go.Proofs.Ytpkibfmjhlfafaa
open Go.RowKit

/-- An operation that only reads. -/
def readB (o : Oper) : Bool := match o.op with
  | .move _ | .assign _ | .pick _ _ _ | .load _ _ | .nilCheck _ | .binOp _ _ _ _ _ | .unOp _ _ _ | .fieldAddr _ _ _ | .indexAddr _ _ _ | .build _ _ => true
  | _ => false
theorem run_value {P : Program} {w w' : World} {f : FuncId} {args : Array Value} (s : Sem Value) : ((do let x ← s; pure (.value x) : Sem Next)).run P w ≠ .ok (.enter f args) w' := by
  rw [Sem.run_bind]
  cases s.run P w with
  | ok x w1 => simp [Result.andThen_ok, Sem.run_pure]
  | halt x w1 => intro h; cases h
theorem read_enter {P : Program} {o : Oper} (h : readB o = true) (ρ : Operand → Value) (w w' : World) (f : FuncId) (args : Array Value) : (execOp ρ o).run P w ≠ .ok (.enter f args) w' := by
  obtain ⟨dst, op, type, pos, after, guard⟩ := o
  cases op <;> simp only [readB] at h <;> first | (cases h; done) | skip
  case move x => simp [execOp, Sem.run_pure]
  case assign x => simp [execOp, Sem.run_pure]
  case pick c a b =>
    simp only [execOp, Sem.run_bind]
    cases (asBool (ρ c)).run P w with
    | ok x w1 => simp [Result.andThen_ok, Sem.run_pure]
    | halt x w1 => intro h; cases h
  case load t a => simp only [execOp]; exact run_value _
  case binOp => simp only [execOp]; exact run_value _
  case unOp => simp only [execOp]; exact run_value _
  case fieldAddr => simp only [execOp]; exact run_value _
  case indexAddr => simp only [execOp]; exact run_value _
  case build => simp only [execOp]; exact run_value _
  case nilCheck x =>
    simp only [execOp]
    split
    · intro h; cases h
    · intro h; cases h
    · intro h; cases h
    · split
      · intro h; cases h
      · rw [Sem.run_bind]
        generalize Sem.run P program w = r0
        cases r0 with
        | halt x w1 => intro h; cases h
        | ok p w1 =>
          rw [Result.andThen_ok, Sem.run_bind]
          generalize Sem.run P (nilAhead _ _ _ _) w1 = r
          cases r with
          | halt x w1 => intro h; cases h
          | ok b w1 =>
            rw [Result.andThen_ok]
            split
            · intro h; cases h
            · simp [Sem.run_pure]
      · simp [Sem.run_pure]
    · simp [Sem.run_pure]

section
variable {P : Program} {ops : Array Oper} {md : Region.Mode} {S : World → Prop} {Q : Exit → Act → World → Prop}

/-- One operation, in the very world: it yields a value, or nothing, or a call returns. -/
def stp (P : Program) (o : Oper) (a : Act) (w : World) (K : Act → World → Prop) : Prop :=
  match (execOp a.eval o).run P w with
  | .ok (.value u) w' => K (a.put o.dst u) w'
  | .ok .skip w' => K (a.put o.dst undef) w'
  | .ok (.defer d) w' => K ({ a with defers := d :: a.defers }.put o.dst undef) w'
  | .ok (.enter f args) w' => Calls P f args w' fun e w'' => ∃ u, e = .returned u ∧ K (a.put o.dst u) w''
  | .ok (.row row args) w' => Rows P row args w' fun v w'' => K (a.put o.dst v) w''
  | _ => False
def sOp (P : Program) (ops : Array Oper) (i : Nat) (K : Act → World → Prop) (a : Act) (w : World) : Prop :=
  match ops[i]? with
  | none => K a w
  | some o => (Region.wanted o (yielded ops a.tmps) = true ∧ stp P o a w K) ∨ (Region.wanted o (yielded ops a.tmps) = false ∧ K (a.put o.dst undef) w)
theorem stp_mono {o : Oper} {a : Act} {w : World} {K K' : Act → World → Prop} (h : ∀ a w, K a w → K' a w) (hh : stp P o a w K) : stp P o a w K' := by
  unfold stp at *
  generalize (execOp a.eval o).run P w = r at *
  cases r with
  | ok n w' =>
    cases n <;> simp only at hh ⊢
    case value u => exact h _ _ hh
    case skip => exact h _ _ hh
    case defer d => exact h _ _ hh
    case enter f args => exact hh.mono fun e w2 ⟨u, e1, e2⟩ => ⟨u, e1, h _ _ e2⟩
    case row row args => exact Rows.mono hh fun _ _ he => h _ _ he
  | halt x w' => exact hh
theorem sOp_mono {i : Nat} {a : Act} {w : World} {K K' : Act → World → Prop} (h : ∀ a w, K a w → K' a w) (hh : sOp P ops i K a w) : sOp P ops i K' a w := by
  unfold sOp at *
  cases ho : ops[i]? with
  | none => rw [ho] at hh; exact h _ _ hh
  | some o =>
    rw [ho] at hh
    rcases hh with ⟨h1, h2⟩ | ⟨h1, h2⟩
    · exact .inl ⟨h1, stp_mono h h2⟩
    · exact .inr ⟨h1, h _ _ h2⟩
theorem sOp_wp {i : Nat} {a : Act} {w : World} {K : Act → World → Prop} (hh : sOp P ops i K a w) : wpOp P ops Q i K a w := by
  unfold sOp at hh
  unfold wpOp
  cases ho : ops[i]? with
  | none => rw [ho] at hh; exact hh
  | some o =>
    rw [ho] at hh
    rcases hh with ⟨h1, h2⟩ | ⟨h1, h2⟩
    · simp only [h1, if_true]
      refine .inl ?_
      unfold stp at h2
      unfold Oper.wp
      generalize (execOp a.eval o).run P w = r at *
      cases r with
      | ok n w' =>
        cases n <;> simp only at h2 <;> simp only [Oper.upon]
        case value u => exact h2
        case skip => exact h2
        case defer d => exact h2
        case enter f args => exact h2.mono fun e w2 ⟨u, e1, e2⟩ => by subst e1; exact e2
        case row row args => exact h2
      | halt x w' => exact h2.elim
    · simp only [h1]
      exact h2
/-- In every world of the class the operation yields the value and leaves the world as it is. -/
def YldS (P : Program) (ops : Array Oper) (S : World → Prop) (o : Oper) (v : Value) (a : Act) : Prop :=
  (Region.wanted o (yielded ops a.tmps) = true ∧ ∀ w, S w → (execOp a.eval o).run P w = .ok (.value v) w ∨ ((execOp a.eval o).run P w = .ok .skip w ∧ v = undef)) ∨
  (Region.wanted o (yielded ops a.tmps) = false ∧ v = undef)
theorem YldS.same {o : Oper} {v : Value} {a a' : Act} (hy : YldS P ops S o v a) (he : execOp a'.eval o = execOp a.eval o) (hw : Region.wanted o (yielded ops a'.tmps) = Region.wanted o (yielded ops a.tmps)) : YldS P ops S o v a' := by
  unfold YldS at *
  rw [he, hw]
  exact hy
theorem YldS.op {i : Nat} {o : Oper} {v : Value} {a : Act} {w : World} {K : Act → World → Prop} (hi : ops[i]? = some o) (hy : YldS P ops S o v a) (hS : S w) (h : K (a.put o.dst v) w) : sOp P ops i K a w := by
  unfold sOp
  rw [hi]
  rcases hy with ⟨h1, h2⟩ | ⟨h1, rfl⟩
  · refine .inl ⟨h1, ?_⟩
    unfold stp
    rcases h2 w hS with h3 | ⟨h3, rfl⟩
    · rw [h3]; exact h
    · rw [h3]; exact h
  · exact .inr ⟨h1, h⟩
theorem yld_of_quiet {o : Oper} {a : Act} {K : Act → Prop} (hr : readB o = true) (h : if Region.wanted o (yielded ops a.tmps) then o.quiet P a S K else K (a.put o.dst undef)) : ∃ v, YldS P ops S o v a ∧ K (a.put o.dst v) := by
  by_cases hw : Region.wanted o (yielded ops a.tmps) = true
  · simp only [hw, if_true] at h
    obtain ⟨v, h1, h2⟩ := h
    refine ⟨v, .inl ⟨hw, fun w hS => ?_⟩, h2⟩
    have h3 := h1 w hS
    unfold Oper.quietAt at h3
    have h4 := read_enter (P := P) hr a.eval w
    generalize (execOp a.eval o).run P w = r at *
    cases r with
    | ok n w' =>
      cases n <;> simp only [Oper.quietUpon] at h3
      case value u => obtain ⟨rfl, rfl⟩ := h3; exact .inl rfl
      case skip => obtain ⟨rfl, rfl⟩ := h3; exact .inr ⟨rfl, rfl⟩
      case enter f args => exact absurd rfl (h4 _ _ _)
    | halt x w' => exact h3.elim
  · simp only [hw] at h
    exact ⟨undef, .inr ⟨by simpa using hw, rfl⟩, h⟩
/-- What is apart from an operation that only reads may come ahead of it. -/
theorem sOp_put {j : Nat} {oi oj : Oper} {v : Value} (hj : ops[j]? = some oj) (hap : oi.apart ops oj = true) (hsi : ∀ cs b, oi.op ≠ .select cs b) (hsj : ∀ cs b, oj.op ≠ .select cs b) {K : Act → World → Prop} {a : Act} {w : World}
    (hy : YldS P ops S oi v a) (h : sOp P ops j K (a.put oi.dst v) w) : sOp P ops j (fun a' w' => YldS P ops S oi v a' ∧ K (a'.put oi.dst v) w') a w := by
  obtain ⟨h1, h2, h3⟩ := Oper.apart_spec hap
  have keep : ∀ u, YldS P ops S oi v (a.put oj.dst u) := fun u => hy.same (execOp_put oi hsi a oj.dst u h3) (wanted_put oi a oj.dst u h3)
  unfold sOp at *
  rw [hj] at h ⊢
  simp only [wanted_put oj a oi.dst v h1] at h
  rcases h with ⟨hw, hs⟩ | ⟨hw, hs⟩
  · refine .inl ⟨hw, ?_⟩
    unfold stp at *
    rw [execOp_put oj hsj a oi.dst v h1] at hs
    generalize (execOp a.eval oj).run P w = r at *
    cases r with
    | ok n w' =>
      cases n <;> simp only at hs ⊢
      case value u => exact ⟨keep u, by rw [← Act.put_comm a v u h2]; exact hs⟩
      case skip => exact ⟨keep _, by rw [← Act.put_comm a v undef h2]; exact hs⟩
      case defer d =>
        refine ⟨(hy.same (a' := { a with defers := d :: a.defers }) rfl rfl).same (execOp_put oi hsi _ oj.dst undef h3) (wanted_put oi _ oj.dst undef h3), ?_⟩
        rw [← Act.put_comm _ v undef h2, ← Act.put_defers]
        exact hs
      case enter f args => exact hs.mono fun e w2 ⟨u, e1, e2⟩ => ⟨u, e1, keep u, by rw [← Act.put_comm a v u h2]; exact e2⟩
      case row row args => exact Rows.mono hs fun u w2 he => ⟨keep u, by rw [← Act.put_comm a v u h2]; exact he⟩
    | halt x w' => exact hs
  · exact .inr ⟨hw, keep _, by rw [← Act.put_comm a v undef h2]; exact hs⟩

/-- Whatever order is picked from here on; the worlds stay in the class. -/
def wpM (P : Program) (md : Region.Mode) (ops : Array Oper) (S : World → Prop) (Q : Exit → Act → World → Prop) : Nat → Array Bool → Act → World → Prop
  | 0, listed, a, w => Region.ready md ops listed = [] ∧ Q .normal a w
  | n + 1, listed, a, w => (Region.ready md ops listed = [] → Q .normal a w) ∧ ∀ i ∈ Region.ready md ops listed, sOp P ops i (fun a' w' => S w' ∧ wpM P md ops S Q n (listed.setIfInBounds i true) a' w') a w
theorem wpM_any : ∀ (n : Nat) (listed : Array Bool) (a : Act) (w : World), wpM P md ops S Q n listed a w → wpAny P md ops Q n listed a w
  | 0, _, _, _, h => h
  | n + 1, _, _, _, h => ⟨h.1, fun i hi => sOp_wp (sOp_mono (fun a w h2 => wpM_any n _ a w h2.2) (h.2 i hi))⟩
theorem wpM_first {i : Nat} {oi : Oper} {v : Value} (hi : ops[i]? = some oi) (hsel : ∀ (j : Nat) (o : Oper) cs b, ops[j]? = some o → o.op ≠ .select cs b) :
    ∀ (n : Nat) (listed : Array Bool) (a : Act) (w : World), S w →
      (∀ j oj, ops[j]? = some oj → j ≠ i → listed.getD j true = false → (∀ e ∈ oj.after, Region.binds md e = true → e.on ≠ i) → oi.apart ops oj = true) →
      i ∈ Region.ready md ops listed → YldS P ops S oi v a → wpM P md ops S Q n (listed.setIfInBounds i true) (a.put oi.dst v) w → wpM P md ops S Q (n + 1) listed a w := by
  intro n
  induction n with
  | zero =>
    intro listed a w hS _ hr hy H
    refine ⟨fun h => (by rw [h] at hr; cases hr), fun j hj => ?_⟩
    by_cases hji : j = i
    · subst hji
      exact hy.op hi hS ⟨hS, H⟩
    · have h9 := ready_mono hj hji
      rw [H.1] at h9
      cases h9
  | succ n ih =>
    intro listed a w hS hfree hr hy H
    refine ⟨fun h => (by rw [h] at hr; cases hr), fun j hj => ?_⟩
    by_cases hji : j = i
    · subst hji
      exact hy.op hi hS ⟨hS, H⟩
    have h1 := H.2 j (ready_mono hj hji)
    obtain ⟨hjun, oj, hoj, hall⟩ := mem_ready.1 hj
    have hnot : ∀ e ∈ oj.after, Region.binds md e = true → e.on ≠ i := by
      intro e he hb heq
      have h2 := hall e he hb
      have h0 := (mem_ready.1 hr).1
      rw [heq] at h2
      by_cases hlt : i < listed.size
      · simp [hlt] at h0 h2
        rw [h0] at h2
        cases h2
      · simp [Array.getElem?_eq_none (Nat.le_of_not_lt hlt)] at h2
    have h2 := sOp_put hoj (hfree j oj hoj hji hjun hnot) (fun cs b => hsel i oi cs b hi) (fun cs b => hsel j oj cs b hoj) hy h1
    refine sOp_mono (fun a' w' h3 => ?_) h2
    obtain ⟨h4, h5, h6⟩ := h3
    refine ⟨h5, ih _ a' w' h5 ?_ (ready_mono hr (Ne.symm hji)) h4 (by rw [Array.setIfInBounds_comm _ _ hji]; exact h6)⟩
    intro k ok hk hki hun hno
    refine hfree k ok hk hki ?_ hno
    by_cases hjk : j = k
    · subst hjk
      exact hjun
    · rw [getD_set_ne true hjk] at hun
      exact hun

theorem wpQuiet_mono2 {K K' : Act → Prop} (h : ∀ a, K a → K' a) : ∀ (l : List Oper) (a : Act), wpQuiet P ops S K l a → wpQuiet P ops S K' l a
  | [], a, hh => h a hh
  | o :: l, a, hh => by
    simp only [wpQuiet] at hh ⊢
    split
    · rename_i hw
      simp only [hw, if_true] at hh
      exact Oper.quiet_mono (wpQuiet_mono2 h l) hh
    · rename_i hw
      simp only [hw] at hh
      exact wpQuiet_mono2 h l _ hh
def listTo : Nat → Nat → Array Bool → Array Bool
  | 0, _, listed => listed
  | n + 1, k, listed => listTo n (k + 1) (listed.setIfInBounds k true)
def segB (md : Region.Mode) (ops : Array Oper) : Nat → Nat → Array Bool → Bool
  | 0, _, _ => true
  | n + 1, k, listed => ((Region.ready md ops listed).contains k && Region.free md ops listed k && ((ops[k]?).map readB).getD false) && segB md ops n (k + 1) (listed.setIfInBounds k true)
theorem wpM_seg (hs : Region.noSelect ops = true) : ∀ (seg : List Oper) (k m : Nat) (listed : Array Bool) (a : Act) (w : World), (∀ j, j < seg.length → seg[j]? = ops[k + j]?) → segB md ops seg.length k listed = true → S w →
    wpQuiet P ops S (fun a' => wpM P md ops S Q m (listTo seg.length k listed) a' w) seg a → wpM P md ops S Q (seg.length + m) listed a w
  | [], k, m, listed, a, w, _, _, _, h => by rw [List.length_nil, Nat.zero_add]; exact h
  | o :: seg, k, m, listed, a, w, hl, hB, hS, h => by
    have h0 : ops[k]? = some o := (hl 0 (by simp)).symm
    simp only [List.length_cons, segB, Bool.and_eq_true, h0, Option.map_some, Option.getD_some] at hB
    obtain ⟨⟨⟨hr, hf⟩, hrd⟩, hB'⟩ := hB
    obtain ⟨v, hy, hK⟩ := yld_of_quiet hrd h
    have key := wpM_seg hs seg (k + 1) m (listed.setIfInBounds k true) (a.put o.dst v) w (fun j hj => by have := hl (j + 1) (by simp; omega); simpa [Nat.add_assoc, Nat.add_comm 1 j] using this) hB' hS hK
    have e : (o :: seg).length + m = seg.length + m + 1 := by simp; omega
    rw [e]
    exact wpM_first h0 (Region.noSelect_spec hs) _ listed a w hS (Region.free_spec h0 hf) (by simpa using hr) hy key
theorem stp_of_list {o : Oper} {a : Act} {w : World} {K : Act → World → Prop} (h : wpList P ops (fun ex a' w' => ex = .normal ∧ K a' w') [o] a w) : (Region.wanted o (yielded ops a.tmps) = true ∧ stp P o a w K) ∨ (Region.wanted o (yielded ops a.tmps) = false ∧ K (a.put o.dst undef) w) := by
  have no : ¬ LetsOut (fun ex (a' : Act) w' => ex = Exit.normal ∧ K a' w') := by
    rintro ⟨a', w', h1, -⟩
    cases h1
  simp only [wpList] at h
  by_cases hw : Region.wanted o (yielded ops a.tmps) = true
  · simp only [hw, if_true] at h
    refine .inl ⟨hw, ?_⟩
    rcases h with h | ⟨-, h⟩
    · unfold Oper.wp at h
      unfold stp
      generalize (execOp a.eval o).run P w = r at *
      cases r with
      | ok n w' =>
        cases n <;> simp only [Oper.upon] at h ⊢
        case value u => exact h.2
        case skip => exact h.2
        case enter f args =>
          refine h.mono fun e w2 he => ?_
          cases e with
          | returned u => exact ⟨u, rfl, he.2⟩
          | panicked c => exact absurd he.1 (by simp)
          | outgrown => exact absurd he no
        case defer d => exact h.2
        case row row args => exact Rows.mono h fun _ _ he => he.2
      | halt x w' =>
        cases x <;> simp only [Oper.upon] at h
        case panic v => exact absurd h.1 (by simp)
    · exact absurd h no
  · simp only [hw] at h
    exact .inr ⟨by simpa using hw, h.2⟩

/-- The region's walk: its reading parts within the class, its calls in the very world, cut at the calls (each number: how many that only read stand ahead of the next call). -/
def wpCuts (P : Program) (ops : Array Oper) (S : World → Prop) (Q : Exit → Act → World → Prop) : List Nat → List Oper → Act → World → Prop
  | [], l, a, w => wpQuiet P ops S (fun a' => Q .normal a' w) l a
  | n :: more, l, a, w => wpQuiet P ops S (fun a' => wpList P ops (fun ex a2 w' => ex = .normal ∧ (S w' ∧ wpCuts P ops S Q more (l.drop (n + 1)) a2 w')) ((l.drop n).take 1) a' w) (l.take n) a
def cutsB (md : Region.Mode) (ops : Array Oper) : List Nat → Nat → Array Bool → Bool
  | [], k, listed => segB md ops (ops.size - k) k listed && (Region.ready md ops (listTo (ops.size - k) k listed)).isEmpty
  | n :: more, k, listed => decide (k + n < ops.size) && (segB md ops n k listed && (Region.ready md ops (listTo n k listed) == [k + n] && cutsB md ops more (k + n + 1) ((listTo n k listed).setIfInBounds (k + n) true)))
theorem wpM_cuts (hs : Region.noSelect ops = true) : ∀ (cuts : List Nat) (k : Nat) (l : List Oper) (listed : Array Bool) (a : Act) (w : World), k ≤ ops.size → (∀ j, l[j]? = ops[k + j]?) → cutsB md ops cuts k listed = true → S w →
    wpCuts P ops S Q cuts l a w → wpM P md ops S Q (ops.size - k) listed a w
  | [], k, l, listed, a, w, hk, hl, hB, hS, h => by
    have hlen : l.length = ops.size - k := by
      apply Nat.le_antisymm
      · rcases Nat.lt_or_ge (ops.size - k) l.length with h1 | h1
        · have h2 := hl (ops.size - k)
          rw [List.getElem?_eq_getElem h1, Array.getElem?_eq_none (by omega)] at h2
          cases h2
        · exact h1
      · rcases Nat.lt_or_ge l.length (ops.size - k) with h1 | h1
        · have h2 := hl l.length
          rw [List.getElem?_eq_none (Nat.le_refl _), Array.getElem?_eq_getElem (by omega)] at h2
          cases h2
        · exact h1
    simp only [cutsB, Bool.and_eq_true] at hB
    have key := wpM_seg (Q := Q) hs l k 0 listed a w (fun j _ => hl j) (by rw [hlen]; exact hB.1) hS (by
      rw [hlen]
      have he : Region.ready md ops (listTo (ops.size - k) k listed) = [] := by simpa using hB.2
      exact wpQuiet_mono2 (fun a' h9 => ⟨he, h9⟩) _ _ h)
    rw [hlen, Nat.add_zero] at key
    exact key
  | n :: more, k, l, listed, a, w, hk, hl, hB, hS, h => by
    simp only [cutsB, Bool.and_eq_true, decide_eq_true_eq] at hB
    obtain ⟨hlt, hseg, hr, hrest⟩ := hB
    have hr2 : Region.ready md ops (listTo n k listed) = [k + n] := by simpa using hr
    have hln : n < l.length := by
      rcases Nat.lt_or_ge n l.length with h1 | h1
      · exact h1
      · have h2 := hl n
        rw [List.getElem?_eq_none h1, Array.getElem?_eq_getElem hlt] at h2
        cases h2
    have hlen : (l.take n).length = n := by rw [List.length_take]; omega
    have key := wpM_seg (Q := Q) hs (l.take n) k (ops.size - (k + n)) listed a w (fun j hj => by
      rw [hlen] at hj
      rw [List.getElem?_take, if_pos hj]
      exact hl j) (by rw [hlen]; exact hseg) hS (by
      rw [hlen]
      refine wpQuiet_mono2 (fun a' h9 => ?_) _ _ h
      have e : ops.size - (k + n) = ops.size - (k + n + 1) + 1 := by omega
      rw [e]
      refine ⟨fun h => (by rw [hr2] at h; cases h), fun i hi => ?_⟩
      rw [hr2] at hi
      have hi2 : i = k + n := by simpa using hi
      subst hi2
      have ho : ops[k + n]? = some l[n] := by rw [← hl n]; exact List.getElem?_eq_getElem hln
      have ht : (l.drop n).take 1 = [l[n]] := by rw [List.drop_eq_getElem_cons hln]; rfl
      rw [ht] at h9
      have h8 := stp_of_list h9
      unfold sOp
      rw [ho]
      have step : ∀ a2 w', (S w' ∧ wpCuts P ops S Q more (l.drop (n + 1)) a2 w') → S w' ∧ wpM P md ops S Q (ops.size - (k + n + 1)) ((listTo n k listed).setIfInBounds (k + n) true) a2 w' := fun a2 w' hh =>
        ⟨hh.1, wpM_cuts hs more (k + n + 1) (l.drop (n + 1)) _ a2 w' (by omega) (fun j => by rw [List.getElem?_drop, hl]; congr 1; omega) hrest hh.1 hh.2⟩
      rcases h8 with ⟨h7, h6⟩ | ⟨h7, h6⟩
      · exact .inl ⟨h7, stp_mono step h6⟩
      · exact .inr ⟨h7, step _ _ h6⟩)
    rw [hlen] at key
    have e2 : n + (ops.size - (k + n)) = ops.size - k := by omega
    rw [e2] at key
    exact key
theorem wp_region_cuts {id : Nat} {a : Act} {w : World} {l : List Oper} (cuts : List Nat) (hm : P.follows .mixedOrders = true) (hs : Region.noSelect l.toArray = true) (hB : cutsB .any l.toArray cuts 0 (Array.replicate l.toArray.size false) = true) (hS : S (w.drewN 1))
    (h : wpCuts P l.toArray S Q cuts l a (w.drewN 1)) : (Code.region id l.toArray true).wp P Q a w := by
  refine wp_region_any hm (wpM_any (S := S) _ _ _ _ ?_)
  have key := wpM_cuts (md := .any) hs cuts 0 l (Array.replicate l.toArray.size false) a (w.drewN 1) (Nat.zero_le _) (fun j => by simp) hB hS h
  rw [Nat.sub_zero] at key
  exact key
end
end Go.Proofs.Ytpkibfmjhlfafaa
