/- VarsOf, plainly: a list of places that are still to be seen, and what was seen. -/
import Derived.Test.YtncgbdbkoeiffamOB
import Derived.Test.YtncgbdbkoeiffamOC
import Derived.Test.YtncgbdbkoeiffamPB
namespace Go.Proofs.Ytncgbdbkoeiffam.Vo
open Go.RowKit
set_option linter.unusedVariables false

def ifNew (k n : Int) (out : List Int) : List Int := if k = 5 ∧ n ∉ out then out ++ [n] else out
theorem mem_ifNew (k n : Int) (out : List Int) (v : Int) : v ∈ ifNew k n out ↔ v ∈ out ∨ (k = 5 ∧ v = n) := by
  unfold ifNew
  split
  · rename_i h
    simp [h.1]
  · rename_i h
    refine ⟨.inl, fun h' => h'.elim id fun h2 => ?_⟩
    rw [h2.2]
    exact Classical.byContradiction fun h3 => h ⟨h2.1, h3⟩
theorem ifNew_len (k n : Int) (out : List Int) : (ifNew k n out).length ≤ out.length + 1 := by
  unfold ifNew
  split
  · simp
  · omega
/-- How many parts, and the numbers behind those that came. -/
def nz : Nat → Tr → Nat
  | 0 => fun _ => 0
  | h + 1 => fun t => 1 + (t.l.map (nz h)).sum
def vz : Nat → List Int → Tr → List Int
  | 0 => fun out _ => out
  | h + 1 => fun out t => t.l.foldl (vz h) (ifNew t.k t.n out)
/-- A place, how many parts stand there, and what is told of it. -/
structure Ent where
  a : Addr
  n : Nat
  f : List Int → List Int
def CellsT (w : World) (a : Addr) (cs : List Value) : Prop := ∀ j u, cs[j]? = some u → w.cell? ⟨a.block, a.off + j, none⟩ = some u
def T (K : Nat → Prop) (w : World) (e : Ent) : Prop := e.a = ⟨e.a.block, e.a.off, none⟩ ∧ e.a.block < w.heap.size ∧ PlainAt w e.a ∧ ∃ h x cs, cs.length = 4 ∧ CellsT w e.a cs ∧ tyR K w h x cs ∧ e.n = nz h x ∧ e.f = fun out => vz h out x
theorem fold_same {α β γ : Type} {f : γ → α → γ} {g : γ → β → γ} : ∀ (l : List α) (l' : List β), l.length = l'.length → (∀ (i : Nat) a b, l[i]? = some a → l'[i]? = some b → ∀ o, f o a = g o b) → ∀ o, l.foldl f o = l'.foldl g o := by
  intro l
  induction l with
  | nil =>
    intro l' hl _ o
    cases l' with
    | nil => rfl
    | cons b r => simp at hl
  | cons a r ih =>
    intro l' hl h o
    cases l' with
    | nil => simp at hl
    | cons b r' =>
      simp only [List.foldl_cons]
      rw [h 0 a b rfl rfl o]
      exact ih r' (by simpa using hl) (fun i a b h1 h2 => h (i + 1) a b (by simpa using h1) (by simpa using h2)) _
theorem sum_same {α β : Type} {f : α → Nat} {g : β → Nat} : ∀ (l : List α) (l' : List β), l.length = l'.length → (∀ (i : Nat) a b, l[i]? = some a → l'[i]? = some b → f a = g b) → (l.map f).sum = (l'.map g).sum := by
  intro l
  induction l with
  | nil =>
    intro l' hl _
    cases l' with
    | nil => rfl
    | cons b r => simp at hl
  | cons a r ih =>
    intro l' hl h
    cases l' with
    | nil => simp at hl
    | cons b r' =>
      simp only [List.map_cons, List.sum_cons]
      rw [h 0 a b rfl rfl, ih r' (by simpa using hl) fun i a b h1 h2 => h (i + 1) a b (by simpa using h1) (by simpa using h2)]
theorem cells_same {w : World} {b p : Nat} {cs cs' : List Value} (hl : cs.length = cs'.length) (h : ∀ j u, cs[j]? = some u → w.cell? ⟨b, p + j, none⟩ = some u) (h' : ∀ j u, cs'[j]? = some u → w.cell? ⟨b, p + j, none⟩ = some u) : cs = cs' := by
  apply List.ext_getElem?
  intro j
  by_cases hj : j < cs.length
  · have h1 := h j cs[j] (by simp [hj])
    have h2 := h' j (cs'[j]'(by omega)) (by simp)
    rw [h1] at h2
    rw [List.getElem?_eq_getElem hj, List.getElem?_eq_getElem (by omega)]
    exact h2
  · rw [List.getElem?_eq_none (by omega), List.getElem?_eq_none (by omega)]
theorem reads_one {K : Nat → Prop} {w : World} : ∀ (h h' : Nat) (x x' : Tr) (cs : List Value), tyR K w h x cs → tyR K w h' x' cs → nz h x = nz h' x' ∧ ∀ out, vz h out x = vz h' out x' := by
  intro h
  induction h with
  | zero => intro h' x x' cs hr; exact hr.elim
  | succ h ih =>
    intro h' x x' cs hr hr'
    cases h' with
    | zero => exact hr'.elim
    | succ h' =>
      obtain ⟨-, -, -, o, c, e, -, -, r1⟩ := hr
      obtain ⟨-, -, -, o', c', e', -, -, r2⟩ := hr'
      rw [e] at e'
      simp only [List.cons.injEq, Value.int.injEq, Value.slice.injEq, true_and, and_true] at e'
      obtain ⟨ek, -, en, eo, el, -⟩ := e'
      have el' : x.l.length = x'.l.length := el
      have hx : ∀ (i : Nat) a b, x.l[i]? = some a → x'.l[i]? = some b → nz h a = nz h' b ∧ ∀ out, vz h out a = vz h' out b := by
        intro i a b h1 h2
        obtain ⟨g, p, e3, -, -, q1⟩ := r1 (List.ne_nil_of_mem (List.mem_of_getElem? h1))
        obtain ⟨g', p', e4, -, -, q2⟩ := r2 (List.ne_nil_of_mem (List.mem_of_getElem? h2))
        rw [← eo, e3] at e4
        simp only [Option.some.injEq, Addr.mk.injEq, and_true] at e4
        obtain ⟨rfl, rfl⟩ := e4
        obtain ⟨cs1, l1, m1, t1⟩ := q1 i a h1
        obtain ⟨cs2, l2, m2, t2⟩ := q2 i b h2
        obtain rfl := cells_same (l1.trans l2.symm) m1 m2
        exact ih h' a b cs1 t1 t2
      refine ⟨?_, fun out => ?_⟩
      · show 1 + _ = 1 + _
        rw [sum_same x.l x'.l el' fun i a b h1 h2 => (hx i a b h1 h2).1]
      · show x.l.foldl _ (ifNew x.k x.n out) = x'.l.foldl _ (ifNew x'.k x'.n out)
        rw [ek, en]
        exact fold_same x.l x'.l el' (fun i a b h1 h2 o => (hx i a b h1 h2).2 o) _
theorem T.one {K : Nat → Prop} {w : World} {e e' : Ent} (h : T K w e) (h' : T K w e') (ha : e.a = e'.a) : e = e' := by
  obtain ⟨-, -, -, h1, x, cs, l1, c1, r1, n1, f1⟩ := h
  obtain ⟨-, -, -, h2, x', cs', l2, c2, r2, n2, f2⟩ := h'
  rw [← ha] at c2
  obtain rfl := cells_same (l1.trans l2.symm) c1 c2
  obtain ⟨q1, q2⟩ := reads_one h1 h2 x x' cs r1 r2
  have hn : e.n = e'.n := by rw [n1, n2]; exact q1
  have hf : e.f = e'.f := by
    rw [f1, f2]
    funext out
    exact q2 out
  cases e
  cases e'
  simp only at ha hn hf
  rw [ha, hn, hf]
def V (e : Ent) (v : Int) : Prop := v ∈ e.f []
/-- What is told: what was, and its own numbers; nothing, if these are all there. -/
def Tells (f : List Int → List Int) : Prop := ∀ out, (∀ v, v ∈ f out ↔ v ∈ out ∨ v ∈ f []) ∧ ((∀ v, v ∈ f [] → v ∈ out) → f out = out)
theorem tells_fold {α : Type} {f : List Int → α → List Int} : ∀ (l : List α), (∀ a ∈ l, Tells fun out => f out a) → ∀ out, (∀ v, v ∈ l.foldl f out ↔ v ∈ out ∨ ∃ a ∈ l, v ∈ f [] a) ∧ ((∀ v, (∃ a ∈ l, v ∈ f [] a) → v ∈ out) → l.foldl f out = out) := by
  intro l
  induction l with
  | nil => intro _ out; exact ⟨fun v => by simp, fun _ => rfl⟩
  | cons a r ih =>
    intro h out
    have h1 := h a (by simp) out
    have h2 := ih (fun b hb => h b (by simp [hb])) (f out a)
    refine ⟨fun v => ?_, fun hv => ?_⟩
    · show v ∈ r.foldl f (f out a) ↔ _
      rw [h2.1 v, h1.1 v]
      simp only [List.mem_cons, exists_eq_or_imp]
      exact ⟨fun q => by rcases q with (q | q) | q
                         · exact .inl q
                         · exact .inr (.inl q)
                         · exact .inr (.inr q), fun q => by rcases q with q | q | q
                                                            · exact .inl (.inl q)
                                                            · exact .inl (.inr q)
                                                            · exact .inr q⟩
    · show r.foldl f (f out a) = out
      have e1 : f out a = out := h1.2 fun v hq => hv v ⟨a, by simp, hq⟩
      rw [e1]
      rw [e1] at h2
      exact h2.2 fun v ⟨b, hb, hq⟩ => hv v ⟨b, by simp [hb], hq⟩
theorem tells_vz : ∀ (h : Nat) (x : Tr), Tells fun out => vz h out x := by
  intro h
  induction h with
  | zero => intro x out; exact ⟨fun v => by simp [vz], fun _ => rfl⟩
  | succ h ih =>
    intro x out
    have key := fun o => tells_fold (f := vz h) x.l (fun a _ => ih a) (ifNew x.k x.n o)
    refine ⟨fun v => ?_, fun hv => ?_⟩
    · show v ∈ x.l.foldl (vz h) (ifNew x.k x.n out) ↔ v ∈ out ∨ v ∈ x.l.foldl (vz h) (ifNew x.k x.n [])
      rw [(key out).1 v, (key []).1 v, mem_ifNew, mem_ifNew]
      simp only [List.not_mem_nil, false_or, or_assoc]
    · show x.l.foldl (vz h) (ifNew x.k x.n out) = out
      have hv' : ∀ v, v ∈ x.l.foldl (vz h) (ifNew x.k x.n []) → v ∈ out := hv
      have e1 : ifNew x.k x.n out = out := by
        unfold ifNew
        split
        · rename_i hc
          exact absurd (hv' x.n (((key []).1 x.n).2 (.inl ((mem_ifNew _ _ _ _).2 (.inr ⟨hc.1, rfl⟩))))) hc.2
        · rfl
      have k2 := (key out).2
      rw [e1] at k2 ⊢
      exact k2 fun v hq => hv' v (((key []).1 v).2 (.inr hq))
theorem T.tells {K : Nat → Prop} {w : World} {e : Ent} (h : T K w e) : Tells e.f := by
  obtain ⟨-, -, -, h1, x, cs, -, -, -, -, f1⟩ := h
  rw [f1]
  exact tells_vz h1 x
def runE (l : List Ent) (out : List Int) : List Int := l.foldl (fun o d => d.f o) out
def entOf (b off h i : Nat) (t : Tr) : Ent := ⟨⟨b, off + i * 4, none⟩, nz h t, fun out => vz h out t⟩
def entsOf (b off h : Nat) : Nat → List Tr → List Ent
  | _, [] => []
  | i, t :: r => entOf b off h i t :: entsOf b off h (i + 1) r
theorem entsOf_len (b off h : Nat) : ∀ (l : List Tr) (i : Nat), (entsOf b off h i l).length = l.length
  | [], _ => rfl
  | t :: r, i => by
    show (entsOf b off h (i + 1) r).length + 1 = r.length + 1
    rw [entsOf_len b off h r (i + 1)]
theorem entsOf_at (b off h : Nat) : ∀ (l : List Tr) (i j : Nat), (entsOf b off h i l)[j]? = l[j]?.map (entOf b off h (i + j))
  | [], _, _ => rfl
  | t :: r, i, 0 => rfl
  | t :: r, i, j + 1 => by
    show (entsOf b off h (i + 1) r)[j]? = r[j]?.map _
    rw [entsOf_at b off h r (i + 1) j, show i + 1 + j = i + (j + 1) from by omega]
theorem entsOf_sum (b off h : Nat) : ∀ (l : List Tr) (i : Nat), ((entsOf b off h i l).map Ent.n).sum = (l.map (nz h)).sum
  | [], _ => rfl
  | t :: r, i => by
    show nz h t + ((entsOf b off h (i + 1) r).map Ent.n).sum = nz h t + (r.map (nz h)).sum
    rw [entsOf_sum b off h r (i + 1)]
theorem entsOf_run (b off h : Nat) : ∀ (l : List Tr) (i : Nat) (out : List Int), runE (entsOf b off h i l) out = l.foldl (vz h) out
  | [], _, _ => rfl
  | t :: r, i, out => entsOf_run b off h r (i + 1) (vz h out t)
/-- A place's own cells, and its parts. -/
theorem T.parts {K : Nat → Prop} {w : World} (hK : ∀ b, K b → ∃ c e, w.heap[b]? = some (.cells c e (0, 0))) {e : Ent} (h : T K w e) : ∃ k s n o len c es, CellsT w e.a [.int .i64 k, .string s, .int .i64 n, .slice o len c] ∧ len ≤ maxLen ∧ es.length = len ∧ e.n = 1 + (es.map Ent.n).sum ∧ (∀ out, e.f out = runE es (ifNew k n out)) ∧ (∀ d ∈ es, T K w d) ∧ (len = 0 ∨ ∃ b off, o = some ⟨b, off, none⟩ ∧ K b ∧ b < w.heap.size ∧ ∀ (j : Nat) d, es[j]? = some d → d.a = ⟨b, off + j * 4, none⟩) := by
  obtain ⟨-, -, -, h1, x, cs, l1, c1, r1, n1, f1⟩ := h
  cases h1 with
  | zero => exact r1.elim
  | succ h =>
    obtain ⟨-, -, -, o, c, ec, -, hf, r⟩ := r1
    rw [ec] at c1
    by_cases hx : x.l = []
    · refine ⟨_, _, _, _, _, _, [], c1, hf.1, by rw [hx]; rfl, by rw [n1]; show 1 + _ = _; rw [hx]; rfl, fun out => by rw [f1]; show x.l.foldl _ _ = _; rw [hx]; rfl, fun d hd => by simp at hd, .inl (by rw [hx]; rfl)⟩
    · obtain ⟨b, off, rfl, hKb, hb, hq⟩ := r hx
      refine ⟨_, _, _, _, _, _, entsOf b off h 0 x.l, c1, hf.1, entsOf_len _ _ _ _ _, by rw [n1, entsOf_sum]; rfl, fun out => by rw [f1, entsOf_run]; rfl, fun d hd => ?_, .inr ⟨b, off, rfl, hKb, hb, fun j d hd => ?_⟩⟩
      · obtain ⟨j, hj⟩ := List.mem_iff_getElem?.1 hd
        rw [entsOf_at] at hj
        cases ht : x.l[j]? with
        | none => rw [ht] at hj; cases hj
        | some t =>
          rw [ht] at hj
          cases hj
          obtain ⟨cs', l2, m2, t2⟩ := hq j t ht
          refine ⟨rfl, hb, ?_, h, t, cs', l2, ?_, t2, rfl, rfl⟩
          · obtain ⟨c9, e9, h9⟩ := hK b hKb
            exact ⟨c9, e9, h9⟩
          · intro i u hi
            have h8 := m2 i u hi
            show w.cell? ⟨b, off + (0 + j) * 4 + i, none⟩ = some u
            rw [Nat.zero_add]
            exact h8
      · rw [entsOf_at] at hd
        cases ht : x.l[j]? with
        | none => rw [ht] at hd; cases hd
        | some t =>
          rw [ht] at hd
          cases hd
          show (⟨b, off + (0 + j) * 4, none⟩ : Addr) = _
          rw [Nat.zero_add]
theorem le_sum : ∀ (l : List Ent) (c : Ent), c ∈ l → c.n ≤ (l.map Ent.n).sum
  | a :: r, c, h => by
    simp only [List.map_cons, List.sum_cons]
    rcases List.mem_cons.1 h with rfl | h
    · omega
    · have := le_sum r c h
      omega
theorem run_append (l l' : List Ent) (out : List Int) : runE (l ++ l') out = runE l' (runE l out) := List.foldl_append
theorem V_parts {K : Nat → Prop} {w : World} {e : Ent} {k n : Int} {es : List Ent} (h : ∀ out, e.f out = runE es (ifNew k n out)) (ht : ∀ d ∈ es, T K w d) (v : Int) : V e v ↔ (k = 5 ∧ v = n) ∨ ∃ d ∈ es, V d v := by
  unfold V
  rw [h []]
  have := (tells_fold (f := fun o (d : Ent) => d.f o) es (fun d hd => (ht d hd).tells) (ifNew k n [])).1 v
  show v ∈ es.foldl (fun o d => d.f o) (ifNew k n []) ↔ _
  rw [this, mem_ifNew]
  simp
/-- What was seen is told, or is still being told by what lies above. -/
def Seen (K : Nat → Prop) (w : World) (nums : List Int) (S : List Ent) (ks : List Addr) : Prop :=
  ∀ q ∈ ks, ∃ e, T K w e ∧ e.a = q ∧ ((∀ v, V e v → v ∈ nums) ∨ ∃ i, i < S.length ∧ (∀ v, V e v → v ∈ nums ∨ ∃ (j : Nat) (d : Ent), i ≤ j ∧ S[j]? = some d ∧ V d v) ∧ ∀ (j : Nat) (d : Ent), i ≤ j → S[j]? = some d → d.n < e.n)
theorem seen_nil (K : Nat → Prop) (w : World) (nums : List Int) (S : List Ent) : Seen K w nums S [] := fun q hq => by simp at hq
theorem seen_again {K : Nat → Prop} {w : World} {nums : List Int} {S : List Ent} {d : Ent} {ks : List Addr} (h : Seen K w nums (S ++ [d]) ks) (hd : T K w d) (hk : d.a ∈ ks) : runE (S ++ [d]).reverse nums = runE S.reverse nums ∧ Seen K w nums S ks := by
  have hl : (S ++ [d])[S.length]? = some d := by simp
  have hV : ∀ v, V d v → v ∈ nums := by
    obtain ⟨e, h1, h2, h3⟩ := h d.a hk
    obtain rfl := h1.one hd h2
    rcases h3 with h3 | ⟨i, hi, -, h4⟩
    · exact h3
    · have hi' : i ≤ S.length := by simp at hi; omega
      have := h4 S.length e hi' hl
      omega
  refine ⟨?_, fun q hq => ?_⟩
  · rw [List.reverse_append, List.reverse_singleton, List.singleton_append]
    show runE S.reverse (d.f nums) = _
    rw [(hd.tells nums).2 hV]
  · obtain ⟨e, h1, h2, h3⟩ := h q hq
    refine ⟨e, h1, h2, ?_⟩
    rcases h3 with h3 | ⟨i, hi, h4, h5⟩
    · exact .inl h3
    · by_cases hc : i < S.length
      · refine .inr ⟨i, hc, fun v hv => ?_, fun j c hj hc' => h5 j c hj ?_⟩
        · rcases h4 v hv with h6 | ⟨j, c, hj, hc', hv'⟩
          · exact .inl h6
          · by_cases hjs : j < S.length
            · exact .inr ⟨j, c, hj, by rwa [List.getElem?_append_left hjs] at hc', hv'⟩
            · have hj2 : j = S.length := by
                have := (List.getElem?_eq_some_iff.1 hc').1
                simp at this
                omega
              rw [hj2, hl] at hc'
              cases hc'
              exact .inl (hV v hv')
        · rw [List.getElem?_append_left (List.getElem?_eq_some_iff.1 hc').1]
          exact hc'
      · refine .inl fun v hv => ?_
        rcases h4 v hv with h6 | ⟨j, c, hj, hc', hv'⟩
        · exact h6
        · have hj2 : j = S.length := by
            have := (List.getElem?_eq_some_iff.1 hc').1
            simp at this
            omega
          rw [hj2, hl] at hc'
          cases hc'
          exact hV v hv'
theorem seen_new {K : Nat → Prop} {w : World} {nums : List Int} {S es : List Ent} {d : Ent} {ks : List Addr} {k n : Int} (h : Seen K w nums (S ++ [d]) ks) (hd : T K w d) (he : ∀ out, d.f out = runE es (ifNew k n out)) (ht : ∀ c ∈ es, T K w c) (hn : d.n = 1 + (es.map Ent.n).sum) :
    runE (S ++ [d]).reverse nums = runE (S ++ es.reverse).reverse (ifNew k n nums) ∧ Seen K w (ifNew k n nums) (S ++ es.reverse) (addK ks d.a) := by
  have hl : (S ++ [d])[S.length]? = some d := by simp
  have hsmall : ∀ c ∈ es, c.n < d.n := by
    intro c hc
    have : c.n ≤ (es.map Ent.n).sum := le_sum es c hc
    omega
  have hvd := V_parts he ht
  -- what d tells is told, or is told by its parts
  have hdv : ∀ v, V d v → v ∈ ifNew k n nums ∨ ∃ (j : Nat) (c : Ent), S.length ≤ j ∧ (S ++ es.reverse)[j]? = some c ∧ V c v := by
    intro v hv
    rcases (hvd v).1 hv with h1 | ⟨c, hc, hcv⟩
    · exact .inl ((mem_ifNew _ _ _ _).2 (.inr h1))
    · obtain ⟨j, hj⟩ := List.mem_iff_getElem?.1 (List.mem_reverse.2 hc)
      exact .inr ⟨S.length + j, c, by omega, by rw [List.getElem?_append_right (by omega)]; simpa using hj, hcv⟩
  refine ⟨?_, fun q hq => ?_⟩
  · rw [List.reverse_append, List.reverse_singleton, List.singleton_append, List.reverse_append, List.reverse_reverse, run_append]
    show runE S.reverse (d.f nums) = _
    rw [he nums]
  · have hq' : q ∈ ks ∨ q = d.a := (mem_addK ks d.a q).1 hq
    by_cases hqd : q = d.a
    · refine ⟨d, hd, hqd.symm, ?_⟩
      by_cases hes : es = []
      · refine .inl fun v hv => ?_
        rcases hdv v hv with h1 | ⟨j, c, hj, hc, -⟩
        · exact h1
        · subst hes
          simp at hc
          have := (List.getElem?_eq_some_iff.1 hc).1
          omega
      · refine .inr ⟨S.length, ?_, hdv, fun j c hj hc => ?_⟩
        · rw [List.length_append, List.length_reverse]
          have := List.length_pos_iff.2 hes
          omega
        · rw [List.getElem?_append_right hj] at hc
          exact hsmall c (List.mem_reverse.1 (List.mem_of_getElem? hc))
    · obtain ⟨e, h1, h2, h3⟩ := h q (hq'.resolve_right hqd)
      refine ⟨e, h1, h2, ?_⟩
      rcases h3 with h3 | ⟨i, hi, h4, h5⟩
      · exact .inl fun v hv => (mem_ifNew _ _ _ _).2 (.inl (h3 v hv))
      · have hi' : i ≤ S.length := by simp at hi; omega
        have hde : d.n < e.n := h5 S.length d hi' hl
        have hve : ∀ v, V e v → v ∈ ifNew k n nums ∨ ∃ (j : Nat) (c : Ent), i ≤ j ∧ (S ++ es.reverse)[j]? = some c ∧ V c v := by
          intro v hv
          rcases h4 v hv with h6 | ⟨j, c, hj, hc', hv'⟩
          · exact .inl ((mem_ifNew _ _ _ _).2 (.inl h6))
          · by_cases hjs : j < S.length
            · exact .inr ⟨j, c, hj, by rw [List.getElem?_append_left hjs] at hc' ⊢; exact hc', hv'⟩
            · have hj2 : j = S.length := by
                have := (List.getElem?_eq_some_iff.1 hc').1
                simp at this
                omega
              rw [hj2, hl] at hc'
              cases hc'
              rcases hdv v hv' with h7 | ⟨j', c', hj', hc2, hv2⟩
              · exact .inl h7
              · exact .inr ⟨j', c', by omega, hc2, hv2⟩
        by_cases hlen : i < (S ++ es.reverse).length
        · refine .inr ⟨i, hlen, hve, fun j c hj hc' => ?_⟩
          by_cases hjs : j < S.length
          · exact h5 j c hj (by rw [List.getElem?_append_left hjs] at hc' ⊢; exact hc')
          · rw [List.getElem?_append_right (by omega)] at hc'
            have := hsmall c (List.mem_reverse.1 (List.mem_of_getElem? hc'))
            omega
        · refine .inl fun v hv => ?_
          rcases hve v hv with h6 | ⟨j, c, hj, hc', -⟩
          · exact h6
          · have := (List.getElem?_eq_some_iff.1 hc').1
            omega
end Go.Proofs.Ytncgbdbkoeiffam.Vo
