/- Signs come back of their own text: plain. -/
import Derived.Test.YtndlhdeipicbpaaX
namespace Go.Proofs.Ytndlhdeipicbpaa

/-- What may stand behind a sign of a joined text. -/
def Stop (r : List UInt8) : Prop := r = [] ∨ ∃ q, r = 32 :: q
theorem takeWhile_stop (p : UInt8 → Bool) (hp : p 32 = false) (s r : List UInt8) (hs : s.all p = true) (hr : Stop r) : (s ++ r).takeWhile p = s := by
  induction s with
  | nil =>
    rcases hr with rfl | ⟨q, rfl⟩
    · rfl
    · simp [hp]
  | cons c s ih =>
    rw [List.all_cons, Bool.and_eq_true] at hs
    rw [List.cons_append, List.takeWhile_cons, if_pos hs.1, ih hs.2]
theorem headD_app (s r : List UInt8) (h : s ≠ []) : (s ++ r).headD 0 = s.headD 0 := by
  cases s with
  | nil => exact absurd rfl h
  | cons c s => rfl
theorem head_takeWhile (p : UInt8 → Bool) (l : List UInt8) (h : p (l.headD 0) = true) (h0 : 0 < l.length) : l.takeWhile p ≠ [] ∧ (l.takeWhile p).headD 0 = l.headD 0 := by
  cases l with
  | nil => simp at h0
  | cons c r =>
    have h' : p c = true := h
    rw [List.takeWhile_cons, if_pos h']
    exact ⟨by simp, rfl⟩
theorem dash_not (s r : List UInt8) (h : s.headD 0 ≠ 45) (hs : s ≠ []) : dashB (s ++ r) = false := by
  cases s with
  | nil => exact absurd rfl hs
  | cons c s =>
    have hc : c ≠ 45 := h
    unfold dashB
    rw [List.cons_append, List.take_succ_cons]
    simp [hc]
/-- A sign as Lex gives one. -/
structure Good (k : Nat) (s : List UInt8) : Prop where
  ne : s ≠ []
  k0 : k ≠ 0
  k6 : k ≠ 6
  nl : ∀ c ∈ s, c ≠ 10
  h32 : s.headD 0 ≠ 32
  key : ∀ r, Stop r → nextK (s ++ r) = k ∧ nextLen (s ++ r) = s.length ∧ dashB (s ++ r) = false
theorem kindD_6 (l : List UInt8) : kindD l ≠ 6 := by unfold kindD; split <;> decide
theorem kindL_6 (l : List UInt8) : kindL l ≠ 6 := by
  unfold kindL
  split
  · decide
  · split
    · decide
    · split <;> decide
theorem good_next (l : List UInt8) (h0 : 0 < l.length) (hk : nextK l ≠ 0) : Good (nextK l) (l.take (nextLen l)) := by
  obtain ⟨hle, hby⟩ := next_bytes l h0 hk
  have hpos := nextLen_pos l h0
  have hnl : ∀ c ∈ l.take (nextLen l), c ≠ 10 := by
    intro c hc
    obtain ⟨i, hi, rfl⟩ := List.getElem_of_mem hc
    rw [List.length_take] at hi
    have h2 := (hby i (by omega)).2
    rw [List.getElem_take]
    rw [List.getD_eq_getElem?_getD, List.getElem?_eq_getElem (by omega)] at h2
    exact h2
  by_cases hd : digB (l.headD 0) = true
  · have hn := nextK_dig l hd
    obtain ⟨h1, h2⟩ := head_takeWhile digB l hd h0
    have hs : l.take (nextLen l) = l.takeWhile digB := by rw [hn.2, take_takeWhile]
    rw [hs] at hnl ⊢
    rw [hn.1] at hk ⊢
    refine ⟨h1, hk, kindD_6 _, hnl, ?_, fun r hr => ?_⟩
    · rw [h2]; intro e; rw [e] at hd; exact absurd hd (by decide)
    · have ht := takeWhile_stop digB (by decide) (l.takeWhile digB) r (takeWhile_all _ _) hr
      have hd2 : digB ((l.takeWhile digB ++ r).headD 0) = true := by rw [headD_app _ _ h1, h2]; exact hd
      have hn2 := nextK_dig _ hd2
      rw [hn2.1, hn2.2, ht]
      refine ⟨rfl, rfl, dash_not _ _ ?_ h1⟩
      rw [h2]; intro e; rw [e] at hd; exact absurd hd (by decide)
  · rw [Bool.not_eq_true] at hd
    by_cases ha : abcB (l.headD 0) = true
    · have hn := nextK_abc l ha
      obtain ⟨h1, h2⟩ := head_takeWhile lodB l (lod_of_abc _ ha) h0
      have hs : l.take (nextLen l) = l.takeWhile lodB := by rw [hn.2, take_takeWhile]
      rw [hs] at hnl ⊢
      rw [hn.1] at hk ⊢
      refine ⟨h1, hk, kindL_6 _, hnl, ?_, fun r hr => ?_⟩
      · rw [h2]; intro e; rw [e] at ha; exact absurd ha (by decide)
      · have ht := takeWhile_stop lodB (by decide) (l.takeWhile lodB) r (takeWhile_all _ _) hr
        have ha2 : abcB ((l.takeWhile lodB ++ r).headD 0) = true := by rw [headD_app _ _ h1, h2]; exact ha
        have hn2 := nextK_abc _ ha2
        rw [hn2.1, hn2.2, ht]
        refine ⟨rfl, rfl, dash_not _ _ ?_ h1⟩
        rw [h2]; intro e; rw [e] at ha; exact absurd ha (by decide)
    · rw [Bool.not_eq_true] at ha
      by_cases ht : twoB l = true
      · have hn := nextK_two l ha hd ht
        rw [hn.1, hn.2]
        rw [hn.2] at hnl
        have hxy : l.take 2 = [45, 62] ∨ l.take 2 = [61, 61] := by simpa [twoB] using ht
        rcases hxy with e | e
        · rw [e] at hnl ⊢
          refine ⟨by simp, by decide, by decide, hnl, by decide, fun r hr => ?_⟩
          have h2 := nextK_two (45 :: 62 :: r) rfl rfl rfl
          exact ⟨h2.1, h2.2, rfl⟩
        · rw [e] at hnl ⊢
          refine ⟨by simp, by decide, by decide, hnl, by decide, fun r hr => ?_⟩
          have h2 := nextK_two (61 :: 61 :: r) rfl rfl rfl
          exact ⟨h2.1, h2.2, rfl⟩
      · rw [Bool.not_eq_true] at ht
        by_cases hm : markB (l.headD 0) = true
        · have hn := nextK_one l ha hd ht hm
          rw [hn.1, hn.2]
          rw [hn.2] at hnl
          cases l with
          | nil => simp at h0
          | cons c q =>
            have hm' : markB c = true := hm
            have ha' : abcB c = false := ha
            have hd' : digB c = false := hd
            have hc32 : c ≠ 32 := by intro e; rw [e] at hm'; exact absurd hm' (by decide)
            refine ⟨by simp, by decide, by decide, hnl, hc32, fun r hr => ?_⟩
            have htw : twoB (c :: r) = false ∧ dashB (c :: r) = false := by
              rcases hr with rfl | ⟨q, rfl⟩
              · exact ⟨by simp [twoB], by simp [dashB]⟩
              · exact ⟨by simp [twoB], by simp [dashB]⟩
            have h2 := nextK_one (c :: r) ha' hd' htw.1 hm'
            exact ⟨h2.1, h2.2, htw.2⟩
        · rw [Bool.not_eq_true] at hm
          exact absurd (nextK_none l ha hd ht hm) hk

/-- The places where the Toks of a text begin. -/
theorem lexF_places (L : List UInt8) : ∀ f a ts, lexF L f a = some ts → ∃ ps : List Nat, ts = ps.map (tokAt L) ∧ ps.Pairwise (· < ·) ∧ ∀ x ∈ ps, a ≤ x ∧ x < L.length ∧ nextK (L.drop x) ≠ 0 := by
  intro f
  induction f with
  | zero => intro a ts h; rw [lexF] at h; cases h; exact ⟨[], rfl, List.Pairwise.nil, fun x hx => by simp at hx⟩
  | succ f ih =>
    intro a ts h
    rw [lexF] at h
    by_cases ha : a < L.length
    · rw [if_pos ha] at h
      by_cases hb : L[a]? = some 10 ∨ L[a]? = some 32
      · rw [if_pos hb] at h
        obtain ⟨ps, h1, h2, h3⟩ := ih _ _ h
        exact ⟨ps, h1, h2, fun x hx => ⟨by have := (h3 x hx).1; omega, (h3 x hx).2⟩⟩
      · rw [if_neg hb] at h
        by_cases hd : dashB (L.drop a) = true
        · rw [if_pos hd] at h
          obtain ⟨ps, h1, h2, h3⟩ := ih _ _ h
          exact ⟨ps, h1, h2, fun x hx => ⟨by have := (h3 x hx).1; omega, (h3 x hx).2⟩⟩
        · rw [if_neg hd] at h
          by_cases hk : nextK (L.drop a) = 0
          · rw [if_pos hk] at h; cases h
          · rw [if_neg hk] at h
            cases hx : lexF L f (a + nextLen (L.drop a)) with
            | none => rw [hx] at h; cases h
            | some us =>
              rw [hx] at h
              obtain ⟨ps, h1, h2, h3⟩ := ih _ _ hx
              have hpos := nextLen_pos (L.drop a) (drop_pos L a ha)
              refine ⟨a :: ps, ?_, ?_, ?_⟩
              · rw [List.map_cons, ← h1]; exact (Option.some.inj h).symm
              · exact List.Pairwise.cons (fun x hx => by have := (h3 x hx).1; omega) h2
              · intro x hx
                rcases List.mem_cons.1 hx with rfl | hx
                · exact ⟨Nat.le_refl _, ha, hk⟩
                · exact ⟨by have := (h3 x hx).1; omega, (h3 x hx).2⟩
    · rw [if_neg ha] at h; cases h; exact ⟨[], rfl, List.Pairwise.nil, fun x hx => by simp at hx⟩
theorem line_mono (L : List UInt8) (x : Nat) : ∀ d, lineAt L x ≤ lineAt L (x + d) ∧ (lineAt L x = lineAt L (x + d) → begAt L (x + d) = begAt L x) := by
  intro d
  induction d with
  | zero => exact ⟨Nat.le_refl _, fun _ => rfl⟩
  | succ d ih =>
    have e1 : lineAt L (x + (d + 1)) = if L[x + d]? = some 10 then lineAt L (x + d) + 1 else lineAt L (x + d) := rfl
    have e2 : begAt L (x + (d + 1)) = if L[x + d]? = some 10 then x + d + 1 else begAt L (x + d) := rfl
    by_cases h : L[x + d]? = some 10
    · rw [e1, e2, if_pos h, if_pos h]
      exact ⟨by omega, fun he => by omega⟩
    · rw [e1, e2, if_neg h, if_neg h]
      exact ih
/-- The joined text. -/
def joinL : List TokP → List UInt8
  | [] => []
  | t :: r => match r with
    | [] => t.s
    | u :: q => t.s ++ 32 :: joinL (u :: q)
theorem jAll_fold (ts : List TokP) (h : ∀ t ∈ ts, t.k ≠ 6) : ∀ acc : List UInt8, ts.foldl jt (acc, true) = (acc ++ (match ts with | [] => [] | _ :: _ => 32 :: joinL ts), true) := by
  induction ts with
  | nil => intro acc; simp
  | cons t r ih =>
    intro acc
    rw [List.foldl_cons]
    have hk := h t (by simp)
    rw [jt, if_neg hk]
    show r.foldl jt (acc ++ [32] ++ t.s, true) = _
    rw [ih (fun x hx => h x (by simp [hx]))]
    cases r with
    | nil => simp [joinL]
    | cons u q => simp [joinL]
theorem jAll_join (ts : List TokP) (h : ∀ t ∈ ts, t.k ≠ 6) (e : TokP) (he : e.k = 6) : (jAll (ts ++ [e])).1 = joinL ts := by
  rw [jAll_snoc, jt, if_pos he]
  unfold jAll
  cases ts with
  | nil => rfl
  | cons t r =>
    rw [List.foldl_cons, jt, if_neg (h t (by simp))]
    show (r.foldl jt ([] ++ [] ++ t.s, true)).1 = _
    rw [jAll_fold r (fun x hx => h x (by simp [hx]))]
    cases r with
    | nil => simp [joinL]
    | cons u q => simp [joinL]
theorem joinL_nl (ts : List TokP) (h : ∀ t ∈ ts, Good t.k t.s) : ∀ c ∈ joinL ts, c ≠ 10 := by
  induction ts with
  | nil => intro c hc; simp [joinL] at hc
  | cons t r ih =>
    intro c hc
    have ht := (h t (by simp)).nl
    cases r with
    | nil => exact ht c (by simpa [joinL] using hc)
    | cons u q =>
      have hc' : c ∈ t.s ++ 32 :: joinL (u :: q) := by simpa [joinL] using hc
      rcases List.mem_append.1 hc' with h1 | h1
      · exact ht c h1
      · rcases List.mem_cons.1 h1 with rfl | h1
        · decide
        · exact ih (fun x hx => h x (by simp [hx])) c h1
theorem line_flat (T : List UInt8) (h : ∀ c ∈ T, c ≠ 10) (p : Nat) : lineAt T p = 1 := by
  have := flat_stretch T 0 p fun i _ hi => by
    intro e
    obtain ⟨hlt, he⟩ := List.getElem?_eq_some_iff.1 e
    exact h _ (List.getElem_mem hlt) he
  rw [Nat.zero_add] at this
  exact this.1
def sameKS (a b : TokP) : Prop := a.k = b.k ∧ a.s = b.s
theorem lex_join (ts : List TokP) : ∀ (P : List UInt8), (∀ t ∈ ts, Good t.k t.s) → (∀ c ∈ P ++ joinL ts, c ≠ 10) → ∃ us, lexAt (P ++ joinL ts) P.length = some us ∧ us.length = ts.length ∧ ∀ (i : Nat) (a b : TokP), ts[i]? = some a → us[i]? = some b → b.k = a.k ∧ b.s = a.s ∧ b.line = 1 := by
  induction ts with
  | nil =>
    intro P _ _
    refine ⟨[], ?_, rfl, fun i a b h _ => by simp at h⟩
    exact lexAt_end _ _ (by simp [joinL])
  | cons t r ih =>
    intro P hg hnl
    have ht := hg t (by simp)
    have hcase : ∃ q, joinL (t :: r) = t.s ++ q ∧ Stop q ∧ ((r = [] ∧ q = []) ∨ (r ≠ [] ∧ q = 32 :: joinL r)) := by
      cases r with
      | nil => exact ⟨[], by simp [joinL], Or.inl rfl, Or.inl ⟨rfl, rfl⟩⟩
      | cons u v => exact ⟨32 :: joinL (u :: v), by simp [joinL], Or.inr ⟨_, rfl⟩, Or.inr ⟨by simp, rfl⟩⟩
    obtain ⟨q, hq, hstop, hqr⟩ := hcase
    obtain ⟨hK, hN, hD⟩ := ht.key q hstop
    rw [hq] at hnl ⊢
    have hdrop : (P ++ (t.s ++ q)).drop P.length = t.s ++ q := by simp
    have hpos : 0 < t.s.length := List.length_pos_iff.2 ht.ne
    have hlt : P.length < (P ++ (t.s ++ q)).length := by rw [List.length_append, List.length_append]; omega
    have hget : (P ++ (t.s ++ q)).getD P.length 0 = t.s.headD 0 := by
      have h := getD_drop (P ++ (t.s ++ q)) P.length 0
      rw [Nat.add_zero] at h
      rw [← h, hdrop, getD_head, headD_app _ _ ht.ne]
    have h10 : t.s.headD 0 ≠ 10 := by
      have h := ht.nl
      cases hs : t.s with
      | nil => exact absurd hs ht.ne
      | cons c s =>
        rw [hs] at h
        exact h c (by simp)
    have hlex : lexAt (P ++ (t.s ++ q)) P.length = (lexAt (P ++ (t.s ++ q)) (P.length + t.s.length)).map (tokAt (P ++ (t.s ++ q)) P.length :: ·) := by
      rw [lexAt_eq _ _ hlt, if_neg (not_blank hlt (by rw [hget]; exact h10) (by rw [hget]; exact ht.h32)), hdrop, hD, if_neg (by decide), hK, if_neg ht.k0, hN]
    have htok : (tokAt (P ++ (t.s ++ q)) P.length).k = t.k ∧ (tokAt (P ++ (t.s ++ q)) P.length).s = t.s ∧ (tokAt (P ++ (t.s ++ q)) P.length).line = 1 := by
      refine ⟨?_, ?_, line_flat _ hnl _⟩
      · show nextK ((P ++ (t.s ++ q)).drop P.length) = t.k
        rw [hdrop, hK]
      · show ((P ++ (t.s ++ q)).drop P.length).take (nextLen ((P ++ (t.s ++ q)).drop P.length)) = t.s
        rw [hdrop, hN]
        simp
    rcases hqr with ⟨hr, hq0⟩ | ⟨hr, hq0⟩
    · subst hr hq0
      refine ⟨[tokAt (P ++ (t.s ++ [])) P.length], ?_, rfl, ?_⟩
      · rw [hlex, lexAt_end _ _ (by rw [List.length_append, List.length_append]; simp)]; rfl
      · intro i a b h1 h2
        cases i with
        | zero =>
          have e1 : t = a := by simpa using h1
          have e2 : tokAt (P ++ (t.s ++ [])) P.length = b := by simpa using h2
          rw [← e1, ← e2]; exact htok
        | succ i => simp at h1
    · subst hq0
      have hT : P ++ (t.s ++ 32 :: joinL r) = (P ++ t.s ++ [32]) ++ joinL r := by simp
      obtain ⟨us, hu1, hu2, hu3⟩ := ih (P ++ t.s ++ [32]) (fun x hx => hg x (by simp [hx])) (by rw [← hT]; exact hnl)
      rw [← hT] at hu1
      have hlen2 : (P ++ t.s ++ [32]).length = P.length + t.s.length + 1 := by simp; omega
      rw [hlen2] at hu1
      have hlt2 : P.length + t.s.length < (P ++ (t.s ++ 32 :: joinL r)).length := by rw [List.length_append, List.length_append, List.length_cons]; omega
      have h32 : (P ++ (t.s ++ 32 :: joinL r))[P.length + t.s.length]? = some 32 := by
        rw [List.getElem?_append_right (by omega), Nat.add_sub_cancel_left, List.getElem?_append_right (Nat.le_refl _), Nat.sub_self]
        rfl
      refine ⟨tokAt (P ++ (t.s ++ 32 :: joinL r)) P.length :: us, ?_, by rw [List.length_cons, List.length_cons, hu2], ?_⟩
      · rw [hlex, lexAt_eq _ _ hlt2, if_pos (Or.inr h32), hu1]; rfl
      · intro i a b h1 h2
        cases i with
        | zero =>
          have e1 : t = a := by simpa using h1
          have e2 : tokAt (P ++ (t.s ++ 32 :: joinL r)) P.length = b := by simpa using h2
          rw [← e1, ← e2]; exact htok
        | succ i => exact hu3 i a b (by simpa using h1) (by simpa using h2)

theorem lexOk_inv (L : List UInt8) (h : lexOk L = true) : L.length ≤ 1500 ∧ ∃ ts, lexAt L 0 = some ts ∧ ts.length < 400 ∧ lexTs L = ts ++ [⟨6, [], lineAt L L.length, L.length - begAt L L.length + 1⟩] := by
  unfold lexOk at h
  unfold lexTs
  unfold lexR at h ⊢
  by_cases hl : L.length ≤ 1500
  · rw [if_pos hl] at h ⊢
    refine ⟨hl, ?_⟩
    cases hx : lexAt L 0 with
    | none => rw [hx] at h; cases h
    | some ts =>
      rw [hx] at h
      by_cases hn : ts.length < 400
      · refine ⟨ts, rfl, hn, ?_⟩
        show (if ts.length < 400 then _ else none).getD [] = _
        rw [if_pos hn]
        rfl
      · have : (if ts.length < 400 then some (ts ++ [(⟨6, [], lineAt L L.length, L.length - begAt L L.length + 1⟩ : TokP)]) else none).isSome = true := h
        rw [if_neg hn] at this
        cases this
  · rw [if_neg hl] at h; cases h
theorem lexTs_bad (L : List UInt8) (h : lexOk L = false) : lexTs L = [] := by
  unfold lexOk at h
  unfold lexTs
  cases hx : lexR L with
  | none => rfl
  | some x => rw [hx] at h; cases h
/-- The lines and columns go on. -/
def Onward (a b : TokP) : Prop := a.line ≤ b.line ∧ (a.line = b.line → a.col ≤ b.col)
theorem onward (L : List UInt8) (x y : Nat) (h : x ≤ y) (a b : TokP) (ha : a.line = lineAt L x ∧ a.col = x - begAt L x + 1) (hb : b.line = lineAt L y ∧ b.col = y - begAt L y + 1) : Onward a b := by
  have hm := line_mono L x (y - x)
  rw [show x + (y - x) = y by omega] at hm
  refine ⟨by rw [ha.1, hb.1]; exact hm.1, fun he => ?_⟩
  rw [ha.1, hb.1] at he
  rw [ha.2, hb.2, hm.2 he]
  omega
theorem places_onward (L : List UInt8) (ps : List Nat) (hp : ps.Pairwise (· < ·)) (hl : ∀ x ∈ ps, x < L.length) (i : Nat) (a b : TokP) (ha : (ps.map (tokAt L) ++ [⟨6, [], lineAt L L.length, L.length - begAt L L.length + 1⟩])[i]? = some a) (hb : (ps.map (tokAt L) ++ [⟨6, [], lineAt L L.length, L.length - begAt L L.length + 1⟩])[i + 1]? = some b) : Onward a b := by
  have hlen : (ps.map (tokAt L)).length = ps.length := List.length_map _
  by_cases h1 : i + 1 < ps.length
  · rw [List.getElem?_append_left (by omega), List.getElem?_map, List.getElem?_eq_getElem (by omega)] at ha
    rw [List.getElem?_append_left (by omega), List.getElem?_map, List.getElem?_eq_getElem (by omega)] at hb
    have ea := Option.some.inj ha
    have eb := Option.some.inj hb
    have hlt := List.pairwise_iff_getElem.1 hp i (i + 1) (by omega) h1 (by omega)
    refine onward L ps[i] ps[i + 1] (Nat.le_of_lt hlt) a b ?_ ?_
    · rw [← ea]; exact ⟨rfl, rfl⟩
    · rw [← eb]; exact ⟨rfl, rfl⟩
  · have hi : i + 1 = ps.length := by
      have := (List.getElem?_eq_some_iff.1 hb).1
      rw [List.length_append, hlen, List.length_singleton] at this
      omega
    rw [List.getElem?_append_left (by omega), List.getElem?_map, List.getElem?_eq_getElem (by omega)] at ha
    rw [List.getElem?_append_right (by omega), hlen, hi, Nat.sub_self] at hb
    have ea := Option.some.inj ha
    have eb := Option.some.inj hb
    refine onward L ps[i] L.length (Nat.le_of_lt (hl _ (List.getElem_mem _))) a b ?_ ?_
    · rw [← ea]; exact ⟨rfl, rfl⟩
    · rw [← eb]; exact ⟨rfl, rfl⟩
/-- All that the law on Lex asks of what was read. -/
structure Back (ts us : List TokP) (T : List UInt8) : Prop where
  long : 1500 < T.length → lexOk T = false
  ok : T.length ≤ 1500 → lexOk T = true ∧ us.length = ts.length ∧ ∀ (i : Nat) (a b : TokP), ts[i]? = some a → us[i]? = some b → b.k = a.k ∧ b.s = a.s ∧ b.line = 1
  some : 1 ≤ ts.length
  on : ∀ (i : Nat) (a b : TokP), ts[i]? = Option.some a → ts[i + 1]? = Option.some b → Onward a b
  last : ∀ t, ts[ts.length - 1]? = Option.some t → t.k = 6
  short : ∀ t ∈ ts, t.s.length ≤ 1500
theorem back (L : List UInt8) (h : lexOk L = true) : Back (lexTs L) (lexTs (jAll (lexTs L)).1) (jAll (lexTs L)).1 := by
  obtain ⟨hl, ts, hx, hn, hts⟩ := lexOk_inv L h
  obtain ⟨ps, h1, h2, h3⟩ := lexF_places L _ _ _ hx
  have hgood : ∀ t ∈ ts, Good t.k t.s := by
    intro t ht
    rw [h1] at ht
    obtain ⟨x, hxp, rfl⟩ := List.mem_map.1 ht
    obtain ⟨_, hx2, hx3⟩ := h3 x hxp
    exact good_next (L.drop x) (drop_pos L x hx2) hx3
  have hT : (jAll (lexTs L)).1 = joinL ts := by
    rw [hts]
    exact jAll_join ts (fun t ht => (hgood t ht).k6) _ rfl
  rw [hT]
  have hnl := joinL_nl ts hgood
  obtain ⟨us, hu1, hu2, hu3⟩ := lex_join ts [] hgood (by simpa using hnl)
  have hu1' : lexAt (joinL ts) 0 = some us := hu1
  refine ⟨fun hlong => ?_, fun hshort => ?_, ?_, ?_, ?_, ?_⟩
  · unfold lexOk; rw [lexR_long _ hlong]; rfl
  · have hr := lexR_some (joinL ts) us hshort hu1' (by omega)
    have ho : lexOk (joinL ts) = true := by unfold lexOk; rw [hr]; rfl
    have htt : lexTs (joinL ts) = us ++ [⟨6, [], lineAt (joinL ts) (joinL ts).length, (joinL ts).length - begAt (joinL ts) (joinL ts).length + 1⟩] := by unfold lexTs; rw [hr]; rfl
    refine ⟨ho, ?_, fun i a b ha hb => ?_⟩
    · rw [htt, hts, List.length_append, List.length_append, hu2]; rfl
    · rw [hts] at ha
      rw [htt] at hb
      by_cases hi : i < ts.length
      · rw [List.getElem?_append_left hi] at ha
        rw [List.getElem?_append_left (by omega)] at hb
        exact hu3 i a b ha hb
      · have hi2 : i = ts.length := by
          have := (List.getElem?_eq_some_iff.1 ha).1
          rw [List.length_append, List.length_singleton] at this
          omega
        subst hi2
        rw [List.getElem?_append_right (Nat.le_refl _), Nat.sub_self] at ha
        rw [List.getElem?_append_right (by omega), hu2, Nat.sub_self] at hb
        have ea := Option.some.inj ha
        have eb := Option.some.inj hb
        rw [← ea, ← eb]
        exact ⟨rfl, rfl, line_flat _ hnl _⟩
  · rw [hts, List.length_append]; show 1 ≤ _ + 1; omega
  · intro i a b ha hb
    rw [hts, h1] at ha hb
    exact places_onward L ps h2 (fun x hxp => (h3 x hxp).2.1) i a b ha hb
  · intro t ht
    rw [hts, List.length_append, List.length_singleton, Nat.add_sub_cancel, List.getElem?_append_right (Nat.le_refl _), Nat.sub_self] at ht
    have e := Option.some.inj ht
    rw [← e]
  · intro t ht
    rw [hts] at ht
    rcases List.mem_append.1 ht with h' | h'
    · rw [h1] at h'
      obtain ⟨x, _, rfl⟩ := List.mem_map.1 h'
      show ((L.drop x).take _).length ≤ 1500
      rw [List.length_take, List.length_drop]
      omega
    · rw [List.mem_singleton.1 h']
      exact Nat.zero_le _
end Go.Proofs.Ytndlhdeipicbpaa
