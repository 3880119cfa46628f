import Derived.Deep.RegionLaw
import Derived.WalkSmall
import Derived.Deep.DeepCutAuto
import Derived.Deep.CutBlock
import Derived.Test.YtfomndilhlgikajGreatDoorP14
set_option maxHeartbeats 8000000
set_option maxRecDepth 100000
namespace Go.Proofs.YtfomndilhlgikajGreatDoor.I
open Go.RowKit Go.Proofs.YtfomndilhlgikajGreatDoor
theorem lc : (Tryz.prog.info? 122).map (fun i => (i.zero, i.size, i.bytes)) = some (some (.agg #[.int .i64 0, .string ⟨#[]⟩, .int .i64 0, .int .i64 0]), 4, 40) := by kernel_rfl
theorem mH : (Tryz.prog.info? 3).map (fun i => (i.zero, i.size, i.bytes)) = some (some (.int .i64 0), 1, 8) := by kernel_rfl
theorem nD (W : World) (a : Value) (t : TypeId) : ∀ (j : Nat) (u : Value), [a][j]? = some u -> (W.alloc (.cells #[a] t)).cell? ((⟨W.heap.size, 0, none⟩ : Addr).add j) = some u := by
 intro j u hj
 match j, hj with
 | 0, hj => simp at hj; subst hj; simp [Addr.add]
 | j + 1, hj => simp at hj
theorem lY (n : Int) : ∀ u ∈ [Value.int .i64 n], u.oneCell' = true := by
 intro u hu
 simp only [List.mem_cons, List.not_mem_nil, or_false] at hu
 subst hu
 rfl
theorem kM (W : World) (a b c d : Value) (t : TypeId) : ∀ (j : Nat) (u : Value), [a, b, c, d][j]? = some u -> (W.alloc (.cells #[a, b, c, d] t)).cell? ((⟨W.heap.size, 0, none⟩ : Addr).add j) = some u := by
 intro j u hj
 match j, hj with
 | 0, hj => simp at hj; subst hj; simp [Addr.add]
 | 1, hj => simp at hj; subst hj; simp [Addr.add]
 | 2, hj => simp at hj; subst hj; simp [Addr.add]
 | 3, hj => simp at hj; subst hj; simp [Addr.add]
 | j + 4, hj => simp at hj
theorem jG (k : Int) (t : ByteArray) (l c : Int) : ∀ u ∈ [Value.int .i64 k, .string t, .int .i64 l, .int .i64 c], u.oneCell' = true := by
 intro u hu
 simp only [List.mem_cons, List.not_mem_nil, or_false] at hu
 rcases hu with rfl | rfl | rfl | rfl <;> rfl
theorem dL {P : Program} {ops : Array Oper} {o : Oper} {a : Act} {w : World} {K : Act -> World -> Prop} {Q : Exit -> Act -> World -> Prop} {E : Prop}
 (hg : o.guard = none) (s x : Operand) (t : TypeId) (hop : o.op = Op.call { callee := Callee.builtin Builtin.append, args := #[s, x], argTypes := #[t, t] })
 (v1 v2 v' : Value) (w' : World) (hs : a.eval s = v1) (hx : a.eval x = v2) (hr : (Builtin.append_ #[t, t] o.type #[v1, v2]).run P w = .ok v' w')
 (hK : K (a.put o.dst v') w') : if Region.wanted o (yielded ops a.tmps) = true then Oper.wp P o a w K Q else E := by
 have hw : Region.wanted o (yielded ops a.tmps) = true := by simp [Region.wanted, hg]
 rw [if_pos hw]
 unfold Oper.wp
 simp [execOp, hop, resolve, invoke, builtin, hs, hx, hr, Result.andThen]
 exact hK
theorem nT (w : World) (n m : Nat) : (w.drewN n).drewN m = w.drewN (n + m) := by
 unfold World.drewN
 simp [Nat.add_assoc]
theorem kf (K : Nat -> Prop) (w : World) (n : Nat) : Keeps K w (w.drewN n) := ⟨rfl, rfl, rfl, Nat.le_refl _, fun _ _ => rfl⟩
theorem Keeps.drewN {K : Nat -> Prop} {w w' : World} (h : Keeps K w w') (n : Nat) : Keeps K w (w'.drewN n) := h.trans (kf K w' n)
def aN (t : TokZ) : Obj := .cells #[.int .i64 t.k, .string t.s, .int .i64 t.l, .int .i64 t.c] 122 (0, 0)
theorem aA {w : World} {b : Nat} {t : TokZ} (h : w.heap[b]? = some (aN t)) : pF w b 0 t := ⟨cell_of h 0, cell_of h 1, cell_of h 2, cell_of h 3⟩
theorem ImplAt.later {w w' : World} {K : Nat -> Prop} {g : Nat} {out : List TokZ} {st : List Int} {wait : Bool} {line : Int} (h : ImplAt w K g out st wait line) (hb : Below w.heap.size w w') : ImplAt w' K g out st wait line := by
 obtain ⟨vo, vs, hg, hm⟩ := h
 exact ⟨vo, vs, (hb.block g hm.gw).trans hg, hm.later hb⟩
theorem ImplAt.drewN {w : World} {K : Nat -> Prop} {g : Nat} {out : List TokZ} {st : List Int} {wait : Bool} {line : Int} (h : ImplAt w K g out st wait line) (n : Nat) : ImplAt (w.drewN n) K g out st wait line :=
 ImplAt.later h (below_drewN (U4 _) n)
theorem ImplAt.kw {w : World} {K : Nat -> Prop} {g : Nat} {out : List TokZ} {st : List Int} {wait : Bool} {line : Int} (h : ImplAt w K g out st wait line) : ∀ k, K k -> k < w.heap.size := by
 obtain ⟨vo, vs, hg, hm⟩ := h
 exact hm.kw
theorem ImplAt.gw {w : World} {K : Nat -> Prop} {g : Nat} {out : List TokZ} {st : List Int} {wait : Bool} {line : Int} (h : ImplAt w K g out st wait line) : g < w.heap.size := by
 obtain ⟨vo, vs, hg, hm⟩ := h
 exact hm.gw
theorem ImplAt.kg {w : World} {K : Nat -> Prop} {g : Nat} {out : List TokZ} {st : List Int} {wait : Bool} {line : Int} (h : ImplAt w K g out st wait line) : ¬ K g := by
 obtain ⟨vo, vs, hg, hm⟩ := h
 exact hm.kg
theorem ImplAt.box {w : World} {K : Nat -> Prop} {g : Nat} {out : List TokZ} {st : List Int} {wait : Bool} {line : Int} (h : ImplAt w K g out st wait line) (o : Obj) : ImplAt (w.alloc o) (fun k => K k \/ k = w.heap.size) g out st wait line := by
 obtain ⟨vo, vs, hg, hm⟩ := h
 have h2 := hm.alloc o
 have oI := hm.gw
 refine ⟨vo, vs, (Below.heap_alloc w o g hm.gw).trans hg, h2.more (fun k hk => ?_) (fun hk => ?_) (fun k hk hK => ?_) (fun k hk hK => ?_)⟩
 ·rcases hk with hk | rfl
  ·exact h2.kw k hk
  ·simp
 ·rcases hk with hk | e
  ·exact hm.kg hk
  ·omega
 ·rcases hK with hK | e
  ·exact hm.ko k hk hK
  ·have := (cK hm.out k hk).1
   omega
 ·rcases hK with hK | e
  ·exact hm.ks k hk hK
  ·have := (cK hm.st k hk).1
   omega
theorem ImplAt.less {w : World} {K K' : Nat -> Prop} {g : Nat} {out : List TokZ} {st : List Int} {wait : Bool} {line : Int} (h : ImplAt w K' g out st wait line) (hk : ∀ k, K k -> K' k) : ImplAt w K g out st wait line := by
 obtain ⟨vo, vs, hg, hm⟩ := h
 exact ⟨vo, vs, hg, hm.more (fun k h => hm.kw k (hk k h)) (fun h => hm.kg (hk _ h)) (fun k h1 h2 => hm.ko k h1 (hk k h2)) (fun k h1 h2 => hm.ks k h1 (hk k h2))⟩
theorem ImplAt.setKept {w : World} {K : Nat -> Prop} {g : Nat} {out : List TokZ} {st : List Int} {wait : Bool} {line : Int} (h : ImplAt w K g out st wait line) {b : Nat} (hb : K b) (j : Nat) (u : Value) : ImplAt (w.setCell ⟨b, j, none⟩ u) K g out st wait line := by
 obtain ⟨vo, vs, hg, hm⟩ := h
 have bU : g ≠ b := fun e => hm.kg (e ▸ hb)
 refine ⟨vo, vs, (az u bU).trans hg, ⟨?_, ?_, hm.og, hm.sg, hm.os, hm.kg, hm.ko, hm.ks, ?_, ?_⟩⟩
 ·exact hJ hm.out fun k hk => az u fun e => hm.ko k hk (e ▸ hb)
 ·exact hJ hm.st fun k hk => az u fun e => hm.ks k hk (e ▸ hb)
 ·intro k hk
  have := hm.kw k hk
  simpa using this
 ·simpa using hm.gw
theorem ImplAt.facts {w : World} {K : Nat -> Prop} {g : Nat} {out : List TokZ} {st : List Int} {wait : Bool} {line : Int} (h : ImplAt w K g out st wait line) :
 ∃ o0 n0 o1 n1, w.cell? ⟨g, 0, none⟩ = some (.slice o1 st.length n1) /\ w.cell? ⟨g, 1, none⟩ = some (.bool wait) /\ w.cell? ⟨g, 2, none⟩ = some (.int .i64 line) /\ w.cell? ⟨g, 3, none⟩ = some (.slice o0 out.length n0) /\ w.ownsRow 0 122 4 (.slice o0 out.length n0) out.length (iH out) /\ (∀ k, (Value.slice o0 out.length n0).ownBlock = some k -> ¬ K k) /\ (∀ j, w.frozen? ⟨g, j, none⟩ = false) := by
 obtain ⟨vo, vs, hg, hm⟩ := h
 obtain ⟨o0, n0, rfl⟩ := dU hm.out
 obtain ⟨o1, n1, rfl⟩ := hm.none_top
 exact ⟨o0, n0, o1, n1, cell_of hg 0, cell_of hg 1, cell_of hg 2, cell_of hg 3, hm.out, hm.ko, fun j => aj hg j⟩
theorem ImplAt.setWait {w : World} {K : Nat -> Prop} {g : Nat} {out : List TokZ} {st : List Int} {wait : Bool} {line : Int} (h : ImplAt w K g out st wait line) (x : Bool) : ImplAt (w.setCell ⟨g, 1, none⟩ (.bool x)) K g out st x line /\ Keeps K w (w.setCell ⟨g, 1, none⟩ (.bool x)) := by
 obtain ⟨vo, vs, hg, hm⟩ := h
 exact ⟨⟨vo, vs, ae _ hg, hm.set _ _⟩, ak _ _ _ _ hm.kg⟩
theorem ImplAt.setLine {w : World} {K : Nat -> Prop} {g : Nat} {out : List TokZ} {st : List Int} {wait : Bool} {line : Int} (h : ImplAt w K g out st wait line) (x : Int) : ImplAt (w.setCell ⟨g, 2, none⟩ (.int .i64 x)) K g out st wait x /\ Keeps K w (w.setCell ⟨g, 2, none⟩ (.int .i64 x)) := by
 obtain ⟨vo, vs, hg, hm⟩ := h
 exact ⟨⟨vo, vs, ae _ hg, hm.set _ _⟩, ak _ _ _ _ hm.kg⟩
theorem ov {w : World} {K : Nat -> Prop} {g : Nat} {vo vs : Value} {out : List TokZ} {st : List Int} (h : LayMem w K g vo vs out st) (t : TokZ) (hn : out.length <= 10000000) :
 ∃ o' n' cap' w', (Builtin.append_ #[60, 60] 60 #[vo, .slice (some ⟨w.heap.size, 0, none⟩) 1 1]).run Tryz.prog (w.alloc (aN t)).drew = .ok (.slice o' n' cap') w' /\ LayMem w' K g (.slice o' n' cap') vs (out ++ [t]) st /\ Keeps K w w' /\ w'.heap[g]? = w.heap[g]? := by
 obtain ⟨i0, hi, ll, iN, iM⟩ := info_parts lc
 have h1 := h.alloc (aN t)
 have h2 : LayMem (w.alloc (aN t)).drew K g vo vs out st := h1.same U0 fun _ _ _ => rfl
 obtain ⟨v', w', hr, hown, lI, -, hb⟩ := run_append_own_at (P := Tryz.prog) (w.alloc (aN t)).drew 0 60 60 122 i0 _ 4 40 Tryz.underlying60 hi ll iN iM rfl (by decide) vo out.length (iH out) h2.out ⟨w.heap.size, 0, none⟩ 1 1 (iK t) rfl
  (kM w _ _ _ _ _) (jG _ _ _ _) (by unfold maxLen; omega) (by omega) (Nat.zero_le _)
 obtain ⟨o', cap', rfl⟩ := dU hown
 obtain ⟨jo, aL, dj⟩ := h2.put hown lI hb
 refine ⟨o', _, cap', w', hr, jo, ?_, ?_⟩
 ·have h3 : Keeps K w (w.alloc (aN t)).drew := (bH w (aN t) h.kw).trans ⟨rfl, rfl, rfl, Nat.le_refl _, fun _ _ => rfl⟩
  exact h3.trans aL
 ·rw [dj]
  exact Below.heap_alloc w (aN t) g h.gw
theorem nK (s : ByteArray) (w : World) (hs : s.size <= 1048576) :
 Calls Tryz.prog 186 #[.string s] w fun e w' => e = .returned (.string s) /\ Below w.heap.size w w' := by
 go_enter Tryz.func186, Tryz.ntmps186
 go_wp2_with fail
 refine (Tryz.stringslite_Clone _ _ (by omega)).mono ?_
 rintro e w1 ⟨rfl, hb⟩
 have HB := aa hb
 clear hb
 go_wp2
 go_ret
 exact ⟨rfl, HB.out⟩
theorem ii {w : World} {K : Nat -> Prop} {g : Nat} {out : List TokZ} {st : List Int} {wait : Bool} {line : Int} (n : Int) (h : ImplAt w K g out st wait line) (hn : out.length + st.length <= 10000000) :
 Calls Tryz.prog 242 #[.pointer (some ⟨g, 0, none⟩), .int .i64 n] w fun e w' => e = .returned (.tuple #[]) /\ ImplAt w' K g out (n :: st) wait line /\ Keeps K w w' := by
 obtain ⟨vo, vs, hg, hm⟩ := h
 have c1 := cell_of hg 0
 simp only [List.getElem?_toArray, List.getElem?_cons_zero] at c1
 have HM := aa hm
 have HG := aa hg
 clear hm hg
 obtain ⟨i0, hi, ll, iN, iM⟩ := info_parts mH
 go_enter Tryz.func242, Tryz.ntmps242
 go_wp2_with (at_builtin; refine wpList_append_own_at _ rfl (.tmp 8) (.tmp 10) 167 rfl 0 3 i0 _ 1 8 Tryz.underlying167 hi ll iN iM rfl (by decide) _ st.length (cP st) rfl (HM.out.alloc _).st ⟨w.heap.size, 0, none⟩ 1 1 [.int .i64 n] rfl rfl (nD w _ _) (lY n) (by unfold maxLen; omega) (by omega) (Nat.zero_le _) ?_)
 intro v' w' hown hgrow _ hb
 obtain ⟨o', cap', rfl⟩ := dU hown
 obtain ⟨jo, aL, dj⟩ := (HM.out.alloc _).push hown hgrow (by simpa using hb)
 rw [Below.heap_alloc w _ g HM.out.gw, HG.out] at dj
 have d1 := cell_of dj 0
 simp only [List.getElem?_toArray, List.getElem?_cons_zero] at d1
 have f1 := aj dj 0
 have uW := aa jo
 have fh := aa aL
 have xK := aa dj
 clear jo aL dj hown hgrow hb c1
 go_wp2
 go_end0
 exact ⟨rfl, ⟨vo, _, ae _ xK.out, uW.out.set _ _⟩, (bH w _ HM.out.kw).trans (fh.out.trans (ak _ _ _ _ HM.out.kg))⟩
theorem ow {w : World} {K : Nat -> Prop} {g : Nat} {out : List TokZ} {st : List Int} {wait : Bool} {line : Int} (t : TokZ) (hs : t.s.size <= 1048576) (h : ImplAt w K g out st wait line) (hn : out.length + st.length <= 10000000) :
 Calls Tryz.prog 243 #[.pointer (some ⟨g, 0, none⟩), fS t] w fun e w' => e = .returned (.tuple #[]) /\ ImplAt w' K g (out ++ [t]) st wait line /\ Keeps K w w' := by
 have qM := aa (bH w (aN t) (ImplAt.kw h))
 have kH := aa (ImplAt.box h (aN t))
 have aF := aa (heap_alloc_new w (aN t))
 have Tg : Hid (¬ K w.heap.size) := fun hk => Nat.lt_irrefl _ (ImplAt.kw h _ hk)
 clear h
 unfold fS
 go_enter Tryz.func243, Tryz.ntmps243
 go_wp2_with fail
 refine (nK t.s _ hs).mono ?_
 rintro e w1 ⟨rfl, hb⟩
 have nZ := (hb.block w.heap.size (ad aF.out)).trans aF.out
 have b1 := (aA nZ).2.1
 have bf := aj nZ 1
 have eI := aa (ImplAt.setKept (ImplAt.later kH.out hb) (Or.inr rfl) 1 (.string t.s))
 have aK : Hid ((w1.setCell ⟨w.heap.size, 1, none⟩ (.string t.s)).heap[w.heap.size]? = some (aN t)) := ae (j := 1) (.string t.s) nZ
 have ez := aa (qM.out.trans ((cJ (K := K) hb fun k hk => ImplAt.kw kH.out k (Or.inl hk)).trans (ak w1 w.heap.size 1 (.string t.s) Tg.out)))
 clear hb nZ
 go_upto_region 2 with fail
 generalize w1.setCell ⟨w.heap.size, 1, none⟩ (.string t.s) = wB at eI aK ez ⊢
 clear b1 bf
 obtain ⟨x0, x1, x2, x3⟩ := aA aK.out
 obtain ⟨vo, vs, hg, hm⟩ := eI.out
 obtain ⟨o', n', cap', w4, hr, EJ, dI, hg4⟩ := ov hm t (by omega)
 rw [hg] at hg4
 have c0 := cell_of hg 3
 have d0 := cell_of hg4 3
 simp only [U7, U8, U9] at c0 d0
 have f0 := aj hg4 3
 have OR : g < wB.heap.size := hm.gw
 have vj : w.heap.size < wB.heap.size := hm.kw _ (Or.inr rfl)
 have HR := aa hr
 have KD := aa EJ
 have jO := aa (ez.out.trans (dI.mono fun k hk => Or.inl hk))
 have Oq := aa hg4
 clear hg hm hr EJ dI hg4
 go_region_law (refine dL rfl (.tmp 12) (.tmp 14) 60 rfl vo (.slice (some ⟨wB.heap.size, 0, none⟩) 1 1) (.slice o' n' cap') w4 (by simp [Act.eval]) (by simp [Act.eval]) HR.out ?_)
 all_goals
  go_end0
  refine ⟨rfl, ?_, jO.out.trans (ak _ _ _ _ fun h => KD.out.kg (Or.inl h))⟩
  have hs : ImplAt (w4.setCell ⟨g, 3, none⟩ (.slice o' n' cap')) (fun k => K k \/ k = w.heap.size) g (out ++ [t]) st wait line := ⟨_, vs, ae _ Oq.out, KD.out.set _ _⟩
  exact ImplAt.less hs fun k hk => Or.inl hk
theorem jc {w : World} {K : Nat -> Prop} {g : Nat} {out : List TokZ} {st : List Int} {wait : Bool} {line : Int} (s : ByteArray) (hs : s.size <= 1048576) (h : ImplAt w K g out st wait line) (hn : out.length + st.length <= 10000000) :
 Calls Tryz.prog 274 #[.pointer (some ⟨g, 0, none⟩), .string s] w fun e w' => e = .returned (.tuple #[]) /\ ImplAt w' K g (out ++ [bX s]) st wait line /\ Keeps K w w' := by
 have HS := aa h
 clear h
 go_enter Tryz.func274, Tryz.ntmps274
 go_wp2_with fail
 refine (ow (bX s) hs HS.out hn).mono ?_
 rintro e w1 ⟨rfl, gC, dV⟩
 have eI := aa gC
 have ez := aa dV
 clear gC dV
 go_wp2
 go_end0
 exact ⟨rfl, eI.out, ez.out⟩
theorem uK {w : World} {K : Nat -> Prop} {g : Nat} {vo vs vs' : Value} {out : List TokZ} {st' : List Int} {wait : Bool} {line : Int} (hg : w.heap[g]? = some (.cells #[vs, .bool wait, .int .i64 line, vo] 235 (0, 0))) (hm : LayMem w K g vo vs' out st') : ImplAt (w.setCell ⟨g, 0, none⟩ vs') K g out st' wait line /\ Keeps K w (w.setCell ⟨g, 0, none⟩ vs') :=
 ⟨⟨vo, vs', ae _ hg, hm.set _ _⟩, ak _ _ _ _ hm.kg⟩
theorem Ea {w : World} {K : Nat -> Prop} {g : Nat} {out : List TokZ} {st : List Int} {wait : Bool} {line : Int} (n : Int) (h : ImplAt w K g out st wait line) (hn : out.length + st.length <= 10000000) :
 Calls Tryz.prog 249 #[.pointer (some ⟨g, 0, none⟩), .int .i64 n] w fun e w' => (∃ r, st = n :: r /\ e = .returned (.bool true) /\ ImplAt w' K g out r wait line /\ Keeps K w w') \/ (st.head? ≠ some n /\ e = .returned (.bool false) /\ ImplAt w' K g out st wait line /\ Keeps K w w') := by
 have HS := aa h
 obtain ⟨vo, vs, hg, hm⟩ := h
 have c0 := cell_of hg 0
 have f0 := aj hg 0
 simp only [List.getElem?_toArray, List.getElem?_cons_zero] at c0
 cases st with
 | nil =>
  obtain ⟨o, cap, rfl⟩ := hm.none_top
  simp only [List.length_nil] at c0
  clear hg hm
  go_enter Tryz.func249, Tryz.ntmps249
  go_wp2
  go_ret
  exact Or.inr ⟨by simp, rfl, HS.out, Keeps.refl _ _⟩
 | cons x r =>
  obtain ⟨b, cap, rfl, mZ, qm, ct, hb, -, zv⟩ := hm.top
  have HG := aa hg
  have Re := aa zv
  clear hg hm zv
  have Mf : cap <= 9223372036854775807 := qm
  rw [List.length_cons] at hn
  have hz : ((r.length : Int) + 1 == 0) = false := by simp; omega
  have CO : IntKind.i64.wrap (r.length : Int) = r.length := by rw [IntKind.wrap_i64]; omega
  have Fo : (r.length : Int) <= cap := by omega
  have Q4 : (0 : Int) <= r.length := by omega
  by_cases hx : x = n
  ·have OE : (x == n) = true := by simp [hx]
   have Ug : (x != n) = false := by simp [hx]
   have Nv := aa hx
   clear hx
   go_enter Tryz.func249, Tryz.ntmps249
   go_wp2
   go_ret
   obtain ⟨h1, h2⟩ := uK HG.out Re.out
   exact Or.inl ⟨r, by rw [Nv.out], rfl, h1, h2⟩
  ·have OE : (x == n) = false := by simp [hx]
   have Ug : (x != n) = true := by simp [hx]
   have Nv := aa hx
   clear hx
   go_enter Tryz.func249, Tryz.ntmps249
   go_wp2
   go_ret
   exact Or.inr ⟨by simpa using Nv.out, rfl, HS.out, Keeps.refl _ _⟩
theorem kE (m n : Int) (l : List Int) : gE m (l ++ [n]) = if gE m l < n then n else gE m l := by
 induction l generalizing m with
 | nil => rfl
 | cons h r ih => exact ih _
theorem lO (st : List Int) (i : Nat) (n : Int) (h : st.reverse[i]? = some n) : (cP st)[i]? = some (.int .i64 n) := by
 unfold cP
 rw [List.getElem?_map, h]
 rfl
theorem tO {w : World} {K : Nat -> Prop} {g : Nat} {vo vs : Value} {out : List TokZ} {st : List Int} (h : LayMem w K g vo vs out st) :
 ∃ o b cap, vs = .slice o st.length cap /\ (st ≠ [] -> o = some ⟨b, 0, none⟩ /\ b < w.heap.size) /\ ∀ i n, st.reverse[i]? = some n -> w.cell? ⟨b, i, none⟩ = some (.int .i64 n) := by
 cases st with
 | nil =>
  obtain ⟨o, cap, rfl⟩ := h.none_top
  exact ⟨o, 0, cap, rfl, fun h => absurd rfl h, fun i n hi => by simp at hi⟩
 | cons x st =>
  obtain ⟨hl, hc⟩ := h.st
  rcases hc with ⟨_, h0⟩ | ⟨b, cap, cur, hv, hb, hg, hn, vc, cI, oq⟩
  ·cases h0
  ·refine ⟨some ⟨b, 0, none⟩, b, cap, hv, fun _ => ⟨rfl, ad hg⟩, fun i n hi => ?_⟩
   have au : i < (x :: st).length := by
    have := (List.getElem?_eq_some_iff.1 hi).1
    rwa [List.length_reverse] at this
   exact fN hg oq i (by omega) _ (lO _ i n hi)
def nk (w : World) (g : Nat) : Nat := match w.cell? ⟨g, 0, none⟩ with | some (.slice _ n _) => n | _ => 0
theorem ImplAt.len {w : World} {K : Nat -> Prop} {g : Nat} {out : List TokZ} {st : List Int} {wait : Bool} {line : Int} (h : ImplAt w K g out st wait line) : nk w g = st.length := by
 obtain ⟨vo, vs, hg, hm⟩ := h
 have c1 := cell_of hg 0
 obtain ⟨o, cap, rfl⟩ := hm.none_top
 unfold nk
 rw [c1]
 rfl
theorem ImplAt.top {w : World} {K : Nat -> Prop} {g : Nat} {out : List TokZ} {x : Int} {r : List Int} {wait : Bool} {line : Int} (h : ImplAt w K g out (x :: r) wait line) :
 ∃ b cap, r.length + 1 <= cap /\ cap <= 9223372036854775807 /\ w.cell? ⟨g, 0, none⟩ = some (.slice (some ⟨b, 0, none⟩) (r.length + 1) cap) /\ w.frozen? ⟨g, 0, none⟩ = false /\ w.cell? ⟨b, r.length, none⟩ = some (.int .i64 x) /\ ImplAt (w.setCell ⟨g, 0, none⟩ (.slice (some ⟨b, 0, none⟩) r.length cap)) K g out r wait line /\ Keeps K w (w.setCell ⟨g, 0, none⟩ (.slice (some ⟨b, 0, none⟩) r.length cap)) := by
 obtain ⟨vo, vs, hg, hm⟩ := h
 obtain ⟨b, cap, rfl, mZ, qm, ct, -, -, zv⟩ := hm.top
 obtain ⟨h1, h2⟩ := uK hg zv
 exact ⟨b, cap, mZ, qm, cell_of hg 0, aj hg 0, ct, h1, h2⟩
theorem kB {w : World} {K : Nat -> Prop} {g : Nat} {out : List TokZ} {st : List Int} {wait : Bool} {line : Int} (c : Int) (h : ImplAt w K g out st wait line) (hn : out.length + st.length <= 9000000) :
 Calls Tryz.prog 247 #[.pointer (some ⟨g, 0, none⟩), .int .i64 c] w fun e w' => e = .returned (.tuple #[]) /\ ImplAt w' K g (bk c st out).2 (bk c st out).1 wait line /\ Keeps K w w' := by
 have kH := aa h
 clear h
 go_enter Tryz.func247, Tryz.ntmps247
 go_wp2
 repeat (go_step3; go_wp2)
 go_loopw [] (fun wr => ∃ (st' : List Int) (out' : List TokZ), bk c st out = bk c st' out' /\ out'.length + st'.length <= 9000000 /\ ImplAt wr K g out' st' wait line /\ Keeps K w wr) (fun wr => nk wr g)
 case atStart => exact ⟨st, out, rfl, hn, kH.out, Keeps.refl _ _⟩
 case round =>
  obtain ⟨st', out', sZ, Hv, hS, hK⟩ := hrel
  have zb := aa sZ
  have HS := aa hS
  have HK := aa hK
  have Cy := aa (ImplAt.len hS)
  cases st' with
  | nil =>
   obtain ⟨o0, n0, o1, n1, c0, -, -, -, -, -, -⟩ := ImplAt.facts hS
   simp only [List.length_nil] at c0
   clear sZ hS hK
   go_wp2
   unfold Exit.noGoto
   go_end0
   refine ⟨rfl, ?_, HK.out⟩
   rw [zb.out]
   exact HS.out
  | cons x r =>
   obtain ⟨b, cap, mZ, Mf, c0, f0, ct, hS2, hK2⟩ := ImplAt.top hS
   have lm := aa hS2
   have fh := aa (hK.trans hK2)
   clear sZ hS hK hS2 hK2
   rw [List.length_cons] at Hv
   have hz : ((r.length : Int) + 1 == 0) = false := by simp; omega
   have CO : IntKind.i64.wrap (r.length : Int) = r.length := by rw [IntKind.wrap_i64]; omega
   have Fo : (r.length : Int) <= cap := by omega
   have Q4 : (0 : Int) <= r.length := by omega
   by_cases tb : c < x
   ·have eH : Hid (bk c st out = bk c r (out' ++ [bX fG])) := by
     show bk c st out = bk c r (out' ++ [bX fG])
     rw [zb.out, bk, if_pos tb]
    have iL : ¬ x <= c := by omega
    have Pi : decide (x <= c) = false := by simp [iL]
    go_wp2_with fail
    refine (jc ⟨#[125]⟩ (by decide) lm.out (by omega)).mono ?_
    rintro e w3 ⟨rfl, eP, d9⟩
    have lr := aa eP
    have fA := aa (fh.out.trans d9)
    clear eP d9
    go_wp2
    refine ⟨⟨r, out' ++ [bX fG], eH.out, by rw [List.length_append]; simp only [List.length_cons, List.length_nil]; omega, lr.out, fA.out⟩, ?_⟩
    rw [ImplAt.len lr.out, Cy.out]
    exact Nat.lt_succ_self _
   ·have iL : x <= c := by omega
    have Pi : decide (x <= c) = true := by simp [iL]
    go_wp2
    go_end0
    refine ⟨rfl, ?_, HK.out⟩
    rw [zb.out, bk, if_neg (by omega)]
    exact HS.out
theorem sb {w : World} {K : Nat -> Prop} {g : Nat} {out : List TokZ} {st : List Int} {wait : Bool} {line : Int} (h : ImplAt w K g out st wait line) (hn : out.length + st.length <= 10000000) :
 Calls Tryz.prog 275 #[.pointer (some ⟨g, 0, none⟩)] w fun e w' => e = .returned (.int .i64 (gD st)) /\ w' = w := by
 obtain ⟨vo, vs, hg, hm⟩ := h
 have c1 := cell_of hg 0
 simp only [List.getElem?_toArray, List.getElem?_cons_zero] at c1
 obtain ⟨o, b, cap, rfl, ho, dF⟩ := tO hm
 have HO := aa ho
 have zk := aa dF
 clear hm hg ho dF
 go_enter Tryz.func275, Tryz.ntmps275
 go_wp2
 go_loopw [3, 11] (fun t3 t4 wr => ∃ (i : Nat) (m : Int), i <= st.length /\ t4 = .int .i64 i /\ t3 = .int .i64 m /\ m = gE 0 (st.reverse.take i) /\ wr = w) (fun _ t4 _ => st.length - (intOf t4).toNat)
 case atStart => exact ⟨0, 0, Nat.zero_le _, rfl, rfl, rfl, rfl⟩
 case round =>
  obtain ⟨i, m, hi, rfl, rfl, hmm, rfl⟩ := hrel
  have Kq := aa hmm
  clear hmm
  by_cases au : i < st.length
  ·have bU : st ≠ [] := by intro e; rw [e] at au; simp at au
   obtain ⟨ho, hb⟩ := HO.out bU
   subst ho
   obtain ⟨n, mQ⟩ : ∃ n, st.reverse[i]? = some n := ⟨st.reverse[i]'(by rw [List.length_reverse]; exact au), List.getElem?_eq_getElem _⟩
   have ci := zk.out i n mQ
   have qj : st.reverse.take (i + 1) = st.reverse.take i ++ [n] := by rw [List.take_add_one, mQ]; rfl
   have B9 : Hid (gE 0 (st.reverse.take (i + 1)) = if m < n then n else m) := by rw [qj, kE, <- Kq.out]; rfl
   clear bU mQ qj
   have fX : (i : Int) < st.length := by omega
   by_cases tb : m < n
   ·rw [if_pos tb] at B9
    have Pl : max m n = n := by omega
    go_wp2
    refine ⟨⟨i + 1, n, by omega, by go_num, by first | rfl | (rw [Pl]) | (simp; omega), B9.out.symm, trivial⟩, by simp [intOf]; omega⟩
   ·rw [if_neg tb] at B9
    have Pl : max m n = m := by omega
    go_wp2
    refine ⟨⟨i + 1, m, by omega, by go_num, by first | rfl | (rw [Pl]) | (simp; omega), B9.out.symm, trivial⟩, by simp [intOf]; omega⟩
  ·go_wp2
   go_ret
   have jQ : i = st.length := by omega
   subst jQ
   have h := Kq.out
   rw [List.take_of_length_le (by rw [List.length_reverse]; exact Nat.le_refl _)] at h
   refine ⟨?_, rfl⟩
   rw [gD, <- h]
   rfl
theorem j0 {w : World} {K : Nat -> Prop} {g : Nat} {out : List TokZ} {st : List Int} {wait : Bool} {line : Int} (h : ImplAt w K g out st wait line) (hn : out.length + st.length <= 10000000) (n : Nat) (x : Int) (hx : gD st = x) :
 Calls Tryz.prog 275 #[.pointer (some ⟨g, 0, none⟩)] (w.drewN n) fun e w' => e = .returned (.int .i64 x) /\ ∃ m, w' = w.drewN m := by
 subst hx
 refine (sb (ImplAt.drewN h n) hn).mono ?_
 rintro e w' ⟨rfl, rfl⟩
 exact ⟨rfl, n, rfl⟩
theorem si {w : World} {K : Nat -> Prop} {g : Nat} {out : List TokZ} {st : List Int} {wait : Bool} {line : Int} (t : TokZ) (h : ImplAt w K g out st wait line) (hn : out.length + st.length <= 8000000) :
 Calls Tryz.prog 245 #[.pointer (some ⟨g, 0, none⟩), .int .i64 t.c] w fun e w' => e = .returned (.tuple #[]) /\ ImplAt w' K g (cB st out t).2 (cB st out t).1 wait line /\ Keeps K w w' := by
 have kH := aa h
 clear h
 have ou := ig t.c st out
 go_enter Tryz.func245, Tryz.ntmps245
 go_wp2_with fail
 refine (kB t.c kH.out (by omega)).mono ?_
 rintro e w1 ⟨rfl, gC, dV⟩
 obtain ⟨st1, out1, hP⟩ : ∃ s o, bk t.c st out = (s, o) := ⟨_, _, rfl⟩
 rw [hP] at gC ou
 simp only at gC ou
 have ez := aa dV
 have eI := aa gC
 cases st1 with
 | nil =>
  have HL : Hid (cB st out t = ([], out1)) := by
   show cB st out t = ([], out1)
   unfold cB
   rw [hP]
   rfl
  obtain ⟨o0, n0, o1, n1, c0, -, -, -, -, -, -⟩ := ImplAt.facts gC
  simp only [List.length_nil] at c0
  clear gC dV hP
  go_wp2
  go_end0
  refine ⟨rfl, ?_, ez.out⟩
  rw [HL.out]
  exact eI.out
 | cons x r =>
  obtain ⟨b, cap, mZ, Mf, c0, -, ct, -, -⟩ := ImplAt.top gC
  rw [List.length_cons] at ou
  have nP : (0 : Int) < (r.length : Int) + 1 := by omega
  have Q9 : decide ((0 : Int) < (r.length : Int) + 1) = true := by simp [nP]
  have CO : IntKind.i64.wrap (r.length : Int) = r.length := by rw [IntKind.wrap_i64]; omega
  by_cases lj : x = t.c
  ·have HL : Hid (cB st out t = (x :: r, out1 ++ [bX pW])) := by
    show cB st out t = (x :: r, out1 ++ [bX pW])
    unfold cB
    rw [hP, lj]
    simp
   have hb : (x == t.c) = true := by simp [lj]
   clear gC dV hP lj
   go_wp2_with fail
   refine (jc ⟨#[59]⟩ (by decide) eI.out (by rw [List.length_cons]; omega)).mono ?_
   rintro e w3 ⟨rfl, eP, d9⟩
   have lr := aa eP
   have fA := aa (ez.out.trans d9)
   clear eP d9
   go_wp2
   go_end0
   refine ⟨rfl, ?_, fA.out⟩
   rw [HL.out]
   exact lr.out
  ·have HL : Hid (cB st out t = (x :: r, out1)) := by
    show cB st out t = (x :: r, out1)
    unfold cB
    rw [hP]
    simp [lj]
   have hb : (x == t.c) = false := by simp [lj]
   clear gC dV hP lj
   go_wp2
   go_end0
   refine ⟨rfl, ?_, ez.out⟩
   rw [HL.out]
   exact eI.out
def ef (st : List Int) (t : TokZ) : Bool := !(t.k == 6) && decide (gD st < t.c)
def Bq (st : List Int) (out : List TokZ) (t : TokZ) : List TokZ := if ef st t = true then out ++ [bX jf] else out ++ [bX jf] ++ [bX fG]
def BI (st : List Int) (t : TokZ) : List Int := if ef st t = true then t.c :: st else st
theorem oz {st : List Int} {t : TokZ} (h : ef st t = true) (out : List TokZ) : Bq st out t = out ++ [bX jf] /\ BI st t = t.c :: st := by
 unfold Bq BI
 rw [h]
 exact ⟨rfl, rfl⟩
theorem nF {st : List Int} {t : TokZ} (h : ef st t = false) (out : List TokZ) : Bq st out t = out ++ [bX jf] ++ [bX fG] /\ BI st t = st := by
 unfold Bq BI
 rw [h]
 exact ⟨rfl, rfl⟩
theorem yk {w : World} {K : Nat -> Prop} {g : Nat} {out : List TokZ} {st : List Int} {wait : Bool} {line : Int} (t : TokZ) (h : ImplAt w K g out st wait line) (hn : out.length + st.length <= 8000000) :
 Calls Tryz.prog 244 #[.pointer (some ⟨g, 0, none⟩), fS t] w fun e w' => e = .returned (.bool (ef st t)) /\ ImplAt w' K g (Bq st out t) (BI st t) wait line /\ Keeps K w w' := by
 have qM := aa (bH w (aN t) (ImplAt.kw h))
 have kH := aa (ImplAt.box h (aN t))
 have aF := aa (heap_alloc_new w (aN t))
 clear h
 unfold fS
 go_enter Tryz.func244, Tryz.ntmps244
 go_wp2_with fail
 refine (jc ⟨#[123]⟩ (by decide) kH.out (by omega)).mono ?_
 rintro e w1 ⟨rfl, gC, dV⟩
 have eI := aa gC
 have ez := aa (qM.out.trans (dV.mono fun k hk => Or.inl hk))
 obtain ⟨x0, x1, x2, x3⟩ := aA ((dV.block w.heap.size (Or.inr rfl)).trans aF.out)
 have aK := aa ((dV.block w.heap.size (Or.inr rfl)).trans aF.out)
 have fB : (out ++ [bX ⟨#[123]⟩]).length = out.length + 1 := by rw [List.length_append]; rfl
 have wO := aa fB
 clear gC dV fB
 have rU : Hid (ef st t = (!(t.k == 6) && decide (gD st < t.c))) := rfl
 generalize hG : gD st = G at rU
 have HG := aa hG
 clear hG
 cases h6 : (t.k == 6)
 ·rw [h6] at rU
  by_cases tb : G < t.c
  ·have iL : decide (t.c <= G) = false := by simp; omega
   have za : ¬ t.c <= G := by omega
   have HB : Hid (ef st t = true) := by
    show ef st t = true
    rw [rU.out]
    simp [tb]
   clear rU
   go_wp2
   go_quiet ((go_at_call 275; refine j0 eI.out (by have := wO.out; omega) _ G HG.out))
   go_wp2_with fail
   refine (ii t.c (ImplAt.drewN eI.out _) (by have := wO.out; omega)).mono ?_
   rintro e w2 ⟨rfl, jr, aL⟩
   have lm := aa jr
   have fh := aa ((Keeps.drewN ez.out _).trans (aL.mono fun k hk => Or.inl hk))
   clear jr aL
   go_wp2
   go_ret
   refine ⟨by first | rfl | (rw [HB.out]; rfl), ?_, fh.out⟩
   have BT : ImplAt w2 K g _ _ wait line := ImplAt.less lm.out fun k hk => Or.inl hk
   rw [(oz HB.out out).1, (oz HB.out out).2]; exact BT
  ·have iL : decide (t.c <= G) = true := by simp; omega
   have za : t.c <= G := by omega
   have HB : Hid (ef st t = false) := by
    show ef st t = false
    rw [rU.out]
    simp [tb]
   clear rU
   go_wp2
   go_quiet ((go_at_call 275; refine j0 eI.out (by have := wO.out; omega) _ G HG.out))
   go_wp2_with fail
   refine (jc ⟨#[125]⟩ (by decide) (ImplAt.drewN eI.out _) (by have := wO.out; omega)).mono ?_
   rintro e w2 ⟨rfl, jr, aL⟩
   have lm := aa jr
   have fh := aa ((Keeps.drewN ez.out _).trans (aL.mono fun k hk => Or.inl hk))
   clear jr aL
   go_wp2
   go_ret
   refine ⟨by first | rfl | (rw [HB.out]; rfl), ?_, fh.out⟩
   have BT : ImplAt w2 K g _ _ wait line := ImplAt.less lm.out fun k hk => Or.inl hk
   rw [(nF HB.out out).1, (nF HB.out out).2]; exact BT
 ·have HB : Hid (ef st t = false) := by
   show ef st t = false
   rw [rU.out, h6]
   rfl
  clear rU
  go_wp2
  go_quiet (fail)
  go_wp2_with fail
  refine (jc ⟨#[125]⟩ (by decide) (ImplAt.drewN eI.out _) (by have := wO.out; omega)).mono ?_
  rintro e w2 ⟨rfl, jr, aL⟩
  have lm := aa jr
  have fh := aa ((Keeps.drewN ez.out _).trans (aL.mono fun k hk => Or.inl hk))
  clear jr aL
  go_wp2
  go_ret
  refine ⟨by first | rfl | (rw [HB.out]; rfl), ?_, fh.out⟩
  have BT : ImplAt w2 K g _ _ wait line := ImplAt.less lm.out fun k hk => Or.inl hk
  rw [(nF HB.out out).1, (nF HB.out out).2]; exact BT
end Go.Proofs.YtfomndilhlgikajGreatDoor.I
