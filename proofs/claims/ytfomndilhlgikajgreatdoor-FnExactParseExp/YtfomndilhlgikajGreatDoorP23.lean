import Derived.Test.YtfomndilhlgikajGreatDoorP22
set_option maxHeartbeats 8000000
set_option maxRecDepth 100000
namespace Go.Proofs.YtfomndilhlgikajGreatDoor.Rd
open Go.ChangeShapes Go.WideShapes Go.ChangeAt Go.RowKit
theorem xU {one : bF} (h1 : bC one) : ∀ m n e ts, Ends ts -> ts.length <= m -> ts.length <= n -> km one m e ts = km one n e ts := by
 intro m
 induction m with
 | zero => intro n e ts he hm _; obtain ⟨t, q, rfl⟩ := he.form; simp at hm
 | succ m ih =>
  intro n e ts he hm hn
  cases n with
  | zero => obtain ⟨t, q, rfl⟩ := he.form; simp at hn
  | succ n =>
   unfold km
   split
   ·cases h : one ts with
    | none => rfl
    | some p =>
     obtain ⟨a1, a2⟩ := h1 ts p.1 p.2 he h
     exact ih n _ _ a1 (by omega) (by omega)
   ·rfl
theorem tK {one : bF} (h1 : bC one) (e : Tr) {ts : List TokZ} (he : Ends ts) : km one ts.length e ts = if jF ts then (one ts).bind fun p => km one p.2.length (z8 e p.1) p.2 else some (e, ts) := by
 obtain ⟨t, q, rfl⟩ := he.form
 rw [List.length_cons, km]
 split
 ·cases h : one (t :: q) with
  | none => rfl
  | some p =>
   obtain ⟨a1, a2⟩ := h1 _ p.1 p.2 he h
   exact xU h1 _ _ _ _ a1 (by simp only [List.length_cons] at a2; omega) U0
 ·rfl
theorem wj {one : bF} (h1 : bC one) {ops : List ByteArray} (hs : ∀ s ∈ ops, s ≠ ⟨#[]⟩) : ∀ m n e ts, Ends ts -> ts.length <= m -> ts.length <= n -> cZ one ops m e ts = cZ one ops n e ts := by
 intro m
 induction m with
 | zero => intro n e ts he hm _; obtain ⟨t, q, rfl⟩ := he.form; simp at hm
 | succ m ih =>
  intro n e ts he hm hn
  cases n with
  | zero => obtain ⟨t, q, rfl⟩ := he.form; simp at hn
  | succ n =>
   unfold cZ
   split
   ·rename_i ho
    obtain ⟨s, gC, jr⟩ := List.any_eq_true.1 ho
    obtain ⟨b1, b2⟩ := bG jr he (hs s gC)
    cases h : one ts.tail with
    | none => rfl
    | some p =>
     obtain ⟨a1, a2⟩ := h1 _ p.1 p.2 b1 h
     exact ih n _ _ a1 (by omega) (by omega)
   ·rfl
theorem gQ {one : bF} (h1 : bC one) {ops : List ByteArray} (hs : ∀ s ∈ ops, s ≠ ⟨#[]⟩) (e : Tr) {ts : List TokZ} (he : Ends ts) : cZ one ops ts.length e ts = if ops.any (cg ts) then (one ts.tail).bind fun p => cZ one ops p.2.length (qA (jN ts) e p.1) p.2 else some (e, ts) := by
 obtain ⟨t, q, rfl⟩ := he.form
 rw [List.length_cons, cZ]
 split
 ·rename_i ho
  obtain ⟨s, gC, jr⟩ := List.any_eq_true.1 ho
  obtain ⟨b1, b2⟩ := bG jr he (hs s gC)
  cases h : one (t :: q).tail with
  | none => rfl
  | some p =>
   obtain ⟨a1, a2⟩ := h1 _ p.1 p.2 b1 h
   exact wj h1 hs _ _ _ _ a1 (by simp only [List.length_cons] at b2; omega) U0
 ·rfl
def TreeN (g : Nat) (w : World) (s u h i : Nat) (x : Tr) (cs : List Value) : Prop := ∃ bs, sp w h i x cs bs /\ InR s u bs /\ g ∉ bs
theorem TreeN.tree {g : Nat} {w : World} {s u h i : Nat} {x : Tr} {cs : List Value} (k : TreeN g w s u h i x cs) : TreeT w s u h i x cs := by
 obtain ⟨bs, k1, k2, -⟩ := k
 exact ⟨bs, k1, k2⟩
theorem TreeT.beside {g : Nat} {w : World} {s u h i : Nat} {x : Tr} {cs : List Value} (k : TreeT w s u h i x cs) (hg : g < s \/ u <= g) : TreeN g w s u h i x cs := by
 obtain ⟨bs, k1, k2⟩ := k
 exact ⟨bs, k1, k2, fun hm => by have := k2.2 g hm; omega⟩
theorem TreeN.up {g : Nat} {w : World} {s u s' u' h h' i : Nat} {x : Tr} {cs : List Value} (k : TreeN g w s u h i x cs) (hs : s' <= s) (hu : u <= u') (hh : h <= h') : TreeN g w s' u' h' i x cs := by
 obtain ⟨bs, k1, k2, k3⟩ := k
 exact ⟨bs, tU hh k1, k2.wide hs hu, k3⟩
theorem TreeN.keep {g : Nat} {w w' : World} {s u h i : Nat} {x : Tr} {cs : List Value} (k : TreeN g w s u h i x cs) (hk : ∀ b, s <= b -> b < u -> b ≠ g -> w'.heap[b]? = w.heap[b]?) : TreeN g w' s u h i x cs := by
 obtain ⟨bs, k1, k2, k3⟩ := k
 exact ⟨bs, kl k1 fun b hb => hk b (k2.2 b hb).1 (k2.2 b hb).2 (fun e => k3 (e ▸ hb)), k2, k3⟩
theorem Gv {w' : World} {h g : Nat} {x y : Tr} {cf cx : List Value} {bx bY : List Nat} (k : Int) (t : ByteArray) (ht : t.size <= maxLen) (hf : sp w' h 0 x cf bx) (hx : sp w' h 0 y cx bY) (hg : w'.heap[g]? = some (.cells (cf ++ cx).toArray 34 (0, 0))) : sp w' (h + 1) 0 ⟨k, t, 0, [], [x, y], [], []⟩ [.int .i64 k, .string t, .int .i64 0, .slice (some ⟨g, 0, none⟩) 2 2, .slice none 0 0, .slice none 0 0] ([g] ++ (bx ++ bY)) := by
 have hr := Row.lit (w := w') (E := 34) (sz := 6) (g := g) [cf, cx] (fun e he => by
  simp only [List.mem_cons, List.not_mem_nil, or_false] at he
  rcases he with rfl | rfl
  ·exact (ic hf).1
  ·exact (ic hx).1) (by simpa using hg) (by simp)
 exact ⟨rfl, ht, _, _, _, [g] ++ (bx ++ bY), [], [], rfl, by simp, ⟨by simp, [cf, cx], [bx, bY], hr, ⟨hf, hx, trivial⟩, by simp [ei, Value.ownBlock]⟩, RowS.nil _ _ _ _, RowS.nil _ _ _ _⟩
theorem rQ {g0 : Nat} {w' : World} {s u v h g : Nat} {x y : Tr} {cf cx : List Value} (k : Int) (t : ByteArray) (ht : t.size <= maxLen) (hf : TreeN g0 w' s u h 0 x cf) (hx : TreeT w' u v h 0 y cx) (hg : w'.heap[g]? = some (.cells (cf ++ cx).toArray 34 (0, 0))) (h0 : s <= u) (h3 : u <= v) (h1 : v <= g) (hg0 : g0 < u) : TreeN g0 w' s w'.heap.size (h + 1) 0 ⟨k, t, 0, [], [x, y], [], []⟩ [.int .i64 k, .string t, .int .i64 0, .slice (some ⟨g, 0, none⟩) 2 2, .slice none 0 0, .slice none 0 0] := by
 have au := ad hg
 obtain ⟨bx, f1, f2, f3⟩ := hf
 obtain ⟨bY, x1, x2⟩ := hx
 refine ⟨_, Gv k t ht f1 x1 hg, InR.comm ((f2.app x2 U0 h0 h3).app (InR.one (Nat.le_refl g) au) h1 (by omega) (by omega)), fun hm => ?_⟩
 rcases List.mem_append.1 hm with hm | hm
 ·rw [List.mem_singleton] at hm; omega
 ·rcases List.mem_append.1 hm with hm | hm
  ·exact f3 hm
  ·have := x2.2 g0 hm; omega
structure Lp (A : Arr) (b d : Nat) (w0 : World) (N g : Nat) (W : World) (cur : Option (Tr × List TokZ)) (cs : List Value) : Prop where
 fx : Fx cs
 box : W.heap[g]? = some (.cells cs.toArray 34 (0, 0))
 res : W.heap[w0.heap.size]? = some (.cells zE 34 (0, 0))
 st : St A b W d (cur.map (·.2))
 mv : Mv b w0 W
 gw : w0.heap.size < g
 tree : ∀ e c, cur = some (e, c) -> ∃ h, h + c.length <= N /\ TreeN g W (w0.heap.size + 1) W.heap.size h 0 e cs
theorem Lp.move {A : Arr} {b d : Nat} {w0 : World} {N g : Nat} {W W' : World} {cur : Option (Tr × List TokZ)} {cs : List Value} (h : Lp A b d w0 N g W cur cs) (hm : Mv b W W') (hb : b < w0.heap.size) (hs : St A b W' d (cur.map (·.2))) : Lp A b d w0 N g W' cur cs :=
 ⟨h.fx, af h.box hm (by have := h.gw; omega), af h.res hm (by omega), hs, h.mv.trans hm, h.gw, fun e c he => by
  obtain ⟨n, h1, h2⟩ := h.tree e c he
  exact ⟨n, h1, (h2.keep fun k a1 a2 _ => hm.block k ⟨a2, by omega⟩).up U0 hm.size U0⟩⟩
theorem Lp.below {A : Arr} {b d : Nat} {w0 : World} {N g : Nat} {W W' : World} {cur : Option (Tr × List TokZ)} {cs : List Value} (h : Lp A b d w0 N g W cur cs) (hb : Below W.heap.size W W') (au : b < w0.heap.size) : Lp A b d w0 N g W' cur cs := h.move (Mv.of hb) au (h.st.below hb)
theorem Lp.start {A : Arr} {b d : Nat} {w0 : World} {W1 : World} {r : Option (List TokZ)} {one : bF} {cs : List Value} (hx : W1.heap[w0.heap.size]? = some (.cells zE 34 (0, 0))) (hF : Fx cs) (fE : St A b W1 d (nxt r one)) (hm : Mv b w0 W1) (hG : Got W1 (w0.heap.size + 1) W1.heap.size 0 r one cs) : Lp A b d w0 (r.getD []).length W1.heap.size (W1.alloc (.cells cs.toArray 34)) (r.bind one) cs := by
 have hb : Below W1.heap.size W1 (W1.alloc (.cells cs.toArray 34)) := (U4 W1).alloc U0 _
 refine ⟨hF, heap_alloc_new W1 _, cT hx, ?_, hm.trans (Mv.of hb), ad hx, fun e c he => ?_⟩
 ·have e : (r.bind one).map (·.2) = nxt r one := by
   cases r with
   | none => rfl
   | some ts => rfl
  rw [e]
  exact fE.below hb
 ·cases r with
  | none => cases he
  | some ts =>
   obtain ⟨n, h1, h2⟩ := hG ts e c rfl he
   exact ⟨n, h1, ((h2.keep (aw hb U0)).beside (.inr U0)).up U0 hb.size U0⟩
theorem Lp.next {A : Arr} {b d : Nat} {w0 : World} {N g g2 v : Nat} {W W2 : World} {e0 : Tr} {c0 : List TokZ} {nx : Option (Tr × List TokZ)} {cs cx : List Value} (k : Int) (t : ByteArray) (ht : t.size <= 1500) (au : b < w0.heap.size) (hA : A.g < w0.heap.size)
 (h : Lp A b d w0 N g W (some (e0, c0)) cs) (hmv : Mv b W W2) (fE : St A b W2 d (nx.map (·.2))) (hx : ∀ y c, nx = some (y, c) -> c.length < c0.length /\ ∃ h, h + c.length <= c0.length /\ TreeT W2 W.heap.size v h 0 y cx) (dj : W2.heap[g2]? = some (.cells (cs ++ cx).toArray 34 (0, 0))) (h1 : W.heap.size <= v) (h2 : v <= g2) :
 Lp A b d w0 N g (jp W2 g (.int .i64 k) (.string t) (.int .i64 0) (.slice (some ⟨g2, 0, none⟩) 2 2) (.slice none 0 0) (.slice none 0 0)) (nx.map fun q => (⟨k, t, 0, [], [e0, q.1], [], []⟩, q.2)) [.int .i64 k, .string t, .int .i64 0, .slice (some ⟨g2, 0, none⟩) 2 2, .slice none 0 0, .slice none 0 0] := by
 have oI := h.gw
 have ec := ad h.box
 have hk := cU W2 g (.int .i64 k) (.string t) (.int .i64 0) (.slice (some ⟨g2, 0, none⟩) 2 2) (.slice none 0 0) (.slice none 0 0)
 have dG : ∃ x0 x1 x2 x3 x4 x5, W2.heap[g]? = some (.cells #[x0, x1, x2, x3, x4, x5] 34 (0, 0)) := by
  have h9 := af h.box hmv (by omega)
  obtain ⟨a0, a1, a2, p1, q1, z1, p2, q2, z2, p3, q3, z3, e⟩ := h.fx
  rw [e] at h9
  exact ⟨_, _, _, _, _, _, h9⟩
 obtain ⟨x0, x1, x2, x3, x4, x5, dG⟩ := dG
 refine ⟨⟨_, _, _, _, _, _, _, _, _, _, _, _, rfl⟩, aZ dG _ _ _ _ _ _, (hk.block _ (by show _ ≠ _; omega)).trans (af h.res hmv (by omega)), ?_, Keeps.mvo (h.mv.trans hmv) hk (by omega), oI, fun e c he => ?_⟩
 ·have e : ((nx.map fun q => ((⟨k, t, 0, [], [e0, q.1], [], []⟩ : Tr), q.2)).map (·.2)) = nx.map (·.2) := by
   cases nx with
   | none => rfl
   | some q => rfl
  rw [e]
  exact fE.other hk (by omega) (fun ts _ => by omega)
 ·cases nx with
  | none => cases he
  | some q =>
   obtain ⟨y, c'⟩ := q
   simp only [Option.map_some, Option.some.injEq, Prod.mk.injEq] at he
   obtain ⟨rfl, rfl⟩ := he
   obtain ⟨hc, n1, a1, a2⟩ := hx y c' rfl
   obtain ⟨n0, b1, b2⟩ := h.tree e0 c0 rfl
   have EE : 1 <= n0 := by
    cases n0 with
    | zero => obtain ⟨bs, hf, -⟩ := b2; exact hf.elim
    | succ n => omega
   have b3 : TreeN g W2 (w0.heap.size + 1) W.heap.size n0 0 e0 cs := b2.keep fun k a1 a2 _ => hmv.block k ⟨a2, by omega⟩
   have h9 := rQ k t (by unfold maxLen; omega) (b3.up U0 U0 (Nat.le_max_left n0 n1)) (a2.up U0 U0 (Nat.le_max_right n0 n1)) dj (by omega) h1 h2 ec
   refine ⟨max n0 n1 + 1, by omega, (h9.keep fun k _ _ bU => hk.block k bU).up U0 (by rw [eL]; exact Nat.le_refl _) U0⟩
theorem Lp.fin {A : Arr} {b d : Nat} {w0 : World} {r : Option (List TokZ)} {g : Nat} {W : World} {one : bF} {c0 c1 c2 c3 c4 c5 : Value} (h : Lp A b d w0 (r.getD []).length g W (r.bind one) [c0, c1, c2, c3, c4, c5]) (au : b < w0.heap.size) (hA : AG A w0 r) : ResE A b d w0 r one (.returned (.agg #[c0, c1, c2, c3, c4, c5])) (jp W w0.heap.size c0 c1 c2 c3 c4 c5) := by
 refine fp au hA ?_ h.mv (fun ts t rest e1 e2 => ?_) h.fx
 ·have e : (r.bind one).map (·.2) = nxt r one := by
   cases r with
   | none => rfl
   | some ts => rfl
  rw [<- e]
  exact h.st
 ·subst e1
  obtain ⟨n, h1, h2⟩ := h.tree t rest e2
  exact ⟨n, h1, h2.tree⟩
def ResI (b g d : Nat) (w : World) (ts : List TokZ) (one : bF) (e : Ending) (w' : World) : Prop := Mv b w w' /\ ((∃ t q cs h, one ts = some (t, q) /\ e = .returned (.agg cs.toArray) /\ Fx cs /\ Ir b g w' d q /\ h + q.length <= ts.length /\ TreeT w' w.heap.size w'.heap.size h 0 t cs) \/ (one ts = none /\ e = ey))
def CI (b g d n : Nat) (ex : bF) : Prop := ∀ (w : World) (ts : List TokZ), Ir b g w d ts -> ts.length <= n -> Calls Tryz.prog 100 #[.pointer (some ⟨b, 0, none⟩)] w (ResI b g d w ts ex)
theorem Ir.len {b g d : Nat} {w : World} {ts : List TokZ} (h : Ir b g w d ts) : ts.length <= 2000 := by
 obtain ⟨off, cap, -, -, -, h, -⟩ := h
 exact h
theorem Ir.keeps {b g d s u : Nat} {w w' : World} {ts : List TokZ} (h : Ir b g w d ts) (hk : Keeps (fun k => k < w.heap.size /\ (k < s \/ u <= k)) w w') (hb : b < s) (hg : g < s) : Ir b g w' d ts := by
 have au := h.lt
 have ec := h.glt
 obtain ⟨off, cap, h0, h1, h2⟩ := h
 exact ⟨off, cap, (hk.block b ⟨au, .inl hb⟩).trans h0, cw h1 hk.size fun _ => hk.block g ⟨ec, .inl hg⟩, h2⟩
def mi (b : Nat) (w : World) : Nat := match w.heap[b]? with
 | some (Obj.cells cs _ _) => (match (cs[0]? : Option Value) with
  | some (Value.slice _ n _) => n
  | _ => 0)
 | _ => 0
theorem Ir.mi {b g d : Nat} {w : World} {ts : List TokZ} (h : Ir b g w d ts) : mi b w = ts.length := by
 obtain ⟨off, cap, h0, -⟩ := h
 unfold Go.Proofs.YtfomndilhlgikajGreatDoor.Rd.mi
 rw [h0]
 rfl
section
variable {b g d : Nat} {w : World} {ts : List TokZ}
theorem rC (h : Ir b g w d ts) : Calls Tryz.prog 191 #[.pointer (some ⟨b, 0, none⟩)] w fun e w' => ∃ o n c, e = .returned (.slice o n c) /\ Ir b g w' d (aY ts).2 /\ Mv b w w' /\ StrT w' w.heap.size w'.heap.size (.slice o n c) (aY ts).1 := by
 have au := h.lt
 have ec := h.glt
 have tp := h.len
 have H := aa h
 clear h
 go_enter Tryz.func191, Tryz.ntmps191
 go_wp2
 go_loopw [3] (fun t3 wr => ∃ (cur : List TokZ) (acc : List ByteArray), StrT wr w.heap.size wr.heap.size t3 acc /\ Ir b g wr d cur /\ Mv b w wr /\ acc.length + cur.length <= ts.length /\ (aY ts).1 = acc ++ (aY cur).1 /\ (aY ts).2 = (aY cur).2) (fun _ wr => mi b wr)
 case atStart => exact ⟨ts, [], StrT.nil w _ _, H.out, Mv.refl _ _, by simp, rfl, rfl⟩
 case round =>
  obtain ⟨cur, acc, cF, fE, hmv, bK, he1, Jx⟩ := hrel
  have HR := aa cF
  have HS := aa fE
  have HM := aa hmv
  have Fs := aa he1
  have Dz := aa Jx
  obtain ⟨o1, c1, rfl, -⟩ := cF.form
  have J2 := hmv.size
  clear cF fE hmv he1 Jx
  go_wp2_with fail
  refine (pO HS.out).mono ?_
  rintro e w1 ⟨rfl, h1, m1⟩
  have uS := aa ((HR.out.keep (bv m1 au U0)).up U0 m1.size)
  have eI := aa h1
  have Ct := aa (HM.out.trans m1)
  have iN := m1.size
  clear h1 m1
  obtain ⟨t, q, rfl⟩ := eI.out.ends.form
  cases hp : gn (t :: q) with
  | false =>
   have Jd : aY (t :: q) = ([], t :: q) := by rw [aY, if_neg (by rw [hp]; decide)]
   have QZ := aa Jd
   clear hp Jd
   go_wp2
   go_ret
   refine ⟨_, _, _, rfl, ?_, Ct.out, ?_⟩
   ·rw [Dz.out, QZ.out]
    exact eI.out
   ·rw [Fs.out, QZ.out, List.append_nil]
    exact uS.out
  | true =>
   have Cr : eq (t :: q) = some (t.s, q) := by rw [eq, if_pos hp]; rfl
   have cI : t.s.size <= 1500 := eI.out.ends.gd.size
   have LZ : aY (t :: q) = (t.s :: (aY q).1, (aY q).2) := by rw [aY, if_pos hp]
   have jX := aa LZ
   have CJ := aa Cr
   simp only [List.length_cons] at bK
   clear hp Cr LZ
   go_wp2_with fail
   refine (pU eI.out).mono ?_
   rintro e w2 ⟨⟨p, ep, rfl, h2⟩ | ⟨ep, -⟩, m2⟩
   ·rw [CJ.out] at ep
    cases ep
    have H2 := aa h2
    have ON := aa (uS.out.keep (bv m2 au U0))
    have uW := aa (Ct.out.trans m2)
    have iM := m2.size
    obtain ⟨o2, n2, cp, o', c', w3, e3, hr3, hrow3, d9⟩ := xC Tryz.underlying48 (t := t.s) ON.out (by unfold maxLen; omega) (by omega) iM (by omega)
    cases e3
    have dh := aa hrow3
    have fA := aa d9
    have I8 := aa hr3
    clear h2 m2 hrow3 d9 hr3
    go_wp2_with (at_builtin; refine Lib.wpList_append_run _ rfl _ _ _ _ rfl _ _ rfl rfl _ _ I8.out ?_)
    go_wp2
    go_roundw
    case rel =>
     refine ⟨q, acc ++ [t.s], by simpa using dh.out, H2.out.keeps fA.out au ec, gh fA.out U0 uW.out, by simp; omega, ?_, ?_⟩
     ·rw [Fs.out, jX.out]; simp
     ·rw [Dz.out, jX.out]
    case measure =>
     rw [(H2.out.keeps fA.out au ec).mi, HS.out.mi]
     simp
   ·rw [CJ.out] at ep
    cases ep
end
theorem jC {cf cx : List Value} (hf : Fx cf) (hx : Fx cx) (w : World) : Calls Tryz.prog 310 #[.agg (cf ++ cx).toArray] w (Lx 4 ⟨#[]⟩ cf cx w) := by
 obtain ⟨a0, a1, a2, p1, q1, z1, p2, q2, z2, p3, q3, z3, rfl⟩ := hf
 obtain ⟨b0, b1, b2, p4, q4, z4, p5, q5, z5, p6, q6, z6, rfl⟩ := hx
 go_enter Tryz.func310, Tryz.ntmps310
 go_wp2
 refine bodyPost_ret (v := .agg #[.int .i64 4, .string ⟨#[]⟩, .int .i64 0, .slice (some ⟨w.heap.size + 1 + 1, 0, none⟩) 2 2, .slice none 0 0, .slice none 0 0]) ?_ rfl ?_
 ·refine results_cell_row rfl _ _ (w.heap.size + 1) 34 _ (0, 0) _ rfl (cT ?_) Tryz.underlying34 rfl (by kernel_rfl)
  have h9 := heap_alloc_new (w.alloc (.cells #[.int .i64 a0, .string a1, .int .i64 a2, .slice p1 q1 z1, .slice p2 q2 z2, .slice p3 q3 z3, .int .i64 b0, .string b1, .int .i64 b2, .slice p4 q4 z4, .slice p5 q5 z5, .slice p6 q6 z6] 198)) (.cells #[.int .i64 4, .string ⟨#[]⟩, .int .i64 0, .slice (some ⟨w.heap.size + 1 + 1, 0, none⟩) 2 2, .slice none 0 0, .slice none 0 0] 34)
  simpa using h9
 ·refine ⟨w.heap.size + 1 + 1, by omega, by simp, rfl, ?_, (((U4 w).alloc U0 _).alloc (by simp) _).alloc (by simp; omega) _⟩
  have h9 := heap_alloc_new ((w.alloc (.cells #[.int .i64 a0, .string a1, .int .i64 a2, .slice p1 q1 z1, .slice p2 q2 z2, .slice p3 q3 z3, .int .i64 b0, .string b1, .int .i64 b2, .slice p4 q4 z4, .slice p5 q5 z5, .slice p6 q6 z6] 198)).alloc (.cells #[.int .i64 4, .string ⟨#[]⟩, .int .i64 0, .slice (some ⟨w.heap.size + 1 + 1, 0, none⟩) 2 2, .slice none 0 0, .slice none 0 0] 34)) (.cells #[.int .i64 a0, .string a1, .int .i64 a2, .slice p1 q1 z1, .slice p2 q2 z2, .slice p3 q3 z3, .int .i64 b0, .string b1, .int .i64 b2, .slice p4 q4 z4, .slice p5 q5 z5, .slice p6 q6 z6] 34)
  simpa using h9
theorem dz {cf cx : List Value} (t : ByteArray) (hf : Fx cf) (hx : Fx cx) (w : World) : Calls Tryz.prog 268 #[.agg ([Value.string t] ++ cf ++ cx).toArray] w (Lx 9 t cf cx w) := by
 obtain ⟨a0, a1, a2, p1, q1, z1, p2, q2, z2, p3, q3, z3, rfl⟩ := hf
 obtain ⟨b0, b1, b2, p4, q4, z4, p5, q5, z5, p6, q6, z6, rfl⟩ := hx
 go_enter Tryz.func268, Tryz.ntmps268
 go_wp2
 refine bodyPost_ret (v := .agg #[.int .i64 9, .string t, .int .i64 0, .slice (some ⟨w.heap.size + 1 + 1, 0, none⟩) 2 2, .slice none 0 0, .slice none 0 0]) ?_ rfl ?_
 ·refine results_cell_row rfl _ _ (w.heap.size + 1) 34 _ (0, 0) _ rfl (cT ?_) Tryz.underlying34 rfl (by kernel_rfl)
  have h9 := heap_alloc_new (w.alloc (.cells #[.string t, .int .i64 a0, .string a1, .int .i64 a2, .slice p1 q1 z1, .slice p2 q2 z2, .slice p3 q3 z3, .int .i64 b0, .string b1, .int .i64 b2, .slice p4 q4 z4, .slice p5 q5 z5, .slice p6 q6 z6] 210)) (.cells #[.int .i64 9, .string t, .int .i64 0, .slice (some ⟨w.heap.size + 1 + 1, 0, none⟩) 2 2, .slice none 0 0, .slice none 0 0] 34)
  simpa using h9
 ·refine ⟨w.heap.size + 1 + 1, by omega, by simp, rfl, ?_, (((U4 w).alloc U0 _).alloc (by simp) _).alloc (by simp; omega) _⟩
  have h9 := heap_alloc_new ((w.alloc (.cells #[.string t, .int .i64 a0, .string a1, .int .i64 a2, .slice p1 q1 z1, .slice p2 q2 z2, .slice p3 q3 z3, .int .i64 b0, .string b1, .int .i64 b2, .slice p4 q4 z4, .slice p5 q5 z5, .slice p6 q6 z6] 210)).alloc (.cells #[.int .i64 9, .string t, .int .i64 0, .slice (some ⟨w.heap.size + 1 + 1, 0, none⟩) 2 2, .slice none 0 0, .slice none 0 0] 34)) (.cells #[.int .i64 a0, .string a1, .int .i64 a2, .slice p1 q1 z1, .slice p2 q2 z2, .slice p3 q3 z3, .int .i64 b0, .string b1, .int .i64 b2, .slice p4 q4 z4, .slice p5 q5 z5, .slice p6 q6 z6] 34)
  simpa using h9
theorem sq (t : ByteArray) (w : World) : Calls Tryz.prog 314 #[.agg #[.string t]] w fun e w' => e = .returned (.agg #[.int .i64 1, .string t, .int .i64 0, .slice none 0 0, .slice none 0 0, .slice none 0 0]) /\ Below w.heap.size w w' := by
 go_enter Tryz.func314, Tryz.ntmps314
 go_wp2
 refine bodyPost_ret (v := .agg #[.int .i64 1, .string t, .int .i64 0, .slice none 0 0, .slice none 0 0, .slice none 0 0]) ?_ rfl ⟨rfl, ((U4 w).alloc U0 _).alloc (by simp) _⟩
 refine results_cell_row rfl _ _ (w.heap.size + 1) 34 _ (0, 0) _ rfl ?_ Tryz.underlying34 rfl (by kernel_rfl)
 have h9 := heap_alloc_new (w.alloc (.cells #[.string t] 193)) (.cells #[.int .i64 1, .string t, .int .i64 0, .slice none 0 0, .slice none 0 0, .slice none 0 0] 34)
 simpa using h9
theorem qB (t : ByteArray) (w : World) : Calls Tryz.prog 315 #[.agg #[.string t]] w fun e w' => e = .returned (.agg #[.int .i64 2, .string t, .int .i64 0, .slice none 0 0, .slice none 0 0, .slice none 0 0]) /\ Below w.heap.size w w' := by
 go_enter Tryz.func315, Tryz.ntmps315
 go_wp2
 refine bodyPost_ret (v := .agg #[.int .i64 2, .string t, .int .i64 0, .slice none 0 0, .slice none 0 0, .slice none 0 0]) ?_ rfl ⟨rfl, ((U4 w).alloc U0 _).alloc (by simp) _⟩
 refine results_cell_row rfl _ _ (w.heap.size + 1) 34 _ (0, 0) _ rfl ?_ Tryz.underlying34 rfl (by kernel_rfl)
 have h9 := heap_alloc_new (w.alloc (.cells #[.string t] 194)) (.cells #[.int .i64 2, .string t, .int .i64 0, .slice none 0 0, .slice none 0 0, .slice none 0 0] 34)
 simpa using h9
theorem tX (n : Int) (w : World) : Calls Tryz.prog 317 #[.agg #[.int .i64 n]] w fun e w' => e = .returned (.agg #[.int .i64 3, .string ⟨#[]⟩, .int .i64 n, .slice none 0 0, .slice none 0 0, .slice none 0 0]) /\ Below w.heap.size w w' := by
 go_enter Tryz.func317, Tryz.ntmps317
 go_wp2
 refine bodyPost_ret (v := .agg #[.int .i64 3, .string ⟨#[]⟩, .int .i64 n, .slice none 0 0, .slice none 0 0, .slice none 0 0]) ?_ rfl ⟨rfl, ((U4 w).alloc U0 _).alloc (by simp) _⟩
 refine results_cell_row rfl _ _ (w.heap.size + 1) 34 _ (0, 0) _ rfl ?_ Tryz.underlying34 rfl (by kernel_rfl)
 have h9 := heap_alloc_new (w.alloc (.cells #[.int .i64 n] 196)) (.cells #[.int .i64 3, .string ⟨#[]⟩, .int .i64 n, .slice none 0 0, .slice none 0 0, .slice none 0 0] 34)
 simpa using h9
end Go.Proofs.YtfomndilhlgikajGreatDoor.Rd
