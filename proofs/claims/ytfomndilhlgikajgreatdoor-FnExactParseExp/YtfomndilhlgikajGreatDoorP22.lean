import Derived.Test.YtfomndilhlgikajGreatDoorP21
set_option maxHeartbeats 8000000
set_option maxRecDepth 100000
namespace Go.Proofs.YtfomndilhlgikajGreatDoor.Rd
open Go.ChangeShapes Go.WideShapes Go.ChangeAt Go.RowKit
def Fx (cs : List Value) : Prop := ∃ k s n o1 n1 c1 o2 n2 c2 o3 n3 c3, cs = [.int .i64 k, .string s, .int .i64 n, .slice o1 n1 c1, .slice o2 n2 c2, .slice o3 n3 c3]
def nxt (r : Option (List TokZ)) (one : bF) : Option (List TokZ) := r.bind fun ts => (one ts).map (·.2)
def Got (w : World) (s u i : Nat) (r : Option (List TokZ)) (one : bF) (cs : List Value) : Prop := ∀ ts t rest, r = some ts -> one ts = some (t, rest) -> ∃ h, h + rest.length <= ts.length /\ TreeT w s u h i t cs
theorem Got.keep {w w' : World} {s u s' u' i : Nat} {r : Option (List TokZ)} {one : bF} {cs : List Value} (h : Got w s u i r one cs) (hk : ∀ b, s <= b -> b < u -> w'.heap[b]? = w.heap[b]?) (hs : s' <= s) (hu : u <= u') : Got w' s' u' i r one cs := fun ts t rest e1 e2 => by
 obtain ⟨n, h1, h2⟩ := h ts t rest e1 e2
 exact ⟨n, h1, (h2.keep hk).up hs hu U0⟩
def ResE (A : Arr) (b d : Nat) (w : World) (r : Option (List TokZ)) (one : bF) (e : Ending) (w' : World) : Prop := ∃ cs, e = .returned (.agg cs.toArray) /\ Fx cs /\ St A b w' d (nxt r one) /\ Mv b w w' /\ Got w' w.heap.size w'.heap.size 0 r one cs
theorem AG.nxt {A : Arr} {w : World} {r : Option (List TokZ)} (h : AG A w r) (one : bF) : AG A w (nxt r one) := fun ts e => by
 obtain ⟨ts0, e0, -⟩ := Option.bind_eq_some_iff.1 e
 exact h ts0 e0
theorem ResE.alloc {A : Arr} {b d : Nat} {w w' : World} {r : Option (List TokZ)} {one : bF} {e : Ending} (h : ResE A b d w r one e w') (o : Obj) : ResE A b d w r one e (w'.alloc o) := by
 obtain ⟨cs, h1, h2, h3, h4, h5⟩ := h
 have hb : Below w'.heap.size w' (w'.alloc o) := (U4 w').alloc U0 _
 exact ⟨cs, h1, h2, h3.below hb, h4.trans (Mv.of hb), h5.keep (aw hb U0) U0 hb.size⟩
theorem fp {A : Arr} {b d : Nat} {w V : World} {r : Option (List TokZ)} {one : bF} {c0 c1 c2 c3 c4 c5 : Value} (au : b < w.heap.size) (hA : AG A w r) (hS : St A b V d (nxt r one)) (hM : Mv b w V) (hG : Got V (w.heap.size + 1) V.heap.size 0 r one [c0, c1, c2, c3, c4, c5]) (hF : Fx [c0, c1, c2, c3, c4, c5]) : ResE A b d w r one (.returned (.agg #[c0, c1, c2, c3, c4, c5])) (jp V w.heap.size c0 c1 c2 c3 c4 c5) := by
 have hk := cU V w.heap.size c0 c1 c2 c3 c4 c5
 obtain ⟨h1, h2⟩ := pJ hM hS hk au (hA.nxt one)
 exact ⟨_, rfl, hF, h1, h2, hG.keep (fun b h1 h2 => hk.block b (by show b ≠ _; omega)) (by omega) (by rw [eL]; exact Nat.le_refl _)⟩
def zE : Array Value := #[.int .i64 0, .string ⟨#[]⟩, .int .i64 0, .slice none 0 0, .slice none 0 0, .slice none 0 0]
theorem Fx.zero : Fx [.int .i64 0, .string ⟨#[]⟩, .int .i64 0, .slice none 0 0, .slice none 0 0, .slice none 0 0] := ⟨_, _, _, _, _, _, _, _, _, _, _, _, rfl⟩
def CE (A : Arr) (b d n : Nat) (ex : bF) : Prop := ∀ (w : World) (r : Option (List TokZ)), St A b w d r -> (∀ ts, r = some ts -> ts.length <= n) -> Calls Tryz.prog 42 #[.pointer (some ⟨b, 0, none⟩)] w (ResE A b d w r ex)
theorem DH (t : ByteArray) (w : World) : Calls Tryz.prog 306 #[.string t] w fun e w' => e = .returned (.agg #[.int .i64 1, .string t, .int .i64 0, .slice none 0 0, .slice none 0 0, .slice none 0 0]) /\ Below w.heap.size w w' := by
 go_enter Tryz.func306, Tryz.ntmps306
 go_wp2
 refine bodyPost_ret (v := .agg #[.int .i64 1, .string t, .int .i64 0, .slice none 0 0, .slice none 0 0, .slice none 0 0]) ?_ rfl ?_
 ·exact results_cell_row rfl _ _ w.heap.size 34 _ (0, 0) _ rfl (heap_alloc_new w _) Tryz.underlying34 rfl (by kernel_rfl)
 ·exact ⟨rfl, (U4 w).alloc U0 _⟩
theorem EC (n : Int) (w : World) : Calls Tryz.prog 307 #[.int .i64 n] w fun e w' => e = .returned (.agg #[.int .i64 3, .string ⟨#[]⟩, .int .i64 n, .slice none 0 0, .slice none 0 0, .slice none 0 0]) /\ Below w.heap.size w w' := by
 go_enter Tryz.func307, Tryz.ntmps307
 go_wp2
 refine bodyPost_ret (v := .agg #[.int .i64 3, .string ⟨#[]⟩, .int .i64 n, .slice none 0 0, .slice none 0 0, .slice none 0 0]) ?_ rfl ?_
 ·exact results_cell_row rfl _ _ w.heap.size 34 _ (0, 0) _ rfl (heap_alloc_new w _) Tryz.underlying34 rfl (by kernel_rfl)
 ·exact ⟨rfl, (U4 w).alloc U0 _⟩
section
variable {A : Arr} {b d : Nat} {w : World} {r : Option (List TokZ)}
theorem af {W W' : World} {g b : Nat} {x : Obj} (hX : W.heap[g]? = some x) (hm : Mv b W W') (hg : g ≠ b) : W'.heap[g]? = some x := (hm.block g ⟨ad hX, hg⟩).trans hX
theorem kX (k : Int) (h : St A b w d r) : Calls Tryz.prog 77 #[.pointer (some ⟨b, 0, none⟩), .int .i64 k] w fun e w' => e = .returned (.bool (qC r k)) /\ St A b w' d r /\ Mv b w w' := by
 refine (Bi k h).mono ?_
 rintro e w' ⟨h1, m, rfl⟩
 exact ⟨h1, h.below (br w m), Mv.of (br w m)⟩
theorem kS {k : Int} (h : qC r k = true) : ∃ ts, r = some ts /\ isK ts k = true := by
 cases r with
 | none => cases h
 | some ts => exact ⟨ts, rfl, h⟩
theorem Sr.ends {ts : List TokZ} (h : Sr A b w d ts) : Ends ts := by
 obtain ⟨-, -, -, -, -, -, h⟩ := h
 exact h
theorem sI {ex : bF} {ts : List TokZ} (h : isK ts 1 = true) : b9 ex ts = some (FM (jN ts), ts.tail) := by rw [b9, if_pos h]
theorem sL {ex : bF} {ts : List TokZ} (h1 : isK ts 1 = false) (h : isK ts 2 = true) : b9 ex ts = some (ws (jN ts), ts.tail) := by rw [b9, if_neg (by rw [h1]; decide), if_pos h]
theorem xt {ex : bF} {ts : List TokZ} (h1 : isK ts 1 = false) (h2 : isK ts 2 = false) (h : isK ts 3 = true) : b9 ex ts = some (Gs (qz (jN ts)), ts.tail) := by rw [b9, if_neg (by rw [h1]; decide), if_neg (by rw [h2]; decide), if_pos h]
theorem sm {ex : bF} {ts : List TokZ} (h1 : isK ts 1 = false) (h2 : isK ts 2 = false) (h3 : isK ts 3 = false) (h : cg ts sPl = true) : b9 ex ts = jY ex ts.tail := by rw [b9, if_neg (by rw [h1]; decide), if_neg (by rw [h2]; decide), if_neg (by rw [h3]; decide), if_pos h]
theorem sj {ex : bF} {ts : List TokZ} (h1 : isK ts 1 = false) (h2 : isK ts 2 = false) (h3 : isK ts 3 = false) (h : cg ts sPl = false) : b9 ex ts = none := by rw [b9, if_neg (by rw [h1]; decide), if_neg (by rw [h2]; decide), if_neg (by rw [h3]; decide), if_neg (by rw [h]; decide)]
theorem gP {ts : List TokZ} (h : Ends ts) : (jN ts).size <= 1500 := by
 obtain ⟨t, q, rfl⟩ := h.form
 exact h.gd.size
theorem ie {ts rest : List TokZ} {t : Tr} {one : bF} (h : one ts = some (t, rest)) : nxt (some ts) one = some rest := by
 show (one ts).map (·.2) = _
 rw [h]
 rfl
theorem pT {W : World} {s u : Nat} {ts rest : List TokZ} {one : bF} {k : Int} {t : ByteArray} {n : Int} (h : one ts = some (⟨k, t, n, [], [], [], []⟩, rest)) (hl : rest.length + 1 <= ts.length) (ht : t.size <= 1500) (hu : s <= u) : Got W s u 0 (some ts) one [.int .i64 k, .string t, .int .i64 n, .slice none 0 0, .slice none 0 0, .slice none 0 0] := fun ts' t' rest' e1 e2 => by
 cases e1
 rw [h] at e2
 cases e2
 exact ⟨1, by omega, kR W s u k t (by unfold maxLen; omega) n hu⟩
def oh (l : List UInt8) : Int := l.foldl (fun n c => n * 10 + ((c.toNat : Int) - 48)) 0
theorem xO (l : List UInt8) (c : UInt8) : oh (l ++ [c]) = oh l * 10 + ((c.toNat : Int) - 48) := by
 unfold oh
 rw [List.foldl_append]
 rfl
theorem Eq : ∀ (l : List UInt8), (∀ c ∈ l, 48 <= c.toNat /\ c.toNat <= 57) -> l.length <= 6 -> 0 <= oh l /\ oh l <= 999999 := by
 intro l hl hn
 have gF : ∀ (a : Int) (m : List UInt8), (∀ c ∈ m, 48 <= c.toNat /\ c.toNat <= 57) -> 0 <= a -> 0 <= m.foldl (fun n c => n * 10 + ((c.toNat : Int) - 48)) a /\ m.foldl (fun n c => n * 10 + ((c.toNat : Int) - 48)) a < (a + 1) * 10 ^ m.length := by
  intro a m
  induction m generalizing a with
  | nil => intro _ h; simp; omega
  | cons c q ih =>
   intro hm ha
   obtain ⟨h1, h2⟩ := hm c (List.mem_cons_self ..)
   obtain ⟨h3, h4⟩ := ih (a * 10 + ((c.toNat : Int) - 48)) (fun x hx => hm x (List.mem_cons_of_mem _ hx)) (by omega)
   refine ⟨h3, Int.lt_of_lt_of_le h4 ?_⟩
   rw [List.length_cons, Int.pow_succ, <- Int.mul_assoc, Int.mul_right_comm]
   exact Int.mul_le_mul_of_nonneg_right (by omega) (Int.le_of_lt (Int.pow_pos (by decide)))
 obtain ⟨h1, h2⟩ := gF 0 l hl (Int.le_refl _)
 refine ⟨h1, ?_⟩
 have h4 : oh l < (0 + 1) * 10 ^ l.length := h2
 have h5 : (10 : Int) ^ l.length <= 1000000 := by
  generalize l.length = m at hn
  match m, hn with
  | 0, _ => decide
  | 1, _ => decide
  | 2, _ => decide
  | 3, _ => decide
  | 4, _ => decide
  | 5, _ => decide
  | 6, _ => decide
  | m + 7, h => omega
 omega
theorem Pq (x : Int) (h0 : -9223372036854775808 <= x) (h1 : x <= 9223372036854775807) : wrap64 x = x := by
 unfold wrap64
 omega
theorem aQ {s : ByteArray} {ts q : List TokZ} (h : ar s ts = some q) : q.length + 1 = ts.length := by
 unfold ar at h
 split at h
 ·rename_i e
  cases h
  obtain ⟨t, p, rfl, -⟩ := fl e
  rfl
 ·cases h
theorem yC {ex : bF} {ts : List TokZ} (h1 : isK ts 1 = false) (h2 : isK ts 2 = false) (h3 : isK ts 3 = false) (h : cg ts sPl = true) : nxt (some ts) (b9 ex) = (nxt (some ts.tail) ex).bind (ar yR) := by
 show (b9 ex ts).map (·.2) = ((ex ts.tail).map (·.2)).bind (ar yR)
 rw [sm h1 h2 h3 h]
 unfold jY
 cases ex ts.tail with
 | none => rfl
 | some p =>
  show ((ar yR p.2).bind fun q => some (p.1, q)).map (·.2) = ar yR p.2
  cases ar yR p.2 with
  | none => rfl
  | some q => rfl
theorem yI {ex : bF} {ts : List TokZ} {W : World} {s u : Nat} {cs : List Value} (h1 : isK ts 1 = false) (h2 : isK ts 2 = false) (h3 : isK ts 3 = false) (h : cg ts sPl = true) (hG : Got W s u 0 (some ts.tail) ex cs) : Got W s u 0 (some ts) (b9 ex) cs := fun ts' t rest e1 e2 => by
 cases e1
 rw [sm h1 h2 h3 h] at e2
 obtain ⟨⟨t1, r1⟩, e3, e2⟩ := Option.bind_eq_some_iff.1 e2
 obtain ⟨r2, e4, e2⟩ := Option.bind_eq_some_iff.1 e2
 cases e2
 obtain ⟨n, a1, a2⟩ := hG _ _ _ rfl e3
 have := aQ e4
 refine ⟨n, ?_, a2⟩
 have h9 : ts.tail.length <= ts.length := by rw [List.length_tail]; omega
 simp only at this
 omega
theorem tG {ex : bF} {n : Nat} (h : St A b w d r) (hn : ∀ ts, r = some ts -> ts.length <= n + 1) (hE : ∀ ts, r = some ts -> CE A b d n ex) : Calls Tryz.prog 295 #[.pointer (some ⟨b, 0, none⟩)] w (ResE A b d w r (b9 ex)) := by
 have au := h.lt
 have HA := aa h.glt
 have HN := aa hn
 have HE := aa hE
 have N4 := ld
 have aq : Hid (Below w.heap.size w (w.alloc (.cells zE 34))) := (U4 w).alloc U0 _
 have H0 := aa (h.below aq.out)
 have HX : Hid ((w.alloc (.cells zE 34)).heap[w.heap.size]? = some (.cells zE 34 (0, 0))) := heap_alloc_new w _
 clear h hn hE
 go_enter Tryz.func295, Tryz.ntmps295
 go_wp2_with fail
 refine (kX 1 H0.out).mono ?_
 rintro e w1 ⟨rfl, h1, m1⟩
 have H1 := aa h1
 have M1 := aa ((Mv.of aq.out).trans m1)
 have X1 := aa (af HX.out m1 (by omega))
 clear h1 m1
 cases dV : qC r 1 with
 | true =>
  obtain ⟨ts, rfl, hk⟩ := kS dV
  have HK := aa hk
  have aC : Ends ts := Sr.ends H1.out
  have HT := aa (hQ hk aC (by decide))
  have Dw := aa (gP aC)
  clear dV hk aC
  go_wp2_with fail
  refine (iZ H1.out (fun ts' e => by cases e; exact HT.out.1)).mono ?_
  rintro e w2 ⟨k2, s2, l2, c2, rfl, h2, m2, hs⟩
  have es : s2 = jN ts := hs ts rfl
  subst es
  have H2 := aa h2
  have M2 := aa (M1.out.trans m2)
  have X2 := aa (af X1.out m2 (by omega))
  clear h2 m2 hs
  go_wp2_with fail
  refine (DH (jN ts) _).mono ?_
  rintro e w3 ⟨rfl, b3⟩
  have H3 := aa (H2.out.below b3)
  have M3 := aa (M2.out.trans (Mv.of b3))
  have x3 := af X2.out (Mv.of (b := b) b3) (by omega)
  have X3 := aa x3
  obtain ⟨⟨y0, y1, y2, y3, y4, y5⟩, f0, f1, f2, f3, f4, f5⟩ := aG x3
  have eP : w.heap.size < w3.heap.size := ad x3
  clear b3 x3
  go_wp2
  refine bodyPost_ret (v := .agg #[.int .i64 1, .string (jN ts), .int .i64 0, .slice none 0 0, .slice none 0 0, .slice none 0 0]) ?_ rfl ?_
  ·exact results_cell_row rfl _ _ w.heap.size 34 _ (0, 0) _ rfl (aZ X3.out _ _ _ _ _ _) Tryz.underlying34 rfl (by kernel_rfl)
  ·refine fp au HA.out ?_ M3.out ?_ ⟨_, _, _, _, _, _, _, _, _, _, _, _, rfl⟩
   ·rw [ie (sI HK.out)]
    exact H3.out
   ·exact pT (sI HK.out) (by have := HT.out.2; omega) Dw.out (by omega)
 | false =>
 have ez := aa dV
 clear dV
 go_wp2_with fail
 refine (kX 2 H1.out).mono ?_
 rintro e w2 ⟨rfl, h2, m2⟩
 have H2 := aa h2
 have M2 := aa (M1.out.trans m2)
 have X2 := aa (af X1.out m2 (by omega))
 clear h2 m2 X1 H1 M1
 cases aL : qC r 2 with
 | true =>
  obtain ⟨ts, rfl, hk⟩ := kS aL
  have HK := aa hk
  have aC : Ends ts := Sr.ends H2.out
  have HT := aa (hQ hk aC (by decide))
  have Dw := aa (gP aC)
  clear aL hk aC
  go_wp2_with fail
  refine (iZ H2.out (fun ts' e => by cases e; exact HT.out.1)).mono ?_
  rintro e w3 ⟨k2, s2, l2, c2, rfl, h3, m3, hs⟩
  have es : s2 = jN ts := hs ts rfl
  subst es
  have H3 := aa h3
  have M3 := aa (M2.out.trans m3)
  have x3 := af X2.out m3 (by omega)
  have X3 := aa x3
  obtain ⟨⟨y0, y1, y2, y3, y4, y5⟩, f0, f1, f2, f3, f4, f5⟩ := aG x3
  have eP : w.heap.size < w3.heap.size := ad x3
  clear h3 m3 hs x3
  go_wp2
  refine bodyPost_ret (v := .agg #[.int .i64 2, .string (jN ts), .int .i64 0, .slice none 0 0, .slice none 0 0, .slice none 0 0]) ?_ rfl ?_
  ·exact results_cell_row rfl _ _ w.heap.size 34 _ (0, 0) _ rfl (aZ X3.out _ _ _ _ _ _) Tryz.underlying34 rfl (by kernel_rfl)
  ·refine fp au HA.out ?_ M3.out ?_ ⟨_, _, _, _, _, _, _, _, _, _, _, _, rfl⟩
   ·rw [ie (sL ez.out HK.out)]
    exact H3.out
   ·exact pT (sL ez.out HK.out) (by have := HT.out.2; omega) Dw.out (by omega)
 | false =>
 have fh := aa aL
 clear aL
 go_wp2_with fail
 refine (kX 3 H2.out).mono ?_
 rintro e w3 ⟨rfl, h3, m3⟩
 have H3 := aa h3
 have M3 := aa (M2.out.trans m3)
 have X3 := aa (af X2.out m3 (by omega))
 clear h3 m3 X2 H2 M2
 cases d9 : qC r 3 with
 | true =>
  obtain ⟨ts, rfl, hk⟩ := kS d9
  have HK := aa hk
  have aC : Ends ts := Sr.ends H3.out
  have HT := aa (hQ hk aC (by decide))
  obtain ⟨t, q, rfl, Dt⟩ := mO hk
  have jS := aC.gd.num Dt
  have cI : t.s.size <= 6 := jS.2.1
  have jK := aa jS.2.2
  clear d9 hk aC jS Dt
  go_wp2_with fail
  refine (iZ H3.out (fun ts' e => by cases e; exact HT.out.1)).mono ?_
  rintro e w4 ⟨k2, s2, l2, c2, rfl, h4, m4, hs⟩
  have es : s2 = t.s := hs _ rfl
  subst es
  have H4 := aa h4
  have M4 := aa (M3.out.trans m4)
  have X4 := aa (af X3.out m4 (by omega))
  clear h4 m4 hs
  go_wp2
  go_loopw [3, 5] (fun t3 t5 wr => ∃ i : Nat, i <= t.s.size /\ t5 = .int .i64 i /\ t3 = .int .i64 (oh (t.s.data.toList.take i)) /\ wr = w4) (fun _ t5 _ => t.s.size - (intOf t5).toNat)
  case atStart => exact ⟨0, Nat.zero_le _, rfl, rfl, rfl⟩
  case round =>
   obtain ⟨i, hi, rfl, rfl, rfl⟩ := hrel
   by_cases fX : i < t.s.size
   ·obtain ⟨c, hc⟩ : ∃ c, t.s.data.toList[i]? = some c := ⟨t.s.data.toList[i]'(by simpa using fX), List.getElem?_eq_getElem _⟩
    have hb := jK.out c (List.mem_of_getElem? hc)
    have Lo : (t.s[i]'fX).toNat = c.toNat := by
     have h9 : t.s.data.toList[i]'(by simpa using fX) = c := by
      rw [List.getElem?_eq_getElem (by simpa using fX)] at hc
      exact Option.some.inj hc
     rw [<- h9]
     rfl
    have qj : t.s.data.toList.take (i + 1) = t.s.data.toList.take i ++ [c] := by rw [List.take_add_one, hc]; rfl
    obtain ⟨n1, n2⟩ := Eq (t.s.data.toList.take i) (fun x hx => jK.out x (List.mem_of_mem_take hx)) (by rw [List.length_take]; omega)
    have HG := aa Lo
    have B9 : Hid (oh (t.s.data.toList.take (i + 1)) = oh (t.s.data.toList.take i) * 10 + ((c.toNat : Int) - 48)) := by rw [qj, xO]; exact rfl
    have HB := aa hb
    have EL := aa (And.intro n1 n2)
    clear hc hb Lo qj n1 n2
    go_wp2
    refine ⟨⟨i + 1, by omega, by go_num, ?_, trivial⟩, by simp [intOf]; omega⟩
    have h1 := HB.out
    have h2 := EL.out
    rw [HG.out, B9.out, Pq (oh (t.s.data.toList.take i) * 10) (by omega) (by omega), Pq _ (by omega) (by omega)]
    congr 1
    omega
   ·have jQ : i = t.s.size := by omega
    subst jQ
    have P6 : oh (t.s.data.toList.take t.s.size) = qz (jN (t :: q)) := by
     rw [List.take_of_length_le (by simp)]
     rfl
    have TD := aa P6
    generalize oh (t.s.data.toList.take t.s.size) = nn at *
    clear P6
    go_wp2_with fail
    refine (EC nn _).mono ?_
    rintro e w5 ⟨rfl, b5⟩
    have H5 := aa (H4.out.below b5)
    have M5 := aa (M4.out.trans (Mv.of b5))
    have x5 := af X4.out (Mv.of (b := b) b5) (by omega)
    have X5 := aa x5
    obtain ⟨⟨y0, y1, y2, y3, y4, y5⟩, f0, f1, f2, f3, f4, f5⟩ := aG x5
    have jm : w.heap.size < w5.heap.size := ad x5
    clear b5 x5
    go_wp2
    refine bodyPost_ret (v := .agg #[.int .i64 3, .string ⟨#[]⟩, .int .i64 nn, .slice none 0 0, .slice none 0 0, .slice none 0 0]) ?_ rfl ?_
    ·exact results_cell_row rfl _ _ w.heap.size 34 _ (0, 0) _ rfl (aZ X5.out _ _ _ _ _ _) Tryz.underlying34 rfl (by kernel_rfl)
    ·have lH := xt (ex := ex) (ts := t :: q) ez.out fh.out HK.out
     rw [<- TD.out] at lH
     refine fp au HA.out ?_ M5.out ?_ ⟨_, _, _, _, _, _, _, _, _, _, _, _, rfl⟩
     ·rw [ie lH]
      exact H5.out
     ·exact pT lH (by have := HT.out.2; omega) (by decide) (by omega)
 | false =>
 have fA := aa d9
 clear d9
 go_wp2_with fail
 refine (bQ sPl (by simp [bP]) (by decide) H3.out).mono ?_
 rintro e w4 ⟨x, rfl, h4, m4⟩
 have M4 := aa (M3.out.trans m4)
 have X4 := aa (af X3.out m4 (by omega))
 rcases h4 with ⟨rfl, ts, rfl, hs, h4⟩ | ⟨rfl, hs, h4⟩
 ·have H4 := aa h4
  have HS := aa hs
  have tp : ts.tail.length <= n := by
   have := HN.out ts rfl
   have h9 := (bG hs (Sr.ends H3.out) (by decide)).2
   omega
  clear h4 m4 hs X3 H3 M3
  go_wp2_with fail
  refine (HE.out ts rfl w4 (some ts.tail) H4.out (fun ts' e => by cases e; exact tp)).mono ?_
  rintro e w5 ⟨cs, rfl, ⟨a0, a1, a2, p1, q1, z1, p2, q2, z2, p3, q3, z3, rfl⟩, h5, m5, g5⟩
  have M5 := aa (M4.out.trans m5)
  have X5 := aa (af X4.out m5 (by omega))
  have E2 := m5.size
  have CW := ad X4.out
  have H5 := aa h5
  have G5 := aa g5
  clear h5 m5 g5
  have B5 : Hid (Below w5.heap.size w5 (w5.alloc (.cells #[.int .i64 a0, .string a1, .int .i64 a2, .slice p1 q1 z1, .slice p2 q2 z2, .slice p3 q3 z3] 34))) := (U4 w5).alloc U0 _
  have Y5 : Hid ((w5.alloc (.cells #[.int .i64 a0, .string a1, .int .i64 a2, .slice p1 q1 z1, .slice p2 q2 z2, .slice p3 q3 z3] 34)).heap[w5.heap.size]? = some (.cells #[.int .i64 a0, .string a1, .int .i64 a2, .slice p1 q1 z1, .slice p2 q2 z2, .slice p3 q3 z3] 34 (0, 0))) := heap_alloc_new w5 _
  go_wp2_with fail
  refine (bQ yR (by simp [bP]) (by decide) (H5.out.below B5.out)).mono ?_
  rintro e w6 ⟨x, rfl, h6, m6⟩
  have H6 := aa h6
  have O9 := aa ((Mv.of (b := b) B5.out).trans m6)
  have Y6 := aa (af Y5.out m6 (by omega))
  clear h6 m6
  go_wp2_with fail
  refine (cj H6.out).mono ?_
  rintro e w7 ⟨rfl, h7, m7⟩
  have H7 := aa h7
  have Jio := aa (O9.out.trans m7)
  have y7 := af Y6.out m7 (by omega)
  have M7 := aa (M5.out.trans Jio.out)
  have x7 := af X5.out Jio.out (by omega)
  have X7 := aa x7
  have G7 := aa (G5.out.keep (bv Jio.out (by omega) U0) (by omega : w.heap.size + 1 <= w4.heap.size) Jio.out.size)
  obtain ⟨⟨y0, y1, y2, y3, y4, y5⟩, -⟩ := aG y7
  obtain ⟨⟨u0, u1, u2, u3, u4, u5⟩, f0, f1, f2, f3, f4, f5⟩ := aG x7
  have NL : w.heap.size < w7.heap.size := ad x7
  have Uq : w5.heap.size < w7.heap.size := ad y7
  clear h7 m7 y7 x7
  go_wp2
  refine bodyPost_ret (v := .agg #[.int .i64 a0, .string a1, .int .i64 a2, .slice p1 q1 z1, .slice p2 q2 z2, .slice p3 q3 z3]) ?_ rfl ?_
  ·exact results_cell_row rfl _ _ w.heap.size 34 _ (0, 0) _ rfl (aZ X7.out _ _ _ _ _ _) Tryz.underlying34 rfl (by kernel_rfl)
  ·refine fp au HA.out ?_ M7.out ?_ ⟨_, _, _, _, _, _, _, _, _, _, _, _, rfl⟩
   ·rw [yC ez.out fh.out fA.out HS.out]
    exact H7.out
   ·exact yI ez.out fh.out fA.out HS.out G7.out
 ·have H4 := aa h4
  have hc : ∃ (o : Option Addr) (n cap : Nat) (p d : Int) (x : Bool), w4.heap[b]? = some (.cells #[.slice o n cap, .int .i64 p, .int .i64 d, .bool x] 62 (0, 0)) := by
   cases r with
   | none =>
    obtain ⟨o, n, cap, p, d, h⟩ := h4
    exact ⟨o, n, cap, p, d, true, h⟩
   | some ts =>
    obtain ⟨p, h, -⟩ := h4
    exact ⟨_, _, _, _, _, _, h⟩
  obtain ⟨o, m, cap, p, d', x, h0⟩ := hc
  have HS := aa hs
  have x3 := cell_of h0 3
  have xf := aj h0 3
  simp only [U7, U8, U9] at x3
  have HF : Hid (Sb b (w4.setCell ⟨b, 3, none⟩ (.bool true))) := Sb.set h0
  have CW := X4.out
  obtain ⟨⟨u0, u1, u2, u3, u4, u5⟩, f0, f1, f2, f3, f4, f5⟩ := aG CW
  have NL : w.heap.size < w4.heap.size := ad CW
  have Kb : b < w4.heap.size := by omega
  have CV : ¬ w.heap.size = b := by omega
  clear h4 m4 hs h0 CW
  go_wp2
  refine bodyPost_ret (v := .agg #[.int .i64 0, .string ⟨#[]⟩, .int .i64 0, .slice none 0 0, .slice none 0 0, .slice none 0 0]) ?_ rfl ?_
  ·exact results_cell_row rfl _ _ w.heap.size 34 _ (0, 0) _ rfl (aZ ((az _ CV).trans X4.out) _ _ _ _ _ _) Tryz.underlying34 rfl (by kernel_rfl)
  ·have tt : nxt r (b9 ex) = none := by
    cases r with
    | none => rfl
    | some ts =>
     show (b9 ex ts).map (·.2) = none
     rw [sj ez.out fh.out fA.out (HS.out ts rfl)]
     rfl
   refine fp au HA.out ?_ (M4.out.trans (Mv.set b 3 _ _)) (fun ts t rest e1 e2 => ?_) Fx.zero
   ·rw [tt]
    exact HF.out
   ·subst e1
    rw [sj ez.out fh.out fA.out (HS.out ts rfl)] at e2
    cases e2
end
def Lx (k : Int) (t : ByteArray) (cf cx : List Value) (w : World) (e : Ending) (w' : World) : Prop := ∃ g, w.heap.size <= g /\ g < w'.heap.size /\ e = .returned (.agg #[.int .i64 k, .string t, .int .i64 0, .slice (some ⟨g, 0, none⟩) 2 2, .slice none 0 0, .slice none 0 0]) /\ w'.heap[g]? = some (.cells (cf ++ cx).toArray 34 (0, 0)) /\ Below w.heap.size w w'
theorem BM {cf cx : List Value} (hf : Fx cf) (hx : Fx cx) (w : World) : Calls Tryz.prog 297 #[.agg cf.toArray, .agg cx.toArray] w (Lx 4 ⟨#[]⟩ cf cx w) := by
 obtain ⟨a0, a1, a2, p1, q1, z1, p2, q2, z2, p3, q3, z3, rfl⟩ := hf
 obtain ⟨b0, b1, b2, p4, q4, z4, p5, q5, z5, p6, q6, z6, rfl⟩ := hx
 go_enter Tryz.func297, Tryz.ntmps297
 go_wp2
 refine bodyPost_ret (v := .agg #[.int .i64 4, .string ⟨#[]⟩, .int .i64 0, .slice (some ⟨w.heap.size + 1 + 1 + 1, 0, none⟩) 2 2, .slice none 0 0, .slice none 0 0]) ?_ rfl ?_
 ·refine results_cell_row rfl _ _ (w.heap.size + 1 + 1) 34 _ (0, 0) _ rfl (cT ?_) Tryz.underlying34 rfl (by kernel_rfl)
  have h9 := heap_alloc_new ((w.alloc (.cells #[.int .i64 a0, .string a1, .int .i64 a2, .slice p1 q1 z1, .slice p2 q2 z2, .slice p3 q3 z3] 34)).alloc (.cells #[.int .i64 b0, .string b1, .int .i64 b2, .slice p4 q4 z4, .slice p5 q5 z5, .slice p6 q6 z6] 34)) (.cells #[.int .i64 4, .string ⟨#[]⟩, .int .i64 0, .slice (some ⟨w.heap.size + 1 + 1 + 1, 0, none⟩) 2 2, .slice none 0 0, .slice none 0 0] 34)
  simpa using h9
 ·refine ⟨w.heap.size + 1 + 1 + 1, by omega, by simp, rfl, ?_, ((((U4 w).alloc U0 _).alloc (by simp) _).alloc (by simp; omega) _).alloc (by simp; omega) _⟩
  have h9 := heap_alloc_new (((w.alloc (.cells #[.int .i64 a0, .string a1, .int .i64 a2, .slice p1 q1 z1, .slice p2 q2 z2, .slice p3 q3 z3] 34)).alloc (.cells #[.int .i64 b0, .string b1, .int .i64 b2, .slice p4 q4 z4, .slice p5 q5 z5, .slice p6 q6 z6] 34)).alloc (.cells #[.int .i64 4, .string ⟨#[]⟩, .int .i64 0, .slice (some ⟨w.heap.size + 1 + 1 + 1, 0, none⟩) 2 2, .slice none 0 0, .slice none 0 0] 34)) (.cells #[.int .i64 a0, .string a1, .int .i64 a2, .slice p1 q1 z1, .slice p2 q2 z2, .slice p3 q3 z3, .int .i64 b0, .string b1, .int .i64 b2, .slice p4 q4 z4, .slice p5 q5 z5, .slice p6 q6 z6] 34)
  simpa using h9
theorem se {cf cx : List Value} (t : ByteArray) (hf : Fx cf) (hx : Fx cx) (w : World) : Calls Tryz.prog 204 #[.string t, .agg cf.toArray, .agg cx.toArray] w (Lx 9 t cf cx w) := by
 obtain ⟨a0, a1, a2, p1, q1, z1, p2, q2, z2, p3, q3, z3, rfl⟩ := hf
 obtain ⟨b0, b1, b2, p4, q4, z4, p5, q5, z5, p6, q6, z6, rfl⟩ := hx
 go_enter Tryz.func204, Tryz.ntmps204
 go_wp2
 refine bodyPost_ret (v := .agg #[.int .i64 9, .string t, .int .i64 0, .slice (some ⟨w.heap.size + 1 + 1 + 1, 0, none⟩) 2 2, .slice none 0 0, .slice none 0 0]) ?_ rfl ?_
 ·refine results_cell_row rfl _ _ (w.heap.size + 1 + 1) 34 _ (0, 0) _ rfl (cT ?_) Tryz.underlying34 rfl (by kernel_rfl)
  have h9 := heap_alloc_new ((w.alloc (.cells #[.int .i64 a0, .string a1, .int .i64 a2, .slice p1 q1 z1, .slice p2 q2 z2, .slice p3 q3 z3] 34)).alloc (.cells #[.int .i64 b0, .string b1, .int .i64 b2, .slice p4 q4 z4, .slice p5 q5 z5, .slice p6 q6 z6] 34)) (.cells #[.int .i64 9, .string t, .int .i64 0, .slice (some ⟨w.heap.size + 1 + 1 + 1, 0, none⟩) 2 2, .slice none 0 0, .slice none 0 0] 34)
  simpa using h9
 ·refine ⟨w.heap.size + 1 + 1 + 1, by omega, by simp, rfl, ?_, ((((U4 w).alloc U0 _).alloc (by simp) _).alloc (by simp; omega) _).alloc (by simp; omega) _⟩
  have h9 := heap_alloc_new (((w.alloc (.cells #[.int .i64 a0, .string a1, .int .i64 a2, .slice p1 q1 z1, .slice p2 q2 z2, .slice p3 q3 z3] 34)).alloc (.cells #[.int .i64 b0, .string b1, .int .i64 b2, .slice p4 q4 z4, .slice p5 q5 z5, .slice p6 q6 z6] 34)).alloc (.cells #[.int .i64 9, .string t, .int .i64 0, .slice (some ⟨w.heap.size + 1 + 1 + 1, 0, none⟩) 2 2, .slice none 0 0, .slice none 0 0] 34)) (.cells #[.int .i64 a0, .string a1, .int .i64 a2, .slice p1 q1 z1, .slice p2 q2 z2, .slice p3 q3 z3, .int .i64 b0, .string b1, .int .i64 b2, .slice p4 q4 z4, .slice p5 q5 z5, .slice p6 q6 z6] 34)
  simpa using h9
theorem um {w' : World} {s u v h g : Nat} {x y : Tr} {cf cx : List Value} (k : Int) (t : ByteArray) (ht : t.size <= maxLen) (hf : TreeT w' s u h 0 x cf) (hx : TreeT w' u v h 0 y cx) (hg : w'.heap[g]? = some (.cells (cf ++ cx).toArray 34 (0, 0))) (h0 : s <= u) (h3 : u <= v) (h1 : v <= g) : TreeT w' s w'.heap.size (h + 1) 0 ⟨k, t, 0, [], [x, y], [], []⟩ [.int .i64 k, .string t, .int .i64 0, .slice (some ⟨g, 0, none⟩) 2 2, .slice none 0 0, .slice none 0 0] := by
 have au := ad hg
 have hr : RowT w' s (g + 1) h 0 (.slice (some ⟨g, 0, none⟩) 2 2) [x, y] := RowT.lit2 hf hx hg h0 h3 h1 (Nat.lt_succ_self _)
 exact nC k t ht 0 hr (RowT.nil w' (g + 1) (g + 1) h 1) (RowT.nil w' (g + 1) w'.heap.size h 2) (by omega) U0 (by omega)
section
variable {A : Arr} {b d : Nat} {w : World} {r : Option (List TokZ)}
def oB (r : Option (List TokZ)) : Bool := match r with
 | some ts => jF ts
 | none => false
theorem yx {t : TokZ} {rest : List TokZ} (h : Ends (t :: rest)) : jF (t :: rest) = (isK (t :: rest) 1 || isK (t :: rest) 2 || isK (t :: rest) 3 || (isK (t :: rest) 5 && cg (t :: rest) sPl)) := by
 unfold jF
 cases h1 : cg (t :: rest) sPl with
 | false => simp
 | true =>
  have e : t.s = sPl := by simpa [cg] using h1
  have := h.gd.mark (by rw [e]; simp [bP])
  simp [isK, this]
theorem vU {t : TokZ} {rest : List TokZ} (s : ByteArray) : cg (t :: rest) s = (t.s.toList == s.toList) := by
 cases e : cg (t :: rest) s with
 | true =>
  have : t.s = s := by simpa [cg] using e
  rw [this]; simp
 | false =>
  have : ¬ t.s = s := by simpa [cg] using e
  exact (wC this).symm
theorem vW (h : St A b w d r) : Calls Tryz.prog 296 #[.pointer (some ⟨b, 0, none⟩)] w fun e w' => e = .returned (.bool (oB r)) /\ ∃ m, w' = w.drewN m := by
 cases r with
 | none =>
  have HC : ∀ (m : Nat) (k : Int), Hid (Calls Tryz.prog 77 #[.pointer (some ⟨b, 0, none⟩), .int .i64 k] (w.drewN m) fun e w' => e = .returned (.bool false) /\ ∃ m', w' = w.drewN m') := fun m k => Calls.quiet_of (oM k (Sb.below h (br w m)))
  have au := h.lt
  clear h
  go_enter Tryz.func296, Tryz.ntmps296
  go_wp2
  go_quiet ((go_at_call 77; exact (HC _ _).out))
  go_wp2
  go_ret
  exact ⟨rfl, _, rfl⟩
 | some ts =>
  have h' : Sr A b w d ts := h
  have HC : ∀ (m : Nat) (k : Int), Hid (Calls Tryz.prog 77 #[.pointer (some ⟨b, 0, none⟩), .int .i64 k] (w.drewN m) fun e w' => e = .returned (.bool (isK ts k)) /\ ∃ m', w' = w.drewN m') := fun m k => Calls.quiet_of (nL k (h'.below (br w m)))
  obtain ⟨p, t, rest, rfl, h0, ho, hp, hl, ⟨t0, t1, t2, t3⟩, hd, h2, h3, h5⟩ := h'.head
  have au := h.lt
  have Mz : (p : Int) < A.all.length := by omega
  have x0 := cell_of h0 0
  have x1 := cell_of h0 1
  have x3 := cell_of h0 3
  simp only [U7, U8, U9] at x0 x1 x3
  rw [ho] at x0
  have ew : oB (some (t :: rest)) = (isK (t :: rest) 1 || isK (t :: rest) 2 || isK (t :: rest) 3 || (isK (t :: rest) 5 && cg (t :: rest) sPl)) := yx h5
  rw [ew, vU]
  generalize A.all.length = N at *
  generalize A.g = g at *
  have Mu : decide (N <= p) = false := by simpa using hp
  have gJ : ∀ m, Hid _ := fun m => HC m 1
  have eH : ∀ m, Hid _ := fun m => HC m 2
  have qH : ∀ m, Hid _ := fun m => HC m 3
  have Jk : ∀ m, Hid _ := fun m => HC m 5
  generalize isK (t :: rest) 1 = q1 at *
  generalize isK (t :: rest) 2 = q2 at *
  generalize isK (t :: rest) 3 = q3 at *
  generalize isK (t :: rest) 5 = q5 at *
  clear h h' h0 ho h2 h3 h5 hd t2 t3 ew HC t0
  obtain ⟨tk, tS, tl, tc⟩ := t
  simp only at t1 ⊢
  have tt : sPl.toList = [40] := by rw [ByteArray.toList_eq]; rfl
  rw [tt]
  cases q1 <;> cases q2 <;> cases q3 <;> cases q5
  all_goals
   go_enter Tryz.func296, Tryz.ntmps296
   go_wp2
   go_quiet ((go_at_call 77; first | (with_reducible exact (gJ _).out) | (with_reducible exact (eH _).out) | (with_reducible exact (qH _).out) | (with_reducible exact (Jk _).out)))
   go_wp2
   go_ret
   exact ⟨ah (by simp), _, rfl⟩
end
end Go.Proofs.YtfomndilhlgikajGreatDoor.Rd
