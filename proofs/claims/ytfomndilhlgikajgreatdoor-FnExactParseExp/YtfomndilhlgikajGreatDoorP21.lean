import Derived.Lib.AppendZeros
import Derived.Test.YtfomndilhlgikajGreatDoorP20
set_option maxHeartbeats 8000000
set_option maxRecDepth 100000
namespace Go.Proofs.YtfomndilhlgikajGreatDoor.Rd
open Go.ChangeShapes Go.WideShapes Go.ChangeAt Go.RowKit
section
variable {A : Arr} {b d : Nat} {w : World} {r : Option (List TokZ)}
def sy (r : Option (List TokZ)) : Bool := match r with
 | some ts => gn ts
 | none => false
theorem Ai {t : TokZ} {rest : List TokZ} (h : Ends (t :: rest)) : gn (t :: rest) = (isK (t :: rest) 1 || (isK (t :: rest) 5 && cg (t :: rest) sNo)) := by
 unfold gn
 cases h1 : cg (t :: rest) sNo with
 | false => simp
 | true =>
  have e : t.s = sNo := by simpa [cg] using h1
  have := h.gd.mark (by rw [e]; simp [bP])
  simp [isK, this]
theorem rq (h : St A b w d r) : Calls Tryz.prog 127 #[.pointer (some ⟨b, 0, none⟩)] w fun e w' => e = .returned (.bool (sy r)) /\ ∃ m, w' = w.drewN m := by
 cases r with
 | none =>
  have HC : ∀ (m : Nat) (k : Int), Hid (Calls Tryz.prog 77 #[.pointer (some ⟨b, 0, none⟩), .int .i64 k] (w.drewN m) fun e w' => e = .returned (.bool false) /\ ∃ m', w' = w.drewN m') := fun m k => Calls.quiet_of (oM k (Sb.below h (br w m)))
  have au := h.lt
  clear h
  go_enter Tryz.func127, Tryz.ntmps127
  go_wp2
  go_quiet ((go_at_call 77; exact (HC _ _).out))
  go_wp2
  go_ret
  exact ⟨rfl, _, rfl⟩
 | some ts =>
  have h' : Sr A b w d ts := h
  have HC : ∀ (m : Nat) (k : Int), Hid (Calls Tryz.prog 77 #[.pointer (some ⟨b, 0, none⟩), .int .i64 k] (w.drewN m) fun e w' => e = .returned (.bool (isK ts k)) /\ ∃ m', w' = w.drewN m') := fun m k => Calls.quiet_of (nL k (h'.below (br w m)))
  obtain ⟨p, t, rest, rfl, h0, ho, hp, hl, ⟨t0, t1, t2, t3⟩, hd, h2, h3, h5⟩ := h'.head
  have au := h.lt
  have Mz : (p : Int) < A.all.length := by omega
  have x0 := cell_of h0 0
  have x1 := cell_of h0 1
  have x3 := cell_of h0 3
  simp only [U7, U8, U9] at x0 x1 x3
  rw [ho] at x0
  have ew : sy (some (t :: rest)) = (isK (t :: rest) 1 || (isK (t :: rest) 5 && cg (t :: rest) sNo)) := Ai h5
  rw [ew]
  have P4 : cg (t :: rest) sNo = (t.s.toList == sNo.toList) := by
   cases e : cg (t :: rest) sNo with
   | true =>
    have : t.s = sNo := by simpa [cg] using e
    rw [this]; simp
   | false =>
    have : ¬ t.s = sNo := by simpa [cg] using e
    exact (wC this).symm
  rw [P4]
  generalize A.all.length = N at *
  generalize A.g = g at *
  have Mu : decide (N <= p) = false := by simpa using hp
  have gJ : ∀ m, Hid _ := fun m => HC m 1
  have Jk : ∀ m, Hid _ := fun m => HC m 5
  generalize isK (t :: rest) 1 = q1 at *
  generalize isK (t :: rest) 5 = q5 at *
  clear h h' h0 ho h2 h3 h5 hd t2 t3 ew HC P4 t0
  obtain ⟨tk, tS, tl, tc⟩ := t
  simp only at t1 ⊢
  have tt : sNo.toList = [95] := by rw [ByteArray.toList_eq]; rfl
  rw [tt]
  cases q1 <;> cases q5
  all_goals
   go_enter Tryz.func127, Tryz.ntmps127
   go_wp2
   go_quiet ((go_at_call 77; first | (with_reducible exact (gJ _).out) | (with_reducible exact (Jk _).out)))
   go_wp2
   go_ret
   exact ⟨ah (by simp), _, rfl⟩
theorem ld (k : Int) (s : ByteArray) (l c : Int) (w : World) : (Instr.field 122 (.agg #[.int .i64 k, .string s, .int .i64 l, .int .i64 c]) 1).run Tryz.prog w = .ok (.string s) w := by kernel_rfl
theorem sk (h : St A b w d r) : Calls Tryz.prog 128 #[.pointer (some ⟨b, 0, none⟩)] w fun e w' => ∃ s, e = .returned (.string s) /\ St A b w' d (r.bind fun ts => (eq ts).map (·.2)) /\ Mv b w w' /\ ∀ ts p, r = some ts -> eq ts = some p -> s = p.1 := by
 have au := h.lt
 have H := aa h
 have N4 := ld
 clear h
 go_enter Tryz.func128, Tryz.ntmps128
 go_wp2_with fail
 refine (rq H.out).mono ?_
 rintro e w1 ⟨rfl, m, rfl⟩
 have HM := aa (Mv.of (b := b) (br w m))
 have H1 := aa (H.out.below (br w m))
 generalize w.drewN m = w1 at *
 go_wp2_with fail
 refine (rg H1.out).mono ?_
 rintro e w2 ⟨rfl, h2, m2⟩
 have uW := aa (HM.out.trans m2)
 have H2 := aa h2
 have hE : ∀ ts, (r.bind fun ts => if sy r = true then some ts else none) = some ts -> Ends ts.tail := fun ts e => by
  cases r with
  | none => cases e
  | some ts0 =>
   have e2 : (if gn ts0 = true then some ts0 else none) = some ts := e
   split at e2
   ·rename_i hp
    cases e2
    obtain ⟨-, -, -, -, -, -, h6⟩ := (H1.out : Sr A b w1 d _)
    exact (kD hp h6).1
   ·cases e2
 clear h2 m2
 go_wp2_with fail
 refine (iZ H2.out hE).mono ?_
 rintro e w3 ⟨k, s, l, c, rfl, h3, m3, hs⟩
 have Sw := aa (uW.out.trans m3)
 have H3 := aa h3
 have HS := aa hs
 clear h3 m3 hs hE
 go_wp2
 go_ret
 refine ⟨s, rfl, ?_, Sw.out, fun ts p e1 e2 => ?_⟩
 ·have h9 := H3.out
  cases r with
  | none => exact h9
  | some ts =>
   show St A b w3 d ((eq ts).map (·.2))
   have h8 : St A b w3 d ((if gn ts = true then some ts else none).map List.tail) := h9
   unfold eq
   split
   ·rename_i hp; rw [if_pos hp] at h8; exact h8
   ·rename_i hp; rw [if_neg hp] at h8; exact h8
 ·subst e1
  unfold eq at e2
  split at e2
  ·rename_i hp
   cases e2
   refine HS.out ts ?_
   show (if gn ts = true then some ts else none) = some ts
   rw [if_pos hp]
  ·cases e2
def ms (b : Nat) (w : World) : Nat := match w.heap[b]? with
 | some (Obj.cells cs _ _) => (match (cs[3]? : Option Value), (cs[1]? : Option Value) with
  | some (Value.bool false), some (Value.int _ p) => 3001 - p.toNat
  | _, _ => 0)
 | _ => 0
theorem Sr.ms {ts : List TokZ} (h : Sr A b w d ts) : ms b w + A.all.length = 3001 + ts.length /\ ts.length <= A.all.length /\ A.all.length <= 2000 := by
 obtain ⟨p, t, rest, rfl, h0, ho, hp, hl, -, hd, h2, h3, h5⟩ := h.head
 have e : Go.Proofs.YtfomndilhlgikajGreatDoor.Rd.ms b w = 3001 - p := by
  unfold Go.Proofs.YtfomndilhlgikajGreatDoor.Rd.ms
  rw [h0]
  rfl
 have e2 : rest.length = A.all.length - (p + 1) := by rw [<- hd, List.length_drop]
 rw [e]
 simp only [List.length_cons]
 omega
theorem Sb.ms (h : Sb b w) : ms b w = 0 := by
 obtain ⟨o, n, cap, p, d, h0⟩ := h
 unfold Go.Proofs.YtfomndilhlgikajGreatDoor.Rd.ms
 rw [h0]
 rfl
theorem AT : (Tryz.prog.info? 9).map (fun i => (i.zero, i.size, i.bytes)) = some (some (.string ⟨#[]⟩), 1, 16) := by kernel_rfl
theorem xC {T : TypeId} (hT : Tryz.prog.underlying T = some (.slice 9)) {w : World} {s u : Nat} {v : Value} {xs : List ByteArray} {t : ByteArray} (k : StrT w s u v xs) (ht : t.size <= maxLen) (hu : s <= u) (hw : u <= w.heap.size) (hn : xs.length + 1 <= 1000000) :
 ∃ o n cp o' c' w', v = .slice o n cp /\ (Builtin.append_ #[T, T] T #[.slice o n cp, .slice (some ⟨w.heap.size, 0, none⟩) 1 1]).run Tryz.prog (w.alloc (.cells #[.string t] 9)) = .ok (.slice o' (xs.length + 1) c') w' /\ StrT w' s w'.heap.size (.slice o' (xs.length + 1) c') (xs ++ [t]) /\ Keeps (fun b => b < w.heap.size /\ (b < s \/ u <= b)) w w' := by
 obtain ⟨i0, hi, he⟩ := Option.map_eq_some_iff.1 AT
 simp only [Prod.mk.injEq] at he
 exact k.put hT hi he.1 he.2.1 he.2.2 rfl (by decide) ht hu hw hn
theorem gh {b s u : Nat} {w w' w1 : World} (h : Keeps (fun k => k < w.heap.size /\ (k < s \/ u <= k)) w w') (hs : w1.heap.size <= s) (hm : Mv b w1 w) : Mv b w1 w' :=
 ⟨h.os.trans hm.os, h.tape.trans hm.tape, h.output.trans hm.output, Nat.le_trans hm.size h.size, fun k hk => (h.block k ⟨Nat.lt_of_lt_of_le hk.1 hm.size, .inl (by have := hk.1; omega)⟩).trans (hm.block k hk)⟩
theorem St.keeps {A : Arr} {b d s u : Nat} {w w' : World} {r : Option (List TokZ)} (h : St A b w d r) (hk : Keeps (fun k => k < w.heap.size /\ (k < s \/ u <= k)) w w') (hb : b < s) (hA : ∀ ts, r = some ts -> A.g < s) : St A b w' d r := by
 have au := h.lt
 cases r with
 | none =>
  obtain ⟨o, n, cap, p, d, h0⟩ := h
  exact ⟨o, n, cap, p, d, (hk.block b ⟨au, .inl hb⟩).trans h0⟩
 | some ts =>
  have ec := Sr.glt h
  obtain ⟨p, h0, h1, h2, h3⟩ := h
  exact ⟨p, (hk.block b ⟨au, .inl hb⟩).trans h0, h1, cw h2 hk.size fun _ => hk.block A.g ⟨ec, .inl (hA ts rfl)⟩, h3⟩
theorem uF (h : St A b w d r) : Calls Tryz.prog 79 #[.pointer (some ⟨b, 0, none⟩)] w fun e w' => ∃ o n c, e = .returned (.slice o n c) /\ St A b w' d (r.map fun ts => (aY ts).2) /\ Mv b w w' /\ ∀ ts, r = some ts -> StrT w' w.heap.size w'.heap.size (.slice o n c) (aY ts).1 := by
 have au := h.lt
 have ec := h.glt
 have H := aa h
 have HG := aa ec
 clear h ec
 have aq : Hid (Below w.heap.size w (w.alloc (.cells #[] 9))) := (U4 w).alloc U0 _
 go_enter Tryz.func79, Tryz.ntmps79
 go_wp2
 go_loopw [3] (fun t3 wr => ∃ (cur : Option (List TokZ)) (acc : List ByteArray), StrT wr w.heap.size wr.heap.size t3 acc /\ St A b wr d cur /\ Mv b w wr /\ acc.length + (cur.getD []).length <= (r.getD []).length /\ (r = none ↔ cur = none) /\ ∀ ts c, r = some ts -> cur = some c -> (aY ts).1 = acc ++ (aY c).1 /\ (aY ts).2 = (aY c).2) (fun _ wr => ms b wr)
 case atStart =>
  refine ⟨r, [], StrT.empty (heap_alloc_new w _) U0 (by simp), H.out.below aq.out, Mv.of aq.out, by simp, Iff.rfl, fun ts c e1 e2 => ?_⟩
  rw [e1] at e2
  cases e2
  exact ⟨rfl, rfl⟩
 case round =>
  obtain ⟨cur, acc, cF, fE, hmv, bK, hiff, lj⟩ := hrel
  have HR := aa cF
  have HS := aa fE
  have HM := aa hmv
  have HL := aa bK
  have HI := aa hiff
  have HE := aa lj
  obtain ⟨o1, c1, rfl, -⟩ := cF.form
  have J2 := hmv.size
  clear cF fE hmv bK hiff lj
  go_wp2_with fail
  refine (rq HS.out).mono ?_
  rintro e w1 ⟨rfl, m, rfl⟩
  have bS := br wr m
  have uS := aa (HR.out.keep (aw bS U0))
  have eI := aa (HS.out.below bS)
  have Ct := aa (HM.out.trans (Mv.of bS))
  have iN : (wr.drewN m).heap.size = wr.heap.size := rfl
  have Mt : Hid (ms b (wr.drewN m) = ms b wr) := rfl
  generalize wr.drewN m = w1 at *
  clear bS
  cases hp : sy cur with
  | false =>
   have HP := aa hp
   clear hp
   go_wp2
   go_ret
   refine ⟨_, _, _, rfl, ?_, Ct.out, fun ts e => ?_⟩
   ·have h9 := eI.out
    cases cur with
    | none =>
     have : r = none := HI.out.2 rfl
     subst this
     exact h9
    | some c =>
     cases r with
     | none => exact absurd (HI.out.1 rfl) (by simp)
     | some ts =>
      have Jd : aY c = ([], c) := by
       obtain ⟨t, q, rfl⟩ := (h9 : Sr A b w1 d c).choose_spec.2.2.2.2.2.form
       have : gn (t :: q) = false := HP.out
       rw [aY, if_neg (by rw [this]; decide)]
      obtain ⟨e1, e2⟩ := HE.out ts c rfl rfl
      rw [Jd] at e2
      show St A b w1 d (some (aY ts).2)
      rw [e2]
      exact h9
   ·subst e
    cases cur with
    | none => exact absurd (HI.out.2 rfl) (by simp)
    | some c =>
     have Jd : aY c = ([], c) := by
      obtain ⟨t, q, rfl⟩ := (eI.out : Sr A b w1 d c).choose_spec.2.2.2.2.2.form
      have : gn (t :: q) = false := HP.out
      rw [aY, if_neg (by rw [this]; decide)]
     obtain ⟨e1, e2⟩ := HE.out ts c rfl rfl
     rw [Jd, List.append_nil] at e1
     rw [e1]
     have := uS.out
     rw [<- iN] at this
     exact this
  | true =>
   cases cur with
   | none => cases hp
   | some c =>
   obtain ⟨t, q, rfl⟩ := (eI.out : Sr A b w1 d c).choose_spec.2.2.2.2.2.form
   have Dv : gn (t :: q) = true := hp
   have aC : Ends (t :: q) := (eI.out : Sr A b w1 d (t :: q)).choose_spec.2.2.2.2.2
   have Cr : eq (t :: q) = some (t.s, q) := by rw [eq, if_pos Dv]; rfl
   have cI : t.s.size <= 1500 := aC.gd.size
   have LL := aa Dv
   have CJ := aa Cr
   obtain ⟨io, fH⟩ := kD Dv aC
   have xJ := aa io
   clear hp Dv aC Cr io fH
   cases r with
   | none => exact absurd (HI.out.1 rfl) (by simp)
   | some ts =>
   have bK : acc.length + (q.length + 1) <= ts.length := by simpa using HL.out
   have om : ts.length <= 2000 := by
    obtain ⟨-, h1, h2⟩ := (H.out : Sr A b w d ts).ms
    omega
   go_wp2_with fail
   refine (sk eI.out).mono ?_
   rintro e w2 ⟨s, rfl, h2, m2, hs⟩
   have e2 : s = t.s := hs _ _ rfl CJ.out
   subst e2
   have H2 : Hid (Sr A b w2 d q) := by
    have h3 : St A b w2 d ((eq (t :: q)).map (·.2)) := h2
    rw [CJ.out] at h3
    exact h3
   have ON := aa (uS.out.keep (bv m2 au (by omega)))
   have uW := aa (Ct.out.trans m2)
   have iM := m2.size
   obtain ⟨o2, n2, cp, o', c', w3, e3, hr3, hrow3, d9⟩ := xC Tryz.underlying48 (t := t.s) ON.out (by unfold maxLen; omega) (by omega) (by omega) (by omega)
   cases e3
   have dh := aa hrow3
   have fA := aa d9
   have I8 := aa hr3
   clear h2 m2 hs hrow3 d9 hr3
   go_wp2_with (at_builtin; refine Lib.wpList_append_run _ rfl _ _ _ _ rfl _ _ rfl rfl _ _ I8.out ?_)
   go_wp2
   go_roundw
   case rel =>
    refine ⟨some q, acc ++ [t.s], ?_, ?_, ?_, ?_, ?_, ?_⟩
    ·have := dh.out; simpa using this
    ·exact St.keeps (r := some q) H2.out fA.out au (fun _ _ => HG.out ts rfl)
    ·exact gh fA.out U0 uW.out
    ·simp; omega
    ·simp
    ·intro ts' c' e1 e2
     cases e1
     cases e2
     obtain ⟨e3, e4⟩ := HE.out ts (t :: q) rfl rfl
     have LZ : aY (t :: q) = (t.s :: (aY q).1, (aY q).2) := by rw [aY, if_pos LL.out]
     rw [LZ] at e3 e4
     exact ⟨by rw [e3]; simp, e4⟩
   case measure =>
    obtain ⟨a1, a2, a3⟩ := (St.keeps (r := some q) H2.out fA.out au (fun _ _ => HG.out ts rfl) : Sr A b w3 d q).ms
    obtain ⟨b1, b2, b3⟩ := (eI.out : Sr A b w1 d (t :: q)).ms
    have := Mt.out
    simp only [List.length_cons] at b1 b2
    omega
end
end Go.Proofs.YtfomndilhlgikajGreatDoor.Rd
