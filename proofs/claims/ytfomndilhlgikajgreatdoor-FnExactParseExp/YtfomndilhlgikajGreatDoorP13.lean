import Derived.Test.YtfomndilhlgikajGreatDoorP12
set_option maxHeartbeats 8000000
set_option maxRecDepth 100000
namespace Go.Proofs.YtfomndilhlgikajGreatDoor
open Go.RowKit
def gt (t : TokP) : List Value := [.int .i64 (t.k : Nat), .string ⟨t.s.toArray⟩, .int .i64 (t.line : Nat), .int .i64 (t.col : Nat)]
def eV (ts : List TokP) : List Value := ts.flatMap gt
theorem iF (ts : List TokP) (t : TokP) : eV (ts ++ [t]) = eV ts ++ gt t := by
 unfold eV
 rw [List.flatMap_append, List.flatMap_cons, List.flatMap_nil, List.append_nil]
def cu (L : List UInt8) : List TokP := (lu L).getD []
def dP (L : List UInt8) : Bool := (lu L).isSome
theorem tJ {w : World} {base : Nat} {e : TypeId} {size : Nat} {v : Value} {n : Nat} {xs : List Value} (h : w.ownsRow base e size v n xs) {k : Nat} {s : ByteArray} {p : Nat} (hk : w.heap[k]? = some (.stringIter s p)) (q : Nat) : (w.iterAt k s q).ownsRow base e size v n xs := by
 obtain ⟨hl, hc⟩ := h
 refine ⟨hl, ?_⟩
 rcases hc with hc | ⟨g, cap, cur, hv, hb, hg, rest⟩
 ·exact Or.inl hc
 ·have Uc : g ≠ k := by
   intro e1
   rw [e1, hk] at hg
   cases hg
  exact Or.inr ⟨g, cap, cur, hv, hb, (Lib.iterAt_other w k g s q Uc).trans hg, rest⟩
theorem vO {w w' : World} {base : Nat} {e : TypeId} {size : Nat} {v : Value} {n : Nat} {xs : List Value} (h : w.ownsRow base e size v n xs) {C : Nat} (hb : Below C w w') (hC : ∀ g, v.ownBlock = some g -> g < C) : w'.ownsRow base e size v n xs := by
 obtain ⟨hl, hc⟩ := h
 refine ⟨hl, ?_⟩
 rcases hc with hc | ⟨g, cap, cur, hv, bS, hg, rest⟩
 ·exact Or.inl hc
 ·refine Or.inr ⟨g, cap, cur, hv, bS, ?_, rest⟩
  rw [hb.block g (hC g (by rw [hv]; rfl))]
  exact hg
theorem kA {w : World} {base : Nat} {e : TypeId} {size : Nat} {v : Value} {n : Nat} {xs : List Value} (h : w.ownsRow base e size v n xs) : ∀ g, v.ownBlock = some g -> g < w.heap.size /\ base <= g := by
 intro g hg
 rcases h.2 with ⟨rfl, _⟩ | ⟨g', cap, cur, rfl, hb, hgg, _⟩
 ·cases hg
 ·have : g' = g := Option.some.inj hg
  subst this
  exact ⟨(Array.getElem?_eq_some_iff.1 hgg).1, hb⟩
theorem sC {w : World} {base : Nat} {e : TypeId} {size : Nat} {v : Value} {n : Nat} {xs : List Value} (h : w.ownsRow base e size v n xs) {k : Nat} {s : ByteArray} {p : Nat} (hk : w.heap[k]? = some (.stringIter s p)) : some k ≠ v.ownBlock := by
 intro hg
 rcases h.2 with ⟨rfl, _⟩ | ⟨g', cap, cur, rfl, hb, hgg, _⟩
 ·cases hg
 ·have : k = g' := Option.some.inj hg
  subst this
  rw [hk] at hgg
  cases hgg
theorem da (w : World) (e : TypeId) (size : Nat) : (w.alloc (.cells #[] e)).ownsRow w.heap.size e size (.slice (some ⟨w.heap.size, 0, none⟩) 0 0) 0 [] := by
 refine ⟨by simp, Or.inr ⟨w.heap.size, 0, #[], rfl, Nat.le_refl _, ?_, Nat.le_refl _, Nat.zero_le _, by simp, by simp⟩⟩
 exact heap_alloc_new w _
theorem fM {w : World} {base base' : Nat} {e : TypeId} {size : Nat} {v : Value} {n : Nat} {xs : List Value} (h : w.ownsRow base' e size v n xs) (hb : base <= base') : w.ownsRow base e size v n xs := by
 obtain ⟨hl, hc⟩ := h
 refine ⟨hl, ?_⟩
 rcases hc with hc | ⟨g, cap, cur, hv, bS, rest⟩
 ·exact Or.inl hc
 ·exact Or.inr ⟨g, cap, cur, hv, Nat.le_trans hb bS, rest⟩
theorem lV {w w' : World} {k : Nat} {o : Obj} (h : w.heap[k]? = some o) (hb : Below w.heap.size w w') : w'.heap[k]? = some o :=
 (hb.block k (Array.getElem?_eq_some_iff.1 h).1).trans h
theorem jx {w w' : World} {base : Nat} {e : TypeId} {size : Nat} {v : Value} {n : Nat} {xs : List Value} (h : w.ownsRow base e size v n xs) (hb : Below w.heap.size w w') : w'.ownsRow base e size v n xs :=
 vO h hb fun g hg => (kA h g hg).1
theorem wv (s : ByteArray) (a b : Nat) : (s.extract a b).size <= s.size := by
 rw [ByteArray.size_extract]; omega
theorem pe : (Tryz.prog.info? 122).map (fun i => (i.zero, i.size, i.bytes)) = some (some (.agg #[.int .i64 0, .string ⟨#[]⟩, .int .i64 0, .int .i64 0]), 4, 40) := by kernel_rfl
theorem fk (s : ByteArray) (p : Nat) : (s.extract p s.size).data.toList = s.data.toList.drop p := by
 rw [ByteArray.data_extract, Array.toList_extract]
 rw [List.extract_eq_take_drop]
 rw [List.take_of_length_le (by rw [List.length_drop, Array.length_toList]; exact Nat.le_refl _)]
theorem iw (s : ByteArray) (p n : Nat) : s.extract p (p + n) = ⟨((s.data.toList.drop p).take n).toArray⟩ := by
 apply ByteArray.ext
 apply Array.toList_inj.1
 rw [ByteArray.data_extract, Array.toList_extract, List.extract_eq_take_drop, Nat.add_sub_cancel_left]
theorem gM (s : ByteArray) (p : Nat) : (s.extract p s.size).size = s.size - p := by
 rw [<- ai, fk, List.length_drop, ai]
theorem iI (s : ByteArray) (i : Nat) : s.get! i = s.data.toList.getD i 0 := by
 by_cases h : i < s.size
 ·rw [uh s i h, bE s i h]
 ·rw [List.getD_eq_getElem?_getD, List.getElem?_eq_none (by rw [ai]; omega)]
  show s.data[i]! = _
  rw [getElem!_neg s.data i h]
  rfl
theorem tW (s : ByteArray) (p k : Nat) : (s.extract p s.size).get! k = s.get! (p + k) := by
 rw [iI, iI, fk, cV]
theorem pk (s : ByteArray) (p : Nat) : Utf8.decode (s.extract p s.size) 0 = Utf8.decode s p := by
 have au : ∀ k, (k < s.size - p) = (p + k < s.size) := fun k => propext ⟨fun h => by omega, fun h => by omega⟩
 simp only [Utf8.decode, Nat.zero_add, tW, gM s p, au]
theorem xr (s : ByteArray) (p : Nat) : Lib.hasPrefix (s.extract p s.size).data.toList [45, 45] = gI (s.data.toList.drop p) := by
 rw [fQ, fk]; rfl
theorem DU (s : ByteArray) (pos : Nat) (h : pos < s.size) : ∃ r d : Nat, Utf8.decode s pos = (r, d) /\ 1 <= d /\ ((s.data.toList.getD pos 0).toNat < 128 -> d = 1) /\ pos + d <= s.data.toList.length /\ (∀ i, 1 <= i -> i < d -> 128 <= (s.data.toList.getD (pos + i) 0).toNat) /\ (∀ m : UInt8, m.toNat < 128 -> ((r : Int) == (m.toNat : Int)) = (s.data.toList.getD pos 0 == m)) := by
 have vi := nR s pos h
 rw [bE s pos h, ai]
 refine ⟨(Utf8.decode s pos).1, (Utf8.decode s pos).2, rfl, vi.1, ?_, vi.2.1, fun i a b => ?_, fun m hm => ?_⟩
 ·intro ha
  rw [decode_ascii s pos h ha]
 ·rw [<- iI]
  exact vi.2.2 i a b
 ·rw [Bool.eq_iff_iff, beq_iff_eq, beq_iff_eq]
  by_cases ha : (s[pos]'h).toNat < 128
  ·rw [decode_ascii s pos h ha]
   constructor
   ·intro e; exact UInt8.toNat_inj.1 (by omega)
   ·intro e; rw [e]
  ·have hd := (decode_high s pos h (by omega)).1
   constructor
   ·intro e; omega
   ·intro e
    rw [e] at ha
    exact absurd hm ha
theorem vA (s : ByteArray) (pos : Nat) (w : World) (hs : s.size <= maxLen) (h0 : pos < s.size) (r d : Nat) (hdec : Utf8.decode s pos = (r, d)) :
 Calls Tryz.prog 185 #[.int .i32 r, .string (s.extract pos s.size)] w fun e w' => ∃ n : Nat, e = .returned (.tuple #[.int .i64 (cr (s.data.toList.drop pos) : Nat), .int .i64 n]) /\ (cr (s.data.toList.drop pos) ≠ 0 -> n = bA (s.data.toList.drop pos)) /\ Below w.heap.size w w' := by
 have h := ur (s.extract pos s.size) w (by rw [gM]; exact Nat.le_trans (Nat.sub_le _ _) hs) (by rw [gM]; omega) r d (by rw [pk]; exact hdec)
 rw [fk] at h
 exact h
theorem Ab (s : ByteArray) (pos : Nat) (w : World) (hs : s.size <= maxLen) :
 Calls Tryz.prog 183 #[.string (s.extract pos s.size), .func (.func 184) #[] #[]] w fun e w' => e = .returned (.int .i64 (cE (s.data.toList.drop pos) : Nat)) /\ Below w.heap.size w w' := by
 have h := yM (s.extract pos s.size) w (by rw [gM]; exact Nat.le_trans (Nat.sub_le _ _) hs)
 rw [fk] at h
 exact h
theorem eD {v : Value} {a b : Bool} (h : a = b) : Ending.returned (.tuple #[v, .bool a]) = .returned (.tuple #[v, .bool b]) := by rw [h]
theorem BG (s : ByteArray) (pos n : Nat) (hn : n = bA (s.data.toList.drop pos)) : gt (jL s.data.toList pos) = [.int .i64 (cr (s.data.toList.drop pos) : Nat), .string (s.extract pos (pos + n)), .int .i64 (bN s.data.toList pos : Nat), .int .i64 ((pos : Int) - (db s.data.toList pos : Nat) + 1)] := by
 have hb := mu s.data.toList pos
 rw [gt, jL, iw, hn]
 simp only [List.cons.injEq, Value.int.injEq, true_and, and_true]
 omega
theorem ji (s : ByteArray) (pos n : Nat) (h : pos + n <= s.size) (W : World) : (Instr.slice 9 (.string s) (some (.int .i64 (pos : Int))) (some (.int .i64 ((pos : Int) + (n : Int)))) none).run Tryz.prog W = .ok (.string (s.extract pos (pos + n))) W := by
 have h1 := run_slice_string (P := Tryz.prog) W 9 s .i64 .i64 (pos : Int) ((pos : Int) + (n : Int)) Tryz.underlying9 (by omega) (by omega) (by omega)
 rw [show ((pos : Int) + (n : Int)).toNat = pos + n by omega, Int.toNat_natCast] at h1
 exact h1
theorem jt (W : World) (a b c d : Value) (t : TypeId) : ∀ (j : Nat) (u : Value), [a, b, c, d][j]? = some u -> (W.alloc (.cells #[a, b, c, d] t)).cell? ((⟨W.heap.size, 0, none⟩ : Addr).add j) = some u := by
 intro j u hj
 match j, hj with
 | 0, hj => simp at hj; subst hj; simp [Addr.add]
 | 1, hj => simp at hj; subst hj; simp [Addr.add]
 | 2, hj => simp at hj; subst hj; simp [Addr.add]
 | 3, hj => simp at hj; subst hj; simp [Addr.add]
 | j + 4, hj => simp at hj
theorem uP (s : ByteArray) (w : World) (hs : s.size <= maxLen) :
 Calls Tryz.prog 133 #[.string s] w fun e w' => ∃ v, e = .returned (.tuple #[v, .bool (dP s.data.toList)]) /\ w'.ownsRow w.heap.size 122 4 v (cu s.data.toList).length (eV (cu s.data.toList)) /\ Below w.heap.size w w' := by
 have Q7 : s.size <= 9223372036854775807 := hs
 by_cases hl : (1500 : Int) < s.size
 ·have HR := aa (qS s.data.toList (by rw [ai]; omega))
  go_enter Tryz.func133, Tryz.ntmps133
  go_wp2
  go_ret2
  refine ⟨.slice (some ⟨w.heap.size, 0, none⟩) 0 0, eD ?_, ?_, (U4 _).alloc U0 _⟩
  ·rw [dP, HR.out]; rfl
  ·rw [cu, HR.out]; exact da w _ 4
 have s8 : s.size <= 1500 := by omega
 go_enter Tryz.func133, Tryz.ntmps133
 go_wp2_with fail
 go_loopw [4, 5, 6, 7] (fun v t5 t6 t7 wr => ∃ (pos dn ln bg : Nat) (ts : List TokP), t5 = .int .i64 ln /\ t6 = .int .i64 bg /\ t7 = .int .i64 dn /\ wr.heap[w.heap.size + 1]? = some (.stringIter s pos) /\ wr.ownsRow w.heap.size 122 4 v ts.length (eV ts) /\ Below w.heap.size w wr /\ Inv s.data.toList pos dn ts /\ ln = bN s.data.toList pos /\ bg = db s.data.toList pos) (fun _ _ _ _ wr => s.size - wr.iterPos (w.heap.size + 1))
 case atStart =>
  refine ⟨0, 0, 1, 0, [], rfl, rfl, rfl, ?_, ?_, ?_, yS _, rfl, rfl⟩
  ·have := World.iter_heap (w.alloc (.cells #[] 122)) s 0
   simpa using this
  ·exact (da w _ 4).alloc _
  ·exact ((U4 w).alloc U0 _).alloc (by simp) _
 case round =>
  obtain ⟨pos, dn, ln, bg, ts, rfl, rfl, rfl, hit, hown, cA, hinv, tp, hbg⟩ := hrel
  have cI : w.heap.size + 1 < wr.heap.size := (Array.getElem?_eq_some_iff.1 hit).1
  have zi := hinv.hp
  have L7 := hinv.hd
  rw [ai] at zi L7
  have NC := pR s.data.toList pos
  have P5 := mu s.data.toList pos
  rw [<- tp] at NC
  rw [<- hbg] at P5
  have HI := aa hinv
  have HO := aa hown
  have HB := aa cA
  have ma := aa tp
  have rU := aa hbg
  clear hinv hown cA tp hbg
  by_cases hp : pos < s.size
  ·obtain ⟨r, d, hdec, jq, hda, CN, hdb, hrm⟩ := DU s pos hp
   have zr : ∀ ty, (Instr.next (.pointer (some ⟨w.heap.size + 1, 0, none⟩)) true ty).run Tryz.prog wr = _ := fun ty => kJ wr (w.heap.size + 1) s pos r d ty hit hp hdec
   have fi := aa (Lib.iterAt_heap wr (w.heap.size + 1) s pos (pos + d) hit)
   have bZ := aa (Lib.below_iterAt HB.out (k := w.heap.size + 1) (by omega) s (pos + d))
   have oc := aa (tJ HO.out hit (pos + d))
   have HD := aa hdec
   have HA := aa hda
   have TM := aa hdb
   have Ue := aa CN
   have wQ := hrm 10 (by decide)
   have Hi := hrm 32 (by decide)
   have Ly : ((10 : UInt8).toNat : Int) = 10 := rfl
   have PI : ((32 : UInt8).toNat : Int) = 32 := rfl
   rw [Ly] at wQ
   rw [PI] at Hi
   clear hdec hda hdb CN hrm Ly PI
   have bK : pos < s.data.toList.length := by rw [ai]; exact hp
   cases hc10 : (s.data.toList.getD pos 0 == 10)
   ·have hc : s.data.toList.getD pos 0 ≠ 10 := by simpa using hc10
    rw [hc10] at wQ
    have HC := aa hc
    clear hc hc10
    by_cases au : (pos : Int) < dn
    ·clear Hi
     go_wp2
     go_roundw
     case rel =>
      obtain ⟨_, hinv2, iT, aX⟩ := FG HI.out (by omega) jq HA.out Ue.out TM.out
      exact ⟨pos + d, dn, ln, bg, ts, rfl, rfl, rfl, fi.out, oc.out, bZ.out, hinv2, ma.out.trans iT.symm, rU.out.trans aX.symm⟩
     case measure =>
      rw [aV _ _ s _ fi.out, aV _ _ s _ hit]
      omega
    ·cases hc32 : (s.data.toList.getD pos 0 == 32)
     ·have wL : s.data.toList.getD pos 0 ≠ 32 := by simpa using hc32
      rw [hc32] at Hi
      have eH := aa wL
      clear wL hc32
      cases hdash : gI (s.data.toList.drop pos)
      ·have IW := aa hdash
       clear hdash
       go_wp2_with fail
       refine (Tryz.strings_HasPrefix _ _ _).mono ?_
       rintro e w' ⟨rfl, rfl⟩
       rw [show Lib.hasPrefix (s.extract pos s.size).data.toList [45, 45] = false from (xr s pos).trans IW.out]
       go_wp2_with fail
       refine (vA s pos _ hs hp r d HD.out).mono ?_
       rintro e w1 ⟨n, rfl, hn, bS⟩
       have HN := aa hn
       have aR := aa bS
       clear hn bS
       generalize wN : cr (s.data.toList.drop pos) = kk
       rw [wN] at HN
       have vq := aa wN
       clear wN
       by_cases hk : kk = 0
       ·subst hk
        have HR := aa (DG HI.out (by omega) bK HC.out eH.out IW.out vq.out)
        go_wp2
        go_ret2
        refine ⟨.slice (some ⟨w1.heap.size, 0, none⟩) 0 0, eD ?_, ?_, ?_⟩
        ·rw [dP, HR.out]; rfl
        ·rw [cu, HR.out]
         exact fM (da w1 _ 4) (Nat.le_trans bZ.out.size aR.out.size)
        ·exact (bZ.out.trans (aR.out.mono bZ.out.size)).alloc (Nat.le_trans bZ.out.size aR.out.size) _
       ·have Jt : ((kk : Int) == 0) = false := by simp; omega
        have mQ := HN.out hk
        have wN := vq.out
        obtain ⟨iL, _⟩ := jH (s.data.toList.drop pos) (dm _ pos bK) (by rw [wN]; exact hk)
        have jn := eX (s.data.toList.drop pos) (dm _ pos bK)
        rw [<- mQ] at iL jn
        rw [List.length_drop, ai] at iL
        have za : pos + n <= s.size := by omega
        have wM := aa mQ
        clear mQ wN iL
        obtain ⟨i0, hi, ll, iN, iM⟩ := info_parts pe
        have Iy := aa (Ee HI.out (by omega) bK HC.out eH.out IW.out (by rw [vq.out]; exact hk))
        have zl := aa (BG s pos n wM.out)
        rw [vq.out, <- ma.out, <- rU.out] at zl
        have hd : d = 1 := HA.out (by
         have Ci := ((jH (s.data.toList.drop pos) (dm _ pos bK) (by rw [vq.out]; exact hk)).2 0 (by rw [<- wM.out]; omega)).1
         rw [cV, Nat.add_zero] at Ci
         exact Ci)
        subst hd
        have E1 := aa (lV fi.out aR.out)
        have lK := aa (jx oc.out aR.out)
        have vj := aa (bZ.out.trans (aR.out.mono bZ.out.size))
        have In := HI.out.few
        have Km : ts.length <= 1500 := by omega
        clear In
        have zC := ji s pos n za
        go_wp2_with fail
        refine (nK _ _ (Nat.le_trans (wv s _ _) s8)).mono ?_
        rintro e w2 ⟨rfl, aX⟩
        have IK := aa (lV E1.out aX)
        have CZ := aa (jx lK.out aX)
        have EZ := aa (vj.out.trans (aX.mono vj.out.size))
        clear aX
        go_wp2_with (at_builtin; refine wpList_append_own _ rfl (.tmp 34) (.tmp 49) 60 rfl w.heap.size 122 i0 _ 4 40 Tryz.underlying60 hi ll iN iM rfl (by decide) _ ts.length (eV ts) rfl (CZ.out.alloc _) ⟨w2.heap.size, 0, none⟩ 1 1 [.int .i64 kk, .string (s.extract pos (pos + n)), .int .i64 ln, .int .i64 ((pos : Int) - bg + 1)] rfl rfl ?c1 ?c2 ?c3 ?c4 ?c5 ?_)
        case c1 => exact jt w2 _ _ _ _ _
        case c2 =>
         intro u hu
         simp at hu
         rcases hu with rfl | rfl | rfl | rfl <;> rfl
        case c3 => unfold maxLen; omega
        case c4 => omega
        case c5 => have := EZ.out.size; simp; omega
        intro v' w3 hown5 hgrow _
        have qG := aa (((EZ.out.alloc (by have := EZ.out.size; omega) _).grown hgrow (by have := EZ.out.size; simp; omega) (fun k hk => (kA CZ.out k hk).2)))
        have KV : Hid (w3.heap[w.heap.size + 1]? = some (.stringIter s (pos + 1))) := by
         have Kb := (Array.getElem?_eq_some_iff.1 IK.out).1
         refine aa ((hgrow.block _ (by simp; omega) (sC CZ.out IK.out)).trans ?_)
         rw [Below.heap_alloc _ _ _ Kb]
         exact IK.out
        rw [<- zl.out, <- iF] at hown5
        have p8 := aa hown5
        clear hown5 hgrow
        go_wp2
        go_roundw
        case rel =>
         have iT := jZ bK HC.out
         have Ke : (ts ++ [jL s.data.toList pos]).length = ts.length + 1 := by simp
         refine ⟨pos + 1, pos + n, ln, bg, ts ++ [jL s.data.toList pos], rfl, rfl, by go_num, KV.out, ?_, qG.out, ?_, ma.out.trans iT.1.symm, rU.out.trans iT.2.symm⟩
         ·rw [Ke]; exact p8.out
         ·rw [wM.out]; exact Iy.out
        case measure =>
         rw [aV _ _ s _ KV.out, aV _ _ s _ hit]
         omega
      ·have IW := aa hdash
       clear hdash
       have mR := tB s.data.toList pos bK
       rw [ai] at mR
       have Iy := aa (yg HI.out (by omega) IW.out)
       have hd : d = 1 := HA.out (by rw [(kT _ pos IW.out).2]; decide)
       subst hd
       go_wp2_with fail
       refine (Tryz.strings_HasPrefix _ _ _).mono ?_
       rintro e w' ⟨rfl, rfl⟩
       rw [show Lib.hasPrefix (s.extract pos s.size).data.toList [45, 45] = true from (xr s pos).trans IW.out]
       go_wp2_with fail
       refine (Ab s pos _ hs).mono ?_
       rintro e w1 ⟨rfl, bS⟩
       have E1 := aa (lV fi.out bS)
       have lK := aa (jx oc.out bS)
       have vj := aa (bZ.out.trans (bS.mono bZ.out.size))
       clear bS
       generalize cE (s.data.toList.drop pos) = al at *
       go_wp2
       go_roundw
       case rel =>
        have iT := jZ bK HC.out
        exact ⟨pos + 1, pos + al, ln, bg, ts, rfl, rfl, by go_num, E1.out, lK.out, vj.out, Iy.out, ma.out.trans iT.1.symm, rU.out.trans iT.2.symm⟩
       case measure =>
        rw [aV _ _ s _ E1.out, aV _ _ s _ hit]
        omega
     ·have hc : s.data.toList.getD pos 0 = 32 := by simpa using hc32
      rw [hc32] at Hi
      have qH := aa hc
      clear hc hc32
      go_wp2
      go_roundw
      case rel =>
       have hd : d = 1 := HA.out (by rw [qH.out]; decide)
       subst hd
       have iT := jZ bK HC.out
       exact ⟨pos + 1, dn, ln, bg, ts, rfl, rfl, rfl, fi.out, oc.out, bZ.out, yc HI.out (by omega) bK qH.out, ma.out.trans iT.1.symm, rU.out.trans iT.2.symm⟩
      case measure =>
       rw [aV _ _ s _ fi.out, aV _ _ s _ hit]
       omega
   ·have hc : s.data.toList.getD pos 0 = 10 := by simpa using hc10
    rw [hc10] at wQ
    have HC := aa hc
    clear hc hc10 Hi
    go_wp2
    go_roundw
    case rel =>
     have hd : d = 1 := HA.out (by rw [HC.out]; decide)
     subst hd
     refine ⟨pos + 1, dn, ln + 1, pos + 1, ts, by go_num, by go_num, rfl, fi.out, oc.out, bZ.out, GG HI.out bK HC.out, ?_, ?_⟩
     ·rw [(oy bK HC.out).1, <- ma.out]
     ·rw [(oy bK HC.out).2]
    case measure =>
     rw [aV _ _ s _ fi.out, aV _ _ s _ hit]
     omega
  ·have JY : pos = s.size := by omega
   have Je := aa (Es HI.out (by rw [ai]; exact hp))
   have zr : ∀ ty, (Instr.next (.pointer (some ⟨w.heap.size + 1, 0, none⟩)) true ty).run Tryz.prog wr = _ := fun ty => Lib.run_next_end_at wr (w.heap.size + 1) s pos ty hit hp
   obtain ⟨i0, hi, ll, iN, iM⟩ := info_parts pe
   have In := HI.out.few
   have Km : ts.length <= 1500 := by omega
   clear In
   have NO := aa JY
   clear JY
   have p9 := HB.out.size
   have Ho : Hid (gt ⟨6, [], bN s.data.toList s.data.toList.length, s.data.toList.length - db s.data.toList s.data.toList.length + 1⟩ = [.int .i64 6, .string ⟨#[]⟩, .int .i64 ln, .int .i64 ((s.size : Int) - bg + 1)]) := by
    refine aa ?_
    rw [gt, ai, ma.out, rU.out, NO.out]
    simp only [List.cons.injEq, Value.int.injEq, true_and, and_true]
    have := mu s.data.toList s.size
    first | omega | exact ⟨rfl, by omega⟩ | exact ⟨rfl, rfl, by omega⟩
   go_wp2_with (at_builtin; refine wpList_append_own _ rfl (.tmp 80) (.tmp 88) 60 rfl w.heap.size 122 i0 _ 4 40 Tryz.underlying60 hi ll iN iM rfl (by decide) _ ts.length (eV ts) rfl (HO.out.alloc _) ⟨wr.heap.size, 0, none⟩ 1 1 [.int .i64 6, .string ⟨#[]⟩, .int .i64 ln, .int .i64 ((s.size : Int) - bg + 1)] rfl rfl ?c1 ?c2 ?c3 ?c4 ?c5 ?_)
   case c1 => exact jt wr _ _ _ _ _
   case c2 =>
    intro u hu
    simp at hu
    rcases hu with rfl | rfl | rfl | rfl <;> rfl
   case c3 => unfold maxLen; omega
   case c4 => omega
   case c5 => simp; omega
   intro v' w3 hown5 hgrow _
   have qG := aa ((HB.out.alloc p9 _).grown hgrow (by simp; omega) (fun k hk => (kA HO.out k hk).2))
   rw [<- Ho.out, <- iF] at hown5
   have p8 := aa hown5
   have CP : ∃ g cap, v' = .slice (some ⟨g, 0, none⟩) (ts.length + 1) cap := by
    rcases hown5.2 with ⟨_, h0⟩ | ⟨g, cap, cur, h, _⟩
    ·omega
    ·exact ⟨g, cap, h⟩
   clear hown5 hgrow
   obtain ⟨g, cap, rfl⟩ := CP
   by_cases hmany : (400 : Int) < (ts.length : Int) + 1
   ·have HR := aa (nc _ _ Je.out (by omega))
    go_wp2
    go_ret2
    refine ⟨.slice (some ⟨w3.heap.size, 0, none⟩) 0 0, eD ?_, ?_, ?_⟩
    ·rw [dP, HR.out]; rfl
    ·rw [cu, HR.out]
     exact fM (da w3 _ 4) qG.out.size
    ·exact qG.out.alloc qG.out.size _
   ·have HR := aa (rk _ _ (by rw [ai]; exact s8) Je.out (by omega))
    go_wp2
    go_ret2
    refine ⟨.slice (some ⟨g, 0, none⟩) (ts.length + 1) cap, eD ?_, ?_, qG.out⟩
    ·rw [dP, HR.out]; rfl
    ·rw [cu, HR.out]
     show w3.ownsRow _ _ _ _ (ts ++ [_]).length (eV (ts ++ [_]))
     rw [List.length_append, List.length_singleton]
     exact p8.out
def dq (t : TokZ) (k : Int) (s : ByteArray) : Bool := t.k == k && t.s.toList == s.toList
theorem ev (t : TokZ) (k : Int) (s : ByteArray) (w : World) :
 Calls Tryz.prog 175 #[fS t, .int .i64 k, .string s] w fun e w' => e = .returned (.bool (dq t k s)) /\ Below w.heap.size w w' := by
 obtain ⟨tk, ts, tl, tc⟩ := t
 unfold fS
 by_cases hk : tk = k
 ·subst hk
  go_enter Tryz.func175, Tryz.ntmps175
  go_wp2
  all_goals
   go_ret
   refine ⟨ah ?_, (U4 w).alloc U0 _⟩
   simp_all [dq]
 ·have aL : (tk == k) = false := by simpa using hk
  go_enter Tryz.func175, Tryz.ntmps175
  go_wp2
  all_goals
   go_ret
   refine ⟨ah ?_, (U4 w).alloc U0 _⟩
   simp_all [dq]
def te (t : TokZ) : ByteArray := if (t.k == 4 && sJ t.s.toList) || (t.k == 5 && !sJ t.s.toList) then t.s else ⟨#[]⟩
theorem jz (t : TokZ) (w : World) :
 Calls Tryz.prog 241 #[fS t] w fun e w' => e = .returned (.string (te t)) /\ Below w.heap.size w w' := by
 obtain ⟨tk, ts, tl, tc⟩ := t
 unfold fS
 have hb : Below w.heap.size w (w.alloc (.cells #[.int .i64 tk, .string ts, .int .i64 tl, .int .i64 tc] 122)) := (U4 w).alloc U0 _
 have HB := aa hb
 clear hb
 have hs : ∀ (x : Bool), sJ ts.toList = x -> te ⟨tk, ts, tl, tc⟩ = if (tk == 4 && x) || (tk == 5 && !x) then ts else ⟨#[]⟩ := by
  intro x hx; subst hx; rfl
 cases hw : sJ ts.toList
 all_goals
  rw [hs _ hw]
  have HW := aa hw
  clear hw hs
  by_cases h4 : tk = 4
  ·subst h4
   go_enter Tryz.func241, Tryz.ntmps241
   go_wp2_with fail
   refine (eT ts _).mono ?_
   rintro e w1 ⟨rfl, rfl⟩
   rw [HW.out]
   go_wp2
   go_ret
   exact ⟨rfl, HB.out⟩
  ·have Ol : (tk == 4) = false := by simpa using h4
   by_cases h5 : tk = 5
   ·subst h5
    go_enter Tryz.func241, Tryz.ntmps241
    go_wp2_with fail
    refine (eT ts _).mono ?_
    rintro e w1 ⟨rfl, rfl⟩
    rw [HW.out]
    go_wp2
    go_ret
    exact ⟨rfl, HB.out⟩
   ·have OP : (tk == 5) = false := by simpa using h5
    simp only [Ol, OP, Bool.false_and, Bool.or_self, Bool.false_eq_true, if_false]
    go_enter Tryz.func241, Tryz.ntmps241
    go_wp2
    go_ret
    exact ⟨rfl, HB.out⟩
theorem jD : (ByteArray.mk #[]).toList = [] := by kernel_rfl
theorem mr (t : TokZ) (s : ByteArray) (hs : sJ s.toList = false) (h0 : s.toList ≠ []) : ((te t).toList == s.toList) = dq t 5 s := by
 unfold te dq
 by_cases he : t.s.toList = s.toList
 ·rw [he, hs]
  by_cases hk : t.k = 5
  ·rw [if_pos (by rw [hk]; rfl), he, hk]
   simp
  ·rw [if_neg (by simp [hk]), jD]
   have : ([] == s.toList) = false := by simpa using Ne.symm h0
   rw [this]
   simp [hk]
 ·have e1 : (t.s.toList == s.toList) = false := by simpa using he
  rw [e1, Bool.and_false]
  split
  ·exact e1
  ·rw [jD]
   simpa using Ne.symm h0
theorem gc (t : TokZ) (s : ByteArray) (hs : sJ s.toList = true) (h0 : s.toList ≠ []) : ((te t).toList == s.toList) = dq t 4 s := by
 unfold te dq
 by_cases he : t.s.toList = s.toList
 ·rw [he, hs]
  by_cases hk : t.k = 4
  ·rw [if_pos (by rw [hk]; rfl), he, hk]
   simp
  ·rw [if_neg (by simp [hk]), jD]
   have : ([] == s.toList) = false := by simpa using Ne.symm h0
   rw [this]
   simp [hk]
 ·have e1 : (t.s.toList == s.toList) = false := by simpa using he
  rw [e1, Bool.and_false]
  split
  ·exact e1
  ·rw [jD]
   simpa using Ne.symm h0
theorem nI : (ByteArray.mk #[123]).toList = [123] := by kernel_rfl
theorem zQ (t : TokZ) : ((te t).toList == [123]) = dq t 5 ⟨#[123]⟩ := by
 have h := mr t ⟨#[123]⟩ (by rw [nI]; decide) (by rw [nI]; decide)
 rw [nI] at h
 exact h
theorem aU (t : TokZ) : Value.agg #[.int .i64 t.k, .string t.s, .int .i64 t.l, .int .i64 t.c] = fS t := rfl
end Go.Proofs.YtfomndilhlgikajGreatDoor
