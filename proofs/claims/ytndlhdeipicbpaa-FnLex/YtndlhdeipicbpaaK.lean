/- The program's Lex. -/
import Derived.Test.YtndlhdeipicbpaaJ
import Derived.Laws.AppendOwn
import Derived.OwnWalk
namespace Go.Proofs.Ytndlhdeipicbpaa
open Go.RowKit

def tokCells (t : TokP) : List Value := [.int .i64 (t.k : Nat), .string ⟨t.s.toArray⟩, .int .i64 (t.line : Nat), .int .i64 (t.col : Nat)]
def tokRow (ts : List TokP) : List Value := ts.flatMap tokCells
theorem tokRow_length (ts : List TokP) : (tokRow ts).length = ts.length * 4 := by
  induction ts with
  | nil => rfl
  | cons t r ih =>
    rw [tokRow, List.flatMap_cons, List.length_append, show List.flatMap tokCells r = tokRow r from rfl, ih, List.length_cons]
    show 4 + r.length * 4 = _
    omega
theorem tokRow_snoc (ts : List TokP) (t : TokP) : tokRow (ts ++ [t]) = tokRow ts ++ tokCells t := by
  unfold tokRow
  rw [List.flatMap_append, List.flatMap_cons, List.flatMap_nil, List.append_nil]
def lexTs (L : List UInt8) : List TokP := (lexR L).getD []
def lexOk (L : List UInt8) : Bool := (lexR L).isSome

theorem owns_iterAt {w : World} {base : Nat} {e : TypeId} {size : Nat} {v : Value} {n : Nat} {xs : List Value} (h : w.ownsRow base e size v n xs) {k : Nat} {s : ByteArray} {p : Nat} (hk : w.heap[k]? = some (.stringIter s p)) (q : Nat) : (w.iterAt k s q).ownsRow base e size v n xs := by
  obtain ⟨hl, hc⟩ := h
  refine ⟨hl, ?_⟩
  rcases hc with hc | ⟨g, cap, cur, hv, hb, hg, rest⟩
  · exact Or.inl hc
  · have hkg : g ≠ k := by
      intro e1
      rw [e1, hk] at hg
      cases hg
    exact Or.inr ⟨g, cap, cur, hv, hb, (Lib.iterAt_other w k g s q hkg).trans hg, rest⟩
theorem owns_below {w w' : World} {base : Nat} {e : TypeId} {size : Nat} {v : Value} {n : Nat} {xs : List Value} (h : w.ownsRow base e size v n xs) {C : Nat} (hb : Below C w w') (hC : ∀ g, v.ownBlock = some g → g < C) : w'.ownsRow base e size v n xs := by
  obtain ⟨hl, hc⟩ := h
  refine ⟨hl, ?_⟩
  rcases hc with hc | ⟨g, cap, cur, hv, hb1, hg, rest⟩
  · exact Or.inl hc
  · refine Or.inr ⟨g, cap, cur, hv, hb1, ?_, rest⟩
    rw [hb.block g (hC g (by rw [hv]; rfl))]
    exact hg
theorem owns_lt {w : World} {base : Nat} {e : TypeId} {size : Nat} {v : Value} {n : Nat} {xs : List Value} (h : w.ownsRow base e size v n xs) : ∀ g, v.ownBlock = some g → g < w.heap.size ∧ base ≤ g := by
  intro g hg
  rcases h.2 with ⟨rfl, _⟩ | ⟨g', cap, cur, rfl, hb, hgg, _⟩
  · cases hg
  · have : g' = g := Option.some.inj hg
    subst this
    exact ⟨(Array.getElem?_eq_some_iff.1 hgg).1, hb⟩
theorem owns_ne_iter {w : World} {base : Nat} {e : TypeId} {size : Nat} {v : Value} {n : Nat} {xs : List Value} (h : w.ownsRow base e size v n xs) {k : Nat} {s : ByteArray} {p : Nat} (hk : w.heap[k]? = some (.stringIter s p)) : some k ≠ v.ownBlock := by
  intro hg
  rcases h.2 with ⟨rfl, _⟩ | ⟨g', cap, cur, rfl, hb, hgg, _⟩
  · cases hg
  · have : k = g' := Option.some.inj hg
    subst this
    rw [hk] at hgg
    cases hgg
theorem owns_empty (w : World) (e : TypeId) (size : Nat) : (w.alloc (.cells #[] e)).ownsRow w.heap.size e size (.slice (some ⟨w.heap.size, 0, none⟩) 0 0) 0 [] := by
  refine ⟨by simp, Or.inr ⟨w.heap.size, 0, #[], rfl, Nat.le_refl _, ?_, Nat.le_refl _, Nat.zero_le _, by simp, by simp⟩⟩
  exact heap_alloc_new w _
theorem owns_base {w : World} {base base' : Nat} {e : TypeId} {size : Nat} {v : Value} {n : Nat} {xs : List Value} (h : w.ownsRow base' e size v n xs) (hb : base ≤ base') : w.ownsRow base e size v n xs := by
  obtain ⟨hl, hc⟩ := h
  refine ⟨hl, ?_⟩
  rcases hc with hc | ⟨g, cap, cur, hv, hb1, rest⟩
  · exact Or.inl hc
  · exact Or.inr ⟨g, cap, cur, hv, Nat.le_trans hb hb1, rest⟩
theorem iter_below {w w' : World} {k : Nat} {o : Obj} (h : w.heap[k]? = some o) (hb : Below w.heap.size w w') : w'.heap[k]? = some o :=
  (hb.block k (Array.getElem?_eq_some_iff.1 h).1).trans h
theorem owns_later {w w' : World} {base : Nat} {e : TypeId} {size : Nat} {v : Value} {n : Nat} {xs : List Value} (h : w.ownsRow base e size v n xs) (hb : Below w.heap.size w w') : w'.ownsRow base e size v n xs :=
  owns_below h hb fun g hg => (owns_lt h g hg).1
theorem extract_le (s : ByteArray) (a b : Nat) : (s.extract a b).size ≤ s.size := by
  rw [ByteArray.size_extract]; omega
theorem tok_info : (Try.prog.info? 32).map (fun i => (i.zero, i.size, i.bytes)) = some (some (.agg #[.int .i64 0, .string ⟨#[]⟩, .int .i64 0, .int .i64 0]), 4, 40) := by kernel_rfl

theorem extract_back (s : ByteArray) (p : Nat) : (s.extract p s.size).data.toList = s.data.toList.drop p := by
  rw [ByteArray.data_extract, Array.toList_extract]
  rw [List.extract_eq_take_drop]
  rw [List.take_of_length_le (by rw [List.length_drop, Array.length_toList]; exact Nat.le_refl _)]
theorem extract_mid (s : ByteArray) (p n : Nat) : s.extract p (p + n) = ⟨((s.data.toList.drop p).take n).toArray⟩ := by
  apply ByteArray.ext
  apply Array.toList_inj.1
  rw [ByteArray.data_extract, Array.toList_extract, List.extract_eq_take_drop, Nat.add_sub_cancel_left]
theorem extract_size (s : ByteArray) (p : Nat) : (s.extract p s.size).size = s.size - p := by
  rw [← data_length, extract_back, List.length_drop, data_length]
theorem get_bang_getD (s : ByteArray) (i : Nat) : s.get! i = s.data.toList.getD i 0 := by
  by_cases h : i < s.size
  · rw [get_bang s i h, get_getD s i h]
  · rw [List.getD_eq_getElem?_getD, List.getElem?_eq_none (by rw [data_length]; omega)]
    show s.data[i]! = _
    rw [getElem!_neg s.data i h]
    rfl
theorem extract_get (s : ByteArray) (p k : Nat) : (s.extract p s.size).get! k = s.get! (p + k) := by
  rw [get_bang_getD, get_bang_getD, extract_back, getD_drop]
theorem decode_extract (s : ByteArray) (p : Nat) : Utf8.decode (s.extract p s.size) 0 = Utf8.decode s p := by
  have hlt : ∀ k, (k < s.size - p) = (p + k < s.size) := fun k => propext ⟨fun h => by omega, fun h => by omega⟩
  simp only [Utf8.decode, Nat.zero_add, extract_get, extract_size s p, hlt]
theorem hasDash (s : ByteArray) (p : Nat) : Lib.hasPrefix (s.extract p s.size).data.toList [45, 45] = dashB (s.data.toList.drop p) := by
  rw [prefix_two, extract_back]; rfl

/-- The rune and its width at a place, as the list of bytes has them. -/
theorem rune_at (s : ByteArray) (pos : Nat) (h : pos < s.size) : ∃ r d : Nat, Utf8.decode s pos = (r, d) ∧ 1 ≤ d ∧ ((s.data.toList.getD pos 0).toNat < 128 → d = 1) ∧ pos + d ≤ s.data.toList.length ∧ (∀ i, 1 ≤ i → i < d → 128 ≤ (s.data.toList.getD (pos + i) 0).toNat) ∧ (∀ m : UInt8, m.toNat < 128 → ((r : Int) == (m.toNat : Int)) = (s.data.toList.getD pos 0 == m)) := by
  have hsp := decode_span s pos h
  rw [get_getD s pos h, data_length]
  refine ⟨(Utf8.decode s pos).1, (Utf8.decode s pos).2, rfl, hsp.1, ?_, hsp.2.1, fun i a b => ?_, fun m hm => ?_⟩
  · intro ha
    rw [decode_ascii s pos h ha]
  · rw [← get_bang_getD]
    exact hsp.2.2 i a b
  · rw [Bool.eq_iff_iff, beq_iff_eq, beq_iff_eq]
    by_cases ha : (s[pos]'h).toNat < 128
    · rw [decode_ascii s pos h ha]
      constructor
      · intro e; exact UInt8.toNat_inj.1 (by omega)
      · intro e; rw [e]
    · have hd := (decode_high s pos h (by omega)).1
      constructor
      · intro e; omega
      · intro e
        rw [e] at ha
        exact absurd hm ha

theorem longest_at (s : ByteArray) (pos : Nat) (w : World) (hs : s.size ≤ maxLen) (h0 : pos < s.size) (r d : Nat) (hdec : Utf8.decode s pos = (r, d)) :
    Calls Try.prog 25 #[.int .i32 r, .string (s.extract pos s.size)] w fun e w' => ∃ n : Nat, e = .returned (.tuple #[.int .i64 (nextK (s.data.toList.drop pos) : Nat), .int .i64 n]) ∧ (nextK (s.data.toList.drop pos) ≠ 0 → n = nextLen (s.data.toList.drop pos)) ∧ Below w.heap.size w w' := by
  have h := longest_any (s.extract pos s.size) w (by rw [extract_size]; exact Nat.le_trans (Nat.sub_le _ _) hs) (by rw [extract_size]; omega) r d (by rw [decode_extract]; exact hdec)
  rw [extract_back] at h
  exact h
theorem runNl_at (s : ByteArray) (pos : Nat) (w : World) (hs : s.size ≤ maxLen) :
    Calls Try.prog 23 #[.string (s.extract pos s.size), .func (.func 24) #[] #[]] w fun e w' => e = .returned (.int .i64 (asideLen (s.data.toList.drop pos) : Nat)) ∧ Below w.heap.size w w' := by
  have h := runNl_any (s.extract pos s.size) w (by rw [extract_size]; exact Nat.le_trans (Nat.sub_le _ _) hs)
  rw [extract_back] at h
  exact h
theorem ret_pair {v : Value} {a b : Bool} (h : a = b) : Ending.returned (.tuple #[v, .bool a]) = .returned (.tuple #[v, .bool b]) := by rw [h]
theorem tok_eq (s : ByteArray) (pos n : Nat) (hn : n = nextLen (s.data.toList.drop pos)) : tokCells (tokAt s.data.toList pos) = [.int .i64 (nextK (s.data.toList.drop pos) : Nat), .string (s.extract pos (pos + n)), .int .i64 (lineAt s.data.toList pos : Nat), .int .i64 ((pos : Int) - (begAt s.data.toList pos : Nat) + 1)] := by
  have hb := begAt_le s.data.toList pos
  rw [tokCells, tokAt, extract_mid, hn]
  simp only [List.cons.injEq, Value.int.injEq, true_and, and_true]
  omega
theorem slice_mid (s : ByteArray) (pos n : Nat) (h : pos + n ≤ s.size) (W : World) : (Instr.slice 9 (.string s) (some (.int .i64 (pos : Int))) (some (.int .i64 ((pos : Int) + (n : Int)))) none).run Try.prog W = .ok (.string (s.extract pos (pos + n))) W := by
  have h1 := run_slice_string (P := Try.prog) W 9 s .i64 .i64 (pos : Int) ((pos : Int) + (n : Int)) Try.underlying9 (by omega) (by omega) (by omega)
  rw [show ((pos : Int) + (n : Int)).toNat = pos + n by omega, Int.toNat_natCast] at h1
  exact h1
theorem cells4_at (W : World) (a b c d : Value) (t : TypeId) : ∀ (j : Nat) (u : Value), [a, b, c, d][j]? = some u → (W.alloc (.cells #[a, b, c, d] t)).cell? ((⟨W.heap.size, 0, none⟩ : Addr).add j) = some u := by
  intro j u hj
  match j, hj with
  | 0, hj => simp at hj; subst hj; simp [Addr.add]
  | 1, hj => simp at hj; subst hj; simp [Addr.add]
  | 2, hj => simp at hj; subst hj; simp [Addr.add]
  | 3, hj => simp at hj; subst hj; simp [Addr.add]
  | j + 4, hj => simp at hj

set_option maxHeartbeats 4000000 in
set_option maxRecDepth 1000000 in
theorem implLex_any (s : ByteArray) (w : World) (hs : s.size ≤ maxLen) :
    Calls Try.prog 6 #[.string s] w fun e w' => ∃ v, e = .returned (.tuple #[v, .bool (lexOk s.data.toList)]) ∧ w'.ownsRow w.heap.size 32 4 v (lexTs s.data.toList).length (tokRow (lexTs s.data.toList)) ∧ Below w.heap.size w w' := by
  have hs' : s.size ≤ 9223372036854775807 := hs
  by_cases hl : (1500 : Int) < s.size
  · have HR := hide (lexR_long s.data.toList (by rw [data_length]; omega))
    go_enter Try.func6, Try.ntmps6
    go_wp2
    go_ret2
    refine ⟨.slice (some ⟨w.heap.size, 0, none⟩) 0 0, ret_pair ?_, ?_, (Below.refl _ _).alloc (Nat.le_refl _) _⟩
    · rw [lexOk, HR.out]; rfl
    · rw [lexTs, HR.out]; exact owns_empty w _ 4
  have hs15 : s.size ≤ 1500 := by omega
  go_enter Try.func6, Try.ntmps6
  go_wp2_with fail
  go_loopw [4, 5, 6, 7] (fun v t5 t6 t7 wr => ∃ (pos dn ln bg : Nat) (ts : List TokP), t5 = .int .i64 ln ∧ t6 = .int .i64 bg ∧ t7 = .int .i64 dn ∧ wr.heap[w.heap.size + 1]? = some (.stringIter s pos) ∧ wr.ownsRow w.heap.size 32 4 v ts.length (tokRow ts) ∧ Below w.heap.size w wr ∧ Inv s.data.toList pos dn ts ∧ ln = lineAt s.data.toList pos ∧ bg = begAt s.data.toList pos) (fun _ _ _ _ wr => s.size - wr.iterPos (w.heap.size + 1))
  case atStart =>
    refine ⟨0, 0, 1, 0, [], rfl, rfl, rfl, ?_, ?_, ?_, inv_start _, rfl, rfl⟩
    · have := World.iter_heap (w.alloc (.cells #[] 32)) s 0
      simpa using this
    · exact (owns_empty w _ 4).alloc _
    · exact ((Below.refl _ w).alloc (Nat.le_refl _) _).alloc (by simp) _
  case round =>
    obtain ⟨pos, dn, ln, bg, ts, rfl, rfl, rfl, hit, hown, hbw, hinv, hln, hbg⟩ := hrel
    have hsz : w.heap.size + 1 < wr.heap.size := (Array.getElem?_eq_some_iff.1 hit).1
    have hpl := hinv.hp
    have hdl := hinv.hd
    rw [data_length] at hpl hdl
    have hlp := lineAt_pos s.data.toList pos
    have hbp := begAt_le s.data.toList pos
    rw [← hln] at hlp
    rw [← hbg] at hbp
    have HI := hide hinv
    have HO := hide hown
    have HB := hide hbw
    have HLN := hide hln
    have HBG := hide hbg
    clear hinv hown hbw hln hbg
    by_cases hp : pos < s.size
    · obtain ⟨r, d, hdec, hd1, hda, hdn, hdb, hrm⟩ := rune_at s pos hp
      have hnx : ∀ ty, (Instr.next (.pointer (some ⟨w.heap.size + 1, 0, none⟩)) true ty).run Try.prog wr = _ := fun ty => next_eq wr (w.heap.size + 1) s pos r d ty hit hp hdec
      have hit2 := hide (Lib.iterAt_heap wr (w.heap.size + 1) s pos (pos + d) hit)
      have hbw2 := hide (Lib.below_iterAt HB.out (k := w.heap.size + 1) (by omega) s (pos + d))
      have hown2 := hide (owns_iterAt HO.out hit (pos + d))
      have HD := hide hdec
      have HA := hide hda
      have HDB := hide hdb
      have HDN := hide hdn
      have h10 := hrm 10 (by decide)
      have h32 := hrm 32 (by decide)
      have e10 : ((10 : UInt8).toNat : Int) = 10 := rfl
      have e32 : ((32 : UInt8).toNat : Int) = 32 := rfl
      rw [e10] at h10
      rw [e32] at h32
      clear hdec hda hdb hdn hrm e10 e32
      have hlen : pos < s.data.toList.length := by rw [data_length]; exact hp
      cases hc10 : (s.data.toList.getD pos 0 == 10)
      · have hc : s.data.toList.getD pos 0 ≠ 10 := by simpa using hc10
        rw [hc10] at h10
        have HC := hide hc
        clear hc hc10
        by_cases hlt : (pos : Int) < dn
        · clear h32
          go_wp2
          go_roundw
          case rel =>
            obtain ⟨_, hinv2, hl2, hb2⟩ := inv_in HI.out (by omega) hd1 HA.out HDN.out HDB.out
            exact ⟨pos + d, dn, ln, bg, ts, rfl, rfl, rfl, hit2.out, hown2.out, hbw2.out, hinv2, HLN.out.trans hl2.symm, HBG.out.trans hb2.symm⟩
          case measure =>
            rw [iterPos_at _ _ s _ hit2.out, iterPos_at _ _ s _ hit]
            omega
        · cases hc32 : (s.data.toList.getD pos 0 == 32)
          · have hcn : s.data.toList.getD pos 0 ≠ 32 := by simpa using hc32
            rw [hc32] at h32
            have HC2 := hide hcn
            clear hcn hc32
            cases hdash : dashB (s.data.toList.drop pos)
            · have HDH := hide hdash
              clear hdash
              go_wp2_with fail
              refine (Try.strings_HasPrefix _ _ _).mono ?_
              rintro e w' ⟨rfl, rfl⟩
              rw [show Lib.hasPrefix (s.extract pos s.size).data.toList [45, 45] = false from (hasDash s pos).trans HDH.out]
              go_wp2_with fail
              refine (longest_at s pos _ hs hp r d HD.out).mono ?_
              rintro e w1 ⟨n, rfl, hn, hb1⟩
              have HN := hide hn
              have HB1 := hide hb1
              clear hn hb1
              generalize hkk : nextK (s.data.toList.drop pos) = kk
              rw [hkk] at HN
              have HKK := hide hkk
              clear hkk
              by_cases hk : kk = 0
              · subst hk
                have HR := hide (inv_bad HI.out (by omega) hlen HC.out HC2.out HDH.out HKK.out)
                go_wp2
                go_ret2
                refine ⟨.slice (some ⟨w1.heap.size, 0, none⟩) 0 0, ret_pair ?_, ?_, ?_⟩
                · rw [lexOk, HR.out]; rfl
                · rw [lexTs, HR.out]
                  exact owns_base (owns_empty w1 _ 4) (Nat.le_trans hbw2.out.size HB1.out.size)
                · exact (hbw2.out.trans (HB1.out.mono hbw2.out.size)).alloc (Nat.le_trans hbw2.out.size HB1.out.size) _
              · have hkb : ((kk : Int) == 0) = false := by simp; omega
                have hnn := HN.out hk
                have hkk := HKK.out
                obtain ⟨hle, _⟩ := next_bytes (s.data.toList.drop pos) (drop_pos _ pos hlen) (by rw [hkk]; exact hk)
                have hn1 := nextLen_pos (s.data.toList.drop pos) (drop_pos _ pos hlen)
                rw [← hnn] at hle hn1
                rw [List.length_drop, data_length] at hle
                have hle2 : pos + n ≤ s.size := by omega
                have HNN := hide hnn
                clear hnn hkk hle
                obtain ⟨i0, hi, hz0, hz1, hz2⟩ := info_parts tok_info
                have HINV := hide (inv_tok HI.out (by omega) hlen HC.out HC2.out HDH.out (by rw [HKK.out]; exact hk))
                have HTOK := hide (tok_eq s pos n HNN.out)
                rw [HKK.out, ← HLN.out, ← HBG.out] at HTOK
                have hd : d = 1 := HA.out (by
                  have hby := ((next_bytes (s.data.toList.drop pos) (drop_pos _ pos hlen) (by rw [HKK.out]; exact hk)).2 0 (by rw [← HNN.out]; omega)).1
                  rw [getD_drop, Nat.add_zero] at hby
                  exact hby)
                subst hd
                have hit3 := hide (iter_below hit2.out HB1.out)
                have hown3 := hide (owns_later hown2.out HB1.out)
                have hbw3 := hide (hbw2.out.trans (HB1.out.mono hbw2.out.size))
                have hfew := HI.out.few
                have hfew2 : ts.length ≤ 1500 := by omega
                clear hfew
                have hsl := slice_mid s pos n hle2
                go_wp2_with fail
                refine (clone_any _ _ (Nat.le_trans (extract_le s _ _) hs15)).mono ?_
                rintro e w2 ⟨rfl, hb2⟩
                have hit4 := hide (iter_below hit3.out hb2)
                have hown4 := hide (owns_later hown3.out hb2)
                have hbw4 := hide (hbw3.out.trans (hb2.mono hbw3.out.size))
                clear hb2
                go_wp2_with (at_builtin; refine wpList_append_own _ rfl (.tmp 34) (.tmp 49) 25 rfl w.heap.size 32 i0 _ 4 40 Try.underlying25 hi hz0 hz1 hz2 rfl (by decide) _ ts.length (tokRow ts) rfl (hown4.out.alloc _) ⟨w2.heap.size, 0, none⟩ 1 1 [.int .i64 kk, .string (s.extract pos (pos + n)), .int .i64 ln, .int .i64 ((pos : Int) - bg + 1)] rfl rfl ?c1 ?c2 ?c3 ?c4 ?c5 ?_)
                case c1 => exact cells4_at w2 _ _ _ _ _
                case c2 =>
                  intro u hu
                  simp at hu
                  rcases hu with rfl | rfl | rfl | rfl <;> rfl
                case c3 => unfold maxLen; omega
                case c4 => omega
                case c5 => have := hbw4.out.size; simp; omega
                intro v' w3 hown5 hgrow _
                have hbw5 := hide (((hbw4.out.alloc (by have := hbw4.out.size; omega) _).grown hgrow (by have := hbw4.out.size; simp; omega) (fun k hk => (owns_lt hown4.out k hk).2)))
                have hit5 : Hid (w3.heap[w.heap.size + 1]? = some (.stringIter s (pos + 1))) := by
                  have hlt4 := (Array.getElem?_eq_some_iff.1 hit4.out).1
                  refine hide ((hgrow.block _ (by simp; omega) (owns_ne_iter hown4.out hit4.out)).trans ?_)
                  rw [Below.heap_alloc _ _ _ hlt4]
                  exact hit4.out
                rw [← HTOK.out, ← tokRow_snoc] at hown5
                have hown6 := hide hown5
                clear hown5 hgrow
                go_wp2
                go_roundw
                case rel =>
                  have hl2 := line_one hlen HC.out
                  have hll : (ts ++ [tokAt s.data.toList pos]).length = ts.length + 1 := by simp
                  refine ⟨pos + 1, pos + n, ln, bg, ts ++ [tokAt s.data.toList pos], rfl, rfl, by go_num, hit5.out, ?_, hbw5.out, ?_, HLN.out.trans hl2.1.symm, HBG.out.trans hl2.2.symm⟩
                  · rw [hll]; exact hown6.out
                  · rw [HNN.out]; exact HINV.out
                case measure =>
                  rw [iterPos_at _ _ s _ hit5.out, iterPos_at _ _ s _ hit]
                  omega
            · have HDH := hide hdash
              clear hdash
              have hal := aside_le s.data.toList pos hlen
              rw [data_length] at hal
              have HINV := hide (inv_aside HI.out (by omega) HDH.out)
              have hd : d = 1 := HA.out (by rw [(dash_head _ pos HDH.out).2]; decide)
              subst hd
              go_wp2_with fail
              refine (Try.strings_HasPrefix _ _ _).mono ?_
              rintro e w' ⟨rfl, rfl⟩
              rw [show Lib.hasPrefix (s.extract pos s.size).data.toList [45, 45] = true from (hasDash s pos).trans HDH.out]
              go_wp2_with fail
              refine (runNl_at s pos _ hs).mono ?_
              rintro e w1 ⟨rfl, hb1⟩
              have hit3 := hide (iter_below hit2.out hb1)
              have hown3 := hide (owns_later hown2.out hb1)
              have hbw3 := hide (hbw2.out.trans (hb1.mono hbw2.out.size))
              clear hb1
              generalize asideLen (s.data.toList.drop pos) = al at *
              go_wp2
              go_roundw
              case rel =>
                have hl2 := line_one hlen HC.out
                exact ⟨pos + 1, pos + al, ln, bg, ts, rfl, rfl, by go_num, hit3.out, hown3.out, hbw3.out, HINV.out, HLN.out.trans hl2.1.symm, HBG.out.trans hl2.2.symm⟩
              case measure =>
                rw [iterPos_at _ _ s _ hit3.out, iterPos_at _ _ s _ hit]
                omega
          · have hc : s.data.toList.getD pos 0 = 32 := by simpa using hc32
            rw [hc32] at h32
            have HC3 := hide hc
            clear hc hc32
            go_wp2
            go_roundw
            case rel =>
              have hd : d = 1 := HA.out (by rw [HC3.out]; decide)
              subst hd
              have hl2 := line_one hlen HC.out
              exact ⟨pos + 1, dn, ln, bg, ts, rfl, rfl, rfl, hit2.out, hown2.out, hbw2.out, inv_blank HI.out (by omega) hlen HC3.out, HLN.out.trans hl2.1.symm, HBG.out.trans hl2.2.symm⟩
            case measure =>
              rw [iterPos_at _ _ s _ hit2.out, iterPos_at _ _ s _ hit]
              omega
      · have hc : s.data.toList.getD pos 0 = 10 := by simpa using hc10
        rw [hc10] at h10
        have HC := hide hc
        clear hc hc10 h32
        go_wp2
        go_roundw
        case rel =>
          have hd : d = 1 := HA.out (by rw [HC.out]; decide)
          subst hd
          refine ⟨pos + 1, dn, ln + 1, pos + 1, ts, by go_num, by go_num, rfl, hit2.out, hown2.out, hbw2.out, inv_nl HI.out hlen HC.out, ?_, ?_⟩
          · rw [(line_nl hlen HC.out).1, ← HLN.out]
          · rw [(line_nl hlen HC.out).2]
        case measure =>
          rw [iterPos_at _ _ s _ hit2.out, iterPos_at _ _ s _ hit]
          omega
    · have hpe : pos = s.size := by omega
      have HLX := hide (inv_end HI.out (by rw [data_length]; exact hp))
      have hnx : ∀ ty, (Instr.next (.pointer (some ⟨w.heap.size + 1, 0, none⟩)) true ty).run Try.prog wr = _ := fun ty => Lib.run_next_end_at wr (w.heap.size + 1) s pos ty hit hp
      obtain ⟨i0, hi, hz0, hz1, hz2⟩ := info_parts tok_info
      have hfew := HI.out.few
      have hfew2 : ts.length ≤ 1500 := by omega
      clear hfew
      have HPE := hide hpe
      clear hpe
      have hszw := HB.out.size
      have HEND : Hid (tokCells ⟨6, [], lineAt s.data.toList s.data.toList.length, s.data.toList.length - begAt s.data.toList s.data.toList.length + 1⟩ = [.int .i64 6, .string ⟨#[]⟩, .int .i64 ln, .int .i64 ((s.size : Int) - bg + 1)]) := by
        refine hide ?_
        rw [tokCells, data_length, HLN.out, HBG.out, HPE.out]
        simp only [List.cons.injEq, Value.int.injEq, true_and, and_true]
        have := begAt_le s.data.toList s.size
        first | omega | exact ⟨rfl, by omega⟩ | exact ⟨rfl, rfl, by omega⟩
      go_wp2_with (at_builtin; refine wpList_append_own _ rfl (.tmp 80) (.tmp 88) 25 rfl w.heap.size 32 i0 _ 4 40 Try.underlying25 hi hz0 hz1 hz2 rfl (by decide) _ ts.length (tokRow ts) rfl (HO.out.alloc _) ⟨wr.heap.size, 0, none⟩ 1 1 [.int .i64 6, .string ⟨#[]⟩, .int .i64 ln, .int .i64 ((s.size : Int) - bg + 1)] rfl rfl ?c1 ?c2 ?c3 ?c4 ?c5 ?_)
      case c1 => exact cells4_at wr _ _ _ _ _
      case c2 =>
        intro u hu
        simp at hu
        rcases hu with rfl | rfl | rfl | rfl <;> rfl
      case c3 => unfold maxLen; omega
      case c4 => omega
      case c5 => simp; omega
      intro v' w3 hown5 hgrow _
      have hbw5 := hide ((HB.out.alloc hszw _).grown hgrow (by simp; omega) (fun k hk => (owns_lt HO.out k hk).2))
      rw [← HEND.out, ← tokRow_snoc] at hown5
      have hown6 := hide hown5
      have hform : ∃ g cap, v' = .slice (some ⟨g, 0, none⟩) (ts.length + 1) cap := by
        rcases hown5.2 with ⟨_, h0⟩ | ⟨g, cap, cur, h, _⟩
        · omega
        · exact ⟨g, cap, h⟩
      clear hown5 hgrow
      obtain ⟨g, cap, rfl⟩ := hform
      by_cases hmany : (400 : Int) < (ts.length : Int) + 1
      · have HR := hide (lexR_many _ _ HLX.out (by omega))
        go_wp2
        go_ret2
        refine ⟨.slice (some ⟨w3.heap.size, 0, none⟩) 0 0, ret_pair ?_, ?_, ?_⟩
        · rw [lexOk, HR.out]; rfl
        · rw [lexTs, HR.out]
          exact owns_base (owns_empty w3 _ 4) hbw5.out.size
        · exact hbw5.out.alloc hbw5.out.size _
      · have HR := hide (lexR_some _ _ (by rw [data_length]; exact hs15) HLX.out (by omega))
        go_wp2
        go_ret2
        refine ⟨.slice (some ⟨g, 0, none⟩) (ts.length + 1) cap, ret_pair ?_, ?_, hbw5.out⟩
        · rw [lexOk, HR.out]; rfl
        · rw [lexTs, HR.out]
          show w3.ownsRow _ _ _ _ (ts ++ [_]).length (tokRow (ts ++ [_]))
          rw [List.length_append, List.length_singleton]
          exact hown6.out
end Go.Proofs.Ytndlhdeipicbpaa
