/- The model's Lex. -/
import Derived.Test.YtndlhdeipicbpaaO
namespace Go.Proofs.Ytndlhdeipicbpaa
open Go.RowKit

theorem lexR_many2 (L : List UInt8) (a : Nat) (ts : List TokP) (h : lexAt L 0 = (lexAt L a).map (ts ++ ·)) (h2 : 400 ≤ ts.length) : lexR L = none := by
  cases hx : lexAt L a with
  | none =>
    rw [hx] at h
    unfold lexR
    rw [h]
    split <;> rfl
  | some y =>
    rw [hx] at h
    exact lexR_many L (ts ++ y) h (by rw [List.length_append]; omega)
theorem lexR_bad (L : List UInt8) (a : Nat) (ts : List TokP) (h : lexAt L 0 = (lexAt L a).map (ts ++ ·)) (ha : a < L.length) (hst : Starts L a) (hk : nextK (L.drop a) = 0) : lexR L = none := by
  obtain ⟨h1, h2, h3⟩ := hst ha
  have hn : lexAt L a = none := by
    rw [lexAt_eq L a ha, if_neg (not_blank ha h1 h2), h3, if_neg (by decide), if_pos hk]
  rw [hn] at h
  unfold lexR
  rw [h]
  split <;> rfl
theorem lex_tok (L : List UInt8) (a : Nat) (ts : List TokP) (h : lexAt L 0 = (lexAt L a).map (ts ++ ·)) (ha : a < L.length) (hst : Starts L a) (hk : nextK (L.drop a) ≠ 0) : lexAt L 0 = (lexAt L (a + nextLen (L.drop a))).map (ts ++ [tokAt L a] ++ ·) := by
  obtain ⟨h1, h2, h3⟩ := hst ha
  rw [h, lexAt_eq L a ha, if_neg (not_blank ha h1 h2), h3, if_neg (by decide), if_neg hk, map_map_cons]

theorem cells4_one (k : Int) (t : ByteArray) (l c : Int) : ∀ u ∈ [Value.int .i64 k, .string t, .int .i64 l, .int .i64 c], u.oneCell' = true := by
  intro u hu
  simp only [List.mem_cons, List.not_mem_nil, or_false] at hu
  rcases hu with rfl | rfl | rfl | rfl <;> rfl
theorem size_alloc {n : Nat} {w : World} (h : n ≤ w.heap.size) (o : Obj) : n ≤ (w.alloc o).heap.size := Nat.le_trans h (by simp)
theorem owns_two (w : World) (e : TypeId) : ((w.alloc (.cells #[] e)).alloc (.cells #[] e)).ownsRow w.heap.size e 4 (.slice (some ⟨w.heap.size + 1, 0, none⟩) 0 0) 0 [] := by
  have h := owns_empty (w.alloc (.cells #[] e)) e 4
  rw [show (w.alloc (.cells #[] e)).heap.size = w.heap.size + 1 by simp] at h
  exact owns_base h (Nat.le_succ _)
theorem owns_form {w : World} {base : Nat} {e : TypeId} {size : Nat} {v : Value} {n : Nat} {xs : List Value} (h : w.ownsRow base e size v n xs) : ∃ o cap, v = .slice o n cap := by
  rcases h.2 with ⟨rfl, rfl⟩ | ⟨g, cap, cur, rfl, _⟩
  · exact ⟨_, _, rfl⟩
  · exact ⟨_, _, rfl⟩
set_option maxHeartbeats 4000000 in
set_option maxRecDepth 1000000 in
theorem specLex_any (s : ByteArray) (w : World) (hs : s.size ≤ 1048576) :
    Calls Try.prog 7 #[.string s] w fun e w' => ∃ v, e = .returned (.tuple #[v, .bool (lexOk s.data.toList)]) ∧ w'.ownsRow w.heap.size 32 4 v (lexTs s.data.toList).length (tokRow (lexTs s.data.toList)) ∧ Below w.heap.size w w' := by
  by_cases hl : (1500 : Int) < s.size
  · have HR := hide (lexR_long s.data.toList (by rw [data_length]; omega))
    have hl2 : ¬ (s.size : Int) ≤ 1500 := by omega
    go_enter Try.func7, Try.ntmps7
    go_wp2_with fail
    refine (skip_any s 0 _ (Or.inr (by unfold maxLen; omega)) (Nat.zero_le _)).mono ?_
    rintro e w1 ⟨p, rfl, hp0, hpn, -, -, rfl⟩
    go_wp2_with fail
    refine wp_loop_rounds 1 ?_
    rw [rounds_succ]
    by_cases hlt : (p : Int) < s.size
    all_goals
      go_wp2
      go_ret2
      refine ⟨.slice (some ⟨w.heap.size + 1, 0, none⟩) 0 0, ret_pair ?_, ?_, ?_⟩
      · rw [lexOk, HR.out]; rfl
      · rw [lexTs, HR.out]
        exact owns_two w _
      · exact ((Below.refl _ w).alloc (Nat.le_refl _) _).alloc (by simp) _
  have hs15 : s.size ≤ 1500 := by omega
  go_enter Try.func7, Try.ntmps7
  go_wp2_with fail
  refine (skip_any s 0 _ (Or.inl hs15) (Nat.zero_le _)).mono ?_
  rintro e w1 ⟨p, rfl, -, hpn, hlex0, hst0, rfl⟩
  have HLEX0 := hide hlex0
  have HST0 := hide hst0
  clear hlex0 hst0
  go_wp2_with fail
  go_loopw [4, 5, 6, 7, 8] (fun v t5 t6 t7 t8 wr => ∃ (a last ln bg : Nat) (ts : List TokP), t5 = .int .i64 ln ∧ t6 = .int .i64 bg ∧ t7 = .int .i64 last ∧ t8 = .int .i64 a ∧ wr.ownsRow w.heap.size 32 4 v ts.length (tokRow ts) ∧ Below w.heap.size w wr ∧ last ≤ a ∧ a ≤ s.size ∧ ts.length ≤ a ∧ bg ≤ last ∧ ln ≤ last + 1 ∧ lexAt s.data.toList 0 = (lexAt s.data.toList a).map (ts ++ ·) ∧ Starts s.data.toList a ∧ ln = lineAt s.data.toList last ∧ bg = begAt s.data.toList last) (fun _ _ _ _ t8 _ => s.size - (intOf t8).toNat)
  case atStart =>
    refine ⟨p, 0, 1, 0, [], rfl, rfl, rfl, rfl, owns_empty w _ 4, (Below.refl _ w).alloc (Nat.le_refl _) _, Nat.zero_le _, hpn, Nat.zero_le _, Nat.le_refl _, Nat.le_refl _, ?_, HST0.out, rfl, rfl⟩
    rw [map_nil]; exact HLEX0.out
  case round =>
    obtain ⟨a, last, ln, bg, ts, rfl, rfl, rfl, rfl, hown, hbw, hla, han, hts, hbl, hll, hlex, hst, hln, hbg⟩ := hrel
    obtain ⟨o, cap, rfl⟩ := owns_form hown
    have HO := hide hown
    have HB := hide hbw
    have HX := hide hlex
    have HS := hide hst
    have HLN := hide hln
    have HBG := hide hbg
    clear hown hbw hlex hst hln hbg
    obtain ⟨i0, hi, hz0, hz1, hz2⟩ := info_parts tok_info
    by_cases hlt : a < s.size
    · have hlen : a < s.data.toList.length := by rw [data_length]; exact hlt
      go_wp2_with fail
      refine (next1_any s a _ hlt hs15).mono ?_
      rintro e w2 ⟨n, rfl, hn, hb1⟩
      have HN := hide hn
      have hown2 := hide (owns_later HO.out hb1)
      have hbw2 := hide (HB.out.trans (hb1.mono HB.out.size))
      clear hn hb1
      generalize hkk : nextK (s.data.toList.drop a) = kk
      rw [hkk] at HN
      have HKK := hide hkk
      clear hkk
      by_cases hk : kk = 0
      · subst hk
        have HR := hide (lexR_bad _ a ts HX.out hlen HS.out HKK.out)
        go_wp2
        go_ret2
        refine ⟨.slice (some ⟨w2.heap.size, 0, none⟩) 0 0, ret_pair ?_, ?_, ?_⟩
        · rw [lexOk, HR.out]; rfl
        · rw [lexTs, HR.out]
          exact owns_base (owns_empty w2 _ 4) hbw2.out.size
        · exact hbw2.out.alloc hbw2.out.size _
      · have hkb : ((kk : Int) == 0) = false := by simp; omega
        by_cases hmany : (400 : Int) ≤ ts.length
        · have HR := hide (lexR_many2 _ a ts HX.out (by omega))
          go_wp2
          go_ret2
          refine ⟨.slice (some ⟨w2.heap.size, 0, none⟩) 0 0, ret_pair ?_, ?_, ?_⟩
          · rw [lexOk, HR.out]; rfl
          · rw [lexTs, HR.out]
            exact owns_base (owns_empty w2 _ 4) hbw2.out.size
          · exact hbw2.out.alloc hbw2.out.size _
        · have hnn := HN.out hk
          obtain ⟨hle, _⟩ := next_bytes (s.data.toList.drop a) (drop_pos _ a hlen) (by rw [HKK.out]; exact hk)
          have hn1 := nextLen_pos (s.data.toList.drop a) (drop_pos _ a hlen)
          rw [← hnn] at hle hn1
          rw [List.length_drop, data_length] at hle
          have hle2 : a + n ≤ s.size := by omega
          have HNN := hide hnn
          clear hnn hle
          have HX2 := hide (lex_tok _ a ts HX.out hlen HS.out (by rw [HKK.out]; exact hk))
          have HTOK := hide (tok_eq s a n HNN.out)
          rw [HKK.out] at HTOK
          go_wp2_with fail
          go_loop [5, 6, 11] (fun t5 t6 t11 => ∃ j ln bg : Nat, t5 = .int .i64 ln ∧ t6 = .int .i64 bg ∧ t11 = .int .i64 j ∧ last ≤ j ∧ j ≤ a ∧ bg ≤ j ∧ ln ≤ j + 1 ∧ ln = lineAt s.data.toList j ∧ bg = begAt s.data.toList j) (fun _ _ t11 => a - (intOf t11).toNat)
          case atStart => exact ⟨last, ln, bg, rfl, rfl, rfl, Nat.le_refl _, hla, hbl, hll, HLN.out, HBG.out⟩
          case round =>
            obtain ⟨j, ln2, bg2, rfl, rfl, rfl, hlj, hja, hbj, hlnj, hln2, hbg2⟩ := hrel
            have HLN2 := hide hln2
            have HBG2 := hide hbg2
            clear hln2 hbg2
            by_cases hjlt : j < a
            · have hjs : j < s.size := by omega
              have hjl : j < s.data.toList.length := by rw [data_length]; exact hjs
              have hb := byte_beq s[j] 10
              rw [show ((10 : UInt8).toNat : Int) = 10 from rfl] at hb
              cases hc : (s[j] == (10 : UInt8))
              · rw [hc] at hb
                have HC : Hid (s.data.toList.getD j 0 ≠ 10) := by rw [get_getD s j hjs]; exact hide (by simpa using hc)
                clear hc
                go_wp2
                go_round
                case rel =>
                  have hl2 := line_one hjl HC.out
                  exact ⟨j + 1, ln2, bg2, rfl, rfl, by go_num, by omega, by omega, by omega, by omega, HLN2.out.trans hl2.1.symm, HBG2.out.trans hl2.2.symm⟩
                case measure => simp [intOf]; omega
              · rw [hc] at hb
                have HC : Hid (s.data.toList.getD j 0 = 10) := by rw [get_getD s j hjs]; exact hide (by simpa using hc)
                clear hc
                go_wp2
                go_round
                case rel =>
                  have hl2 := line_nl hjl HC.out
                  exact ⟨j + 1, ln2 + 1, j + 1, by go_num, by go_num, by go_num, by omega, by omega, by omega, by omega, by rw [hl2.1, ← HLN2.out], hl2.2.symm⟩
                case measure => simp [intOf]; omega
            · have hje : j = a := by omega
              subst hje
              rw [← HLN2.out, ← HBG2.out] at HTOK
              have hsl := slice_mid s j n hle2
              have hszw := hbw2.out.size
              go_wp2_with (at_builtin; refine wpList_append_own _ rfl (.tmp 58) (.tmp 72) 25 rfl w.heap.size 32 i0 _ 4 40 Try.underlying25 hi hz0 hz1 hz2 rfl (by decide) _ ts.length (tokRow ts) rfl (hown2.out.alloc _) ⟨w2.heap.size, 0, none⟩ 1 1 [.int .i64 kk, .string (s.extract j (j + n)), .int .i64 ln2, .int .i64 ((j : Int) - bg2 + 1)] rfl rfl (cells4_at w2 _ _ _ _ _) (cells4_one _ _ _ _) (by unfold maxLen; omega) (by omega) (size_alloc hszw _) ?_)
              intro v' w3 hown5 hgrow _
              have hbw5 := hide ((hbw2.out.alloc hszw _).grown hgrow (size_alloc hszw _) (fun k hk => (owns_lt hown2.out k hk).2))
              rw [← HTOK.out, ← tokRow_snoc] at hown5
              have hown6 := hide hown5
              clear hown5 hgrow
              go_wp2_with fail
              have hc := skip_any s (j + n) w3 (Or.inl hs15) hle2
              rw [Int.natCast_add] at hc
              refine hc.mono ?_
              clear hc
              rintro e w4 ⟨p2, rfl, hp1, hp2, hx2, hst2, rfl⟩
              have HX3 := hide hx2
              have HST2 := hide hst2
              clear hx2 hst2
              go_wp2
              go_roundw
              case rel =>
                have hll2 : (ts ++ [tokAt s.data.toList j]).length = ts.length + 1 := by simp
                refine ⟨p2, j, ln2, bg2, ts ++ [tokAt s.data.toList j], rfl, rfl, rfl, rfl, ?_, hbw5.out, by omega, hp2, by rw [hll2]; omega, hbj, hlnj, ?_, HST2.out, HLN2.out, HBG2.out⟩
                · rw [hll2]; exact hown6.out
                · rw [HX2.out, ← HNN.out, HX3.out]
              case measure => simp [intOf]; omega
    · have hae : a = s.size := by omega
      have HLX : Hid (lexAt s.data.toList 0 = some ts) := by
        refine hide ?_
        rw [HX.out, lexAt_end _ a (by rw [data_length]; exact hlt)]
        simp
      by_cases hmany : (400 : Int) ≤ ts.length
      · have HR := hide (lexR_many _ _ HLX.out (by omega))
        go_wp2
        go_ret2
        refine ⟨.slice (some ⟨wr.heap.size, 0, none⟩) 0 0, ret_pair ?_, ?_, ?_⟩
        · rw [lexOk, HR.out]; rfl
        · rw [lexTs, HR.out]
          exact owns_base (owns_empty wr _ 4) HB.out.size
        · exact HB.out.alloc HB.out.size _
      · have HR := hide (lexR_some _ _ (by rw [data_length]; exact hs15) HLX.out (by omega))
        have hszw := HB.out.size
        go_wp2_with fail
        refine (place_any s s.size _ (Nat.le_refl _) hs15).mono ?_
        rintro e w2 ⟨rfl, rfl⟩
        have hlp := lineAt_pos s.data.toList s.size
        have hbp := begAt_le s.data.toList s.size
        have HEND : Hid (tokCells ⟨6, [], lineAt s.data.toList s.data.toList.length, s.data.toList.length - begAt s.data.toList s.data.toList.length + 1⟩ = [.int .i64 6, .string ⟨#[]⟩, .int .i64 (lineAt s.data.toList s.size : Nat), .int .i64 ((s.size : Int) - (begAt s.data.toList s.size : Nat) + 1)]) := by
          refine hide ?_
          rw [tokCells, data_length]
          simp only [List.cons.injEq, Value.int.injEq, true_and, and_true]
          first | omega | exact ⟨rfl, by omega⟩ | exact ⟨rfl, rfl, by omega⟩
        generalize lineAt s.data.toList s.size = lnE at *
        generalize begAt s.data.toList s.size = bgE at *
        go_wp2_with (at_builtin; refine wpList_append_own _ rfl (.tmp 93) (.tmp 97) 25 rfl w.heap.size 32 i0 _ 4 40 Try.underlying25 hi hz0 hz1 hz2 rfl (by decide) _ ts.length (tokRow ts) rfl (HO.out.alloc _) ⟨w2.heap.size, 0, none⟩ 1 1 [.int .i64 6, .string ⟨#[]⟩, .int .i64 lnE, .int .i64 ((s.size : Int) - bgE + 1)] rfl rfl (cells4_at w2 _ _ _ _ _) (cells4_one _ _ _ _) (by unfold maxLen; omega) (by omega) (size_alloc hszw _) ?_)
        intro v' w3 hown5 hgrow _
        have hbw5 := hide ((HB.out.alloc hszw _).grown hgrow (size_alloc hszw _) (fun k hk => (owns_lt HO.out k hk).2))
        rw [← HEND.out, ← tokRow_snoc] at hown5
        have hown6 := hide hown5
        clear hown5 hgrow
        go_wp2
        go_ret2
        refine ⟨v', ret_pair ?_, ?_, hbw5.out⟩
        · rw [lexOk, HR.out]; rfl
        · rw [lexTs, HR.out]
          show w3.ownsRow _ _ _ _ (ts ++ [_]).length (tokRow (ts ++ [_]))
          rw [List.length_append, List.length_singleton]
          exact hown6.out
end Go.Proofs.Ytndlhdeipicbpaa
