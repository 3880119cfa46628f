/- The program's spreadExp. -/
import Derived.Test.YtlaeenfeajkcfalGreatSD
namespace Go.Proofs.YtlaeenfeajkcfalGreat.Fr
open Go.ChangeShapes Go.WideShapes Go.ChangeAt Go.RowKit Go.Proofs.YtlaeenfeajkcfalGreat.Nm
set_option linter.unusedVariables false

def kidsE (o1 o2 o3 : Option Addr) (n1 n2 n3 : Nat) : List (Bool × Addr) := ((rowA o1 6 0 n1).map fun a => (true, a)) ++ ((rowA o2 9 0 n2).map fun a => (false, a)) ++ ((rowA o3 8 2 n3).map fun a => (true, a))
/-- What an expression binds in its parts, and in its Decs. -/
def bE (x : Tr) : List ByteArray := if x.k == 5 then [x.s] else if x.k == 6 then x.ds.map Tr.s else []
def bD (x : Tr) : List ByteArray := if x.k == 6 then x.ds.map Tr.s else []
def altK (o : Option Addr) (al : List Tr) (i : Nat) : List ((Bool × Addr) × List ByteArray) := (List.range i).map fun j => ((true, ⟨bOf o, fOf o + j * 8 + 2, none⟩), ((al.map Tr.ss)[j]?).getD [])
theorem altK_succ (o : Option Addr) (al : List Tr) (i : Nat) (y : Tr) (h : al[i]? = some y) : altK o al (i + 1) = altK o al i ++ [((true, ⟨bOf o, fOf o + i * 8 + 2, none⟩), y.ss)] := by
  unfold altK
  rw [List.range_succ, List.map_append, List.map_singleton, List.getElem?_map, h]
  rfl
def kidsW (o1 o2 o3 : Option Addr) (x : Tr) : List ((Bool × Addr) × List ByteArray) := ((rowA o1 6 0 x.l.length).map fun a => ((true, a), bE x)) ++ ((rowA o2 9 0 x.ds.length).map fun a => ((false, a), bD x)) ++ altK o3 x.al x.al.length
theorem bind_low {w : World} {o : Option Addr} {l : List ByteArray} {B : Nat} (h : BindR w o l) (hl : ∀ b, bNone o b → B ≤ b) (KS : Nat → Prop) (hk : ∀ b, B ≤ b → b < w.heap.size → KS b) : BindK KS w o l := by
  rcases h with h | ⟨b, off, cur, h1, h2, h3⟩
  · exact .inl h
  · exact .inr ⟨b, off, cur, h1, hk b (hl b ⟨off, h1⟩) (heap_lt h2), h2, h3⟩
def BoxR (B0 : Nat) (W : World) (b f : Nat) (B : List ByteArray) : Prop := ∃ o c l, W.heap[b]? = some (.cells #[.int .i64 (f : Int), .slice o l.length c] 178 (0, 0)) ∧ BindR W o l ∧ (∀ q, bNone o q → B0 ≤ q) ∧ SameB l B
def BoxA (KS : Nat → Prop) (W : World) (b f : Nat) (B : List ByteArray) : Prop := ∃ o c l, W.heap[b]? = some (.cells #[.int .i64 (f : Int), .slice o l.length c] 178 (0, 0)) ∧ BindK KS W o l ∧ SameB l B
theorem BoxA.keep {KS : Nat → Prop} {W W' : World} {b f : Nat} {B : List ByteArray} (h : BoxA KS W b f B) (hb : W'.heap[b]? = W.heap[b]?) (hk : ∀ q, KS q → W'.heap[q]? = W.heap[q]?) : BoxA KS W' b f B := by
  obtain ⟨o, c, l, h, h1, h2⟩ := h
  exact ⟨o, c, l, hb.trans h, h1.kept (fun _ h => h) (fun q hq _ => hk q hq), h2⟩
theorem same_nil : SameB [] [] := ⟨List.Pairwise.nil, by simp, fun _ => Iff.rfl⟩
theorem BoxR.nil {B0 : Nat} {W : World} {b f : Nat} (h : W.heap[b]? = some (.cells #[.int .i64 (f : Int), .slice none 0 0] 178 (0, 0))) : BoxR B0 W b f [] := ⟨none, 0, [], h, .inl rfl, fun q hq => (by obtain ⟨off, e⟩ := hq; cases e), same_nil⟩
theorem row_len (o : Option Addr) (sz d n : Nat) : (rowA o sz d n).length = n := by simp [rowA]
set_option maxHeartbeats 4000000 in
set_option maxRecDepth 100000 in
theorem spreadExp_any {K KP KS : Nat → Prop} {w : World} {n : Nat} {ks : List (Bool × Addr)} {G : Log} {h : Nat} (hN : Net KP KS w n ks G) (x : Tr) (cs : List Value) (a : Addr) (ha : a.spot = none) (hca : CellsA w a cs) (hr : (reads K w (h + 1)).ex x cs) (hab : K a.block) (hK : ∀ b, K b → KP b) (f : Nat)
    (hb1 : x.l.length + x.ds.length + x.al.length ≤ 10000000) (hal : ∀ y ∈ x.al, y.ss.length ≤ 10000000) (hL : G.length ≤ 20000000) (hk : ks.length ≤ 20000000) :
    ∃ o1 o2 o3, (∃ c1, cs[3]? = some (.slice o1 x.l.length c1)) ∧ (∃ c2, cs[4]? = some (.slice o2 x.ds.length c2)) ∧ (∃ c3, cs[5]? = some (.slice o3 x.al.length c3)) ∧ Calls Tryz.prog 101 #[.pointer (some ⟨n, 0, none⟩), .int .i64 (f : Int), .pointer (some a)] w fun e w' => ∃ new D, e = .returned (.tuple #[]) ∧ Net KP KS w' n (ks ++ new) (G ++ D) ∧ D.length = x.l.length + x.ds.length + x.al.length ∧ LedBy (ks ++ new) f (kidsW o1 o2 o3 x) D ∧ new.Sublist (kidsE o1 o2 o3 x.l.length x.ds.length x.al.length) ∧ (∀ k ∈ kidsE o1 o2 o3 x.l.length x.ds.length x.al.length, k ∈ ks ++ new) ∧ Keeps KS w w' := by
  obtain ⟨ab, ao, asp⟩ := a
  simp only at ha
  subst ha
  obtain ⟨x0, o1, c1, o2, c2, o3, c3, rfl, hsz, f1, f2, f3, r1, r2, r3⟩ := hr
  refine ⟨o1, o2, o3, ⟨c1, rfl⟩, ⟨c2, rfl⟩, ⟨c3, rfl⟩, ?_⟩
  have q0 : w.cell? ⟨ab, ao, none⟩ = some (.int .i64 x.k) := hca 0 _ rfl
  have q1 : w.cell? ⟨ab, ao + 1, none⟩ = some (.string x.s) := hca 1 _ rfl
  have q3 : w.cell? ⟨ab, ao + 3, none⟩ = some (.slice o1 x.l.length c1) := hca 3 _ rfl
  have q4 : w.cell? ⟨ab, ao + 4, none⟩ = some (.slice o2 x.ds.length c2) := hca 4 _ rfl
  have q5 : w.cell? ⟨ab, ao + 5, none⟩ = some (.slice o3 x.al.length c3) := hca 5 _ rfl
  have hal2 : ab < w.heap.size := World.block_lt_of_cell? w _ q0
  have HLAT : Hid (∀ W, Stays K w W → RowOf K W (reads K W h).ex 6 o1 x.l ∧ RowOf K W (reads K W h).de 9 o2 x.ds ∧ RowOf K W (reads K W h).al 8 o3 x.al) := fun W hW =>
    ⟨r1.frame hW (fun _ h => h) fun _ _ hh => (reads_frame hW (fun _ h => h) h).1 _ _ hh, r2.frame hW (fun _ h => h) fun _ _ hh => (reads_frame hW (fun _ h => h) h).2.1 _ _ hh, r3.frame hW (fun _ h => h) fun _ _ hh => (reads_frame hW (fun _ h => h) h).2.2 _ _ hh⟩
  have HC : Hid (∀ (W : World), W.heap[ab]? = w.heap[ab]? → W.cell? ⟨ab, ao, none⟩ = some (.int .i64 x.k) ∧ W.cell? ⟨ab, ao + 1, none⟩ = some (.string x.s) ∧ W.cell? ⟨ab, ao + 3, none⟩ = some (.slice o1 x.l.length c1) ∧ W.cell? ⟨ab, ao + 4, none⟩ = some (.slice o2 x.ds.length c2) ∧ W.cell? ⟨ab, ao + 5, none⟩ = some (.slice o3 x.al.length c3)) := fun W hW =>
    ⟨(World.cell?_of_block (a := ⟨ab, _, none⟩) hW).trans q0, (World.cell?_of_block (a := ⟨ab, _, none⟩) hW).trans q1, (World.cell?_of_block (a := ⟨ab, _, none⟩) hW).trans q3, (World.cell?_of_block (a := ⟨ab, _, none⟩) hW).trans q4, (World.cell?_of_block (a := ⟨ab, _, none⟩) hW).trans q5⟩
  have HSZ := hide hsz
  have HN := hide hN
  have HKS : Hid (∀ b, KS b → b < w.heap.size) := by obtain ⟨_, _, _, _, _, _, h9⟩ := hN; exact h9.kslt
  have HKP : Hid (∀ b, KP b → KS b) := by obtain ⟨_, _, _, _, _, _, h9⟩ := hN; exact fun b hb => (h9.plain b hb).1
  have HKK := hide hK
  have HAB : Hid (KS ab) := HKP.out ab (hK ab hab)
  have HAL := hide hal
  obtain ⟨V, HV⟩ : ∃ V, Hid ((w.alloc (.cells #[.int .i64 f, .slice none 0 0] 178)).alloc (.cells #[.int .i64 f, .slice none 0 0] 178) = V) := ⟨_, rfl⟩
  have HBV : Hid (Below w.heap.size w V) := by rw [← HV.out]; exact ((Below.refl _ w).alloc (Nat.le_refl _) _).alloc (by simp) _
  have hsV : V.heap.size = w.heap.size + 2 := by rw [← HV.out]; simp
  have HX0 : Hid (V.heap[w.heap.size]? = some (.cells #[.int .i64 f, .slice none 0 0] 178 (0, 0))) := by rw [← HV.out]; exact (heap_alloc_old _ _ (by simp)).trans (heap_alloc_new w _)
  have HX1 : Hid (V.heap[w.heap.size + 1]? = some (.cells #[.int .i64 f, .slice none 0 0] 178 (0, 0))) := by rw [← HV.out]; exact heap_alloc2_new w _ _
  clear hab hN hca hsz f1 f2 f3 r1 r2 r3 hK hal
  go_enter Tryz.func101, Tryz.ntmps101
  go_upto_block 0 with fail
  go_cut [] (fun W => BoxR w.heap.size W w.heap.size f (bE x) ∧ BoxR w.heap.size W (w.heap.size + 1) f (bD x) ∧ Below w.heap.size w W)
  case first =>
    rw [HV.out]
    obtain ⟨v0, v1, -, v4, -⟩ := HC.out V (HBV.out.block ab hal2)
    have y0 := cell_of HX0.out 0
    have y1 := cell_of HX0.out 1
    have y2 := cell_of HX1.out 0
    have y3 := cell_of HX1.out 1
    have g0 := frozen_of HX0.out 0
    have g1 := frozen_of HX0.out 1
    have g2 := frozen_of HX1.out 0
    have g3 := frozen_of HX1.out 1
    simp only [List.getElem?_toArray, List.getElem?_cons_succ, List.getElem?_cons_zero] at y0 y1 y2 y3
    by_cases h5 : x.k = 5
    · have hk5 : (x.k == 5) = true := by simpa using h5
      clear h5
      go_wp2
      go_meet
      case rel =>
        have hset := heap_set_same (j := 1) (.slice (some ⟨w.heap.size + 2, 0, none⟩) 1 1) HX0.out
        have hset1 : (V.setCell ⟨w.heap.size, 1, none⟩ (.slice (some ⟨w.heap.size + 2, 0, none⟩) 1 1)).heap[w.heap.size + 1]? = _ := (heap_set_other _ (by omega)).trans HX1.out
        have hbe : bE x = [x.s] := by unfold bE; rw [hk5]; rfl
        have hbd : bD x = [] := by
          unfold bD
          have : x.k = 5 := by simpa using hk5
          rw [this]
          rfl
        have hnew := heap_alloc_new (V.setCell ⟨w.heap.size, 1, none⟩ (.slice (some ⟨w.heap.size + 2, 0, none⟩) 1 1)) (.cells #[.string x.s] 9)
        have hsz2 : (V.setCell ⟨w.heap.size, 1, none⟩ (.slice (some ⟨w.heap.size + 2, 0, none⟩) 1 1)).heap.size = w.heap.size + 2 := by simp; omega
        rw [hsz2] at hnew
        rw [hbe, hbd]
        refine ⟨⟨some ⟨w.heap.size + 2, 0, none⟩, 1, [x.s], ?_, ?_, fun q hq => ?_, List.pairwise_singleton _ _, by simp, fun _ => Iff.rfl⟩, BoxR.nil ?_, ?_⟩
        · refine (heap_alloc_old _ _ (by simp; omega)).trans ?_
          simpa using hset
        · refine .inr ⟨w.heap.size + 2, 0, #[.string x.s], rfl, hnew, fun j s hj => ?_, fun s hs => by rw [List.mem_singleton] at hs; rw [hs]; exact HSZ.out⟩
          have hj0 : j = 0 := by
            have := (List.getElem?_eq_some_iff.1 hj).1
            simpa using this
          subst hj0
          have hs0 : x.s = s := by simpa using hj
          subst hs0
          rfl
        · obtain ⟨off, e⟩ := hq
          cases e
          omega
        · refine (heap_alloc_old _ _ (by simp; omega)).trans ?_
          exact hset1
        · exact (HBV.out.setCell (Nat.le_refl _) _).alloc (by simp; omega) _
    · have hk5 : (x.k == 5) = false := by simpa using h5
      clear h5
      by_cases h6 : x.k = 6
      · have hk6 : (x.k == 6) = true := by simpa using h6
        clear h6
        go_wp2_with fail
        refine (names_any x.ds o2 c2 V (HLAT.out V (Stays.of HBV.out)).2.1 (by omega)).mono ?_
        rintro ee w1 ⟨v, l, rfl, hn1, hl1, hle, hb1⟩
        obtain ⟨oN, cN, rfl, -, hrN⟩ := hn1.rowOf
        rw [hl1]
        have hbb : Below w1.heap.size w1 (w1.alloc (.cells #[.slice oN x.ds.length cN] 38)) := (Below.refl _ w1).alloc (Nat.le_refl _) _
        have HS := hide (sorted1_any (B := w1.heap.size) (W := w1.alloc (.cells #[.slice oN x.ds.length cN] 38)) hbb.size (b := w1.heap.size) (l1 := l) (by rw [hl1]; exact heap_alloc_new w1 _) (by omega) (hrN.frame (Stays.of hbb) (fun _ _ => trivial) (fun _ _ h => h)))
        have HB1 := hide (HBV.out.trans (hb1.mono HBV.out.size))
        have hz1 := hb1.size
        have HY0 := hide ((hb1.block w.heap.size (by omega)).trans HX0.out)
        have HY1 := hide ((hb1.block (w.heap.size + 1) (by omega)).trans HX1.out)
        have HBB := hide hbb
        have HLE := hide hle
        clear hle
        clear hn1 hb1 hrN hbb y0 y1 y2 y3 g0 g1 g2 g3 v0 v1 v4
        go_wp2_with fail
        refine Calls.mono HS.out ?_
        rintro ee w2 ⟨o', c', l', rfl, hbr, hge, hsm, hb2⟩
        rw [HLE.out] at hsm
        have HB2 : Hid (Below w.heap.size w w2) := HB1.out.trans ((HBB.out.trans (hb2.mono HBB.out.size)).mono HB1.out.size)
        have hz2 := HBB.out.size
        have HZ0 := hide ((hb2.block w.heap.size (by omega)).trans ((HBB.out.block w.heap.size (by omega)).trans HY0.out))
        have HZ1 := hide ((hb2.block (w.heap.size + 1) (by omega)).trans ((HBB.out.block (w.heap.size + 1) (by omega)).trans HY1.out))
        clear hb2
        have hset := heap_set_same (j := 1) (.slice o' l'.length c') HZ0.out
        have hset1 := (heap_set_other (j := 1) (.slice o' l'.length c') (show w.heap.size + 1 ≠ w.heap.size by omega)).trans HZ1.out
        have hset2 := heap_set_same (j := 1) (.slice o' l'.length c') hset1
        have hset3 := (heap_set_other (j := 1) (.slice o' l'.length c') (show w.heap.size ≠ w.heap.size + 1 by omega)).trans hset
        have hbs1 := bind_set (j := 1) HZ0.out (by decide) (.slice o' l'.length c') hbr
        have hbs2 := bind_set (j := 1) hset1 (by decide) (.slice o' l'.length c') hbs1
        have hbe : bE x = x.ds.map Tr.s := by unfold bE; rw [hk5, hk6]; rfl
        have hbd : bD x = x.ds.map Tr.s := by unfold bD; rw [hk6]; rfl
        have H3 : Hid (BoxR w.heap.size ((w2.setCell ⟨w.heap.size, 1, none⟩ (.slice o' l'.length c')).setCell ⟨w.heap.size + 1, 1, none⟩ (.slice o' l'.length c')) w.heap.size f (bE x) ∧ BoxR w.heap.size ((w2.setCell ⟨w.heap.size, 1, none⟩ (.slice o' l'.length c')).setCell ⟨w.heap.size + 1, 1, none⟩ (.slice o' l'.length c')) (w.heap.size + 1) f (bD x) ∧ Below w.heap.size w ((w2.setCell ⟨w.heap.size, 1, none⟩ (.slice o' l'.length c')).setCell ⟨w.heap.size + 1, 1, none⟩ (.slice o' l'.length c'))) := by
          rw [hbe, hbd]
          refine ⟨⟨o', c', l', ?_, hbs2, fun q hq => Nat.le_trans HB1.out.size (hge q hq), hsm⟩, ⟨o', c', l', ?_, hbs2, fun q hq => Nat.le_trans HB1.out.size (hge q hq), hsm⟩, (HB2.out.setCell (Nat.le_refl _) _).setCell (show w.heap.size ≤ w.heap.size + 1 by omega) _⟩
          · simpa using hset3
          · simpa using hset2
        have y1 := cell_of HZ0.out 1
        have y3 := cell_of HZ1.out 1
        have g1 := frozen_of HZ0.out 1
        have g3 := frozen_of HZ1.out 1
        simp only [List.getElem?_toArray, List.getElem?_cons_succ, List.getElem?_cons_zero] at y1 y3
        clear hset hset1 hset2 hset3 hbs1 hbs2 hbe hbd hbr hge hsm
        go_wp2
        go_meet
        case rel => exact H3.out
      · have hk6 : (x.k == 6) = false := by simpa using h6
        clear h6
        go_wp2
        go_meet
        case rel =>
          have hbe : bE x = [] := by unfold bE; rw [hk5, hk6]; rfl
          have hbd : bD x = [] := by unfold bD; rw [hk6]; rfl
          rw [hbe, hbd]
          exact ⟨BoxR.nil HX0.out, BoxR.nil HX1.out, HBV.out⟩
  case rest =>
    obtain ⟨hx0, hx1, hb⟩ := hcut
    generalize wc = W1 at hx0 hx1 hb ⊢
    have hz := hb.size
    have hlt1 : w.heap.size + 1 < W1.heap.size := by
      obtain ⟨_, _, _, h9, -⟩ := hx1
      exact heap_lt h9
    have HM := hide (HN.out.more hb)
    have HB := hide hb
    have HKW : Hid (Keeps KS w W1) := keeps_of hb HKS.out
    obtain ⟨-, -, v3, -, -⟩ := HC.out W1 (hb.block ab hal2)
    obtain ⟨KS2, HK2⟩ : ∃ KS2 : Nat → Prop, Hid ((fun k => KS k ∨ (w.heap.size ≤ k ∧ k < W1.heap.size)) = KS2) := ⟨_, rfl⟩
    rw [HK2.out] at HM
    have HKL : Hid (∀ b, KS2 b → KS b ∨ (w.heap.size ≤ b ∧ b < W1.heap.size)) := by rw [← HK2.out]; exact fun b hb => hb
    have HKI : Hid (∀ b, KS b → KS2 b) := by rw [← HK2.out]; exact fun b hb => .inl hb
    have HKO : Hid (KS2 w.heap.size ∧ KS2 (w.heap.size + 1)) := by rw [← HK2.out]; exact ⟨.inr ⟨Nat.le_refl _, by omega⟩, .inr ⟨by omega, hlt1⟩⟩
    have HKN : Hid (∀ b, w.heap.size ≤ b → b < W1.heap.size → KS2 b) := by rw [← HK2.out]; exact fun b h1 h2 => .inr ⟨h1, h2⟩
    have HX : Hid (BoxA KS2 W1 w.heap.size f (bE x)) := by
      obtain ⟨o, c, l, e1, e2, e3, e4⟩ := hx0
      exact ⟨o, c, l, e1, bind_low e2 e3 _ HKN.out, e4⟩
    have HY : Hid (BoxA KS2 W1 (w.heap.size + 1) f (bD x)) := by
      obtain ⟨o, c, l, e1, e2, e3, e4⟩ := hx1
      exact ⟨o, c, l, e1, bind_low e2 e3 _ HKN.out, e4⟩
    have HCB : Hid (∀ W, Keeps KS2 W1 W → W.heap[ab]? = w.heap[ab]? ∧ Stays K w W ∧ BoxA KS2 W w.heap.size f (bE x) ∧ BoxA KS2 W (w.heap.size + 1) f (bD x)) := fun W hW =>
      ⟨(hW.block ab (HKI.out ab HAB.out)).trans (HB.out.block ab hal2), ⟨Nat.le_trans HB.out.size hW.size, fun b hb hl => (hW.block b (HKI.out b (HKP.out b (HKK.out b hb)))).trans (HB.out.block b hl)⟩, HX.out.keep (hW.block _ HKO.out.1) hW.block, HY.out.keep (hW.block _ HKO.out.2) hW.block⟩
    clear hx0 hx1 hb q0 q1 q3 q4 q5 HX0 HX1 HBV HV hsV
    have ml1 : x.l.length ≤ 9223372036854775807 := by omega
    go_wp2
    clear v3
    go_loopw [44] (fun t44 wr => ∃ (i : Nat) (new : List (Bool × Addr)) (D : Log), i ≤ x.l.length ∧ t44 = .int .i64 i ∧ Net KP KS2 wr n (ks ++ new) (G ++ D) ∧ D.length = i ∧ LedBy (ks ++ new) f ((rowA o1 6 0 i).map fun a => ((true, a), bE x)) D ∧ new.Sublist ((rowA o1 6 0 i).map fun a => (true, a)) ∧ (∀ a ∈ rowA o1 6 0 i, (true, a) ∈ ks ++ new) ∧ Keeps KS2 W1 wr) (fun t44 _ => x.l.length - (intOf t44).toNat)
    case atStart => exact ⟨0, [], [], Nat.zero_le _, rfl, by rw [List.append_nil, List.append_nil]; exact HM.out, rfl, LedBy.nil _ _, by simp, fun a ha => by simp [rowA] at ha, Keeps.refl _ _⟩
    case round =>
      obtain ⟨i, new, D, hi, rfl, hN, hDl, hled, hsub, hmem, hkp⟩ := hrel
      have HLED := hide hled
      clear hled
      have HNR := hide hN
      have HSUB := hide hsub
      have HMEM := hide hmem
      have HKR := hide hkp
      have hnl : new.length ≤ i := by
        have := hsub.length_le
        rw [List.length_map, row_len] at this
        exact this
      obtain ⟨hblk, hst, ⟨ob, cb, B1, hbx, hbk1, hsb1⟩, ⟨ob2, cb2, B2, hby, hbk2, hsb2⟩⟩ := HCB.out wr hkp
      have HSB1 := hide hsb1
      have HSB2 := hide hsb2
      clear hsb1 hsb2
      obtain ⟨-, -, v3, v4, v5⟩ := HC.out wr hblk
      have b0 := cell_of hbx 0
      have b1 := cell_of hbx 1
      have d0 := cell_of hby 0
      have d1 := cell_of hby 1
      simp only [List.getElem?_toArray, List.getElem?_cons_succ, List.getElem?_cons_zero] at b0 b1 d0 d1
      by_cases hlt : i < x.l.length
      · have hne : x.l ≠ [] := by intro e; rw [e] at hlt; simp at hlt
        obtain ⟨b, off, eo, kb, -, -⟩ := (HLAT.out wr hst).1 hne
        subst eo
        have HL1 := hide (leadToExp_any (hN.later (Below.refl _ wr).drew) (by rw [List.length_append]; omega) (by rw [List.length_append]; omega) ⟨b, off + i * 6, none⟩ (HKK.out b kb) f ob B1 cb (hbk1.kept (fun _ h => h) (fun _ _ _ => rfl)))
        clear hN hsub hmem hkp hblk hst hbx hby hne d0 d1 v4 v5 hbk1 hbk2
        go_upto_region 10 with fail
        go_region_with (go_at_call 125; (with_reducible refine Calls.mono HL1.out ?_); rintro e w1 ⟨nw, iw, rfl, hN1, hnew, hidx, hkp⟩; have HN1 := hide hN1; have HNEW := hide hnew; have HIDX := hide hidx; have HKP1 := hide hkp; clear hN1 hnew hidx hkp)
        all_goals
          go_wp2
          go_roundw
          case rel =>
            refine ⟨i + 1, new ++ nw, D ++ [(iw, f, B1)], by omega, by go_num, ?_, by rw [List.length_append, hDl]; rfl, ?_, ?_, fun a ha => ?_, (HKR.out.trans (keeps_drw _ wr)).trans HKP1.out⟩
            · have h9 := HN1.out
              rw [List.append_assoc, List.append_assoc] at h9
              exact h9
            · rw [rowA_succ, List.map_append, ← List.append_assoc]
              exact (HLED.out.more (new := nw)).app (LedBy.one HIDX.out HSB1.out)
            · rw [rowA_succ, List.map_append]
              refine HSUB.out.append ?_
              rcases HNEW.out with h9 | h9
              · rw [h9]; exact List.nil_sublist _
              · rw [h9]; exact List.Sublist.refl _
            · rw [rowA_succ] at ha
              rw [← List.append_assoc]
              rcases List.mem_append.1 ha with ha | ha
              · exact List.mem_append_left _ (HMEM.out a ha)
              · rw [List.mem_singleton] at ha
                rw [ha]
                exact List.mem_of_getElem? HIDX.out
          case measure => simp [intOf]; omega
      · have hie : i = x.l.length := by omega
        subst hie
        have HLD := hide (leadToDecs_any (hN.later (Below.refl _ wr).drew) x.ds o2 c2 ((HLAT.out wr.drew ⟨hst.size, hst.block⟩).2.1) (by rw [List.length_append]; omega) (by rw [List.length_append]; omega) HKK.out f ob2 B2 (bD x) cb2 (hbk2.kept (fun _ h => h) (fun _ _ _ => rfl)) HSB2.out)
        clear hN hsub hmem hkp hblk hst hbx hby b0 b1 v5 hbk1 hbk2
        go_upto_region 12 with fail
        go_cut [] (fun W => ∃ new2 D2, Net KP KS2 W n (ks ++ new ++ new2) (G ++ D ++ D2) ∧ D2.length = x.ds.length ∧ LedBy (ks ++ new ++ new2) f ((rowA o2 9 0 x.ds.length).map fun a => ((false, a), bD x)) D2 ∧ new2.Sublist ((rowA o2 9 0 x.ds.length).map fun a => (false, a)) ∧ (∀ a ∈ rowA o2 9 0 x.ds.length, (false, a) ∈ ks ++ new ++ new2) ∧ Keeps KS2 W1 W)
        case first =>
          go_region_with (go_at_call 126; (with_reducible refine Calls.mono HLD.out ?_); rintro e w1 ⟨nw, Dw, rfl, hN1, hDw, hled, hnew, hidx, hkp⟩; have HN1 := hide hN1; have HLEDw := hide hled; have HNEW := hide hnew; have HIDX := hide hidx; have HKP1 := hide hkp; clear hN1 hnew hidx hkp hled)
          all_goals
            go_wp2_with fail
            go_meet
            case rel => exact ⟨nw, Dw, HN1.out, hDw, HLEDw.out, HNEW.out, HIDX.out, (HKR.out.trans (keeps_drw _ wr)).trans HKP1.out⟩
        case rest =>
          obtain ⟨new2, D2, hN2, hD2, hled2, hsub2, hmem2, hkp2⟩ := hcut
          have HLED2 := hide hled2
          clear hled2
          generalize wc = W2 at hN2 hkp2 ⊢
          have HN2 := hide hN2
          have HSUB2 := hide hsub2
          have HMEM2 := hide hmem2
          have HKR2 := hide hkp2
          have hnl2 : new2.length ≤ x.ds.length := by
            have := hsub2.length_le
            rw [List.length_map, row_len] at this
            exact this
          obtain ⟨hblk, -, -, -⟩ := HCB.out W2 hkp2
          obtain ⟨-, -, -, -, v5⟩ := HC.out W2 hblk
          have ml3 : x.al.length ≤ 9223372036854775807 := by omega
          clear hN2 hsub2 hmem2 hkp2 hblk v3 v4 d0 d1
          go_wp2
          clear v5
          generalize wr = wa at *
          go_loopw [69] (fun t69 wr => ∃ (i : Nat) (new3 : List (Bool × Addr)) (D3 : Log), i ≤ x.al.length ∧ t69 = .int .i64 i ∧ Net KP KS2 wr n (ks ++ new ++ new2 ++ new3) (G ++ D ++ D2 ++ D3) ∧ D3.length = i ∧ LedBy (ks ++ new ++ new2 ++ new3) f (altK o3 x.al i) D3 ∧ new3.Sublist ((rowA o3 8 2 i).map fun a => (true, a)) ∧ (∀ a ∈ rowA o3 8 2 i, (true, a) ∈ ks ++ new ++ new2 ++ new3) ∧ Keeps KS2 W1 wr) (fun t69 _ => x.al.length - (intOf t69).toNat)
          case atStart => exact ⟨0, [], [], Nat.zero_le _, rfl, by rw [List.append_nil, List.append_nil]; exact HN2.out, rfl, LedBy.nil _ _, by simp, fun a ha => by simp [rowA] at ha, HKR2.out⟩
          case round =>
            obtain ⟨i, new3, D3, hi3, rfl, hN, hD3, hled3, hsub, hmem, hkp⟩ := hrel
            have HLED3 := hide hled3
            clear hled3
            have HNR3 := hide hN
            have HSUB3 := hide hsub
            have HMEM3 := hide hmem
            have HKR3 := hide hkp
            have hnl3 : new3.length ≤ i := by
              have := hsub.length_le
              rw [List.length_map, row_len] at this
              exact this
            by_cases hlt : i < x.al.length
            · have hne : x.al ≠ [] := by intro e; rw [e] at hlt; simp at hlt
              obtain ⟨hblk, hst, -, -⟩ := HCB.out wr hkp
              obtain ⟨b, off, eo, kb, hbl, hcs⟩ := (HLAT.out wr hst).2.2 hne
              subst eo
              obtain ⟨ccs, hcl, hkey, hrr⟩ := hcs i _ (List.getElem?_eq_getElem hlt)
              have hyl := HAL.out x.al[i] (List.getElem_mem hlt)
              generalize hxy : x.al[i] = y at hrr hyl
              have HXY : Hid (x.al[i]? = some y) := by show x.al[i]? = some y; rw [List.getElem?_eq_getElem hlt, hxy]
              clear hxy
              cases h with
              | zero => exact hrr.elim
              | succ h =>
                obtain ⟨-, -, -, -, e, p1, g1, ce, e0, e1, e2, e3, s1, e5, s2⟩ := hrr
                subst e1
                have z1 := hkey 1 _ rfl
                obtain ⟨-, -, -, -, v5⟩ := HC.out wr hblk
                have hbb : Below wr.heap.size wr (wr.alloc (.cells #[.slice p1 y.ss.length g1] 38)) := (Below.refl _ wr).alloc (Nat.le_refl _) _
                have z1b := (hbb.cell (p := ⟨b, off + i * 8 + 1, none⟩) hbl).trans z1
                have hablt : ab < wr.heap.size := World.block_lt_of_cell? wr _ v5
                have v5b := (hbb.cell (p := ⟨ab, ao + 5, none⟩) hablt).trans v5
                have HS := hide (sorted1_any (B := wr.heap.size) (W := (wr.alloc (.cells #[.slice p1 y.ss.length g1] 38)).drew) hbb.size (b := wr.heap.size) (l1 := y.ss) (heap_alloc_new wr _) (by omega) (s1.frame (w' := (wr.alloc (.cells #[.slice p1 y.ss.length g1] 38)).drew) (Stays.of hbb.drew) (fun _ _ => trivial) (fun _ _ h => h)))
                have HKBL : Hid (KP b) := HKK.out b kb
                have HBB := hide hbb
                have HKLT : Hid (∀ b, KS2 b → b < wr.heap.size) := by obtain ⟨_, _, _, _, _, _, h9⟩ := hN; exact h9.kslt
                clear hN hsub hmem hkp hblk hst hcs hcl hkey hne e2 e3 s1 s2 e5 kb hbb
                go_upto_region 16 with fail
                go_region_with (first
                  | (go_at_call 124; (with_reducible refine Calls.mono HS.out ?_); rintro ee w2 ⟨o', c', l', rfl, hbr, hge, hsm, hb2⟩; have HSM := hide hsm; have HB2 : Hid (Below wr.heap.size wr w2) := HBB.out.drew.trans (hb2.mono HBB.out.size); have z2 := (HB2.out.cell (p := ⟨b, off + i * 8 + 1, none⟩) hbl).trans z1; have v6 := (HB2.out.cell (p := ⟨ab, ao + 5, none⟩) hablt).trans v5; have HL1 := hide (leadToExp_any (HNR3.out.more HB2.out) (by simp only [List.length_append]; omega) (by simp only [List.length_append]; omega) ⟨b, off + i * 8 + 2, none⟩ HKBL.out f o' l' c' (bind_low hbr hge _ (fun q h1 h2 => .inr ⟨h1, h2⟩))); clear hb2 hbr hge hsm)
                  | (go_at_call 125; (with_reducible refine Calls.mono HL1.out ?_); rintro e w3 ⟨nw, iw, rfl, hN1, hnew, hidx, hkp⟩; have HN1 := hide hN1; have HNEW := hide hnew; have HIDX := hide hidx; have HKP1 := hide hkp; clear hN1 hnew hidx hkp))
                all_goals
                  go_wp2
                  go_roundw
                  case rel =>
                    refine ⟨i + 1, new3 ++ nw, D3 ++ [(iw, f, l')], by omega, by go_num, ?_, by rw [List.length_append, hD3]; rfl, ?_, ?_, fun a ha => ?_, (HKR3.out.trans (keeps_of HB2.out HKLT.out)).trans (HKP1.out.mono fun b hb => .inl hb)⟩
                    · have h9 := HN1.out.less (KS' := KS2) (fun b hb => .inl hb) (fun b hb => HKI.out b (HKP.out b hb))
                      rw [List.append_assoc, List.append_assoc (G ++ D ++ D2)] at h9
                      exact h9
                    · rw [altK_succ _ _ _ _ HXY.out, ← List.append_assoc]
                      exact (HLED3.out.more (new := nw)).app (LedBy.one HIDX.out HSM.out)
                    · rw [rowA_succ, List.map_append]
                      refine HSUB3.out.append ?_
                      rcases HNEW.out with h9 | h9
                      · rw [h9]; exact List.nil_sublist _
                      · rw [h9]; exact List.Sublist.refl _
                    · rw [rowA_succ] at ha
                      rw [← List.append_assoc]
                      rcases List.mem_append.1 ha with ha | ha
                      · exact List.mem_append_left _ (HMEM3.out a ha)
                      · rw [List.mem_singleton] at ha
                        rw [ha]
                        exact List.mem_of_getElem? HIDX.out
                  case measure => simp [intOf]; omega
            · have hie : i = x.al.length := by omega
              subst hie
              clear hN hsub hmem hkp
              go_wp2
              go_end0
              refine ⟨new ++ new2 ++ new3, D ++ D2 ++ D3, rfl, ?_, by rw [List.length_append, List.length_append, hDl, hD2, hD3], ?_, ?_, fun k hk => ?_, HKW.out.trans (HKR3.out.mono HKI.out)⟩
              · have h9 := HNR3.out.less HKI.out HKP.out
                rw [← List.append_assoc, ← List.append_assoc, ← List.append_assoc, ← List.append_assoc]
                exact h9
              · rw [← List.append_assoc, ← List.append_assoc]
                exact (((HLED.out.more (new := new2)).app HLED2.out).more (new := new3)).app HLED3.out
              · exact (HSUB.out.append HSUB2.out).append HSUB3.out
              · rw [← List.append_assoc, ← List.append_assoc]
                rcases List.mem_append.1 hk with hk | hk
                · rcases List.mem_append.1 hk with hk | hk
                  · obtain ⟨b, hb, rfl⟩ := List.mem_map.1 hk
                    exact List.mem_append_left _ (List.mem_append_left _ (HMEM.out b hb))
                  · obtain ⟨b, hb, rfl⟩ := List.mem_map.1 hk
                    exact List.mem_append_left _ (HMEM2.out b hb)
                · obtain ⟨b, hb, rfl⟩ := List.mem_map.1 hk
                  exact HMEM3.out b hb
end Go.Proofs.YtlaeenfeajkcfalGreat.Fr
