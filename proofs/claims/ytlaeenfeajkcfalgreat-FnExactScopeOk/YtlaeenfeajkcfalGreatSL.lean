/- Made of PA, PB, PC, PD. -/
import Derived.Test.YtlaeenfeajkcfalGreatSE
namespace Go.Proofs.YtlaeenfeajkcfalGreat
open Go.ChangeShapes Go.WideShapes Go.ChangeAt Go.RowKit

/-- A type, up to a height. -/
def tyR (K : Nat → Prop) (w : World) : Nat → Tr → List Value → Prop
  | 0 => fun _ _ => False
  | h + 1 => fun t cs => t.ss = [] ∧ t.ds = [] ∧ t.al = [] ∧ ∃ o c, cs = [.int .i64 t.k, .string t.s, .int .i64 t.n, .slice o t.l.length c] ∧ t.s.size ≤ maxLen ∧ Fits t.l.length c ∧ RowOf K w (tyR K w h) 4 o t.l
/-- A name and a row behind it. -/
def nlR (K : Nat → Prop) (w : World) (R : Tr → List Value → Prop) (n : Nat) : Tr → List Value → Prop := fun t cs => t.k = 0 ∧ t.n = 0 ∧ t.ss = [] ∧ t.ds = [] ∧ t.al = [] ∧ ∃ o c, cs = [.string t.s, .slice o t.l.length c] ∧ t.s.size ≤ maxLen ∧ Fits t.l.length c ∧ RowOf K w R n o t.l
def coR (K : Nat → Prop) (w : World) (h : Nat) : Tr → List Value → Prop := nlR K w (tyR K w h) 4
def daR (K : Nat → Prop) (w : World) (h : Nat) : Tr → List Value → Prop := nlR K w (coR K w h) 2
/-- A program: its datas and its definitions. -/
def prR (K : Nat → Prop) (w : World) (h : Nat) : Tr → List Value → Prop := fun t cs => t.k = 0 ∧ t.s = ⟨#[]⟩ ∧ t.n = 0 ∧ t.ss = [] ∧ t.al = [] ∧ ∃ o1 c1 o2 c2, cs = [.slice o1 t.l.length c1, .slice o2 t.ds.length c2] ∧ Fits t.l.length c1 ∧ Fits t.ds.length c2 ∧ RowOf K w (daR K w h) 2 o1 t.l ∧ RowOf K w (reads K w h).de 9 o2 t.ds

theorem tyR_frame {K K' : Nat → Prop} {w w' : World} (hb : Stays K w w') (hK : ∀ b, K b → K' b) : ∀ h x cs, tyR K w h x cs → tyR K' w' h x cs := by
  intro h
  induction h with
  | zero => exact fun _ _ h => h
  | succ h ih =>
    rintro x cs ⟨e1, e2, e3, o, c, e, hs, hf, hr⟩
    exact ⟨e1, e2, e3, o, c, e, hs, hf, hr.frame hb hK ih⟩
theorem nlR_frame {K K' : Nat → Prop} {w w' : World} {R R' : Tr → List Value → Prop} {n : Nat} (hb : Stays K w w') (hK : ∀ b, K b → K' b) (hR : ∀ x cs, R x cs → R' x cs) : ∀ x cs, nlR K w R n x cs → nlR K' w' R' n x cs := by
  rintro x cs ⟨e1, e2, e3, e4, e5, o, c, e, hs, hf, hr⟩
  exact ⟨e1, e2, e3, e4, e5, o, c, e, hs, hf, hr.frame hb hK hR⟩
theorem coR_frame {K K' : Nat → Prop} {w w' : World} (hb : Stays K w w') (hK : ∀ b, K b → K' b) (h : Nat) : ∀ x cs, coR K w h x cs → coR K' w' h x cs := nlR_frame hb hK (tyR_frame hb hK h)
theorem daR_frame {K K' : Nat → Prop} {w w' : World} (hb : Stays K w w') (hK : ∀ b, K b → K' b) (h : Nat) : ∀ x cs, daR K w h x cs → daR K' w' h x cs := nlR_frame hb hK (coR_frame hb hK h)
theorem prR_frame {K K' : Nat → Prop} {w w' : World} (hb : Stays K w w') (hK : ∀ b, K b → K' b) (h : Nat) : ∀ x cs, prR K w h x cs → prR K' w' h x cs := by
  rintro x cs ⟨e1, e2, e3, e4, e5, o1, c1, o2, c2, e, f1, f2, r1, r2⟩
  exact ⟨e1, e2, e3, e4, e5, o1, c1, o2, c2, e, f1, f2, r1.frame hb hK (daR_frame hb hK h), r2.frame hb hK (reads_frame hb hK h).2.1⟩
theorem tyR_later {K : Nat → Prop} {w w' : World} (hb : Below w.heap.size w w') (h : Nat) : ∀ x cs, tyR K w h x cs → tyR K w' h x cs := tyR_frame (Stays.of hb) (fun _ h => h) h
theorem coR_later {K : Nat → Prop} {w w' : World} (hb : Below w.heap.size w w') (h : Nat) : ∀ x cs, coR K w h x cs → coR K w' h x cs := coR_frame (Stays.of hb) (fun _ h => h) h
theorem daR_later {K : Nat → Prop} {w w' : World} (hb : Below w.heap.size w w') (h : Nat) : ∀ x cs, daR K w h x cs → daR K w' h x cs := daR_frame (Stays.of hb) (fun _ h => h) h
theorem prR_later {K : Nat → Prop} {w w' : World} (hb : Below w.heap.size w w') (h : Nat) : ∀ x cs, prR K w h x cs → prR K w' h x cs := prR_frame (Stays.of hb) (fun _ h => h) h
theorem ty_form {K : Nat → Prop} {w : World} {h : Nat} {x : Tr} {cs : List Value} (hr : tyR K w h x cs) : ∃ o c, cs = [.int .i64 x.k, .string x.s, .int .i64 x.n, .slice o x.l.length c] := by
  cases h with
  | zero => exact hr.elim
  | succ h =>
    obtain ⟨-, -, -, o, c, e, -⟩ := hr
    exact ⟨o, c, e⟩
theorem nl_form {K : Nat → Prop} {w : World} {R : Tr → List Value → Prop} {n : Nat} {x : Tr} {cs : List Value} (hr : nlR K w R n x cs) : ∃ o c, cs = [.string x.s, .slice o x.l.length c] := by
  obtain ⟨-, -, -, -, -, o, c, e, -⟩ := hr
  exact ⟨o, c, e⟩
theorem co_form {K : Nat → Prop} {w : World} {h : Nat} {x : Tr} {cs : List Value} (hr : coR K w h x cs) : ∃ o c, cs = [.string x.s, .slice o x.l.length c] := nl_form hr
theorem da_form {K : Nat → Prop} {w : World} {h : Nat} {x : Tr} {cs : List Value} (hr : daR K w h x cs) : ∃ o c, cs = [.string x.s, .slice o x.l.length c] := nl_form hr
theorem pr_form {K : Nat → Prop} {w : World} {h : Nat} {x : Tr} {cs : List Value} (hr : prR K w h x cs) : ∃ o1 c1 o2 c2, cs = [.slice o1 x.l.length c1, .slice o2 x.ds.length c2] := by
  obtain ⟨-, -, -, -, -, o1, c1, o2, c2, e, -⟩ := hr
  exact ⟨o1, c1, o2, c2, e⟩
theorem two_of {l : List Value} (h : l.length = 2) : ∃ a b, l = [a, b] := by
  match l, h with
  | [a, b], _ => exact ⟨a, b, rfl⟩
theorem four_of {l : List Value} (h : l.length = 4) : ∃ a b c d, l = [a, b, c, d] := by
  match l, h with
  | [a, b, c, d], _ => exact ⟨a, b, c, d, rfl⟩
theorem cells_ty : Tryz.prog.cellsOf 191 = 4 := by kernel_rfl
theorem cells_con : Tryz.prog.cellsOf 138 = 2 := by kernel_rfl
theorem cells_data : Tryz.prog.cellsOf 61 = 2 := by kernel_rfl
theorem cells_prog : Tryz.prog.cellsOf 25 = 2 := by kernel_rfl
theorem cells_tys : Tryz.prog.cellsOf 136 = 1 := by kernel_rfl
theorem cells_cons : Tryz.prog.cellsOf 59 = 1 := by kernel_rfl
theorem cells_datas : Tryz.prog.cellsOf 22 = 1 := by kernel_rfl

theorem open_ty {H : Type} {enc : TypeId × Value → H} {w : World} {base : Nat} {spare : Nat → Bool} {held : Bool} : ∀ fuel n, n ≤ fuel → ∀ cs (x : DataW H × List MemPlace), DataW.trod enc Tryz.prog w base spare held n 191 cs = some x → ∃ y, tyR (fun _ => True) w fuel y cs := by
  intro fuel
  induction fuel with
  | zero =>
    intro n hn cs x h
    have : n = 0 := by omega
    subst this
    simp [DataW.trod] at h
  | succ fuel ih =>
    intro n hn cs x h
    obtain ⟨xs, n', hn', -, hlen, hxl, hf⟩ := DataW.trod_struct Tryz.underlying191 h
    rw [cells_ty] at hlen
    obtain ⟨v0, v1, v2, v3, rfl⟩ := four_of hlen
    have hx : ∀ i, i < 4 → ∃ y, xs[i]? = some y := fun i hi => ⟨xs[i]'(by rw [hxl]; exact hi), List.getElem?_eq_getElem _⟩
    obtain ⟨y0, e0⟩ := hx 0 (by omega)
    obtain ⟨y1, e1⟩ := hx 1 (by omega)
    obtain ⟨y2, e2⟩ := hx 2 (by omega)
    obtain ⟨y3, e3⟩ := hx 3 (by omega)
    have k0 : DataW.trod enc Tryz.prog w base spare held n' 3 ([v0, v1, v2, v3].take (Tryz.prog.cellsOf 3)) = some y0 := by have g := hf 0 _ rfl; rw [e0] at g; exact g
    have k1 : DataW.trod enc Tryz.prog w base spare held n' 9 ([v1, v2, v3].take (Tryz.prog.cellsOf 9)) = some y1 := by have g := hf 1 _ rfl; rw [e1] at g; exact g
    have k2 : DataW.trod enc Tryz.prog w base spare held n' 3 ([v2, v3].take (Tryz.prog.cellsOf 3)) = some y2 := by have g := hf 2 _ rfl; rw [e2] at g; exact g
    have k3 : DataW.trod enc Tryz.prog w base spare held n' 136 ([v3].take (Tryz.prog.cellsOf 136)) = some y3 := by have g := hf 3 _ rfl; rw [e3] at g; exact g
    rw [cells_int] at k0 k2
    rw [cells_string] at k1
    rw [cells_tys] at k3
    obtain ⟨z0, h0, -, -⟩ := DataW.trod_int Tryz.underlying3 k0
    obtain ⟨s1, h1, -, hs⟩ := DataW.trod_string Tryz.underlying9 k1
    obtain ⟨z2, h2, -, -⟩ := DataW.trod_int Tryz.underlying3 k2
    obtain ⟨o3, l3, c3, h3, m3, r3⟩ := open_row Tryz.underlying136 cells_ty (by decide) (fun m hm => ih m (by omega)) k3
    simp at h0 h1 h2 h3
    subst h0 h1 h2 h3
    exact ⟨⟨z0, s1, z2, [], l3, [], []⟩, rfl, rfl, rfl, o3, c3, rfl, hs, m3, r3⟩
theorem open_co {H : Type} {enc : TypeId × Value → H} {w : World} {base : Nat} {spare : Nat → Bool} {held : Bool} (fuel n : Nat) (hn : n ≤ fuel) (cs : List Value) (x : DataW H × List MemPlace) (h : DataW.trod enc Tryz.prog w base spare held n 138 cs = some x) : ∃ y, coR (fun _ => True) w fuel y cs := by
  obtain ⟨xs, n', hn', -, hlen, hxl, hf⟩ := DataW.trod_struct Tryz.underlying138 h
  rw [cells_con] at hlen
  obtain ⟨v0, v1, rfl⟩ := two_of hlen
  have hx : ∀ i, i < 2 → ∃ y, xs[i]? = some y := fun i hi => ⟨xs[i]'(by rw [hxl]; exact hi), List.getElem?_eq_getElem _⟩
  obtain ⟨y0, e0⟩ := hx 0 (by omega)
  obtain ⟨y1, e1⟩ := hx 1 (by omega)
  have k0 : DataW.trod enc Tryz.prog w base spare held n' 9 ([v0, v1].take (Tryz.prog.cellsOf 9)) = some y0 := by have g := hf 0 _ rfl; rw [e0] at g; exact g
  have k1 : DataW.trod enc Tryz.prog w base spare held n' 136 ([v1].take (Tryz.prog.cellsOf 136)) = some y1 := by have g := hf 1 _ rfl; rw [e1] at g; exact g
  rw [cells_string] at k0
  rw [cells_tys] at k1
  obtain ⟨s0, h0, -, hs⟩ := DataW.trod_string Tryz.underlying9 k0
  obtain ⟨o1, l1, c1, h1, m1, r1⟩ := open_row Tryz.underlying136 cells_ty (by decide) (fun m hm cs x hx => open_ty fuel m (by omega) cs x hx) k1
  simp at h0 h1
  subst h0 h1
  exact ⟨⟨0, s0, 0, [], l1, [], []⟩, rfl, rfl, rfl, rfl, rfl, o1, c1, rfl, hs, m1, r1⟩
theorem open_da {H : Type} {enc : TypeId × Value → H} {w : World} {base : Nat} {spare : Nat → Bool} {held : Bool} (fuel n : Nat) (hn : n ≤ fuel) (cs : List Value) (x : DataW H × List MemPlace) (h : DataW.trod enc Tryz.prog w base spare held n 61 cs = some x) : ∃ y, daR (fun _ => True) w fuel y cs := by
  obtain ⟨xs, n', hn', -, hlen, hxl, hf⟩ := DataW.trod_struct Tryz.underlying61 h
  rw [cells_data] at hlen
  obtain ⟨v0, v1, rfl⟩ := two_of hlen
  have hx : ∀ i, i < 2 → ∃ y, xs[i]? = some y := fun i hi => ⟨xs[i]'(by rw [hxl]; exact hi), List.getElem?_eq_getElem _⟩
  obtain ⟨y0, e0⟩ := hx 0 (by omega)
  obtain ⟨y1, e1⟩ := hx 1 (by omega)
  have k0 : DataW.trod enc Tryz.prog w base spare held n' 9 ([v0, v1].take (Tryz.prog.cellsOf 9)) = some y0 := by have g := hf 0 _ rfl; rw [e0] at g; exact g
  have k1 : DataW.trod enc Tryz.prog w base spare held n' 59 ([v1].take (Tryz.prog.cellsOf 59)) = some y1 := by have g := hf 1 _ rfl; rw [e1] at g; exact g
  rw [cells_string] at k0
  rw [cells_cons] at k1
  obtain ⟨s0, h0, -, hs⟩ := DataW.trod_string Tryz.underlying9 k0
  obtain ⟨o1, l1, c1, h1, m1, r1⟩ := open_row Tryz.underlying59 cells_con (by decide) (fun m hm cs x hx => open_co fuel m (by omega) cs x hx) k1
  simp at h0 h1
  subst h0 h1
  exact ⟨⟨0, s0, 0, [], l1, [], []⟩, rfl, rfl, rfl, rfl, rfl, o1, c1, rfl, hs, m1, r1⟩
theorem open_pr {H : Type} {enc : TypeId × Value → H} {w : World} {base : Nat} {spare : Nat → Bool} {held : Bool} (fuel n : Nat) (hn : n ≤ fuel) (cs : List Value) (x : DataW H × List MemPlace) (h : DataW.trod enc Tryz.prog w base spare held n 25 cs = some x) : ∃ y, prR (fun _ => True) w fuel y cs := by
  obtain ⟨xs, n', hn', -, hlen, hxl, hf⟩ := DataW.trod_struct Tryz.underlying25 h
  rw [cells_prog] at hlen
  obtain ⟨v0, v1, rfl⟩ := two_of hlen
  have hx : ∀ i, i < 2 → ∃ y, xs[i]? = some y := fun i hi => ⟨xs[i]'(by rw [hxl]; exact hi), List.getElem?_eq_getElem _⟩
  obtain ⟨y0, e0⟩ := hx 0 (by omega)
  obtain ⟨y1, e1⟩ := hx 1 (by omega)
  have k0 : DataW.trod enc Tryz.prog w base spare held n' 22 ([v0, v1].take (Tryz.prog.cellsOf 22)) = some y0 := by have g := hf 0 _ rfl; rw [e0] at g; exact g
  have k1 : DataW.trod enc Tryz.prog w base spare held n' 23 ([v1].take (Tryz.prog.cellsOf 23)) = some y1 := by have g := hf 1 _ rfl; rw [e1] at g; exact g
  rw [cells_datas] at k0
  rw [cells_decs] at k1
  obtain ⟨o0, l0, c0, h0, m0, r0⟩ := open_row Tryz.underlying22 cells_data (by decide) (fun m hm cs x hx => open_da fuel m (by omega) cs x hx) k0
  obtain ⟨o1, l1, c1, h1, m1, r1⟩ := open_row Tryz.underlying23 cells_dec (by decide) (fun m hm cs x hx => (open_tree fuel).2.1 m (by omega) cs x hx) k1
  simp at h0 h1
  subst h0 h1
  exact ⟨⟨0, ⟨#[]⟩, 0, [], l0, l1, []⟩, rfl, rfl, rfl, rfl, rfl, o0, c0, o1, c1, rfl, m0, m1, r0, r1⟩
end Go.Proofs.YtlaeenfeajkcfalGreat
namespace Go.Proofs.YtlaeenfeajkcfalGreat
open Go.ChangeShapes Go.WideShapes Go.ChangeAt Go.RowKit

def wty : Nat → Tr → Nat
  | 0 => fun _ => 0
  | h + 1 => fun t => t.s.size + lw (wty h) t.l
def wco (h : Nat) (t : Tr) : Nat := t.s.size + lw (wty h) t.l
def wda (h : Nat) (t : Tr) : Nat := t.s.size + lw (wco h) t.l
def wpr (h : Nat) (t : Tr) : Nat := lw (wda h) t.l + lw (wts h).de t.ds
def SzTy (K : Nat → Prop) (h : Nat) : Prop := ∀ (x : Tr) (cs : List Value) (w : World) (z : Int), 0 ≤ z → z ≤ 1048576 → tyR K w h x cs → Calls Tryz.prog 129 #[.agg cs.toArray, .int .i64 z] w fun e w' => ∃ r : Int, e = .returned (.int .i64 r) ∧ r ≤ z ∧ (0 ≤ r → ((wty h x : Nat) : Int) ≤ z - r) ∧ Below w.heap.size w w'
def SzCon (K : Nat → Prop) (h : Nat) : Prop := ∀ (x : Tr) (cs : List Value) (w : World) (z : Int), 0 ≤ z → z ≤ 1048576 → coR K w h x cs → Calls Tryz.prog 78 #[.agg cs.toArray, .int .i64 z] w fun e w' => ∃ r : Int, e = .returned (.int .i64 r) ∧ r ≤ z ∧ (0 ≤ r → ((wco h x : Nat) : Int) ≤ z - r) ∧ Below w.heap.size w w'
def SzData (K : Nat → Prop) (h : Nat) : Prop := ∀ (x : Tr) (cs : List Value) (w : World) (z : Int), 0 ≤ z → z ≤ 1048576 → daR K w h x cs → Calls Tryz.prog 24 #[.agg cs.toArray, .int .i64 z] w fun e w' => ∃ r : Int, e = .returned (.int .i64 r) ∧ r ≤ z ∧ (0 ≤ r → ((wda h x : Nat) : Int) ≤ z - r) ∧ Below w.heap.size w w'
def SzProg (K : Nat → Prop) (h : Nat) : Prop := ∀ (x : Tr) (cs : List Value) (w : World) (z : Int), 0 ≤ z → z ≤ 1048576 → prR K w h x cs → Calls Tryz.prog 4 #[.agg cs.toArray, .int .i64 z] w fun e w' => ∃ r : Int, e = .returned (.int .i64 r) ∧ r ≤ z ∧ (0 ≤ r → ((wpr h x : Nat) : Int) ≤ z - r) ∧ Below w.heap.size w w'

set_option maxHeartbeats 2000000 in
set_option maxRecDepth 100000 in
theorem szTyS_of {K : Nat → Prop} {h : Nat} (hE : SzTy K h) (xs : List Tr) (o : Option Addr) (cap : Nat) (w : World) (z : Int) (hz0 : 0 ≤ z) (hz : z ≤ 1048576) (hl : xs.length ≤ maxLen) (hm : RowOf K w (tyR K w h) 4 o xs) :
    Calls Tryz.prog 105 #[.slice o xs.length cap, .int .i64 z] w fun e w' => ∃ r : Int, e = .returned (.int .i64 r) ∧ r ≤ z ∧ (0 ≤ r → ((lw (wty h) xs : Nat) : Int) ≤ z - r) ∧ Below w.heap.size w w' := by
  have HM := hide hm
  have HE := hide hE
  have hl2 : xs.length ≤ 9223372036854775807 := hl
  clear hm hE hl
  by_cases hbig : z - xs.length < 0
  · go_enter Tryz.func105, Tryz.ntmps105
    go_wp2
    go_ret
    exact ⟨-1, rfl, by omega, fun h => by omega, Below.refl _ _⟩
  go_enter Tryz.func105, Tryz.ntmps105
  go_wp2
  go_loopw [1, 5] (fun t1 t5 wr => ∃ (i : Nat) (y : Int), i ≤ xs.length ∧ t5 = .int .i64 i ∧ t1 = .int .i64 y ∧ 0 ≤ y ∧ y ≤ z ∧ ((xs.length + ((xs.take i).map (wty h)).sum : Nat) : Int) ≤ z - y ∧ Below w.heap.size w wr) (fun _ t5 _ => xs.length - (intOf t5).toNat)
  case atStart => exact ⟨0, z - xs.length, Nat.zero_le _, rfl, rfl, by omega, by omega, by simp; omega, Below.refl _ _⟩
  case round =>
    obtain ⟨i, y, hi, rfl, rfl, hy0, hy1, hsum, hbw⟩ := hrel
    have HSUM := hide hsum
    have HBW := hide hbw
    clear hsum hbw
    by_cases hlt : i < xs.length
    · have hne : xs ≠ [] := by intro e; rw [e] at hlt; simp at hlt
      obtain ⟨x, hx⟩ : ∃ x, xs[i]? = some x := ⟨xs[i], List.getElem?_eq_getElem hlt⟩
      obtain ⟨b, off, eo, -, hbl, hcs⟩ := (HM.out.later HBW.out fun _ _ h => h) hne
      subst eo
      obtain ⟨cs, hlen, hkey, hrd⟩ := hcs i x hx
      obtain ⟨v0, v1, v2, v3, rfl⟩ := four_of hlen
      have q0 := hkey 0 v0 rfl
      have q1 := hkey 1 v1 rfl
      have q2 := hkey 2 v2 rfl
      have q3 := hkey 3 v3 rfl
      rw [Nat.add_zero] at q0
      have HX := hide hx
      have HRD := hide (tyR_later HBW.out h x _ hrd)
      clear hcs hx hne hkey hlen hrd
      have hlt2 : (i : Int) < xs.length := by omega
      go_wp2_with fail
      refine (HE.out x _ _ y hy0 (by omega) HRD.out).mono ?_
      rintro e w1 ⟨r, rfl, hr1, hr2, hb1⟩
      have HR2 := hide hr2
      have HB1 := hide hb1
      clear hr2 hb1
      by_cases hr : r < 0
      · go_wp2
        go_ret
        exact ⟨-1, rfl, by omega, fun h => by omega, HBW.out.trans (HB1.out.mono HBW.out.size)⟩
      · go_wp2
        refine ⟨⟨i + 1, r, by omega, by go_num, rfl, by omega, by omega, ?_, HBW.out.trans (HB1.out.mono HBW.out.size)⟩, by simp [intOf]; omega⟩
        rw [List.take_add_one, HX.out, List.map_append, List.sum_append]
        have h1 := HSUM.out
        have h2 := HR2.out (by omega)
        simp only [Option.toList_some, List.map_cons, List.map_nil, List.sum_cons, List.sum_nil]
        omega
    · go_wp2
      go_ret
      refine ⟨y, rfl, by omega, fun _ => ?_, HBW.out⟩
      have h := HSUM.out
      rw [List.take_of_length_le (by omega)] at h
      exact h

set_option maxHeartbeats 2000000 in
set_option maxRecDepth 100000 in
theorem szTy_step {K : Nat → Prop} {h : Nat} (i1 : SzTy K h) : SzTy K (h + 1) := by
  intro x cs w z hz0 hz hrd
  obtain ⟨-, -, -, o1, c1, rfl, hs, hl, q1⟩ := hrd
  have hs2 : x.s.size ≤ 9223372036854775807 := hs
  have I1 := hide i1
  have Q1 := hide q1
  have HL := hide hl
  clear i1 q1 hs hl
  have HX0 : Hid ((w.alloc (.cells #[.int .i64 x.k, .string x.s, .int .i64 x.n, .slice o1 x.l.length c1] 191)).heap[w.heap.size]? = some (.cells #[.int .i64 x.k, .string x.s, .int .i64 x.n, .slice o1 x.l.length c1] 191 (0, 0))) := heap_alloc_new w _
  have HB0 : Hid (Below w.heap.size w (w.alloc (.cells #[.int .i64 x.k, .string x.s, .int .i64 x.n, .slice o1 x.l.length c1] 191))) := (Below.refl _ w).alloc (Nat.le_refl _) _
  by_cases hn0 : z - x.s.size < 0
  · go_enter Tryz.func129, Tryz.ntmps129
    go_wp2
    go_ret
    exact ⟨-1, rfl, by omega, fun h => by omega, HB0.out⟩
  go_enter Tryz.func129, Tryz.ntmps129
  go_wp2_with fail
  refine (szTyS_of I1.out x.l o1 c1 _ (z - x.s.size) (by omega) (by omega) HL.out.1 (Q1.out.later HB0.out (tyR_later HB0.out h))).mono ?_
  rintro e w1 ⟨r1, rfl, hr1, hs1, hb⟩
  have HR1 := hide hs1
  have HB1 := hide (HB0.out.trans (hb.mono HB0.out.size))
  clear hs1 hb
  by_cases hneg1 : r1 < 0
  · go_wp2
    go_ret
    exact ⟨-1, rfl, by omega, fun h => by omega, HB1.out⟩
  go_wp2
  go_ret
  refine ⟨r1, rfl, by omega, fun h0 => ?_, HB1.out⟩
  have a1 := HR1.out (by omega)
  show ((x.s.size + lw (wty h) x.l : Nat) : Int) ≤ z - r1
  omega

theorem szTy_all (K : Nat → Prop) (h : Nat) : SzTy K h := by
  induction h with
  | zero => exact fun _ _ _ _ _ _ hr => hr.elim
  | succ h ih => exact szTy_step ih

set_option maxHeartbeats 2000000 in
set_option maxRecDepth 100000 in
theorem szCon_step {K : Nat → Prop} {h : Nat} (i1 : SzTy K h) : SzCon K h := by
  intro x cs w z hz0 hz hrd
  obtain ⟨-, -, -, -, -, o1, c1, rfl, hs, hl, q1⟩ := hrd
  have hs2 : x.s.size ≤ 9223372036854775807 := hs
  have I1 := hide i1
  have Q1 := hide q1
  have HL := hide hl
  clear i1 q1 hs hl
  have HX0 : Hid ((w.alloc (.cells #[.string x.s, .slice o1 x.l.length c1] 138)).heap[w.heap.size]? = some (.cells #[.string x.s, .slice o1 x.l.length c1] 138 (0, 0))) := heap_alloc_new w _
  have HB0 : Hid (Below w.heap.size w (w.alloc (.cells #[.string x.s, .slice o1 x.l.length c1] 138))) := (Below.refl _ w).alloc (Nat.le_refl _) _
  by_cases hn0 : z - x.s.size < 0
  · go_enter Tryz.func78, Tryz.ntmps78
    go_wp2
    go_ret
    exact ⟨-1, rfl, by omega, fun h => by omega, HB0.out⟩
  go_enter Tryz.func78, Tryz.ntmps78
  go_wp2_with fail
  refine (szTyS_of I1.out x.l o1 c1 _ (z - x.s.size) (by omega) (by omega) HL.out.1 (Q1.out.later HB0.out (tyR_later HB0.out h))).mono ?_
  rintro e w1 ⟨r1, rfl, hr1, hs1, hb⟩
  have HR1 := hide hs1
  have HB1 := hide (HB0.out.trans (hb.mono HB0.out.size))
  clear hs1 hb
  by_cases hneg1 : r1 < 0
  · go_wp2
    go_ret
    exact ⟨-1, rfl, by omega, fun h => by omega, HB1.out⟩
  go_wp2
  go_ret
  refine ⟨r1, rfl, by omega, fun h0 => ?_, HB1.out⟩
  have a1 := HR1.out (by omega)
  show ((x.s.size + lw (wty h) x.l : Nat) : Int) ≤ z - r1
  omega

set_option maxHeartbeats 2000000 in
set_option maxRecDepth 100000 in
theorem szConS_of {K : Nat → Prop} {h : Nat} (hE : SzCon K h) (xs : List Tr) (o : Option Addr) (cap : Nat) (w : World) (z : Int) (hz0 : 0 ≤ z) (hz : z ≤ 1048576) (hl : xs.length ≤ maxLen) (hm : RowOf K w (coR K w h) 2 o xs) :
    Calls Tryz.prog 47 #[.slice o xs.length cap, .int .i64 z] w fun e w' => ∃ r : Int, e = .returned (.int .i64 r) ∧ r ≤ z ∧ (0 ≤ r → ((lw (wco h) xs : Nat) : Int) ≤ z - r) ∧ Below w.heap.size w w' := by
  have HM := hide hm
  have HE := hide hE
  have hl2 : xs.length ≤ 9223372036854775807 := hl
  clear hm hE hl
  by_cases hbig : z - xs.length < 0
  · go_enter Tryz.func47, Tryz.ntmps47
    go_wp2
    go_ret
    exact ⟨-1, rfl, by omega, fun h => by omega, Below.refl _ _⟩
  go_enter Tryz.func47, Tryz.ntmps47
  go_wp2
  go_loopw [1, 5] (fun t1 t5 wr => ∃ (i : Nat) (y : Int), i ≤ xs.length ∧ t5 = .int .i64 i ∧ t1 = .int .i64 y ∧ 0 ≤ y ∧ y ≤ z ∧ ((xs.length + ((xs.take i).map (wco h)).sum : Nat) : Int) ≤ z - y ∧ Below w.heap.size w wr) (fun _ t5 _ => xs.length - (intOf t5).toNat)
  case atStart => exact ⟨0, z - xs.length, Nat.zero_le _, rfl, rfl, by omega, by omega, by simp; omega, Below.refl _ _⟩
  case round =>
    obtain ⟨i, y, hi, rfl, rfl, hy0, hy1, hsum, hbw⟩ := hrel
    have HSUM := hide hsum
    have HBW := hide hbw
    clear hsum hbw
    by_cases hlt : i < xs.length
    · have hne : xs ≠ [] := by intro e; rw [e] at hlt; simp at hlt
      obtain ⟨x, hx⟩ : ∃ x, xs[i]? = some x := ⟨xs[i], List.getElem?_eq_getElem hlt⟩
      obtain ⟨b, off, eo, -, hbl, hcs⟩ := (HM.out.later HBW.out fun _ _ h => h) hne
      subst eo
      obtain ⟨cs, hlen, hkey, hrd⟩ := hcs i x hx
      obtain ⟨v0, v1, rfl⟩ := two_of hlen
      have q0 := hkey 0 v0 rfl
      have q1 := hkey 1 v1 rfl
      rw [Nat.add_zero] at q0
      have HX := hide hx
      have HRD := hide (coR_later HBW.out h x _ hrd)
      clear hcs hx hne hkey hlen hrd
      have hlt2 : (i : Int) < xs.length := by omega
      go_wp2_with fail
      refine (HE.out x _ _ y hy0 (by omega) HRD.out).mono ?_
      rintro e w1 ⟨r, rfl, hr1, hr2, hb1⟩
      have HR2 := hide hr2
      have HB1 := hide hb1
      clear hr2 hb1
      by_cases hr : r < 0
      · go_wp2
        go_ret
        exact ⟨-1, rfl, by omega, fun h => by omega, HBW.out.trans (HB1.out.mono HBW.out.size)⟩
      · go_wp2
        refine ⟨⟨i + 1, r, by omega, by go_num, rfl, by omega, by omega, ?_, HBW.out.trans (HB1.out.mono HBW.out.size)⟩, by simp [intOf]; omega⟩
        rw [List.take_add_one, HX.out, List.map_append, List.sum_append]
        have h1 := HSUM.out
        have h2 := HR2.out (by omega)
        simp only [Option.toList_some, List.map_cons, List.map_nil, List.sum_cons, List.sum_nil]
        omega
    · go_wp2
      go_ret
      refine ⟨y, rfl, by omega, fun _ => ?_, HBW.out⟩
      have h := HSUM.out
      rw [List.take_of_length_le (by omega)] at h
      exact h

set_option maxHeartbeats 2000000 in
set_option maxRecDepth 100000 in
theorem szData_step {K : Nat → Prop} {h : Nat} (i1 : SzCon K h) : SzData K h := by
  intro x cs w z hz0 hz hrd
  obtain ⟨-, -, -, -, -, o1, c1, rfl, hs, hl, q1⟩ := hrd
  have hs2 : x.s.size ≤ 9223372036854775807 := hs
  have I1 := hide i1
  have Q1 := hide q1
  have HL := hide hl
  clear i1 q1 hs hl
  have HX0 : Hid ((w.alloc (.cells #[.string x.s, .slice o1 x.l.length c1] 61)).heap[w.heap.size]? = some (.cells #[.string x.s, .slice o1 x.l.length c1] 61 (0, 0))) := heap_alloc_new w _
  have HB0 : Hid (Below w.heap.size w (w.alloc (.cells #[.string x.s, .slice o1 x.l.length c1] 61))) := (Below.refl _ w).alloc (Nat.le_refl _) _
  by_cases hn0 : z - x.s.size < 0
  · go_enter Tryz.func24, Tryz.ntmps24
    go_wp2
    go_ret
    exact ⟨-1, rfl, by omega, fun h => by omega, HB0.out⟩
  go_enter Tryz.func24, Tryz.ntmps24
  go_wp2_with fail
  refine (szConS_of I1.out x.l o1 c1 _ (z - x.s.size) (by omega) (by omega) HL.out.1 (Q1.out.later HB0.out (coR_later HB0.out h))).mono ?_
  rintro e w1 ⟨r1, rfl, hr1, hs1, hb⟩
  have HR1 := hide hs1
  have HB1 := hide (HB0.out.trans (hb.mono HB0.out.size))
  clear hs1 hb
  by_cases hneg1 : r1 < 0
  · go_wp2
    go_ret
    exact ⟨-1, rfl, by omega, fun h => by omega, HB1.out⟩
  go_wp2
  go_ret
  refine ⟨r1, rfl, by omega, fun h0 => ?_, HB1.out⟩
  have a1 := HR1.out (by omega)
  show ((x.s.size + lw (wco h) x.l : Nat) : Int) ≤ z - r1
  omega

set_option maxHeartbeats 2000000 in
set_option maxRecDepth 100000 in
theorem szDataS_of {K : Nat → Prop} {h : Nat} (hE : SzData K h) (xs : List Tr) (o : Option Addr) (cap : Nat) (w : World) (z : Int) (hz0 : 0 ≤ z) (hz : z ≤ 1048576) (hl : xs.length ≤ maxLen) (hm : RowOf K w (daR K w h) 2 o xs) :
    Calls Tryz.prog 9 #[.slice o xs.length cap, .int .i64 z] w fun e w' => ∃ r : Int, e = .returned (.int .i64 r) ∧ r ≤ z ∧ (0 ≤ r → ((lw (wda h) xs : Nat) : Int) ≤ z - r) ∧ Below w.heap.size w w' := by
  have HM := hide hm
  have HE := hide hE
  have hl2 : xs.length ≤ 9223372036854775807 := hl
  clear hm hE hl
  by_cases hbig : z - xs.length < 0
  · go_enter Tryz.func9, Tryz.ntmps9
    go_wp2
    go_ret
    exact ⟨-1, rfl, by omega, fun h => by omega, Below.refl _ _⟩
  go_enter Tryz.func9, Tryz.ntmps9
  go_wp2
  go_loopw [1, 5] (fun t1 t5 wr => ∃ (i : Nat) (y : Int), i ≤ xs.length ∧ t5 = .int .i64 i ∧ t1 = .int .i64 y ∧ 0 ≤ y ∧ y ≤ z ∧ ((xs.length + ((xs.take i).map (wda h)).sum : Nat) : Int) ≤ z - y ∧ Below w.heap.size w wr) (fun _ t5 _ => xs.length - (intOf t5).toNat)
  case atStart => exact ⟨0, z - xs.length, Nat.zero_le _, rfl, rfl, by omega, by omega, by simp; omega, Below.refl _ _⟩
  case round =>
    obtain ⟨i, y, hi, rfl, rfl, hy0, hy1, hsum, hbw⟩ := hrel
    have HSUM := hide hsum
    have HBW := hide hbw
    clear hsum hbw
    by_cases hlt : i < xs.length
    · have hne : xs ≠ [] := by intro e; rw [e] at hlt; simp at hlt
      obtain ⟨x, hx⟩ : ∃ x, xs[i]? = some x := ⟨xs[i], List.getElem?_eq_getElem hlt⟩
      obtain ⟨b, off, eo, -, hbl, hcs⟩ := (HM.out.later HBW.out fun _ _ h => h) hne
      subst eo
      obtain ⟨cs, hlen, hkey, hrd⟩ := hcs i x hx
      obtain ⟨v0, v1, rfl⟩ := two_of hlen
      have q0 := hkey 0 v0 rfl
      have q1 := hkey 1 v1 rfl
      rw [Nat.add_zero] at q0
      have HX := hide hx
      have HRD := hide (daR_later HBW.out h x _ hrd)
      clear hcs hx hne hkey hlen hrd
      have hlt2 : (i : Int) < xs.length := by omega
      go_wp2_with fail
      refine (HE.out x _ _ y hy0 (by omega) HRD.out).mono ?_
      rintro e w1 ⟨r, rfl, hr1, hr2, hb1⟩
      have HR2 := hide hr2
      have HB1 := hide hb1
      clear hr2 hb1
      by_cases hr : r < 0
      · go_wp2
        go_ret
        exact ⟨-1, rfl, by omega, fun h => by omega, HBW.out.trans (HB1.out.mono HBW.out.size)⟩
      · go_wp2
        refine ⟨⟨i + 1, r, by omega, by go_num, rfl, by omega, by omega, ?_, HBW.out.trans (HB1.out.mono HBW.out.size)⟩, by simp [intOf]; omega⟩
        rw [List.take_add_one, HX.out, List.map_append, List.sum_append]
        have h1 := HSUM.out
        have h2 := HR2.out (by omega)
        simp only [Option.toList_some, List.map_cons, List.map_nil, List.sum_cons, List.sum_nil]
        omega
    · go_wp2
      go_ret
      refine ⟨y, rfl, by omega, fun _ => ?_, HBW.out⟩
      have h := HSUM.out
      rw [List.take_of_length_le (by omega)] at h
      exact h

set_option maxHeartbeats 2000000 in
set_option maxRecDepth 100000 in
theorem szProg_all (K : Nat → Prop) (h : Nat) : SzProg K h := by
  have i1 : SzData K h := szData_step (szCon_step (szTy_all K h))
  have i2 := (sz_all K h).2.1
  intro x cs w z hz0 hz hrd
  obtain ⟨-, -, -, -, -, o1, c1, o2, c2, rfl, hl, hd, q1, q2⟩ := hrd
  have I1 := hide i1
  have I2 := hide i2
  have Q1 := hide q1
  have Q2 := hide q2
  have HL := hide hl
  have HD := hide hd
  clear i1 i2 q1 q2 hl hd
  have HX0 : Hid ((w.alloc (.cells #[.slice o1 x.l.length c1, .slice o2 x.ds.length c2] 25)).heap[w.heap.size]? = some (.cells #[.slice o1 x.l.length c1, .slice o2 x.ds.length c2] 25 (0, 0))) := heap_alloc_new w _
  have HB0 : Hid (Below w.heap.size w (w.alloc (.cells #[.slice o1 x.l.length c1, .slice o2 x.ds.length c2] 25))) := (Below.refl _ w).alloc (Nat.le_refl _) _
  go_enter Tryz.func4, Tryz.ntmps4
  go_wp2_with fail
  refine (szDataS_of I1.out x.l o1 c1 _ z (by omega) (by omega) HL.out.1 (Q1.out.later HB0.out (daR_later HB0.out h))).mono ?_
  rintro e w1 ⟨r1, rfl, hr1, hs1, hb⟩
  have HR1 := hide hs1
  have HB1 := hide (HB0.out.trans (hb.mono HB0.out.size))
  have HX1 := hide ((hb.block w.heap.size (heap_lt HX0.out)).trans HX0.out)
  clear hs1 hb
  by_cases hneg1 : r1 < 0
  · go_wp2
    go_ret
    exact ⟨-1, rfl, by omega, fun h => by omega, HB1.out⟩
  have b1 := cell_of HX1.out 1
  simp only [List.getElem?_toArray, List.getElem?_cons_succ, List.getElem?_cons_zero] at b1
  go_wp2_with fail
  refine (szDecS_of I2.out x.ds o2 c2 _ r1 (by omega) (by omega) HD.out.1 (Q2.out.later HB1.out (reads_later HB1.out h).2.1)).mono ?_
  rintro e w2 ⟨r2, rfl, hr2, hs2, hb⟩
  have HR2 := hide hs2
  have HB2 := hide (HB1.out.trans (hb.mono HB1.out.size))
  clear hs2 hb
  by_cases hneg2 : r2 < 0
  · go_wp2
    go_ret
    exact ⟨-1, rfl, by omega, fun h => by omega, HB2.out⟩
  go_wp2
  go_ret
  refine ⟨r2, rfl, by omega, fun h0 => ?_, HB2.out⟩
  have a1 := HR1.out (by omega)
  have a2 := HR2.out (by omega)
  show ((lw (wda h) x.l + lw (wts h).de x.ds : Nat) : Int) ≤ z - r2
  omega
end Go.Proofs.YtlaeenfeajkcfalGreat
namespace Go.Proofs.YtlaeenfeajkcfalGreat
open Go.ChangeShapes Go.WideShapes Go.ChangeAt Go.RowKit

def ToTy (h : Nat) : Prop := ∀ (x : Tr) (cs : List Value) (w : World), tyR AllK w h x cs → wty h x ≤ 1048576 → Calls Tryz.prog 131 #[.agg cs.toArray] w fun e w' => ∃ cs', e = .returned (.agg cs'.toArray) ∧ cs'.length = 4 ∧ tyR (FromK w.heap.size) w' h x cs' ∧ Below w.heap.size w w' ∧ Plain w w'
def ToCon (h : Nat) : Prop := ∀ (x : Tr) (cs : List Value) (w : World), coR AllK w h x cs → wco h x ≤ 1048576 → Calls Tryz.prog 87 #[.agg cs.toArray] w fun e w' => ∃ cs', e = .returned (.agg cs'.toArray) ∧ cs'.length = 2 ∧ coR (FromK w.heap.size) w' h x cs' ∧ Below w.heap.size w w' ∧ Plain w w'
def ToData (h : Nat) : Prop := ∀ (x : Tr) (cs : List Value) (w : World), daR AllK w h x cs → wda h x ≤ 1048576 → Calls Tryz.prog 33 #[.agg cs.toArray] w fun e w' => ∃ cs', e = .returned (.agg cs'.toArray) ∧ cs'.length = 2 ∧ daR (FromK w.heap.size) w' h x cs' ∧ Below w.heap.size w w' ∧ Plain w w'
def ToProg (h : Nat) : Prop := ∀ (x : Tr) (cs : List Value) (w : World), prR AllK w h x cs → wpr h x ≤ 1048576 → Calls Tryz.prog 6 #[.agg cs.toArray] w fun e w' => ∃ cs', e = .returned (.agg cs'.toArray) ∧ cs'.length = 2 ∧ prR (FromK w.heap.size) w' h x cs' ∧ Below w.heap.size w w' ∧ Plain w w'

theorem info_Ty : (Tryz.prog.info? 48).map (fun i => (i.zero, i.size, i.bytes)) = some (some (.agg #[.int .i64 0, .string ⟨#[]⟩, .int .i64 0, .slice none 0 0]), 4, 56) := by kernel_rfl
theorem make_Ty (n : Nat) (hn : n ≤ 1048576) (w : World) : (Instr.makeSlice 43 (.int .i64 (n : Int)) (.int .i64 (n : Int))).run Tryz.prog w = .ok (.slice (some ⟨w.heap.size, 0, none⟩) n n) (w.alloc (.cells (madeCells #[.int .i64 0, .string ⟨#[]⟩, .int .i64 0, .slice none 0 0] (n * 4)) 48)) := by
  obtain ⟨i0, hi, hz0, hz1, hz2⟩ := info_parts info_Ty
  have hr := run_make (P := Tryz.prog) w 43 48 i0 _ Tryz.underlying43 hi hz0 .i64 .i64 n n (by omega) (Int.le_refl _) (by rw [hz2]; omega) (by omega)
  rw [hz1, Int.toNat_natCast] at hr
  exact hr

set_option maxHeartbeats 800000 in
set_option maxRecDepth 100000 in
theorem toTyS_of {h : Nat} (hE : ToTy h) (xs : List Tr) (o : Option Addr) (cap : Nat) (w : World) (hl : lw (wty h) xs ≤ 1048576) (hm : RowOf AllK w (tyR AllK w h) 4 o xs) :
    Calls Tryz.prog 110 #[.slice o xs.length cap] w fun e w' => ∃ o' c', e = .returned (.slice o' xs.length c') ∧ xs.length ≤ c' ∧ RowOf (FromK w.heap.size) w' (tyR (FromK w.heap.size) w' h) 4 o' xs ∧ Below w.heap.size w w' ∧ Plain w w' := by
  have HM := hide hm
  have HE := hide hE
  have HL := hide hl
  have hl2 : xs.length ≤ 1048576 := by unfold lw at hl; omega
  clear hm hE hl
  have hmk := make_Ty xs.length hl2
  go_enter Tryz.func110, Tryz.ntmps110
  go_wp2
  clear hmk
  go_loopw [4] (fun t4 wr => ∃ (i : Nat) (cur : Array Value), i ≤ xs.length ∧ t4 = .int .i64 i ∧ wr.heap[w.heap.size]? = some (.cells cur 48 (0, 0)) ∧ cur.size = xs.length * 4 ∧ Filled (tyR (FromK (w.heap.size + 1)) wr h) 4 cur (xs.take i) ∧ Below w.heap.size w wr ∧ Plain w wr) (fun t4 _ => xs.length - (intOf t4).toNat)
  case atStart => exact ⟨0, _, Nat.zero_le _, rfl, heap_alloc_new w _, by rw [size_madeCells], Filled.nil _ _ _, (Below.refl _ w).alloc (Nat.le_refl _) _, (Plain.refl w).alloc _ _⟩
  case round =>
    obtain ⟨i, cur, hi, rfl, hcur, hsz, hfl, hbw, hpl⟩ := hrel
    have HPL := hide hpl
    clear hpl
    have HC := hide hcur
    have HF := hide hfl
    have HBW := hide hbw
    have HSZ := hide hsz
    clear hcur hfl hbw hsz
    by_cases hlt : i < xs.length
    · have hne : xs ≠ [] := by intro e; rw [e] at hlt; simp at hlt
      obtain ⟨x, hx⟩ : ∃ x, xs[i]? = some x := ⟨xs[i], List.getElem?_eq_getElem hlt⟩
      obtain ⟨b, off, eo, -, hbl, hcs⟩ := (HM.out.later HBW.out fun _ _ h => h) hne
      subst eo
      obtain ⟨cs, hlen, hkey, hrd⟩ := hcs i x hx
      obtain ⟨v0, v1, v2, v3, rfl⟩ := four_of hlen
      have q0 := hkey 0 v0 rfl
      have q1 := hkey 1 v1 rfl
      have q2 := hkey 2 v2 rfl
      have q3 := hkey 3 v3 rfl
      rw [Nat.add_zero] at q0
      have HX := hide hx
      have HRD := hide (tyR_later HBW.out h x _ hrd)
      have HWT : Hid (wty h x ≤ 1048576) := by
        have h1 := le_sum (wty h) xs x (List.mem_of_getElem? hx)
        have h2 := HL.out
        unfold lw at h2
        exact (by omega : wty h x ≤ 1048576)
      clear hcs hx hne hkey hlen hrd
      have hlt2 : (i : Int) < xs.length := by omega
      have hw : w.heap.size < wr.heap.size := heap_lt HC.out
      go_wp2_with fail
      refine (HE.out x _ _ HRD.out HWT.out).mono ?_
      rintro e w1 ⟨cs', rfl, hlen', hrd', hb1, hpl1⟩
      obtain ⟨p1, d1, rfl⟩ := ty_form hrd'
      have HB1 := hide hb1
      have HP1 := hide (HPL.out.on hpl1 hb1)
      clear hpl1
      have HRD1 := hide hrd'
      have HC1 := hide ((hb1.block w.heap.size hw).trans HC.out)
      clear hb1 hrd' hlen'
      have s0 := cell_of HC1.out (i * 4)
      have s1 := cell_of HC1.out (i * 4 + 1)
      have s2 := cell_of HC1.out (i * 4 + 2)
      have s3 := cell_of HC1.out (i * 4 + 3)
      rw [Array.getElem?_eq_getElem (by rw [HSZ.out]; omega)] at s0 s1 s2 s3
      have f0 := frozen_of HC1.out (i * 4)
      have f1 := frozen_of HC1.out (i * 4 + 1)
      have f2 := frozen_of HC1.out (i * 4 + 2)
      have f3 := frozen_of HC1.out (i * 4 + 3)
      go_wp2
      refine ⟨⟨i + 1, _, by omega, by go_num, heap_set_same _ (heap_set_same _ (heap_set_same _ (heap_set_same _ HC1.out))), by simpa using HSZ.out, ?_, ?_, (((HP1.out.set _ _ _).set _ _ _).set _ _ _).set _ _ _⟩, by simp [intOf]; omega⟩
      · have no : ¬ FromK (w.heap.size + 1) w.heap.size := fun h => by have h2 : w.heap.size + 1 ≤ w.heap.size := h; omega
        have st := (((stays_set (FromK (w.heap.size + 1)) w1 w.heap.size (i * 4) (.int .i64 x.k) no).trans (stays_set _ _ _ (i * 4 + 1) (.string x.s) no)).trans (stays_set _ _ _ (i * 4 + 2) (.int .i64 x.n) no)).trans (stays_set _ _ _ (i * 4 + 3) (.slice p1 x.l.length d1) no)
        have sw := (Stays.of (K := FromK (w.heap.size + 1)) HB1.out).trans st
        have key := HF.out.snoc (cs := [.int .i64 x.k, .string x.s, .int .i64 x.n, .slice p1 x.l.length d1]) (tyR_frame sw (fun _ h => h) h) HX.out rfl HSZ.out (tyR_frame st (fun _ h => h) h _ _ (tyR_frame (Stays.refl _ _) (fun b (hb : wr.heap.size ≤ b) => (by show w.heap.size + 1 ≤ b; omega)) h _ _ HRD1.out))
        exact key
      · have h1 := HBW.out.trans (HB1.out.mono HBW.out.size)
        exact (((h1.setCell (Nat.le_refl _) _).setCell (Nat.le_refl _) _).setCell (Nat.le_refl _) _).setCell (Nat.le_refl _) _
    · go_wp2
      go_ret
      have hie : i = xs.length := by omega
      subst hie
      have key := HF.out
      rw [List.take_length] at key
      refine ⟨_, _, rfl, Nat.le_refl _, RowOf.frame (K := FromK w.heap.size) (key.row HC.out (Nat.le_refl _)) (Stays.refl _ _) (fun _ h => h) (fun x cs hx => ?_), HBW.out, HPL.out⟩
      exact tyR_frame (Stays.refl _ _) (fun b (hb : w.heap.size + 1 ≤ b) => (by show w.heap.size ≤ b; omega)) h _ _ hx

set_option maxHeartbeats 500000 in
set_option maxRecDepth 100000 in
theorem toTy_step {h : Nat} (i1 : ToTy h) : ToTy (h + 1) := by
  intro x cs w hrd hwt
  obtain ⟨z1, z2, z3, o1, c1, rfl, hs, hl, q1⟩ := hrd
  have HWT : Hid (x.s.size + lw (wty h) x.l ≤ 1048576) := hwt
  have I1 := hide i1
  have Q1 := hide q1
  have HL4 := hide (And.intro hs hl)
  have HZ := hide (And.intro z1 (And.intro z2 (z3)))
  clear i1 q1 hwt hs hl z1 z2 z3
  have HX0 : Hid ((((w.alloc (.cells #[.int .i64 x.k, .string x.s, .int .i64 x.n, .slice o1 x.l.length c1] 191)).alloc (.cells #[.int .i64 0, .string ⟨#[]⟩, .int .i64 0, .slice none 0 0] 48)).alloc (.cells #[.int .i64 x.k, .string x.s, .int .i64 x.n, .slice none 0 0] 48)).heap[w.heap.size]? = some (.cells #[.int .i64 x.k, .string x.s, .int .i64 x.n, .slice o1 x.l.length c1] 191 (0, 0))) := (heap_alloc3_new w _ _ _).1
  have HR0 : Hid ((((w.alloc (.cells #[.int .i64 x.k, .string x.s, .int .i64 x.n, .slice o1 x.l.length c1] 191)).alloc (.cells #[.int .i64 0, .string ⟨#[]⟩, .int .i64 0, .slice none 0 0] 48)).alloc (.cells #[.int .i64 x.k, .string x.s, .int .i64 x.n, .slice none 0 0] 48)).heap[w.heap.size + 1]? = some (.cells #[.int .i64 0, .string ⟨#[]⟩, .int .i64 0, .slice none 0 0] 48 (0, 0))) := (heap_alloc3_new w _ _ _).2.1
  have HO0 : Hid ((((w.alloc (.cells #[.int .i64 x.k, .string x.s, .int .i64 x.n, .slice o1 x.l.length c1] 191)).alloc (.cells #[.int .i64 0, .string ⟨#[]⟩, .int .i64 0, .slice none 0 0] 48)).alloc (.cells #[.int .i64 x.k, .string x.s, .int .i64 x.n, .slice none 0 0] 48)).heap[w.heap.size + 2]? = some (.cells #[.int .i64 x.k, .string x.s, .int .i64 x.n, .slice none 0 0] 48 (0, 0))) := (heap_alloc3_new w _ _ _).2.2
  have HB0 : Hid (Below w.heap.size w (((w.alloc (.cells #[.int .i64 x.k, .string x.s, .int .i64 x.n, .slice o1 x.l.length c1] 191)).alloc (.cells #[.int .i64 0, .string ⟨#[]⟩, .int .i64 0, .slice none 0 0] 48)).alloc (.cells #[.int .i64 x.k, .string x.s, .int .i64 x.n, .slice none 0 0] 48))) := (((Below.refl _ w).alloc (Nat.le_refl _) _).alloc (by simp) _).alloc (by simp; omega) _
  have hz0 : w.heap.size + 3 ≤ (((w.alloc (.cells #[.int .i64 x.k, .string x.s, .int .i64 x.n, .slice o1 x.l.length c1] 191)).alloc (.cells #[.int .i64 0, .string ⟨#[]⟩, .int .i64 0, .slice none 0 0] 48)).alloc (.cells #[.int .i64 x.k, .string x.s, .int .i64 x.n, .slice none 0 0] 48)).heap.size := by simp
  have HPL0 : Hid (Plain w (((w.alloc (.cells #[.int .i64 x.k, .string x.s, .int .i64 x.n, .slice o1 x.l.length c1] 191)).alloc (.cells #[.int .i64 0, .string ⟨#[]⟩, .int .i64 0, .slice none 0 0] 48)).alloc (.cells #[.int .i64 x.k, .string x.s, .int .i64 x.n, .slice none 0 0] 48))) := (((Plain.refl w).alloc _ _).alloc _ _).alloc _ _
  go_enter Tryz.func131, Tryz.ntmps131
  go_wp2_with fail
  refine (toTyS_of I1.out x.l o1 c1 _ (by have := HWT.out; omega) (Q1.out.later HB0.out (tyR_later HB0.out h))).mono ?_
  rintro e w1 ⟨p1, d1, rfl, hcap1, hrw, hb, hpl⟩
  have HPL1' := hide (HPL0.out.on hpl hb)
  clear hpl
  have HBK1 := hide hb
  have HB1' := hide (HB0.out.trans (hb.mono HB0.out.size))
  have HX1' := hide ((hb.block (w.heap.size) (by omega)).trans HX0.out)
  have HR1' := hide ((hb.block (w.heap.size + 1) (by omega)).trans HR0.out)
  have HO1' := hide ((hb.block (w.heap.size + 2) (by omega)).trans HO0.out)
  have hz1' : w.heap.size + 3 ≤ w1.heap.size := Nat.le_trans hz0 hb.size
  have HRW1 := hide hrw
  clear hrw hb
  have s3_1 := cell_of HO1'.out 3
  have f3_1 := frozen_of HO1'.out 3
  have o0_1 := cell_of HO1'.out 0
  have r0_1 := cell_of HR1'.out 0
  have e0_1 := frozen_of HR1'.out 0
  have o1_1 := cell_of HO1'.out 1
  have r1_1 := cell_of HR1'.out 1
  have e1_1 := frozen_of HR1'.out 1
  have o2_1 := cell_of HO1'.out 2
  have r2_1 := cell_of HR1'.out 2
  have e2_1 := frozen_of HR1'.out 2
  have o3_1 := cell_of HO1'.out 3
  have r3_1 := cell_of HR1'.out 3
  have e3_1 := frozen_of HR1'.out 3
  simp only [List.getElem?_toArray, List.getElem?_cons_succ, List.getElem?_cons_zero] at s3_1 o0_1 o1_1 o2_1 o3_1 r0_1 r1_1 r2_1 r3_1
  have HX1 : Hid ((w1.setCell ⟨w.heap.size + 2, 3, none⟩ (.slice p1 x.l.length d1)).heap[w.heap.size]? = some (.cells #[.int .i64 x.k, .string x.s, .int .i64 x.n, .slice o1 x.l.length c1] 191 (0, 0))) := (heap_set_other _ (by omega)).trans (HX1'.out)
  have HR1 : Hid ((w1.setCell ⟨w.heap.size + 2, 3, none⟩ (.slice p1 x.l.length d1)).heap[w.heap.size + 1]? = some (.cells #[.int .i64 0, .string ⟨#[]⟩, .int .i64 0, .slice none 0 0] 48 (0, 0))) := (heap_set_other _ (by omega)).trans (HR1'.out)
  have HO1 : Hid ((w1.setCell ⟨w.heap.size + 2, 3, none⟩ (.slice p1 x.l.length d1)).heap[w.heap.size + 2]? = some (.cells #[.int .i64 x.k, .string x.s, .int .i64 x.n, .slice p1 x.l.length d1] 48 (0, 0))) := heap_set_same _ (HO1'.out)
  have HB1 : Hid (Below w.heap.size w (w1.setCell ⟨w.heap.size + 2, 3, none⟩ (.slice p1 x.l.length d1))) := (HB1'.out.setCell (Nat.le_add_right _ _) _)
  have hz1 : w.heap.size + 3 ≤ (w1.setCell ⟨w.heap.size + 2, 3, none⟩ (.slice p1 x.l.length d1)).heap.size := by simpa using hz1'
  have HPL1 : Hid (Plain w (w1.setCell ⟨w.heap.size + 2, 3, none⟩ (.slice p1 x.l.length d1))) := (HPL1'.out.set _ _ _)
  have HS1 : Hid (Stays (FromK (w.heap.size + 3)) w1 (w1.setCell ⟨w.heap.size + 2, 3, none⟩ (.slice p1 x.l.length d1))) := (stays_from _ (w.heap.size + 2) 3 (.slice p1 x.l.length d1) (by omega) rfl)
  have HRF0 : Hid (((w1.setCell ⟨w.heap.size + 2, 3, none⟩ (.slice p1 x.l.length d1)).setCell ⟨w.heap.size + 1, 0, none⟩ (.int .i64 x.k)).heap[w.heap.size + 1]? = some (.cells #[.int .i64 x.k, .string ⟨#[]⟩, .int .i64 0, .slice none 0 0] 48 (0, 0))) := heap_set_same _ HR1.out
  have HRF1 : Hid ((((w1.setCell ⟨w.heap.size + 2, 3, none⟩ (.slice p1 x.l.length d1)).setCell ⟨w.heap.size + 1, 0, none⟩ (.int .i64 x.k)).setCell ⟨w.heap.size + 1, 1, none⟩ (.string x.s)).heap[w.heap.size + 1]? = some (.cells #[.int .i64 x.k, .string x.s, .int .i64 0, .slice none 0 0] 48 (0, 0))) := heap_set_same _ HRF0.out
  have HRF2 : Hid (((((w1.setCell ⟨w.heap.size + 2, 3, none⟩ (.slice p1 x.l.length d1)).setCell ⟨w.heap.size + 1, 0, none⟩ (.int .i64 x.k)).setCell ⟨w.heap.size + 1, 1, none⟩ (.string x.s)).setCell ⟨w.heap.size + 1, 2, none⟩ (.int .i64 x.n)).heap[w.heap.size + 1]? = some (.cells #[.int .i64 x.k, .string x.s, .int .i64 x.n, .slice none 0 0] 48 (0, 0))) := heap_set_same _ HRF1.out
  have HRF3 : Hid ((((((w1.setCell ⟨w.heap.size + 2, 3, none⟩ (.slice p1 x.l.length d1)).setCell ⟨w.heap.size + 1, 0, none⟩ (.int .i64 x.k)).setCell ⟨w.heap.size + 1, 1, none⟩ (.string x.s)).setCell ⟨w.heap.size + 1, 2, none⟩ (.int .i64 x.n)).setCell ⟨w.heap.size + 1, 3, none⟩ (.slice p1 x.l.length d1)).heap[w.heap.size + 1]? = some (.cells #[.int .i64 x.k, .string x.s, .int .i64 x.n, .slice p1 x.l.length d1] 48 (0, 0))) := heap_set_same _ HRF2.out
  go_wp2
  have stw1 := Stays.trans (Stays.trans (Stays.trans (Stays.trans (HS1.out) (stays_from (w.heap.size + 3) (w.heap.size + 1) 0 (.int .i64 x.k) (by omega) rfl)) (stays_from (w.heap.size + 3) (w.heap.size + 1) 1 (.string x.s) (by omega) rfl)) (stays_from (w.heap.size + 3) (w.heap.size + 1) 2 (.int .i64 x.n) (by omega) rfl)) (stays_from (w.heap.size + 3) (w.heap.size + 1) 3 (.slice p1 x.l.length d1) (by omega) rfl)
  refine bodyPost_ret (v := .agg #[.int .i64 x.k, .string x.s, .int .i64 x.n, .slice p1 x.l.length d1]) ?_ rfl ?_
  · exact results_cell_row rfl _ _ (w.heap.size + 1) 48 _ (0, 0) _ rfl (HRF3.out) Tryz.underlying48 rfl (by kernel_rfl)
  · refine ⟨[.int .i64 x.k, .string x.s, .int .i64 x.n, .slice p1 x.l.length d1], rfl, rfl, ?_, ?_, ((((HPL1.out.set _ _ _).set _ _ _).set _ _ _).set _ _ _)⟩
    · skip
      have rw1 := HRW1.out.frame (stw1.less (FromK.up hz0)) (FromK.up (m := w.heap.size) (Nat.le_trans (Nat.le_add_right _ 3) hz0)) (tyR_frame (stw1.less (FromK.up hz0)) (FromK.up (m := w.heap.size) (Nat.le_trans (Nat.le_add_right _ 3) hz0)) h)
      exact ⟨HZ.out.1, HZ.out.2.1, HZ.out.2.2, p1, d1, rfl, HL4.out.1, ⟨HL4.out.2.1, hcap1⟩, rw1⟩
    · exact ((((HB1.out.setCell (Nat.le_add_right _ _) _).setCell (Nat.le_add_right _ _) _).setCell (Nat.le_add_right _ _) _).setCell (Nat.le_add_right _ _) _)

theorem toTy_all (h : Nat) : ToTy h := by
  induction h with
  | zero => exact fun _ _ _ hr => hr.elim
  | succ h ih => exact toTy_step ih

set_option maxHeartbeats 500000 in
set_option maxRecDepth 100000 in
theorem toCon_step {h : Nat} (i1 : ToTy h) : ToCon h := by
  intro x cs w hrd hwt
  obtain ⟨z1, z2, z3, z4, z5, o1, c1, rfl, hs, hl, q1⟩ := hrd
  have HWT : Hid (x.s.size + lw (wty h) x.l ≤ 1048576) := hwt
  have I1 := hide i1
  have Q1 := hide q1
  have HL4 := hide (And.intro hs hl)
  have HZ := hide (And.intro z1 (And.intro z2 (And.intro z3 (And.intro z4 (z5)))))
  clear i1 q1 hwt hs hl z1 z2 z3 z4 z5
  have HX0 : Hid ((((w.alloc (.cells #[.string x.s, .slice o1 x.l.length c1] 138)).alloc (.cells #[.string ⟨#[]⟩, .slice none 0 0] 45)).alloc (.cells #[.string x.s, .slice none 0 0] 45)).heap[w.heap.size]? = some (.cells #[.string x.s, .slice o1 x.l.length c1] 138 (0, 0))) := (heap_alloc3_new w _ _ _).1
  have HR0 : Hid ((((w.alloc (.cells #[.string x.s, .slice o1 x.l.length c1] 138)).alloc (.cells #[.string ⟨#[]⟩, .slice none 0 0] 45)).alloc (.cells #[.string x.s, .slice none 0 0] 45)).heap[w.heap.size + 1]? = some (.cells #[.string ⟨#[]⟩, .slice none 0 0] 45 (0, 0))) := (heap_alloc3_new w _ _ _).2.1
  have HO0 : Hid ((((w.alloc (.cells #[.string x.s, .slice o1 x.l.length c1] 138)).alloc (.cells #[.string ⟨#[]⟩, .slice none 0 0] 45)).alloc (.cells #[.string x.s, .slice none 0 0] 45)).heap[w.heap.size + 2]? = some (.cells #[.string x.s, .slice none 0 0] 45 (0, 0))) := (heap_alloc3_new w _ _ _).2.2
  have HB0 : Hid (Below w.heap.size w (((w.alloc (.cells #[.string x.s, .slice o1 x.l.length c1] 138)).alloc (.cells #[.string ⟨#[]⟩, .slice none 0 0] 45)).alloc (.cells #[.string x.s, .slice none 0 0] 45))) := (((Below.refl _ w).alloc (Nat.le_refl _) _).alloc (by simp) _).alloc (by simp; omega) _
  have hz0 : w.heap.size + 3 ≤ (((w.alloc (.cells #[.string x.s, .slice o1 x.l.length c1] 138)).alloc (.cells #[.string ⟨#[]⟩, .slice none 0 0] 45)).alloc (.cells #[.string x.s, .slice none 0 0] 45)).heap.size := by simp
  have HPL0 : Hid (Plain w (((w.alloc (.cells #[.string x.s, .slice o1 x.l.length c1] 138)).alloc (.cells #[.string ⟨#[]⟩, .slice none 0 0] 45)).alloc (.cells #[.string x.s, .slice none 0 0] 45))) := (((Plain.refl w).alloc _ _).alloc _ _).alloc _ _
  go_enter Tryz.func87, Tryz.ntmps87
  go_wp2_with fail
  refine (toTyS_of I1.out x.l o1 c1 _ (by have := HWT.out; omega) (Q1.out.later HB0.out (tyR_later HB0.out h))).mono ?_
  rintro e w1 ⟨p1, d1, rfl, hcap1, hrw, hb, hpl⟩
  have HPL1' := hide (HPL0.out.on hpl hb)
  clear hpl
  have HBK1 := hide hb
  have HB1' := hide (HB0.out.trans (hb.mono HB0.out.size))
  have HX1' := hide ((hb.block (w.heap.size) (by omega)).trans HX0.out)
  have HR1' := hide ((hb.block (w.heap.size + 1) (by omega)).trans HR0.out)
  have HO1' := hide ((hb.block (w.heap.size + 2) (by omega)).trans HO0.out)
  have hz1' : w.heap.size + 3 ≤ w1.heap.size := Nat.le_trans hz0 hb.size
  have HRW1 := hide hrw
  clear hrw hb
  have s1_1 := cell_of HO1'.out 1
  have f1_1 := frozen_of HO1'.out 1
  have o0_1 := cell_of HO1'.out 0
  have r0_1 := cell_of HR1'.out 0
  have e0_1 := frozen_of HR1'.out 0
  have o1_1 := cell_of HO1'.out 1
  have r1_1 := cell_of HR1'.out 1
  have e1_1 := frozen_of HR1'.out 1
  simp only [List.getElem?_toArray, List.getElem?_cons_succ, List.getElem?_cons_zero] at s1_1 o0_1 o1_1 r0_1 r1_1
  have HX1 : Hid ((w1.setCell ⟨w.heap.size + 2, 1, none⟩ (.slice p1 x.l.length d1)).heap[w.heap.size]? = some (.cells #[.string x.s, .slice o1 x.l.length c1] 138 (0, 0))) := (heap_set_other _ (by omega)).trans (HX1'.out)
  have HR1 : Hid ((w1.setCell ⟨w.heap.size + 2, 1, none⟩ (.slice p1 x.l.length d1)).heap[w.heap.size + 1]? = some (.cells #[.string ⟨#[]⟩, .slice none 0 0] 45 (0, 0))) := (heap_set_other _ (by omega)).trans (HR1'.out)
  have HO1 : Hid ((w1.setCell ⟨w.heap.size + 2, 1, none⟩ (.slice p1 x.l.length d1)).heap[w.heap.size + 2]? = some (.cells #[.string x.s, .slice p1 x.l.length d1] 45 (0, 0))) := heap_set_same _ (HO1'.out)
  have HB1 : Hid (Below w.heap.size w (w1.setCell ⟨w.heap.size + 2, 1, none⟩ (.slice p1 x.l.length d1))) := (HB1'.out.setCell (Nat.le_add_right _ _) _)
  have hz1 : w.heap.size + 3 ≤ (w1.setCell ⟨w.heap.size + 2, 1, none⟩ (.slice p1 x.l.length d1)).heap.size := by simpa using hz1'
  have HPL1 : Hid (Plain w (w1.setCell ⟨w.heap.size + 2, 1, none⟩ (.slice p1 x.l.length d1))) := (HPL1'.out.set _ _ _)
  have HS1 : Hid (Stays (FromK (w.heap.size + 3)) w1 (w1.setCell ⟨w.heap.size + 2, 1, none⟩ (.slice p1 x.l.length d1))) := (stays_from _ (w.heap.size + 2) 1 (.slice p1 x.l.length d1) (by omega) rfl)
  have HRF0 : Hid (((w1.setCell ⟨w.heap.size + 2, 1, none⟩ (.slice p1 x.l.length d1)).setCell ⟨w.heap.size + 1, 0, none⟩ (.string x.s)).heap[w.heap.size + 1]? = some (.cells #[.string x.s, .slice none 0 0] 45 (0, 0))) := heap_set_same _ HR1.out
  have HRF1 : Hid ((((w1.setCell ⟨w.heap.size + 2, 1, none⟩ (.slice p1 x.l.length d1)).setCell ⟨w.heap.size + 1, 0, none⟩ (.string x.s)).setCell ⟨w.heap.size + 1, 1, none⟩ (.slice p1 x.l.length d1)).heap[w.heap.size + 1]? = some (.cells #[.string x.s, .slice p1 x.l.length d1] 45 (0, 0))) := heap_set_same _ HRF0.out
  go_wp2
  have stw1 := Stays.trans (Stays.trans (HS1.out) (stays_from (w.heap.size + 3) (w.heap.size + 1) 0 (.string x.s) (by omega) rfl)) (stays_from (w.heap.size + 3) (w.heap.size + 1) 1 (.slice p1 x.l.length d1) (by omega) rfl)
  refine bodyPost_ret (v := .agg #[.string x.s, .slice p1 x.l.length d1]) ?_ rfl ?_
  · exact results_cell_row rfl _ _ (w.heap.size + 1) 45 _ (0, 0) _ rfl (HRF1.out) Tryz.underlying45 rfl (by kernel_rfl)
  · refine ⟨[.string x.s, .slice p1 x.l.length d1], rfl, rfl, ?_, ?_, ((HPL1.out.set _ _ _).set _ _ _)⟩
    · skip
      have rw1 := HRW1.out.frame (stw1.less (FromK.up hz0)) (FromK.up (m := w.heap.size) (Nat.le_trans (Nat.le_add_right _ 3) hz0)) (tyR_frame (stw1.less (FromK.up hz0)) (FromK.up (m := w.heap.size) (Nat.le_trans (Nat.le_add_right _ 3) hz0)) h)
      exact ⟨HZ.out.1, HZ.out.2.1, HZ.out.2.2.1, HZ.out.2.2.2.1, HZ.out.2.2.2.2, p1, d1, rfl, HL4.out.1, ⟨HL4.out.2.1, hcap1⟩, rw1⟩
    · exact ((HB1.out.setCell (Nat.le_add_right _ _) _).setCell (Nat.le_add_right _ _) _)

theorem info_Con : (Tryz.prog.info? 45).map (fun i => (i.zero, i.size, i.bytes)) = some (some (.agg #[.string ⟨#[]⟩, .slice none 0 0]), 2, 40) := by kernel_rfl
theorem make_Con (n : Nat) (hn : n ≤ 1048576) (w : World) : (Instr.makeSlice 40 (.int .i64 (n : Int)) (.int .i64 (n : Int))).run Tryz.prog w = .ok (.slice (some ⟨w.heap.size, 0, none⟩) n n) (w.alloc (.cells (madeCells #[.string ⟨#[]⟩, .slice none 0 0] (n * 2)) 45)) := by
  obtain ⟨i0, hi, hz0, hz1, hz2⟩ := info_parts info_Con
  have hr := run_make (P := Tryz.prog) w 40 45 i0 _ Tryz.underlying40 hi hz0 .i64 .i64 n n (by omega) (Int.le_refl _) (by rw [hz2]; omega) (by omega)
  rw [hz1, Int.toNat_natCast] at hr
  exact hr

set_option maxHeartbeats 800000 in
set_option maxRecDepth 100000 in
theorem toConS_of {h : Nat} (hE : ToCon h) (xs : List Tr) (o : Option Addr) (cap : Nat) (w : World) (hl : lw (wco h) xs ≤ 1048576) (hm : RowOf AllK w (coR AllK w h) 2 o xs) :
    Calls Tryz.prog 62 #[.slice o xs.length cap] w fun e w' => ∃ o' c', e = .returned (.slice o' xs.length c') ∧ xs.length ≤ c' ∧ RowOf (FromK w.heap.size) w' (coR (FromK w.heap.size) w' h) 2 o' xs ∧ Below w.heap.size w w' ∧ Plain w w' := by
  have HM := hide hm
  have HE := hide hE
  have HL := hide hl
  have hl2 : xs.length ≤ 1048576 := by unfold lw at hl; omega
  clear hm hE hl
  have hmk := make_Con xs.length hl2
  go_enter Tryz.func62, Tryz.ntmps62
  go_wp2
  clear hmk
  go_loopw [4] (fun t4 wr => ∃ (i : Nat) (cur : Array Value), i ≤ xs.length ∧ t4 = .int .i64 i ∧ wr.heap[w.heap.size]? = some (.cells cur 45 (0, 0)) ∧ cur.size = xs.length * 2 ∧ Filled (coR (FromK (w.heap.size + 1)) wr h) 2 cur (xs.take i) ∧ Below w.heap.size w wr ∧ Plain w wr) (fun t4 _ => xs.length - (intOf t4).toNat)
  case atStart => exact ⟨0, _, Nat.zero_le _, rfl, heap_alloc_new w _, by rw [size_madeCells], Filled.nil _ _ _, (Below.refl _ w).alloc (Nat.le_refl _) _, (Plain.refl w).alloc _ _⟩
  case round =>
    obtain ⟨i, cur, hi, rfl, hcur, hsz, hfl, hbw, hpl⟩ := hrel
    have HPL := hide hpl
    clear hpl
    have HC := hide hcur
    have HF := hide hfl
    have HBW := hide hbw
    have HSZ := hide hsz
    clear hcur hfl hbw hsz
    by_cases hlt : i < xs.length
    · have hne : xs ≠ [] := by intro e; rw [e] at hlt; simp at hlt
      obtain ⟨x, hx⟩ : ∃ x, xs[i]? = some x := ⟨xs[i], List.getElem?_eq_getElem hlt⟩
      obtain ⟨b, off, eo, -, hbl, hcs⟩ := (HM.out.later HBW.out fun _ _ h => h) hne
      subst eo
      obtain ⟨cs, hlen, hkey, hrd⟩ := hcs i x hx
      obtain ⟨v0, v1, rfl⟩ := two_of hlen
      have q0 := hkey 0 v0 rfl
      have q1 := hkey 1 v1 rfl
      rw [Nat.add_zero] at q0
      have HX := hide hx
      have HRD := hide (coR_later HBW.out h x _ hrd)
      have HWT : Hid (wco h x ≤ 1048576) := by
        have h1 := le_sum (wco h) xs x (List.mem_of_getElem? hx)
        have h2 := HL.out
        unfold lw at h2
        exact (by omega : wco h x ≤ 1048576)
      clear hcs hx hne hkey hlen hrd
      have hlt2 : (i : Int) < xs.length := by omega
      have hw : w.heap.size < wr.heap.size := heap_lt HC.out
      go_wp2_with fail
      refine (HE.out x _ _ HRD.out HWT.out).mono ?_
      rintro e w1 ⟨cs', rfl, hlen', hrd', hb1, hpl1⟩
      obtain ⟨p1, d1, rfl⟩ := co_form hrd'
      have HB1 := hide hb1
      have HP1 := hide (HPL.out.on hpl1 hb1)
      clear hpl1
      have HRD1 := hide hrd'
      have HC1 := hide ((hb1.block w.heap.size hw).trans HC.out)
      clear hb1 hrd' hlen'
      have s0 := cell_of HC1.out (i * 2)
      have s1 := cell_of HC1.out (i * 2 + 1)
      rw [Array.getElem?_eq_getElem (by rw [HSZ.out]; omega)] at s0 s1
      have f0 := frozen_of HC1.out (i * 2)
      have f1 := frozen_of HC1.out (i * 2 + 1)
      go_wp2
      refine ⟨⟨i + 1, _, by omega, by go_num, heap_set_same _ (heap_set_same _ HC1.out), by simpa using HSZ.out, ?_, ?_, (HP1.out.set _ _ _).set _ _ _⟩, by simp [intOf]; omega⟩
      · have no : ¬ FromK (w.heap.size + 1) w.heap.size := fun h => by have h2 : w.heap.size + 1 ≤ w.heap.size := h; omega
        have st := (stays_set (FromK (w.heap.size + 1)) w1 w.heap.size (i * 2) (.string x.s) no).trans (stays_set _ _ _ (i * 2 + 1) (.slice p1 x.l.length d1) no)
        have sw := (Stays.of (K := FromK (w.heap.size + 1)) HB1.out).trans st
        have key := HF.out.snoc (cs := [.string x.s, .slice p1 x.l.length d1]) (coR_frame sw (fun _ h => h) h) HX.out rfl HSZ.out (coR_frame st (fun _ h => h) h _ _ (coR_frame (Stays.refl _ _) (fun b (hb : wr.heap.size ≤ b) => (by show w.heap.size + 1 ≤ b; omega)) h _ _ HRD1.out))
        exact key
      · have h1 := HBW.out.trans (HB1.out.mono HBW.out.size)
        exact (h1.setCell (Nat.le_refl _) _).setCell (Nat.le_refl _) _
    · go_wp2
      go_ret
      have hie : i = xs.length := by omega
      subst hie
      have key := HF.out
      rw [List.take_length] at key
      refine ⟨_, _, rfl, Nat.le_refl _, RowOf.frame (K := FromK w.heap.size) (key.row HC.out (Nat.le_refl _)) (Stays.refl _ _) (fun _ h => h) (fun x cs hx => ?_), HBW.out, HPL.out⟩
      exact coR_frame (Stays.refl _ _) (fun b (hb : w.heap.size + 1 ≤ b) => (by show w.heap.size ≤ b; omega)) h _ _ hx

set_option maxHeartbeats 500000 in
set_option maxRecDepth 100000 in
theorem toData_step {h : Nat} (i1 : ToCon h) : ToData h := by
  intro x cs w hrd hwt
  obtain ⟨z1, z2, z3, z4, z5, o1, c1, rfl, hs, hl, q1⟩ := hrd
  have HWT : Hid (x.s.size + lw (wco h) x.l ≤ 1048576) := hwt
  have I1 := hide i1
  have Q1 := hide q1
  have HL4 := hide (And.intro hs hl)
  have HZ := hide (And.intro z1 (And.intro z2 (And.intro z3 (And.intro z4 (z5)))))
  clear i1 q1 hwt hs hl z1 z2 z3 z4 z5
  have HX0 : Hid ((((w.alloc (.cells #[.string x.s, .slice o1 x.l.length c1] 61)).alloc (.cells #[.string ⟨#[]⟩, .slice none 0 0] 42)).alloc (.cells #[.string x.s, .slice none 0 0] 42)).heap[w.heap.size]? = some (.cells #[.string x.s, .slice o1 x.l.length c1] 61 (0, 0))) := (heap_alloc3_new w _ _ _).1
  have HR0 : Hid ((((w.alloc (.cells #[.string x.s, .slice o1 x.l.length c1] 61)).alloc (.cells #[.string ⟨#[]⟩, .slice none 0 0] 42)).alloc (.cells #[.string x.s, .slice none 0 0] 42)).heap[w.heap.size + 1]? = some (.cells #[.string ⟨#[]⟩, .slice none 0 0] 42 (0, 0))) := (heap_alloc3_new w _ _ _).2.1
  have HO0 : Hid ((((w.alloc (.cells #[.string x.s, .slice o1 x.l.length c1] 61)).alloc (.cells #[.string ⟨#[]⟩, .slice none 0 0] 42)).alloc (.cells #[.string x.s, .slice none 0 0] 42)).heap[w.heap.size + 2]? = some (.cells #[.string x.s, .slice none 0 0] 42 (0, 0))) := (heap_alloc3_new w _ _ _).2.2
  have HB0 : Hid (Below w.heap.size w (((w.alloc (.cells #[.string x.s, .slice o1 x.l.length c1] 61)).alloc (.cells #[.string ⟨#[]⟩, .slice none 0 0] 42)).alloc (.cells #[.string x.s, .slice none 0 0] 42))) := (((Below.refl _ w).alloc (Nat.le_refl _) _).alloc (by simp) _).alloc (by simp; omega) _
  have hz0 : w.heap.size + 3 ≤ (((w.alloc (.cells #[.string x.s, .slice o1 x.l.length c1] 61)).alloc (.cells #[.string ⟨#[]⟩, .slice none 0 0] 42)).alloc (.cells #[.string x.s, .slice none 0 0] 42)).heap.size := by simp
  have HPL0 : Hid (Plain w (((w.alloc (.cells #[.string x.s, .slice o1 x.l.length c1] 61)).alloc (.cells #[.string ⟨#[]⟩, .slice none 0 0] 42)).alloc (.cells #[.string x.s, .slice none 0 0] 42))) := (((Plain.refl w).alloc _ _).alloc _ _).alloc _ _
  go_enter Tryz.func33, Tryz.ntmps33
  go_wp2_with fail
  refine (toConS_of I1.out x.l o1 c1 _ (by have := HWT.out; omega) (Q1.out.later HB0.out (coR_later HB0.out h))).mono ?_
  rintro e w1 ⟨p1, d1, rfl, hcap1, hrw, hb, hpl⟩
  have HPL1' := hide (HPL0.out.on hpl hb)
  clear hpl
  have HBK1 := hide hb
  have HB1' := hide (HB0.out.trans (hb.mono HB0.out.size))
  have HX1' := hide ((hb.block (w.heap.size) (by omega)).trans HX0.out)
  have HR1' := hide ((hb.block (w.heap.size + 1) (by omega)).trans HR0.out)
  have HO1' := hide ((hb.block (w.heap.size + 2) (by omega)).trans HO0.out)
  have hz1' : w.heap.size + 3 ≤ w1.heap.size := Nat.le_trans hz0 hb.size
  have HRW1 := hide hrw
  clear hrw hb
  have s1_1 := cell_of HO1'.out 1
  have f1_1 := frozen_of HO1'.out 1
  have o0_1 := cell_of HO1'.out 0
  have r0_1 := cell_of HR1'.out 0
  have e0_1 := frozen_of HR1'.out 0
  have o1_1 := cell_of HO1'.out 1
  have r1_1 := cell_of HR1'.out 1
  have e1_1 := frozen_of HR1'.out 1
  simp only [List.getElem?_toArray, List.getElem?_cons_succ, List.getElem?_cons_zero] at s1_1 o0_1 o1_1 r0_1 r1_1
  have HX1 : Hid ((w1.setCell ⟨w.heap.size + 2, 1, none⟩ (.slice p1 x.l.length d1)).heap[w.heap.size]? = some (.cells #[.string x.s, .slice o1 x.l.length c1] 61 (0, 0))) := (heap_set_other _ (by omega)).trans (HX1'.out)
  have HR1 : Hid ((w1.setCell ⟨w.heap.size + 2, 1, none⟩ (.slice p1 x.l.length d1)).heap[w.heap.size + 1]? = some (.cells #[.string ⟨#[]⟩, .slice none 0 0] 42 (0, 0))) := (heap_set_other _ (by omega)).trans (HR1'.out)
  have HO1 : Hid ((w1.setCell ⟨w.heap.size + 2, 1, none⟩ (.slice p1 x.l.length d1)).heap[w.heap.size + 2]? = some (.cells #[.string x.s, .slice p1 x.l.length d1] 42 (0, 0))) := heap_set_same _ (HO1'.out)
  have HB1 : Hid (Below w.heap.size w (w1.setCell ⟨w.heap.size + 2, 1, none⟩ (.slice p1 x.l.length d1))) := (HB1'.out.setCell (Nat.le_add_right _ _) _)
  have hz1 : w.heap.size + 3 ≤ (w1.setCell ⟨w.heap.size + 2, 1, none⟩ (.slice p1 x.l.length d1)).heap.size := by simpa using hz1'
  have HPL1 : Hid (Plain w (w1.setCell ⟨w.heap.size + 2, 1, none⟩ (.slice p1 x.l.length d1))) := (HPL1'.out.set _ _ _)
  have HS1 : Hid (Stays (FromK (w.heap.size + 3)) w1 (w1.setCell ⟨w.heap.size + 2, 1, none⟩ (.slice p1 x.l.length d1))) := (stays_from _ (w.heap.size + 2) 1 (.slice p1 x.l.length d1) (by omega) rfl)
  have HRF0 : Hid (((w1.setCell ⟨w.heap.size + 2, 1, none⟩ (.slice p1 x.l.length d1)).setCell ⟨w.heap.size + 1, 0, none⟩ (.string x.s)).heap[w.heap.size + 1]? = some (.cells #[.string x.s, .slice none 0 0] 42 (0, 0))) := heap_set_same _ HR1.out
  have HRF1 : Hid ((((w1.setCell ⟨w.heap.size + 2, 1, none⟩ (.slice p1 x.l.length d1)).setCell ⟨w.heap.size + 1, 0, none⟩ (.string x.s)).setCell ⟨w.heap.size + 1, 1, none⟩ (.slice p1 x.l.length d1)).heap[w.heap.size + 1]? = some (.cells #[.string x.s, .slice p1 x.l.length d1] 42 (0, 0))) := heap_set_same _ HRF0.out
  go_wp2
  have stw1 := Stays.trans (Stays.trans (HS1.out) (stays_from (w.heap.size + 3) (w.heap.size + 1) 0 (.string x.s) (by omega) rfl)) (stays_from (w.heap.size + 3) (w.heap.size + 1) 1 (.slice p1 x.l.length d1) (by omega) rfl)
  refine bodyPost_ret (v := .agg #[.string x.s, .slice p1 x.l.length d1]) ?_ rfl ?_
  · exact results_cell_row rfl _ _ (w.heap.size + 1) 42 _ (0, 0) _ rfl (HRF1.out) Tryz.underlying42 rfl (by kernel_rfl)
  · refine ⟨[.string x.s, .slice p1 x.l.length d1], rfl, rfl, ?_, ?_, ((HPL1.out.set _ _ _).set _ _ _)⟩
    · skip
      have rw1 := HRW1.out.frame (stw1.less (FromK.up hz0)) (FromK.up (m := w.heap.size) (Nat.le_trans (Nat.le_add_right _ 3) hz0)) (coR_frame (stw1.less (FromK.up hz0)) (FromK.up (m := w.heap.size) (Nat.le_trans (Nat.le_add_right _ 3) hz0)) h)
      exact ⟨HZ.out.1, HZ.out.2.1, HZ.out.2.2.1, HZ.out.2.2.2.1, HZ.out.2.2.2.2, p1, d1, rfl, HL4.out.1, ⟨HL4.out.2.1, hcap1⟩, rw1⟩
    · exact ((HB1.out.setCell (Nat.le_add_right _ _) _).setCell (Nat.le_add_right _ _) _)

theorem info_Data : (Tryz.prog.info? 42).map (fun i => (i.zero, i.size, i.bytes)) = some (some (.agg #[.string ⟨#[]⟩, .slice none 0 0]), 2, 40) := by kernel_rfl
theorem make_Data (n : Nat) (hn : n ≤ 1048576) (w : World) : (Instr.makeSlice 28 (.int .i64 (n : Int)) (.int .i64 (n : Int))).run Tryz.prog w = .ok (.slice (some ⟨w.heap.size, 0, none⟩) n n) (w.alloc (.cells (madeCells #[.string ⟨#[]⟩, .slice none 0 0] (n * 2)) 42)) := by
  obtain ⟨i0, hi, hz0, hz1, hz2⟩ := info_parts info_Data
  have hr := run_make (P := Tryz.prog) w 28 42 i0 _ Tryz.underlying28 hi hz0 .i64 .i64 n n (by omega) (Int.le_refl _) (by rw [hz2]; omega) (by omega)
  rw [hz1, Int.toNat_natCast] at hr
  exact hr

set_option maxHeartbeats 800000 in
set_option maxRecDepth 100000 in
theorem toDataS_of {h : Nat} (hE : ToData h) (xs : List Tr) (o : Option Addr) (cap : Nat) (w : World) (hl : lw (wda h) xs ≤ 1048576) (hm : RowOf AllK w (daR AllK w h) 2 o xs) :
    Calls Tryz.prog 15 #[.slice o xs.length cap] w fun e w' => ∃ o' c', e = .returned (.slice o' xs.length c') ∧ xs.length ≤ c' ∧ RowOf (FromK w.heap.size) w' (daR (FromK w.heap.size) w' h) 2 o' xs ∧ Below w.heap.size w w' ∧ Plain w w' := by
  have HM := hide hm
  have HE := hide hE
  have HL := hide hl
  have hl2 : xs.length ≤ 1048576 := by unfold lw at hl; omega
  clear hm hE hl
  have hmk := make_Data xs.length hl2
  go_enter Tryz.func15, Tryz.ntmps15
  go_wp2
  clear hmk
  go_loopw [4] (fun t4 wr => ∃ (i : Nat) (cur : Array Value), i ≤ xs.length ∧ t4 = .int .i64 i ∧ wr.heap[w.heap.size]? = some (.cells cur 42 (0, 0)) ∧ cur.size = xs.length * 2 ∧ Filled (daR (FromK (w.heap.size + 1)) wr h) 2 cur (xs.take i) ∧ Below w.heap.size w wr ∧ Plain w wr) (fun t4 _ => xs.length - (intOf t4).toNat)
  case atStart => exact ⟨0, _, Nat.zero_le _, rfl, heap_alloc_new w _, by rw [size_madeCells], Filled.nil _ _ _, (Below.refl _ w).alloc (Nat.le_refl _) _, (Plain.refl w).alloc _ _⟩
  case round =>
    obtain ⟨i, cur, hi, rfl, hcur, hsz, hfl, hbw, hpl⟩ := hrel
    have HPL := hide hpl
    clear hpl
    have HC := hide hcur
    have HF := hide hfl
    have HBW := hide hbw
    have HSZ := hide hsz
    clear hcur hfl hbw hsz
    by_cases hlt : i < xs.length
    · have hne : xs ≠ [] := by intro e; rw [e] at hlt; simp at hlt
      obtain ⟨x, hx⟩ : ∃ x, xs[i]? = some x := ⟨xs[i], List.getElem?_eq_getElem hlt⟩
      obtain ⟨b, off, eo, -, hbl, hcs⟩ := (HM.out.later HBW.out fun _ _ h => h) hne
      subst eo
      obtain ⟨cs, hlen, hkey, hrd⟩ := hcs i x hx
      obtain ⟨v0, v1, rfl⟩ := two_of hlen
      have q0 := hkey 0 v0 rfl
      have q1 := hkey 1 v1 rfl
      rw [Nat.add_zero] at q0
      have HX := hide hx
      have HRD := hide (daR_later HBW.out h x _ hrd)
      have HWT : Hid (wda h x ≤ 1048576) := by
        have h1 := le_sum (wda h) xs x (List.mem_of_getElem? hx)
        have h2 := HL.out
        unfold lw at h2
        exact (by omega : wda h x ≤ 1048576)
      clear hcs hx hne hkey hlen hrd
      have hlt2 : (i : Int) < xs.length := by omega
      have hw : w.heap.size < wr.heap.size := heap_lt HC.out
      go_wp2_with fail
      refine (HE.out x _ _ HRD.out HWT.out).mono ?_
      rintro e w1 ⟨cs', rfl, hlen', hrd', hb1, hpl1⟩
      obtain ⟨p1, d1, rfl⟩ := da_form hrd'
      have HB1 := hide hb1
      have HP1 := hide (HPL.out.on hpl1 hb1)
      clear hpl1
      have HRD1 := hide hrd'
      have HC1 := hide ((hb1.block w.heap.size hw).trans HC.out)
      clear hb1 hrd' hlen'
      have s0 := cell_of HC1.out (i * 2)
      have s1 := cell_of HC1.out (i * 2 + 1)
      rw [Array.getElem?_eq_getElem (by rw [HSZ.out]; omega)] at s0 s1
      have f0 := frozen_of HC1.out (i * 2)
      have f1 := frozen_of HC1.out (i * 2 + 1)
      go_wp2
      refine ⟨⟨i + 1, _, by omega, by go_num, heap_set_same _ (heap_set_same _ HC1.out), by simpa using HSZ.out, ?_, ?_, (HP1.out.set _ _ _).set _ _ _⟩, by simp [intOf]; omega⟩
      · have no : ¬ FromK (w.heap.size + 1) w.heap.size := fun h => by have h2 : w.heap.size + 1 ≤ w.heap.size := h; omega
        have st := (stays_set (FromK (w.heap.size + 1)) w1 w.heap.size (i * 2) (.string x.s) no).trans (stays_set _ _ _ (i * 2 + 1) (.slice p1 x.l.length d1) no)
        have sw := (Stays.of (K := FromK (w.heap.size + 1)) HB1.out).trans st
        have key := HF.out.snoc (cs := [.string x.s, .slice p1 x.l.length d1]) (daR_frame sw (fun _ h => h) h) HX.out rfl HSZ.out (daR_frame st (fun _ h => h) h _ _ (daR_frame (Stays.refl _ _) (fun b (hb : wr.heap.size ≤ b) => (by show w.heap.size + 1 ≤ b; omega)) h _ _ HRD1.out))
        exact key
      · have h1 := HBW.out.trans (HB1.out.mono HBW.out.size)
        exact (h1.setCell (Nat.le_refl _) _).setCell (Nat.le_refl _) _
    · go_wp2
      go_ret
      have hie : i = xs.length := by omega
      subst hie
      have key := HF.out
      rw [List.take_length] at key
      refine ⟨_, _, rfl, Nat.le_refl _, RowOf.frame (K := FromK w.heap.size) (key.row HC.out (Nat.le_refl _)) (Stays.refl _ _) (fun _ h => h) (fun x cs hx => ?_), HBW.out, HPL.out⟩
      exact daR_frame (Stays.refl _ _) (fun b (hb : w.heap.size + 1 ≤ b) => (by show w.heap.size ≤ b; omega)) h _ _ hx

set_option maxHeartbeats 500000 in
set_option maxRecDepth 100000 in
theorem toProg_step {h : Nat} (i1 : ToData h) (i2 : ToDe h) : ToProg h := by
  intro x cs w hrd hwt
  obtain ⟨z1, z2, z3, z4, z5, o1, c1, o2, c2, rfl, hl, hd, q1, q2⟩ := hrd
  have HWT : Hid (lw (wda h) x.l + lw (wts h).de x.ds ≤ 1048576) := hwt
  have I1 := hide i1
  have I2 := hide i2
  have Q1 := hide q1
  have Q2 := hide q2
  have HL4 := hide (And.intro hl hd)
  have HZ := hide (And.intro z1 (And.intro z2 (And.intro z3 (And.intro z4 z5))))
  clear i1 i2 q1 q2 hwt hl hd z1 z2 z3 z4 z5
  have HX0 : Hid ((((w.alloc (.cells #[.slice o1 x.l.length c1, .slice o2 x.ds.length c2] 25)).alloc (.cells #[.slice none 0 0, .slice none 0 0] 31)).alloc (.cells #[.slice none 0 0, .slice none 0 0] 31)).heap[w.heap.size]? = some (.cells #[.slice o1 x.l.length c1, .slice o2 x.ds.length c2] 25 (0, 0))) := (heap_alloc3_new w _ _ _).1
  have HR0 : Hid ((((w.alloc (.cells #[.slice o1 x.l.length c1, .slice o2 x.ds.length c2] 25)).alloc (.cells #[.slice none 0 0, .slice none 0 0] 31)).alloc (.cells #[.slice none 0 0, .slice none 0 0] 31)).heap[w.heap.size + 1]? = some (.cells #[.slice none 0 0, .slice none 0 0] 31 (0, 0))) := (heap_alloc3_new w _ _ _).2.1
  have HO0 : Hid ((((w.alloc (.cells #[.slice o1 x.l.length c1, .slice o2 x.ds.length c2] 25)).alloc (.cells #[.slice none 0 0, .slice none 0 0] 31)).alloc (.cells #[.slice none 0 0, .slice none 0 0] 31)).heap[w.heap.size + 2]? = some (.cells #[.slice none 0 0, .slice none 0 0] 31 (0, 0))) := (heap_alloc3_new w _ _ _).2.2
  have HB0 : Hid (Below w.heap.size w (((w.alloc (.cells #[.slice o1 x.l.length c1, .slice o2 x.ds.length c2] 25)).alloc (.cells #[.slice none 0 0, .slice none 0 0] 31)).alloc (.cells #[.slice none 0 0, .slice none 0 0] 31))) := (((Below.refl _ w).alloc (Nat.le_refl _) _).alloc (by simp) _).alloc (by simp; omega) _
  have hz0 : w.heap.size + 3 ≤ (((w.alloc (.cells #[.slice o1 x.l.length c1, .slice o2 x.ds.length c2] 25)).alloc (.cells #[.slice none 0 0, .slice none 0 0] 31)).alloc (.cells #[.slice none 0 0, .slice none 0 0] 31)).heap.size := by simp
  have HPL0 : Hid (Plain w (((w.alloc (.cells #[.slice o1 x.l.length c1, .slice o2 x.ds.length c2] 25)).alloc (.cells #[.slice none 0 0, .slice none 0 0] 31)).alloc (.cells #[.slice none 0 0, .slice none 0 0] 31))) := (((Plain.refl w).alloc _ _).alloc _ _).alloc _ _
  go_enter Tryz.func6, Tryz.ntmps6
  go_wp2_with fail
  refine (toDataS_of I1.out x.l o1 c1 _ (by have := HWT.out; omega) (Q1.out.later HB0.out (daR_later HB0.out h))).mono ?_
  rintro e w1 ⟨p1, d1, rfl, hcap1, hrw, hb, hpl⟩
  have HPL1' := hide (HPL0.out.on hpl hb)
  clear hpl
  have HBK1 := hide hb
  have HB1' := hide (HB0.out.trans (hb.mono HB0.out.size))
  have HX1' := hide ((hb.block (w.heap.size) (by omega)).trans HX0.out)
  have HR1' := hide ((hb.block (w.heap.size + 1) (by omega)).trans HR0.out)
  have HO1' := hide ((hb.block (w.heap.size + 2) (by omega)).trans HO0.out)
  have hz1' : w.heap.size + 3 ≤ w1.heap.size := Nat.le_trans hz0 hb.size
  have HRW1 := hide hrw
  clear hrw hb
  have s0_1 := cell_of HO1'.out 0
  have f0_1 := frozen_of HO1'.out 0
  have b1_1 := cell_of HX1'.out 1
  simp only [List.getElem?_toArray, List.getElem?_cons_succ, List.getElem?_cons_zero] at s0_1 b1_1
  have HX1 : Hid ((w1.setCell ⟨w.heap.size + 2, 0, none⟩ (.slice p1 x.l.length d1)).heap[w.heap.size]? = some (.cells #[.slice o1 x.l.length c1, .slice o2 x.ds.length c2] 25 (0, 0))) := (heap_set_other _ (by omega)).trans (HX1'.out)
  have HR1 : Hid ((w1.setCell ⟨w.heap.size + 2, 0, none⟩ (.slice p1 x.l.length d1)).heap[w.heap.size + 1]? = some (.cells #[.slice none 0 0, .slice none 0 0] 31 (0, 0))) := (heap_set_other _ (by omega)).trans (HR1'.out)
  have HO1 : Hid ((w1.setCell ⟨w.heap.size + 2, 0, none⟩ (.slice p1 x.l.length d1)).heap[w.heap.size + 2]? = some (.cells #[.slice p1 x.l.length d1, .slice none 0 0] 31 (0, 0))) := heap_set_same _ (HO1'.out)
  have HB1 : Hid (Below w.heap.size w (w1.setCell ⟨w.heap.size + 2, 0, none⟩ (.slice p1 x.l.length d1))) := (HB1'.out.setCell (Nat.le_add_right _ _) _)
  have hz1 : w.heap.size + 3 ≤ (w1.setCell ⟨w.heap.size + 2, 0, none⟩ (.slice p1 x.l.length d1)).heap.size := by simpa using hz1'
  have HPL1 : Hid (Plain w (w1.setCell ⟨w.heap.size + 2, 0, none⟩ (.slice p1 x.l.length d1))) := (HPL1'.out.set _ _ _)
  have HS1 : Hid (Stays (FromK (w.heap.size + 3)) w1 (w1.setCell ⟨w.heap.size + 2, 0, none⟩ (.slice p1 x.l.length d1))) := (stays_from _ (w.heap.size + 2) 0 (.slice p1 x.l.length d1) (by omega) rfl)
  go_wp2_with fail
  refine (toDecS_of I2.out x.ds o2 c2 _ (by have := HWT.out; omega) (Q2.out.later HB1.out (reads_later HB1.out h).2.1)).mono ?_
  rintro e w2 ⟨p2, d2, rfl, hcap2, hrw, hb, hpl⟩
  have HPL2' := hide (HPL1.out.on hpl hb)
  clear hpl
  have HBK2 := hide hb
  have HB2' := hide (HB1.out.trans (hb.mono HB1.out.size))
  have HX2' := hide ((hb.block (w.heap.size) (by omega)).trans HX1.out)
  have HR2' := hide ((hb.block (w.heap.size + 1) (by omega)).trans HR1.out)
  have HO2' := hide ((hb.block (w.heap.size + 2) (by omega)).trans HO1.out)
  have hz2' : w.heap.size + 3 ≤ w2.heap.size := Nat.le_trans hz1 hb.size
  have HRW2 := hide hrw
  clear hrw hb
  have s1_2 := cell_of HO2'.out 1
  have f1_2 := frozen_of HO2'.out 1
  have o0_2 := cell_of HO2'.out 0
  have r0_2 := cell_of HR2'.out 0
  have e0_2 := frozen_of HR2'.out 0
  have o1_2 := cell_of HO2'.out 1
  have r1_2 := cell_of HR2'.out 1
  have e1_2 := frozen_of HR2'.out 1
  simp only [List.getElem?_toArray, List.getElem?_cons_succ, List.getElem?_cons_zero] at s1_2 o0_2 o1_2 r0_2 r1_2
  have HX2 : Hid ((w2.setCell ⟨w.heap.size + 2, 1, none⟩ (.slice p2 x.ds.length d2)).heap[w.heap.size]? = some (.cells #[.slice o1 x.l.length c1, .slice o2 x.ds.length c2] 25 (0, 0))) := (heap_set_other _ (by omega)).trans (HX2'.out)
  have HR2 : Hid ((w2.setCell ⟨w.heap.size + 2, 1, none⟩ (.slice p2 x.ds.length d2)).heap[w.heap.size + 1]? = some (.cells #[.slice none 0 0, .slice none 0 0] 31 (0, 0))) := (heap_set_other _ (by omega)).trans (HR2'.out)
  have HO2 : Hid ((w2.setCell ⟨w.heap.size + 2, 1, none⟩ (.slice p2 x.ds.length d2)).heap[w.heap.size + 2]? = some (.cells #[.slice p1 x.l.length d1, .slice p2 x.ds.length d2] 31 (0, 0))) := heap_set_same _ (HO2'.out)
  have HB2 : Hid (Below w.heap.size w (w2.setCell ⟨w.heap.size + 2, 1, none⟩ (.slice p2 x.ds.length d2))) := (HB2'.out.setCell (Nat.le_add_right _ _) _)
  have hz2 : w.heap.size + 3 ≤ (w2.setCell ⟨w.heap.size + 2, 1, none⟩ (.slice p2 x.ds.length d2)).heap.size := by simpa using hz2'
  have HPL2 : Hid (Plain w (w2.setCell ⟨w.heap.size + 2, 1, none⟩ (.slice p2 x.ds.length d2))) := (HPL2'.out.set _ _ _)
  have HS2 : Hid (Stays (FromK (w.heap.size + 3)) w2 (w2.setCell ⟨w.heap.size + 2, 1, none⟩ (.slice p2 x.ds.length d2))) := (stays_from _ (w.heap.size + 2) 1 (.slice p2 x.ds.length d2) (by omega) rfl)
  have HRF0 : Hid (((w2.setCell ⟨w.heap.size + 2, 1, none⟩ (.slice p2 x.ds.length d2)).setCell ⟨w.heap.size + 1, 0, none⟩ (.slice p1 x.l.length d1)).heap[w.heap.size + 1]? = some (.cells #[.slice p1 x.l.length d1, .slice none 0 0] 31 (0, 0))) := heap_set_same _ HR2.out
  have HRF1 : Hid ((((w2.setCell ⟨w.heap.size + 2, 1, none⟩ (.slice p2 x.ds.length d2)).setCell ⟨w.heap.size + 1, 0, none⟩ (.slice p1 x.l.length d1)).setCell ⟨w.heap.size + 1, 1, none⟩ (.slice p2 x.ds.length d2)).heap[w.heap.size + 1]? = some (.cells #[.slice p1 x.l.length d1, .slice p2 x.ds.length d2] 31 (0, 0))) := heap_set_same _ HRF0.out
  go_wp2
  have stw2 := Stays.trans (Stays.trans (HS2.out) (stays_from (w.heap.size + 3) (w.heap.size + 1) 0 (.slice p1 x.l.length d1) (by omega) rfl)) (stays_from (w.heap.size + 3) (w.heap.size + 1) 1 (.slice p2 x.ds.length d2) (by omega) rfl)
  have stw1 := (HS1.out.trans (Stays.of HBK2.out)).trans stw2
  refine bodyPost_ret (v := .agg #[.slice p1 x.l.length d1, .slice p2 x.ds.length d2]) ?_ rfl ?_
  · exact results_cell_row rfl _ _ (w.heap.size + 1) 31 _ (0, 0) _ rfl (HRF1.out) Tryz.underlying31 rfl (by kernel_rfl)
  · refine ⟨[.slice p1 x.l.length d1, .slice p2 x.ds.length d2], rfl, rfl, ?_, ?_, ((HPL2.out.set _ _ _).set _ _ _)⟩
    · skip
      have rw1 := HRW1.out.frame (stw1.less (FromK.up hz0)) (FromK.up (m := w.heap.size) (Nat.le_trans (Nat.le_add_right _ 3) hz0)) (daR_frame (stw1.less (FromK.up hz0)) (FromK.up (m := w.heap.size) (Nat.le_trans (Nat.le_add_right _ 3) hz0)) h)
      have rw2 := HRW2.out.frame (stw2.less (FromK.up hz1)) (FromK.up (m := w.heap.size) (Nat.le_trans (Nat.le_add_right _ 3) hz1)) (reads_frame (stw2.less (FromK.up hz1)) (FromK.up (m := w.heap.size) (Nat.le_trans (Nat.le_add_right _ 3) hz1)) h).2.1
      exact ⟨HZ.out.1, HZ.out.2.1, HZ.out.2.2.1, HZ.out.2.2.2.1, HZ.out.2.2.2.2, p1, d1, p2, d2, rfl, ⟨HL4.out.1.1, hcap1⟩, ⟨HL4.out.2.1, hcap2⟩, rw1, rw2⟩
    · exact ((HB2.out.setCell (Nat.le_add_right _ _) _).setCell (Nat.le_add_right _ _) _)

theorem toProg_all (h : Nat) : ToProg h := toProg_step (toData_step (toCon_step (toTy_all h))) (to_all h).2.1
end Go.Proofs.YtlaeenfeajkcfalGreat
namespace Go.Proofs.YtlaeenfeajkcfalGreat
open Go.ChangeShapes Go.WideShapes Go.ChangeAt Go.RowKit

def EqTy (h : Nat) : Prop := ∀ (x : Tr) (ca cb : List Value) (w : World), tyR AllK w h x ca → tyR AllK w h x cb → Calls Tryz.prog 145 #[.agg ca.toArray, .agg cb.toArray] w fun e w' => e = .returned (.bool true) ∧ Below w.heap.size w w'
def EqCon (h : Nat) : Prop := ∀ (x : Tr) (ca cb : List Value) (w : World), coR AllK w h x ca → coR AllK w h x cb → Calls Tryz.prog 102 #[.agg ca.toArray, .agg cb.toArray] w fun e w' => e = .returned (.bool true) ∧ Below w.heap.size w w'
def EqData (h : Nat) : Prop := ∀ (x : Tr) (ca cb : List Value) (w : World), daR AllK w h x ca → daR AllK w h x cb → Calls Tryz.prog 45 #[.agg ca.toArray, .agg cb.toArray] w fun e w' => e = .returned (.bool true) ∧ Below w.heap.size w w'
def EqProg (h : Nat) : Prop := ∀ (x : Tr) (ca cb : List Value) (w : World), prR AllK w h x ca → prR AllK w h x cb → Calls Tryz.prog 8 #[.agg ca.toArray, .agg cb.toArray] w fun e w' => e = .returned (.bool true) ∧ Below w.heap.size w w'

set_option maxHeartbeats 1000000 in
set_option maxRecDepth 100000 in
theorem eqTyS_of {h : Nat} (hE : EqTy h) (xs : List Tr) (hl : xs.length ≤ maxLen) (oa ob : Option Addr) (ca cb : Nat) (w : World) (ha : RowOf AllK w (tyR AllK w h) 4 oa xs) (hb : RowOf AllK w (tyR AllK w h) 4 ob xs) :
    Calls Tryz.prog 127 #[.slice oa xs.length ca, .slice ob xs.length cb] w fun e w' => e = .returned (.bool true) ∧ Below w.heap.size w w' := by
  have HA := hide ha
  have HB := hide hb
  have HE := hide hE
  have hl2 : xs.length ≤ 9223372036854775807 := hl
  clear ha hb hE hl
  go_enter Tryz.func127, Tryz.ntmps127
  go_wp2
  go_loopw [5] (fun t wr => ∃ k : Nat, k ≤ xs.length ∧ t = .int .i64 k ∧ Below w.heap.size w wr) (fun t _ => xs.length - (intOf t).toNat)
  case atStart => exact ⟨0, Nat.zero_le _, rfl, Below.refl _ _⟩
  case round =>
    obtain ⟨i, hi, rfl, hbw⟩ := hrel
    have HBW := hide hbw
    clear hbw
    by_cases hlt : i < xs.length
    · have hne : xs ≠ [] := by intro e; rw [e] at hlt; simp at hlt
      obtain ⟨x, hx⟩ : ∃ x, xs[i]? = some x := ⟨xs[i], List.getElem?_eq_getElem hlt⟩
      obtain ⟨ba, fa, ea, -, -, hA⟩ := (HA.out.later HBW.out (tyR_later HBW.out h)) hne
      obtain ⟨bb, fb, eb, -, -, hB⟩ := (HB.out.later HBW.out (tyR_later HBW.out h)) hne
      subst ea eb
      obtain ⟨va, lA, hkA, rA⟩ := hA i x hx
      obtain ⟨vb, lB, hkB, rB⟩ := hB i x hx
      obtain ⟨v0, v1, v2, v3, rfl⟩ := four_of lA
      obtain ⟨u0, u1, u2, u3, rfl⟩ := four_of lB
      have a0 := hkA 0 v0 rfl
      have b0 := hkB 0 u0 rfl
      have a1 := hkA 1 v1 rfl
      have b1 := hkB 1 u1 rfl
      have a2 := hkA 2 v2 rfl
      have b2 := hkB 2 u2 rfl
      have a3 := hkA 3 v3 rfl
      have b3 := hkB 3 u3 rfl
      rw [Nat.add_zero] at a0 b0
      have RA := hide rA
      have RB := hide rB
      clear hx hA hB hne hkA hkB rA rB lA lB
      have hlt2 : (i : Int) < xs.length := by omega
      go_wp2
      go_region_with ((go_at_call 145; refine (HE.out x [v0, v1, v2, v3] [u0, u1, u2, u3] _ (tyR_later (Below.refl _ _).drew h _ _ RA.out) (tyR_later (Below.refl _ _).drew h _ _ RB.out)).mono ?_; rintro e w1 ⟨rfl, hb1⟩))
      all_goals
        have HB1 := hide hb1
        clear hb1
        go_wp2
        go_roundw
        case rel => exact ⟨i + 1, by omega, by go_num, HBW.out.trans (((Below.refl _ _).drew.trans HB1.out).mono HBW.out.size)⟩
        case measure => simp [intOf]; omega
    · go_wp2
      go_ret
      exact ⟨rfl, HBW.out⟩

set_option maxHeartbeats 1000000 in
set_option maxRecDepth 100000 in
theorem eqTy_step {h : Nat} (i1 : EqTy h) : EqTy (h + 1) := by
  intro x ca cb w hra hrb
  obtain ⟨-, -, -, o1, c1, rfl, hs, hl, q1⟩ := hra
  obtain ⟨-, -, -, p1, d1, rfl, -, -, r1⟩ := hrb
  have I1 := hide i1
  have Q1 := hide q1
  have R1 := hide r1
  have HL := hide hl.1
  clear i1 q1 r1 hs hl
  have HX0 : Hid (((w.alloc (.cells #[.int .i64 x.k, .string x.s, .int .i64 x.n, .slice o1 x.l.length c1] 48)).alloc (.cells #[.int .i64 x.k, .string x.s, .int .i64 x.n, .slice p1 x.l.length d1] 48)).heap[w.heap.size]? = some (.cells #[.int .i64 x.k, .string x.s, .int .i64 x.n, .slice o1 x.l.length c1] 48 (0, 0))) := (Below.heap_alloc _ _ _ (by simp)).trans (heap_alloc_new w _)
  have HY0 : Hid (((w.alloc (.cells #[.int .i64 x.k, .string x.s, .int .i64 x.n, .slice o1 x.l.length c1] 48)).alloc (.cells #[.int .i64 x.k, .string x.s, .int .i64 x.n, .slice p1 x.l.length d1] 48)).heap[w.heap.size + 1]? = some (.cells #[.int .i64 x.k, .string x.s, .int .i64 x.n, .slice p1 x.l.length d1] 48 (0, 0))) := heap_alloc2_new w _ _
  have HB0 : Hid (Below w.heap.size w ((w.alloc (.cells #[.int .i64 x.k, .string x.s, .int .i64 x.n, .slice o1 x.l.length c1] 48)).alloc (.cells #[.int .i64 x.k, .string x.s, .int .i64 x.n, .slice p1 x.l.length d1] 48))) := ((Below.refl _ w).alloc (Nat.le_refl _) _).alloc (by simp) _
  have hz0 : w.heap.size + 2 ≤ ((w.alloc (.cells #[.int .i64 x.k, .string x.s, .int .i64 x.n, .slice o1 x.l.length c1] 48)).alloc (.cells #[.int .i64 x.k, .string x.s, .int .i64 x.n, .slice p1 x.l.length d1] 48)).heap.size := by simp
  go_enter Tryz.func145, Tryz.ntmps145
  go_wp2_with fail
  refine (eqTyS_of I1.out x.l HL.out o1 p1 c1 d1 _ (Q1.out.later HB0.out (tyR_later HB0.out h)) (R1.out.later HB0.out (tyR_later HB0.out h))).mono ?_
  rintro e w1 ⟨rfl, hb⟩
  have HB1 := hide (HB0.out.trans (hb.mono HB0.out.size))
  have HX1 := hide ((hb.block w.heap.size (by omega)).trans HX0.out)
  have HY1 := hide ((hb.block (w.heap.size + 1) (by omega)).trans HY0.out)
  have hz1 : w.heap.size + 2 ≤ w1.heap.size := Nat.le_trans hz0 hb.size
  clear hb
  go_wp2
  go_ret
  exact ⟨rfl, HB1.out⟩

theorem eqTy_all (h : Nat) : EqTy h := by
  induction h with
  | zero => exact fun _ _ _ _ hr => hr.elim
  | succ h ih => exact eqTy_step ih

set_option maxHeartbeats 1000000 in
set_option maxRecDepth 100000 in
theorem eqCon_step {h : Nat} (i1 : EqTy h) : EqCon h := by
  intro x ca cb w hra hrb
  obtain ⟨-, -, -, -, -, o1, c1, rfl, hs, hl, q1⟩ := hra
  obtain ⟨-, -, -, -, -, p1, d1, rfl, -, -, r1⟩ := hrb
  have I1 := hide i1
  have Q1 := hide q1
  have R1 := hide r1
  have HL := hide hl.1
  clear i1 q1 r1 hs hl
  have HX0 : Hid (((w.alloc (.cells #[.string x.s, .slice o1 x.l.length c1] 45)).alloc (.cells #[.string x.s, .slice p1 x.l.length d1] 45)).heap[w.heap.size]? = some (.cells #[.string x.s, .slice o1 x.l.length c1] 45 (0, 0))) := (Below.heap_alloc _ _ _ (by simp)).trans (heap_alloc_new w _)
  have HY0 : Hid (((w.alloc (.cells #[.string x.s, .slice o1 x.l.length c1] 45)).alloc (.cells #[.string x.s, .slice p1 x.l.length d1] 45)).heap[w.heap.size + 1]? = some (.cells #[.string x.s, .slice p1 x.l.length d1] 45 (0, 0))) := heap_alloc2_new w _ _
  have HB0 : Hid (Below w.heap.size w ((w.alloc (.cells #[.string x.s, .slice o1 x.l.length c1] 45)).alloc (.cells #[.string x.s, .slice p1 x.l.length d1] 45))) := ((Below.refl _ w).alloc (Nat.le_refl _) _).alloc (by simp) _
  have hz0 : w.heap.size + 2 ≤ ((w.alloc (.cells #[.string x.s, .slice o1 x.l.length c1] 45)).alloc (.cells #[.string x.s, .slice p1 x.l.length d1] 45)).heap.size := by simp
  go_enter Tryz.func102, Tryz.ntmps102
  go_wp2_with fail
  refine (eqTyS_of I1.out x.l HL.out o1 p1 c1 d1 _ (Q1.out.later HB0.out (tyR_later HB0.out h)) (R1.out.later HB0.out (tyR_later HB0.out h))).mono ?_
  rintro e w1 ⟨rfl, hb⟩
  have HB1 := hide (HB0.out.trans (hb.mono HB0.out.size))
  have HX1 := hide ((hb.block w.heap.size (by omega)).trans HX0.out)
  have HY1 := hide ((hb.block (w.heap.size + 1) (by omega)).trans HY0.out)
  have hz1 : w.heap.size + 2 ≤ w1.heap.size := Nat.le_trans hz0 hb.size
  clear hb
  go_wp2
  go_ret
  exact ⟨rfl, HB1.out⟩

set_option maxHeartbeats 1000000 in
set_option maxRecDepth 100000 in
theorem eqConS_of {h : Nat} (hE : EqCon h) (xs : List Tr) (hl : xs.length ≤ maxLen) (oa ob : Option Addr) (ca cb : Nat) (w : World) (ha : RowOf AllK w (coR AllK w h) 2 oa xs) (hb : RowOf AllK w (coR AllK w h) 2 ob xs) :
    Calls Tryz.prog 75 #[.slice oa xs.length ca, .slice ob xs.length cb] w fun e w' => e = .returned (.bool true) ∧ Below w.heap.size w w' := by
  have HA := hide ha
  have HB := hide hb
  have HE := hide hE
  have hl2 : xs.length ≤ 9223372036854775807 := hl
  clear ha hb hE hl
  go_enter Tryz.func75, Tryz.ntmps75
  go_wp2
  go_loopw [5] (fun t wr => ∃ k : Nat, k ≤ xs.length ∧ t = .int .i64 k ∧ Below w.heap.size w wr) (fun t _ => xs.length - (intOf t).toNat)
  case atStart => exact ⟨0, Nat.zero_le _, rfl, Below.refl _ _⟩
  case round =>
    obtain ⟨i, hi, rfl, hbw⟩ := hrel
    have HBW := hide hbw
    clear hbw
    by_cases hlt : i < xs.length
    · have hne : xs ≠ [] := by intro e; rw [e] at hlt; simp at hlt
      obtain ⟨x, hx⟩ : ∃ x, xs[i]? = some x := ⟨xs[i], List.getElem?_eq_getElem hlt⟩
      obtain ⟨ba, fa, ea, -, -, hA⟩ := (HA.out.later HBW.out (coR_later HBW.out h)) hne
      obtain ⟨bb, fb, eb, -, -, hB⟩ := (HB.out.later HBW.out (coR_later HBW.out h)) hne
      subst ea eb
      obtain ⟨va, lA, hkA, rA⟩ := hA i x hx
      obtain ⟨vb, lB, hkB, rB⟩ := hB i x hx
      obtain ⟨v0, v1, rfl⟩ := two_of lA
      obtain ⟨u0, u1, rfl⟩ := two_of lB
      have a0 := hkA 0 v0 rfl
      have b0 := hkB 0 u0 rfl
      have a1 := hkA 1 v1 rfl
      have b1 := hkB 1 u1 rfl
      rw [Nat.add_zero] at a0 b0
      have RA := hide rA
      have RB := hide rB
      clear hx hA hB hne hkA hkB rA rB lA lB
      have hlt2 : (i : Int) < xs.length := by omega
      go_wp2
      go_region_with ((go_at_call 102; refine (HE.out x [v0, v1] [u0, u1] _ (coR_later (Below.refl _ _).drew h _ _ RA.out) (coR_later (Below.refl _ _).drew h _ _ RB.out)).mono ?_; rintro e w1 ⟨rfl, hb1⟩))
      all_goals
        have HB1 := hide hb1
        clear hb1
        go_wp2
        go_roundw
        case rel => exact ⟨i + 1, by omega, by go_num, HBW.out.trans (((Below.refl _ _).drew.trans HB1.out).mono HBW.out.size)⟩
        case measure => simp [intOf]; omega
    · go_wp2
      go_ret
      exact ⟨rfl, HBW.out⟩

set_option maxHeartbeats 1000000 in
set_option maxRecDepth 100000 in
theorem eqData_step {h : Nat} (i1 : EqCon h) : EqData h := by
  intro x ca cb w hra hrb
  obtain ⟨-, -, -, -, -, o1, c1, rfl, hs, hl, q1⟩ := hra
  obtain ⟨-, -, -, -, -, p1, d1, rfl, -, -, r1⟩ := hrb
  have I1 := hide i1
  have Q1 := hide q1
  have R1 := hide r1
  have HL := hide hl.1
  clear i1 q1 r1 hs hl
  have HX0 : Hid (((w.alloc (.cells #[.string x.s, .slice o1 x.l.length c1] 42)).alloc (.cells #[.string x.s, .slice p1 x.l.length d1] 42)).heap[w.heap.size]? = some (.cells #[.string x.s, .slice o1 x.l.length c1] 42 (0, 0))) := (Below.heap_alloc _ _ _ (by simp)).trans (heap_alloc_new w _)
  have HY0 : Hid (((w.alloc (.cells #[.string x.s, .slice o1 x.l.length c1] 42)).alloc (.cells #[.string x.s, .slice p1 x.l.length d1] 42)).heap[w.heap.size + 1]? = some (.cells #[.string x.s, .slice p1 x.l.length d1] 42 (0, 0))) := heap_alloc2_new w _ _
  have HB0 : Hid (Below w.heap.size w ((w.alloc (.cells #[.string x.s, .slice o1 x.l.length c1] 42)).alloc (.cells #[.string x.s, .slice p1 x.l.length d1] 42))) := ((Below.refl _ w).alloc (Nat.le_refl _) _).alloc (by simp) _
  have hz0 : w.heap.size + 2 ≤ ((w.alloc (.cells #[.string x.s, .slice o1 x.l.length c1] 42)).alloc (.cells #[.string x.s, .slice p1 x.l.length d1] 42)).heap.size := by simp
  go_enter Tryz.func45, Tryz.ntmps45
  go_wp2_with fail
  refine (eqConS_of I1.out x.l HL.out o1 p1 c1 d1 _ (Q1.out.later HB0.out (coR_later HB0.out h)) (R1.out.later HB0.out (coR_later HB0.out h))).mono ?_
  rintro e w1 ⟨rfl, hb⟩
  have HB1 := hide (HB0.out.trans (hb.mono HB0.out.size))
  have HX1 := hide ((hb.block w.heap.size (by omega)).trans HX0.out)
  have HY1 := hide ((hb.block (w.heap.size + 1) (by omega)).trans HY0.out)
  have hz1 : w.heap.size + 2 ≤ w1.heap.size := Nat.le_trans hz0 hb.size
  clear hb
  go_wp2
  go_ret
  exact ⟨rfl, HB1.out⟩

set_option maxHeartbeats 1000000 in
set_option maxRecDepth 100000 in
theorem eqDataS_of {h : Nat} (hE : EqData h) (xs : List Tr) (hl : xs.length ≤ maxLen) (oa ob : Option Addr) (ca cb : Nat) (w : World) (ha : RowOf AllK w (daR AllK w h) 2 oa xs) (hb : RowOf AllK w (daR AllK w h) 2 ob xs) :
    Calls Tryz.prog 22 #[.slice oa xs.length ca, .slice ob xs.length cb] w fun e w' => e = .returned (.bool true) ∧ Below w.heap.size w w' := by
  have HA := hide ha
  have HB := hide hb
  have HE := hide hE
  have hl2 : xs.length ≤ 9223372036854775807 := hl
  clear ha hb hE hl
  go_enter Tryz.func22, Tryz.ntmps22
  go_wp2
  go_loopw [5] (fun t wr => ∃ k : Nat, k ≤ xs.length ∧ t = .int .i64 k ∧ Below w.heap.size w wr) (fun t _ => xs.length - (intOf t).toNat)
  case atStart => exact ⟨0, Nat.zero_le _, rfl, Below.refl _ _⟩
  case round =>
    obtain ⟨i, hi, rfl, hbw⟩ := hrel
    have HBW := hide hbw
    clear hbw
    by_cases hlt : i < xs.length
    · have hne : xs ≠ [] := by intro e; rw [e] at hlt; simp at hlt
      obtain ⟨x, hx⟩ : ∃ x, xs[i]? = some x := ⟨xs[i], List.getElem?_eq_getElem hlt⟩
      obtain ⟨ba, fa, ea, -, -, hA⟩ := (HA.out.later HBW.out (daR_later HBW.out h)) hne
      obtain ⟨bb, fb, eb, -, -, hB⟩ := (HB.out.later HBW.out (daR_later HBW.out h)) hne
      subst ea eb
      obtain ⟨va, lA, hkA, rA⟩ := hA i x hx
      obtain ⟨vb, lB, hkB, rB⟩ := hB i x hx
      obtain ⟨v0, v1, rfl⟩ := two_of lA
      obtain ⟨u0, u1, rfl⟩ := two_of lB
      have a0 := hkA 0 v0 rfl
      have b0 := hkB 0 u0 rfl
      have a1 := hkA 1 v1 rfl
      have b1 := hkB 1 u1 rfl
      rw [Nat.add_zero] at a0 b0
      have RA := hide rA
      have RB := hide rB
      clear hx hA hB hne hkA hkB rA rB lA lB
      have hlt2 : (i : Int) < xs.length := by omega
      go_wp2
      go_region_with ((go_at_call 45; refine (HE.out x [v0, v1] [u0, u1] _ (daR_later (Below.refl _ _).drew h _ _ RA.out) (daR_later (Below.refl _ _).drew h _ _ RB.out)).mono ?_; rintro e w1 ⟨rfl, hb1⟩))
      all_goals
        have HB1 := hide hb1
        clear hb1
        go_wp2
        go_roundw
        case rel => exact ⟨i + 1, by omega, by go_num, HBW.out.trans (((Below.refl _ _).drew.trans HB1.out).mono HBW.out.size)⟩
        case measure => simp [intOf]; omega
    · go_wp2
      go_ret
      exact ⟨rfl, HBW.out⟩

set_option maxHeartbeats 1000000 in
set_option maxRecDepth 100000 in
theorem eqProg_step {h : Nat} (i1 : EqData h) (i2 : EqDe h) : EqProg h := by
  intro x ca cb w hra hrb
  obtain ⟨-, -, -, -, -, o1, c1, o2, c2, rfl, hl, hd, q1, q2⟩ := hra
  obtain ⟨-, -, -, -, -, p1, d1, p2, d2, rfl, -, -, r1, r2⟩ := hrb
  have I1 := hide i1
  have Q1 := hide q1
  have R1 := hide r1
  have HL := hide hl.1
  have I2 := hide i2
  have Q2 := hide q2
  have R2 := hide r2
  have HD := hide hd.1
  clear i1 i2 q1 q2 r1 r2 hl hd
  have HX0 : Hid (((w.alloc (.cells #[.slice o1 x.l.length c1, .slice o2 x.ds.length c2] 31)).alloc (.cells #[.slice p1 x.l.length d1, .slice p2 x.ds.length d2] 31)).heap[w.heap.size]? = some (.cells #[.slice o1 x.l.length c1, .slice o2 x.ds.length c2] 31 (0, 0))) := (Below.heap_alloc _ _ _ (by simp)).trans (heap_alloc_new w _)
  have HY0 : Hid (((w.alloc (.cells #[.slice o1 x.l.length c1, .slice o2 x.ds.length c2] 31)).alloc (.cells #[.slice p1 x.l.length d1, .slice p2 x.ds.length d2] 31)).heap[w.heap.size + 1]? = some (.cells #[.slice p1 x.l.length d1, .slice p2 x.ds.length d2] 31 (0, 0))) := heap_alloc2_new w _ _
  have HB0 : Hid (Below w.heap.size w ((w.alloc (.cells #[.slice o1 x.l.length c1, .slice o2 x.ds.length c2] 31)).alloc (.cells #[.slice p1 x.l.length d1, .slice p2 x.ds.length d2] 31))) := ((Below.refl _ w).alloc (Nat.le_refl _) _).alloc (by simp) _
  have hz0 : w.heap.size + 2 ≤ ((w.alloc (.cells #[.slice o1 x.l.length c1, .slice o2 x.ds.length c2] 31)).alloc (.cells #[.slice p1 x.l.length d1, .slice p2 x.ds.length d2] 31)).heap.size := by simp
  go_enter Tryz.func8, Tryz.ntmps8
  go_wp2_with fail
  refine (eqDataS_of I1.out x.l HL.out o1 p1 c1 d1 _ (Q1.out.later HB0.out (daR_later HB0.out h)) (R1.out.later HB0.out (daR_later HB0.out h))).mono ?_
  rintro e w1 ⟨rfl, hb⟩
  have HB1 := hide (HB0.out.trans (hb.mono HB0.out.size))
  have HX1 := hide ((hb.block w.heap.size (by omega)).trans HX0.out)
  have HY1 := hide ((hb.block (w.heap.size + 1) (by omega)).trans HY0.out)
  have hz1 : w.heap.size + 2 ≤ w1.heap.size := Nat.le_trans hz0 hb.size
  clear hb
  have x1_1 := cell_of HX1.out 1
  have y1_1 := cell_of HY1.out 1
  simp only [List.getElem?_toArray, List.getElem?_cons_succ, List.getElem?_cons_zero] at x1_1 y1_1
  go_wp2_with fail
  refine (eqDecS_of I2.out x.ds HD.out o2 p2 c2 d2 _ (Q2.out.later HB1.out (reads_later HB1.out h).2.1) (R2.out.later HB1.out (reads_later HB1.out h).2.1)).mono ?_
  rintro e w2 ⟨rfl, hb⟩
  have HB2 := hide (HB1.out.trans (hb.mono HB1.out.size))
  have HX2 := hide ((hb.block w.heap.size (by omega)).trans HX1.out)
  have HY2 := hide ((hb.block (w.heap.size + 1) (by omega)).trans HY1.out)
  have hz2 : w.heap.size + 2 ≤ w2.heap.size := Nat.le_trans hz1 hb.size
  clear hb
  go_wp2
  go_ret
  exact ⟨rfl, HB2.out⟩

theorem eqProg_all (h : Nat) : EqProg h := eqProg_step (eqData_step (eqCon_step (eqTy_all h))) (eq_all h).2.1
end Go.Proofs.YtlaeenfeajkcfalGreat
