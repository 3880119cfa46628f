/- Types, makers, datas and programs as trees in memory; those that come in, opened. -/
import Derived.Test.YtifambhfggodaaaXF
namespace Go.Proofs.Ytifambhfggodaaa
open Go.ChangeShapes Go.WideShapes Go.ChangeAt Go.RowKit

/-- A type, up to a height. -/
def tyR (K : Nat → Prop) (w : World) : Nat → Tr → List Value → Prop
  | 0 => fun _ _ => False
  | h + 1 => fun t cs => t.ss = [] ∧ t.ds = [] ∧ t.al = [] ∧ ∃ o c, cs = [.int .i64 t.k, .string t.s, .int .i64 t.n, .slice o t.l.length c] ∧ t.s.size ≤ maxLen ∧ Fits t.l.length c ∧ RowOf K w (tyR K w h) 4 o t.l
/-- A name and a row behind it. -/
def nlR (K : Nat → Prop) (w : World) (R : Tr → List Value → Prop) (n : Nat) : Tr → List Value → Prop := fun t cs => t.k = 0 ∧ t.n = 0 ∧ t.ss = [] ∧ t.ds = [] ∧ t.al = [] ∧ ∃ o c, cs = [.string t.s, .slice o t.l.length c] ∧ t.s.size ≤ maxLen ∧ Fits t.l.length c ∧ RowOf K w R n o t.l
def coR (K : Nat → Prop) (w : World) (h : Nat) : Tr → List Value → Prop := nlR K w (tyR K w h) 4
def daR (K : Nat → Prop) (w : World) (h : Nat) : Tr → List Value → Prop := nlR K w (coR K w h) 2
/-- A program: its datas and its definitions. -/
def prR (K : Nat → Prop) (w : World) (h : Nat) : Tr → List Value → Prop := fun t cs => t.k = 0 ∧ t.s = ⟨#[]⟩ ∧ t.n = 0 ∧ t.ss = [] ∧ t.al = [] ∧ ∃ o1 c1 o2 c2, cs = [.slice o1 t.l.length c1, .slice o2 t.ds.length c2] ∧ Fits t.l.length c1 ∧ Fits t.ds.length c2 ∧ RowOf K w (daR K w h) 2 o1 t.l ∧ RowOf K w (reads K w h).de 9 o2 t.ds

theorem tyR_frame {K K' : Nat → Prop} {w w' : World} (hb : Stays K w w') (hK : ∀ b, K b → K' b) : ∀ h x cs, tyR K w h x cs → tyR K' w' h x cs := by
  intro h
  induction h with
  | zero => exact fun _ _ h => h
  | succ h ih =>
    rintro x cs ⟨e1, e2, e3, o, c, e, hs, hf, hr⟩
    exact ⟨e1, e2, e3, o, c, e, hs, hf, hr.frame hb hK ih⟩
theorem nlR_frame {K K' : Nat → Prop} {w w' : World} {R R' : Tr → List Value → Prop} {n : Nat} (hb : Stays K w w') (hK : ∀ b, K b → K' b) (hR : ∀ x cs, R x cs → R' x cs) : ∀ x cs, nlR K w R n x cs → nlR K' w' R' n x cs := by
  rintro x cs ⟨e1, e2, e3, e4, e5, o, c, e, hs, hf, hr⟩
  exact ⟨e1, e2, e3, e4, e5, o, c, e, hs, hf, hr.frame hb hK hR⟩
theorem coR_frame {K K' : Nat → Prop} {w w' : World} (hb : Stays K w w') (hK : ∀ b, K b → K' b) (h : Nat) : ∀ x cs, coR K w h x cs → coR K' w' h x cs := nlR_frame hb hK (tyR_frame hb hK h)
theorem daR_frame {K K' : Nat → Prop} {w w' : World} (hb : Stays K w w') (hK : ∀ b, K b → K' b) (h : Nat) : ∀ x cs, daR K w h x cs → daR K' w' h x cs := nlR_frame hb hK (coR_frame hb hK h)
theorem prR_frame {K K' : Nat → Prop} {w w' : World} (hb : Stays K w w') (hK : ∀ b, K b → K' b) (h : Nat) : ∀ x cs, prR K w h x cs → prR K' w' h x cs := by
  rintro x cs ⟨e1, e2, e3, e4, e5, o1, c1, o2, c2, e, f1, f2, r1, r2⟩
  exact ⟨e1, e2, e3, e4, e5, o1, c1, o2, c2, e, f1, f2, r1.frame hb hK (daR_frame hb hK h), r2.frame hb hK (reads_frame hb hK h).2.1⟩
theorem tyR_later {K : Nat → Prop} {w w' : World} (hb : Below w.heap.size w w') (h : Nat) : ∀ x cs, tyR K w h x cs → tyR K w' h x cs := tyR_frame (Stays.of hb) (fun _ h => h) h
theorem coR_later {K : Nat → Prop} {w w' : World} (hb : Below w.heap.size w w') (h : Nat) : ∀ x cs, coR K w h x cs → coR K w' h x cs := coR_frame (Stays.of hb) (fun _ h => h) h
theorem daR_later {K : Nat → Prop} {w w' : World} (hb : Below w.heap.size w w') (h : Nat) : ∀ x cs, daR K w h x cs → daR K w' h x cs := daR_frame (Stays.of hb) (fun _ h => h) h
theorem prR_later {K : Nat → Prop} {w w' : World} (hb : Below w.heap.size w w') (h : Nat) : ∀ x cs, prR K w h x cs → prR K w' h x cs := prR_frame (Stays.of hb) (fun _ h => h) h
theorem ty_form {K : Nat → Prop} {w : World} {h : Nat} {x : Tr} {cs : List Value} (hr : tyR K w h x cs) : ∃ o c, cs = [.int .i64 x.k, .string x.s, .int .i64 x.n, .slice o x.l.length c] := by
  cases h with
  | zero => exact hr.elim
  | succ h =>
    obtain ⟨-, -, -, o, c, e, -⟩ := hr
    exact ⟨o, c, e⟩
theorem nl_form {K : Nat → Prop} {w : World} {R : Tr → List Value → Prop} {n : Nat} {x : Tr} {cs : List Value} (hr : nlR K w R n x cs) : ∃ o c, cs = [.string x.s, .slice o x.l.length c] := by
  obtain ⟨-, -, -, -, -, o, c, e, -⟩ := hr
  exact ⟨o, c, e⟩
theorem co_form {K : Nat → Prop} {w : World} {h : Nat} {x : Tr} {cs : List Value} (hr : coR K w h x cs) : ∃ o c, cs = [.string x.s, .slice o x.l.length c] := nl_form hr
theorem da_form {K : Nat → Prop} {w : World} {h : Nat} {x : Tr} {cs : List Value} (hr : daR K w h x cs) : ∃ o c, cs = [.string x.s, .slice o x.l.length c] := nl_form hr
theorem pr_form {K : Nat → Prop} {w : World} {h : Nat} {x : Tr} {cs : List Value} (hr : prR K w h x cs) : ∃ o1 c1 o2 c2, cs = [.slice o1 x.l.length c1, .slice o2 x.ds.length c2] := by
  obtain ⟨-, -, -, -, -, o1, c1, o2, c2, e, -⟩ := hr
  exact ⟨o1, c1, o2, c2, e⟩
theorem two_of {l : List Value} (h : l.length = 2) : ∃ a b, l = [a, b] := by
  match l, h with
  | [a, b], _ => exact ⟨a, b, rfl⟩
theorem four_of {l : List Value} (h : l.length = 4) : ∃ a b c d, l = [a, b, c, d] := by
  match l, h with
  | [a, b, c, d], _ => exact ⟨a, b, c, d, rfl⟩
theorem cells_ty : Try.prog.cellsOf 24 = 4 := by kernel_rfl
theorem cells_tys : Try.prog.cellsOf 22 = 1 := by kernel_rfl
theorem open_ty {H : Type} {enc : TypeId × Value → H} {w : World} {base : Nat} {spare : Nat → Bool} {held : Bool} : ∀ fuel n, n ≤ fuel → ∀ cs (x : DataW H × List MemPlace), DataW.trod enc Try.prog w base spare held n 24 cs = some x → ∃ y, tyR (fun _ => True) w fuel y cs := by
  intro fuel
  induction fuel with
  | zero =>
    intro n hn cs x h
    have : n = 0 := by omega
    subst this
    simp [DataW.trod] at h
  | succ fuel ih =>
    intro n hn cs x h
    obtain ⟨xs, n', hn', -, hlen, hxl, hf⟩ := DataW.trod_struct Try.underlying24 h
    rw [cells_ty] at hlen
    obtain ⟨v0, v1, v2, v3, rfl⟩ := four_of hlen
    have hx : ∀ i, i < 4 → ∃ y, xs[i]? = some y := fun i hi => ⟨xs[i]'(by rw [hxl]; exact hi), List.getElem?_eq_getElem _⟩
    obtain ⟨y0, e0⟩ := hx 0 (by omega)
    obtain ⟨y1, e1⟩ := hx 1 (by omega)
    obtain ⟨y2, e2⟩ := hx 2 (by omega)
    obtain ⟨y3, e3⟩ := hx 3 (by omega)
    have k0 : DataW.trod enc Try.prog w base spare held n' 3 ([v0, v1, v2, v3].take (Try.prog.cellsOf 3)) = some y0 := by have g := hf 0 _ rfl; rw [e0] at g; exact g
    have k1 : DataW.trod enc Try.prog w base spare held n' 9 ([v1, v2, v3].take (Try.prog.cellsOf 9)) = some y1 := by have g := hf 1 _ rfl; rw [e1] at g; exact g
    have k2 : DataW.trod enc Try.prog w base spare held n' 3 ([v2, v3].take (Try.prog.cellsOf 3)) = some y2 := by have g := hf 2 _ rfl; rw [e2] at g; exact g
    have k3 : DataW.trod enc Try.prog w base spare held n' 22 ([v3].take (Try.prog.cellsOf 22)) = some y3 := by have g := hf 3 _ rfl; rw [e3] at g; exact g
    rw [cells_int] at k0 k2
    rw [cells_string] at k1
    rw [cells_tys] at k3
    obtain ⟨z0, h0, -, -⟩ := DataW.trod_int Try.underlying3 k0
    obtain ⟨s1, h1, -, hs⟩ := DataW.trod_string Try.underlying9 k1
    obtain ⟨z2, h2, -, -⟩ := DataW.trod_int Try.underlying3 k2
    obtain ⟨o3, l3, c3, h3, m3, r3⟩ := open_row Try.underlying22 cells_ty (by decide) (fun m hm => ih m (by omega)) k3
    simp at h0 h1 h2 h3
    subst h0 h1 h2 h3
    exact ⟨⟨z0, s1, z2, [], l3, [], []⟩, rfl, rfl, rfl, o3, c3, rfl, hs, m3, r3⟩
end Go.Proofs.Ytifambhfggodaaa
