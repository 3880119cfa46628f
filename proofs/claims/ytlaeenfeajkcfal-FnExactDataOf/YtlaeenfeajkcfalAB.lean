/- The makers of a program, plainly, and as a map in memory; know, put. -/
import Derived.Test.YtlaeenfeajkcfalAA
import Derived.Test.YtlaeenfeajkcfalXA
import Derived.Deep.RegionLaw
import Derived.Deep.QuietTactic
import Derived.WalkSmall
namespace Go.Proofs.Ytlaeenfeajkcfal.Kn
open Go.RowKit

theorem ba_inj {a b : ByteArray} (h : a.toList = b.toList) : a = b := by
  rw [ByteArray.toList_eq, ByteArray.toList_eq] at h
  cases a
  cases b
  exact congrArg ByteArray.mk (Array.toList_inj.1 h)
theorem ba_data (a b : ByteArray) : (a == b) = (a.data == b.data) := by
  cases a
  cases b
  rfl
theorem ba_beq (a b : ByteArray) : (a == b) = (a.toList == b.toList) := by
  rw [ba_data, ByteArray.toList_eq, ByteArray.toList_eq]
  by_cases h : a.data = b.data
  · rw [h]
    simp
  · have h2 : ¬ a.data.toList = b.data.toList := fun e => h (Array.toList_inj.1 e)
    rw [beq_eq_false_iff_ne.2 h, beq_eq_false_iff_ne.2 h2]
theorem ba_ne {a b : ByteArray} (h : ¬ a = b) : (a == b) = false := by
  rw [ba_beq, beq_eq_false_iff_ne]
  exact fun e => h (ba_inj e)
theorem ba_eq {a b : ByteArray} (h : (a == b) = true) : a = b := by
  rw [ba_beq] at h
  exact ba_inj (by simpa using h)
/-- A maker: its great name, its data's, how many parts. -/
abbrev Mk := ByteArray × ByteArray × Nat
def ent2 (p : Mk) : List ((ByteArray × Int) × (ByteArray × Int)) := [((p.1, -1), (p.2.1, (p.2.2 : Int))), ((p.1, (p.2.2 : Int)), (p.2.1, (p.2.2 : Int)))]
def ents (L : List Mk) : List ((ByteArray × Int) × (ByteArray × Int)) := L.flatMap ent2
def findM (L : List Mk) (g : ByteArray) : Option Mk := L.find? fun p => g.toList == p.1.toList
def putL (L : List Mk) (e : Mk) : List Mk := cond (findM L e.1).isSome L (L ++ [e])
theorem findM_none {L : List Mk} {g : ByteArray} (h : findM L g = none) : ∀ p ∈ L, ¬ g = p.1 := by
  intro p hp e
  have := List.find?_eq_none.1 h p hp
  rw [e] at this
  simp at this
theorem find_put (L : List Mk) (e : Mk) (g : ByteArray) : findM (putL L e) g = findM (L ++ [e]) g := by
  unfold putL
  cases h : findM L e.1 with
  | none => rfl
  | some p =>
    show findM L g = findM (L ++ [e]) g
    unfold findM at h ⊢
    rw [List.find?_append]
    cases h2 : L.find? fun p => g.toList == p.1.toList with
    | some q => rfl
    | none =>
      rw [Option.none_or, List.find?_cons]
      cases h3 : (g.toList == e.1.toList) with
      | false => rfl
      | true =>
        exfalso
        have e3 : g = e.1 := ba_inj (by simpa using h3)
        rw [e3, h] at h2
        cases h2
theorem find_app (L M : List Mk) (g : ByteArray) : findM (L ++ M) g = (findM L g).or (findM M g) := by
  unfold findM
  rw [List.find?_append]
theorem find_puts : ∀ (M L : List Mk) (g : ByteArray), findM (M.foldl putL L) g = findM (L ++ M) g := by
  intro M
  induction M with
  | nil => intro L g; rw [List.append_nil]; rfl
  | cons e r ih =>
    intro L g
    rw [List.foldl_cons, ih, find_app, find_put, find_app, find_app, show findM (e :: r) g = findM ([e] ++ r) g from rfl, find_app, Option.or_assoc]
theorem puts_snoc (M : List Mk) (L : List Mk) (e : Mk) : (M ++ [e]).foldl putL L = putL (M.foldl putL L) e := by rw [List.foldl_append]; rfl
def Dist (L : List Mk) : Prop := L.Pairwise fun p q => p.1 ≠ q.1
theorem dist_put {L : List Mk} (h : Dist L) (e : Mk) : Dist (putL L e) := by
  unfold putL
  cases hf : findM L e.1 with
  | some p => exact h
  | none =>
    refine List.pairwise_append.2 ⟨h, List.pairwise_singleton _ _, fun p hp q hq => ?_⟩
    rw [List.mem_singleton] at hq
    subst hq
    exact fun e2 => findM_none hf p hp e2.symm

theorem look_app (L M : List ((ByteArray × Int) × (ByteArray × Int))) (k : ByteArray × Int) : look (L ++ M) k = (look L k).or (look M k) := by
  unfold look
  rw [List.find?_append]
  cases L.find? fun p => k.1 == p.1.1 && k.2 == p.1.2 <;> rfl
theorem look_one (p v k : ByteArray × Int) : look [(p, v)] k = cond (k.1 == p.1 && k.2 == p.2) (some v) none := by
  unfold look
  rw [List.find?_cons]
  cases (k.1 == p.1 && k.2 == p.2) <;> rfl
theorem look_cons2 (e : Mk) (L : List Mk) (k : ByteArray × Int) : look (ents (e :: L)) k = (look (ent2 e) k).or (look (ents L) k) := by
  show look (ent2 e ++ ents L) k = _
  rw [look_app]
theorem look_ent2 (e : Mk) (k : ByteArray × Int) : look (ent2 e) k = cond (k.1 == e.1 && (k.2 == -1 || k.2 == (e.2.2 : Int))) (some (e.2.1, (e.2.2 : Int))) none := by
  show look ([((e.1, -1), (e.2.1, (e.2.2 : Int)))] ++ [((e.1, (e.2.2 : Int)), (e.2.1, (e.2.2 : Int)))]) k = _
  rw [look_app, look_one, look_one]
  cases (k.1 == e.1) <;> cases (k.2 == -1) <;> cases (k.2 == (e.2.2 : Int)) <;> rfl
/-- A great name that nobody counts. -/
theorem look_un : ∀ (L : List Mk) (g : ByteArray), look (ents L) (g, -1) = (findM L g).map fun p => (p.2.1, (p.2.2 : Int)) := by
  intro L
  induction L with
  | nil => intro g; rfl
  | cons e r ih =>
    intro g
    rw [look_cons2, look_ent2, ih, show findM (e :: r) g = findM ([e] ++ r) g from rfl, find_app]
    have h1 : findM [e] g = cond (g == e.1) (some e) none := by
      unfold findM
      rw [List.find?_cons, ba_beq]
      cases (g.toList == e.1.toList) <;> rfl
    rw [h1]
    cases (g == e.1) <;> simp
/-- What is not there at all is not there with any count. -/
theorem look_no {L : List Mk} {g : ByteArray} (h : findM L g = none) (k : Int) : Kn.look (ents L) (g, k) = none := by
  induction L with
  | nil => rfl
  | cons e r ih =>
    have h2 : findM ([e] ++ r) g = none := h
    rw [find_app] at h2
    have hn := findM_none h e (by simp)
    have hr : findM r g = none := by
      cases h3 : findM [e] g with
      | none => rw [h3] at h2; simpa using h2
      | some q => rw [h3] at h2; cases h2
    rw [look_cons2, look_ent2, ih hr]
    rw [show ((g, k).1 == e.1) = false from ba_ne hn]
    rfl
/-- A great name with a count. -/
theorem look_cnt : ∀ {L : List Mk}, Dist L → ∀ (g : ByteArray) (k : Nat), (look (ents L) (g, (k : Int))).isSome = ((findM L g).map fun p => p.2.2 == k).getD false := by
  intro L
  induction L with
  | nil => intro _ g k; rfl
  | cons e r ih =>
    intro hd g k
    obtain ⟨h1, h2⟩ := List.pairwise_cons.1 hd
    rw [look_cons2, look_ent2, show findM (e :: r) g = findM ([e] ++ r) g from rfl, find_app]
    have h3 : findM [e] g = cond (g == e.1) (some e) none := by
      unfold findM
      rw [List.find?_cons, ba_beq]
      cases (g.toList == e.1.toList) <;> rfl
    rw [h3]
    have h4 : ((g, (k : Int)).2 == -1) = false := beq_eq_false_iff_ne.2 (by omega)
    rw [h4, Bool.false_or]
    cases h5 : (g == e.1) with
    | false =>
      have := ih h2 g k
      simpa using this
    | true =>
      have e5 : g = e.1 := ba_eq h5
      have hr : findM r g = none := by
        cases h6 : findM r g with
        | none => rfl
        | some q =>
          exfalso
          have hq := List.find?_some h6
          have hm := List.mem_of_find?_eq_some h6
          exact h1 q hm (e5.symm.trans (ba_inj (by simpa using hq)))
      have hl := look_no hr (k : Int)
      rw [hl]
      by_cases h7 : k = e.2.2
      · subst h7
        simp
      · have h8 : ((k : Int) == (e.2.2 : Int)) = false := beq_eq_false_iff_ne.2 (by omega)
        have h9 : (e.2.2 == k) = false := beq_eq_false_iff_ne.2 (by omega)
        rw [h8]
        simp [h9]

theorem keyT : NameNum Try.prog 61 := ⟨⟨_, _, Try.underlying61, by decide, by decide, rfl, rfl, Try.underlying9, Try.underlying3⟩, by kernel_rfl⟩
theorem zeroM (w : World) : (zeroValue 56).run Try.prog w = .ok (prV (⟨#[]⟩, 0)) w := by
  have hi : (Try.prog.info? 56).map (fun i => (i.zero, i.size, i.bytes)) = some (some (.agg #[.string ⟨#[]⟩, .int .i64 0]), 2, 24) := by kernel_rfl
  obtain ⟨i0, h1, h2, -, -⟩ := info_parts hi
  simp [zeroValue, typeInfo, h1, h2, prV]
/-- In a block lies the map of these makers. -/
def MkMap (w : World) (m : Nat) (L : List Mk) : Prop := Dist L ∧ ∃ es clock, w.heap[m]? = some (.map es clock) ∧ EntAre es.toList (ents L)
theorem MkMap.lt {w : World} {m : Nat} {L : List Mk} (h : MkMap w m L) : m < w.heap.size := by
  obtain ⟨-, es, c, h, -⟩ := h
  exact heap_lt h
theorem MkMap.keep {w w' : World} {m : Nat} {L : List Mk} (h : MkMap w m L) (hb : w'.heap[m]? = w.heap[m]?) : MkMap w' m L := by
  obtain ⟨hd, es, c, h, he⟩ := h
  exact ⟨hd, es, c, hb.trans h, he⟩
theorem MkMap.later {w w' : World} {m : Nat} {L : List Mk} (h : MkMap w m L) (hb : Below w.heap.size w w') : MkMap w' m L := h.keep (hb.block m h.lt)
theorem MkMap.look {w : World} {m : Nat} {L : List Mk} (h : MkMap w m L) (g : ByteArray) (k : Int) :
    (Instr.lookup 58 (.map (some m)) (.agg #[.string g, .int .i64 k]) true).run Try.prog w = .ok (.tuple #[prV ((Kn.look (ents L) (g, k)).getD (⟨#[]⟩, 0)), .bool (Kn.look (ents L) (g, k)).isSome]) w := by
  obtain ⟨-, es, c, h, he⟩ := h
  exact look_ok Try.underlying58 keyT zeroM w (g, k) m es c (ents L) h he
theorem MkMap.look1 {w : World} {m : Nat} {L : List Mk} (h : MkMap w m L) (g : ByteArray) (k : Int) :
    (Instr.lookup 58 (.map (some m)) (.agg #[.string g, .int .i64 k]) false).run Try.prog w = .ok (prV ((Kn.look (ents L) (g, k)).getD (⟨#[]⟩, 0))) w := by
  obtain ⟨-, es, c, h, he⟩ := h
  exact look_at Try.underlying58 keyT zeroM w (g, k) m es c (ents L) h he

set_option maxHeartbeats 1000000 in
set_option maxRecDepth 100000 in
theorem know_any {w : World} {m : Nat} {L : List Mk} (h : MkMap w m L) (g : ByteArray) (k : Int) (o : Bool) (ho : (Kn.look (ents L) (g, k)).isSome = o) :
    Calls Try.prog 40 #[.map (some m), .agg #[.string g, .int .i64 k]] w fun e w' => e = .returned (.bool o) ∧ Below w.heap.size w w' := by
  generalize hv : (Kn.look (ents L) (g, k)).getD (⟨#[]⟩, 0) = v
  obtain ⟨d, n⟩ := v
  have HB0 : Hid (Below w.heap.size w (w.alloc (.cells #[.string g, .int .i64 k] 61))) := (Below.refl _ w).alloc (Nat.le_refl _) _
  have hl1 := (h.later HB0.out).look g k
  have hl2 := (h.later HB0.out.drew).look g k
  have HB2 : Hid (Below w.heap.size w ((w.alloc (.cells #[.string g, .int .i64 k] 61)).alloc (.cells #[.string ⟨#[]⟩, .int .i64 0] 56))) := HB0.out.alloc (by simp) _
  have hl3 := (h.later HB2.out).look g k
  have hl4 := (h.later HB2.out.drew).look g k
  rw [hv, ho] at hl1 hl2 hl3 hl4
  unfold prV at hl1 hl2 hl3 hl4
  clear h hv ho
  go_enter Try.func40, Try.ntmps40
  go_wp2
  go_ret
  exact ⟨rfl, HB0.out.alloc (by simp) _⟩

/-- A map's entries in a block. -/
def EntMap (w : World) (m : Nat) (E : List ((ByteArray × Int) × (ByteArray × Int))) : Prop := ∃ es clock, w.heap[m]? = some (.map es clock) ∧ EntAre es.toList E
theorem EntMap.put {w : World} {m : Nat} {E : List ((ByteArray × Int) × (ByteArray × Int))} (h : EntMap w m E) {k v : ByteArray × Int} (hno : Kn.look E k = none) :
    ∃ w', (Instr.mapUpdate 58 (.map (some m)) (.agg #[.string k.1, .int .i64 k.2]) (.agg #[.string v.1, .int .i64 v.2])).run Try.prog w = .ok () w' ∧ EntMap w' m (E ++ [(k, v)]) ∧ w.grownBy w' (some m) ∧ w'.heap.size = w.heap.size := by
  obtain ⟨es, c, hm, he⟩ := h
  have hset : ∀ o, (setObj m o).run Try.prog w = .ok () (Go.ChangeMaps.setBlock w m o) := fun o => by simp [setObj, Sem.run, hm, Go.ChangeMaps.setBlock]
  refine ⟨_, (put_new Try.underlying58 keyT w k v m es c E hm he hno).trans (hset _), ⟨_, _, Go.ChangeMaps.heap_setBlock_same hm _, ent_push he k v c⟩, ⟨rfl, rfl, rfl, by simp [Go.ChangeMaps.setBlock], fun i _ hi => Go.ChangeMaps.heap_setBlock_other hm _ (fun e => hi (by rw [e]))⟩, by simp [Go.ChangeMaps.setBlock]⟩
theorem grown_trans {w w' w'' : World} {r : Option Nat} (h : w.grownBy w' r) (k : w'.grownBy w'' r) : w.grownBy w'' r :=
  ⟨k.os.trans h.os, k.tape.trans h.tape, k.output.trans h.output, Nat.le_trans h.size k.size, fun i hi hne => (k.block i (Nat.lt_of_lt_of_le hi h.size) hne).trans (h.block i hi hne)⟩
theorem grown_below {w w' : World} {r : Option Nat} (h : Below w.heap.size w w') : w.grownBy w' r := ⟨h.os, h.tape, h.output, h.size, fun i hi _ => h.block i hi⟩

set_option maxHeartbeats 1000000 in
set_option maxRecDepth 100000 in
theorem put_any {w : World} {m : Nat} {L : List Mk} (h : MkMap w m L) (g d : ByteArray) (a : Nat) :
    Calls Try.prog 31 #[.map (some m), .string g, .agg #[.string d, .int .i64 (a : Int)]] w fun e w' => e = .returned (.tuple #[]) ∧ MkMap w' m (putL L (g, d, a)) ∧ w.grownBy w' (some m) := by
  have HB0 : Hid (Below w.heap.size w (w.alloc (.cells #[.string d, .int .i64 (a : Int)] 56))) := (Below.refl _ w).alloc (Nat.le_refl _) _
  have HX0 : Hid ((w.alloc (.cells #[.string d, .int .i64 (a : Int)] 56)).heap[w.heap.size]? = some (.cells #[.string d, .int .i64 (a : Int)] 56 (0, 0))) := heap_alloc_new w _
  have HM0 := hide (h.later HB0.out)
  have hlt := h.lt
  have HK := hide fun (o : Bool) (ho : (Kn.look (ents L) (g, -1)).isSome = o) => know_any HM0.out g (-1) o ho
  cases hf : findM L g with
  | some p =>
    have HP : Hid (putL L (g, d, a) = L) := by show putL L (g, d, a) = L; unfold putL; rw [hf]; rfl
    have HO : Hid ((Kn.look (ents L) (g, -1)).isSome = true) := by show _ = true; rw [look_un, hf]; rfl
    clear hf h
    go_enter Try.func31, Try.ntmps31
    go_wp2_with fail
    refine (HK.out true HO.out).mono ?_
    rintro e w1 ⟨rfl, hb⟩
    have HB1 := hide hb
    clear hb
    go_wp2
    exact bodyPost_ret (results_none rfl _ _ _) rfl ⟨rfl, by rw [HP.out]; exact HM0.out.later HB1.out, grown_trans (grown_below HB0.out) (grown_below HB1.out)⟩
  | none =>
    have HP : Hid (putL L (g, d, a) = L ++ [(g, d, a)] ∧ Dist (L ++ [(g, d, a)])) := by
      have e : putL L (g, d, a) = L ++ [(g, d, a)] := by unfold putL; rw [hf]; rfl
      exact ⟨e, e ▸ dist_put h.1 _⟩
    have HO : Hid ((Kn.look (ents L) (g, -1)).isSome = false) := by show _ = false; rw [look_un, hf]; rfl
    have HN := hide fun k => look_no hf k
    clear hf h
    go_enter Try.func31, Try.ntmps31
    go_wp2_with fail
    refine (HK.out false HO.out).mono ?_
    rintro e w1 ⟨rfl, hb⟩
    have HX1 := hide ((hb.block w.heap.size (heap_lt HX0.out)).trans HX0.out)
    have HM1 := hide (HM0.out.later hb)
    have HG1 : Hid (w.grownBy w1 (some m)) := grown_trans (grown_below HB0.out) (grown_below hb)
    clear hb
    obtain ⟨w2, hr2, he2, hg2, hs2⟩ := EntMap.put (k := (g, -1)) (v := (d, (a : Int))) HM1.out.2 (HN.out (-1))
    have hne : (some w.heap.size) ≠ (some m) := by intro e; have := Option.some.inj e; omega
    have HX2 := hide ((hg2.block w.heap.size (heap_lt HX1.out) hne).trans HX1.out)
    obtain ⟨w3, hr3, he3, hg3, hs3⟩ := EntMap.put (k := (g, (a : Int))) (v := (d, (a : Int))) he2 (by
      rw [look_app, HN.out, Option.none_or, look_one]
      have h4 : ((a : Int) == -1) = false := beq_eq_false_iff_ne.2 (by omega)
      show cond (_ && ((a : Int) == -1)) _ _ = none
      rw [h4, Bool.and_false]
      rfl)
    have HG3 : Hid (w.grownBy w3 (some m)) := grown_trans HG1.out (grown_trans hg2 hg3)
    have HM3 : Hid (MkMap w3 m (L ++ [(g, d, a)])) := by
      refine ⟨HP.out.2, ?_⟩
      obtain ⟨es, c, h1, h2⟩ := he3
      refine ⟨es, c, h1, ?_⟩
      rw [List.append_assoc] at h2
      have e : ents (L ++ [(g, d, a)]) = ents L ++ ([((g, -1), (d, (a : Int)))] ++ [((g, (a : Int)), (d, (a : Int)))]) := by unfold ents; rw [List.flatMap_append]; rfl
      rw [e]
      exact h2
    have x0 := cell_of HX1.out 0
    have x1 := cell_of HX1.out 1
    have y0 := cell_of HX2.out 0
    have y1 := cell_of HX2.out 1
    simp only [List.getElem?_toArray, List.getElem?_cons_succ, List.getElem?_cons_zero] at x0 x1 y0 y1
    clear he2 hg2 he3 hg3 hne hs2 hs3
    go_wp2
    go_end0
    exact ⟨rfl, by rw [HP.out.1]; exact HM3.out, HG3.out⟩
end Go.Proofs.Ytlaeenfeajkcfal.Kn
