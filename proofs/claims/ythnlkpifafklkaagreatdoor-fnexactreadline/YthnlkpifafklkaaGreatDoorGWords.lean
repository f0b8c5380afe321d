/-
  From the reading of an argument to its cells: a laws.Line by value.
  The words of the rows, as the program lays them: what their reading gives.
-/
import Derived.Test.YthnlkpifafklkaaGreatDoorBase
import Derived.Lib.SmallJoins
import Derived.Deep.Slices
import Derived.Test.YthnlkpifafklkaaGreatDoorWordsI
import Derived.Test.YthnlkpifafklkaaGreatDoorRows
import Derived.SliceStrings
namespace Go.Proofs.YthnlkpifafklkaaGreatDoor
open Go.RowKit Go.Deep Go.ChangeShapes Go.WideShapes Go.Joins

theorem Tryz.cellsInt : Tryz.prog.cellsOf 3 = 1 := by kernel_rfl
theorem Tryz.cellsLeg : Tryz.prog.cellsOf 178 = 3 := by kernel_rfl
theorem Tryz.cellsTrain : Tryz.prog.cellsOf 103 = 5 := by kernel_rfl
theorem Tryz.cellsLegS : Tryz.prog.cellsOf 101 = 1 := by kernel_rfl
theorem Tryz.cellsLine : Tryz.prog.cellsOf 25 = 3 := by kernel_rfl

section
variable {H : Type} {enc : TypeId × Value → H} {w : World} {base : Nat} {spare : Nat → Bool} {held : Bool}

theorem spotOf {a : Addr} {i : Nat} {v : Value} (h : w.cell? (a.add 0) = some v) : ∃ b off, a = ⟨b, off, none⟩ ∧ a.add i = ⟨b, off + i, none⟩ := by
  obtain ⟨b, off, spot⟩ := a
  have hspot : spot = none := by simpa [Addr.add] using World.cell?_spot h
  subst hspot
  exact ⟨b, off, rfl, Go.WideShapes.add_plain _ _ _⟩

theorem readInts {fuel : Nat} {v : Value} {x : DataW H × List MemPlace} (h : DataW.trod enc Tryz.prog w base spare held fuel 22 [v] = some x) :
    ∃ (a : Option Addr) (len cap : Nat) (f : Nat → Int), v = .slice a len cap ∧ len ≤ maxLen ∧ IsInts 0 w.heap.size w a len f := by
  rcases open_slice1 Tryz.underlying22 Tryz.cellsInt h with ⟨hcs, _⟩ | ⟨a, len, cap, m, n, V, D, Pl, hcs, _, hl, hm, hmm, _, hx⟩
  · exact ⟨none, 0, 0, fun _ => 0, by simpa using hcs, Nat.zero_le _, fun j hj => absurd hj (Nat.not_lt_zero _)⟩
  · have hle : len ≤ m := by rw [hmm]; split <;> omega
    obtain ⟨f, hf⟩ := choose_lt (α := Int) (n := len) (p := fun i y => w.cell? (a.add i) = some (.int .i64 y)) (fun i hi => by
      obtain ⟨h1, h2⟩ := hx i (by omega)
      obtain ⟨y, e, _, _⟩ := DataW.trod_int Tryz.underlying3 h2
      simp at e
      exact ⟨y, by rw [h1, e]⟩)
    refine ⟨some a, len, cap, f, by simpa using hcs, by omega, fun j hj => ?_⟩
    obtain ⟨b, off, rfl, e⟩ := spotOf (i := j) (hf 0 (by omega))
    have := hf j hj
    rw [e] at this
    exact ⟨b, off, rfl, Nat.zero_le _, ltCell (a := ⟨b, _, none⟩) this, this⟩

theorem cells3Of {a : Addr} {cs : List Value} (h : w.cells? base a 3 = some cs) : ∃ x y z, cs = [x, y, z] ∧ w.cell? (a.add 0) = some x ∧ w.cell? (a.add 1) = some y ∧ w.cell? (a.add 2) = some z := by
  unfold World.cells? at h
  split at h
  · simp [List.range, List.range.loop, Option.bind_eq_some_iff] at h
    obtain ⟨x, hx, l, ⟨y, hy, l', ⟨z, hz, rfl⟩, rfl⟩, rfl⟩ := h
    exact ⟨x, y, z, rfl, hx, hy, hz⟩
  · cases h
theorem cells5Of {a : Addr} {cs : List Value} (h : w.cells? base a 5 = some cs) : ∃ x y z u v, cs = [x, y, z, u, v] ∧ w.cell? (a.add 0) = some x ∧ w.cell? (a.add 1) = some y ∧ w.cell? (a.add 2) = some z ∧ w.cell? (a.add 3) = some u ∧ w.cell? (a.add 4) = some v := by
  unfold World.cells? at h
  split at h
  · simp [List.range, List.range.loop, Option.bind_eq_some_iff] at h
    obtain ⟨x, hx, l, ⟨y, hy, l', ⟨z, hz, l'', ⟨u, hu, l3, ⟨v, hv, rfl⟩, rfl⟩, rfl⟩, rfl⟩, rfl⟩ := h
    exact ⟨x, y, z, u, v, rfl, hx, hy, hz, hu, hv⟩
  · cases h

instance : Inhabited LegD := ⟨⟨0, 0, 0⟩⟩
instance : Inhabited TrainD := ⟨⟨0, 0, 0, 0, 0, fun _ => default⟩⟩

theorem readLegs {fuel : Nat} {v : Value} {x : DataW H × List MemPlace} (h : DataW.trod enc Tryz.prog w base spare held fuel 101 [v] = some x) :
    ∃ (a : Option Addr) (len cap : Nat) (f : Nat → LegD), v = .slice a len cap ∧ len ≤ maxLen ∧ IsLegs 0 w.heap.size w a len f := by
  rcases open_slice Tryz.underlying101 h with ⟨hcs, _⟩ | ⟨a, len, cap, m, n, D, Pl, hcs, _, hl, hm, hmm, _, hx⟩
  · exact ⟨none, 0, 0, fun _ => default, by simpa using hcs, Nat.zero_le _, fun j hj => absurd hj (Nat.not_lt_zero _)⟩
  · have hle : len ≤ m := by rw [hmm]; split <;> omega
    rw [Tryz.cellsLeg] at hx
    obtain ⟨f, hf⟩ := choose_lt (α := LegD) (n := len) (p := fun i y => w.cell? (a.add (i * 3)) = some (.int .i64 y.to) ∧ w.cell? (a.add (i * 3 + 1)) = some (.int .i64 y.run) ∧ w.cell? (a.add (i * 3 + 2)) = some (.int .i64 y.stay)) (fun i hi => by
      obtain ⟨cs', h1, h2⟩ := hx i (by omega)
      obtain ⟨x, y, z, rfl, e0, e1, e2⟩ := cells3Of h1
      rw [add_add] at e0 e1 e2
      obtain ⟨xs, k, _, _, _, hlen, hfs⟩ := DataW.trod_struct Tryz.underlying178 h2
      match xs, hlen with
      | [y0, y1, y2], _ =>
        have g0 := hfs 0 _ rfl
        have g1 := hfs 1 _ rfl
        have g2 := hfs 2 _ rfl
        simp [Tryz.cellsInt] at g0 g1 g2
        obtain ⟨n0, k0, _, _⟩ := DataW.trod_int Tryz.underlying3 g0
        obtain ⟨n1, k1, _, _⟩ := DataW.trod_int Tryz.underlying3 g1
        obtain ⟨n2, k2, _, _⟩ := DataW.trod_int Tryz.underlying3 g2
        simp at k0 k1 k2
        exact ⟨⟨n0, n1, n2⟩, by rw [← k0]; exact e0, by rw [← k1]; exact e1, by rw [← k2]; exact e2⟩)
    refine ⟨some a, len, cap, f, by simpa using hcs, by omega, fun j hj => ?_⟩
    have h0 := (hf 0 (by omega)).1
    rw [Nat.zero_mul] at h0
    obtain ⟨b, off, rfl, e⟩ := spotOf (i := j * 3) h0
    obtain ⟨c0, c1, c2⟩ := hf j hj
    rw [Go.WideShapes.add_plain] at c0 c1 c2
    exact ⟨b, off, rfl, Nat.zero_le _, ltCell (a := ⟨b, _, none⟩) c0, c0, c1, c2⟩

theorem readTrains {fuel : Nat} {v : Value} {x : DataW H × List MemPlace} (h : DataW.trod enc Tryz.prog w base spare held fuel 23 [v] = some x) :
    ∃ (a : Option Addr) (len cap : Nat) (f : Nat → TrainD), v = .slice a len cap ∧ len ≤ maxLen ∧ IsTrains 0 w.heap.size w a len f := by
  rcases open_slice Tryz.underlying23 h with ⟨hcs, _⟩ | ⟨a, len, cap, m, n, D, Pl, hcs, _, hl, hm, hmm, _, hx⟩
  · exact ⟨none, 0, 0, fun _ => default, by simpa using hcs, Nat.zero_le _, fun j hj => absurd hj (Nat.not_lt_zero _)⟩
  · have hle : len ≤ m := by rw [hmm]; split <;> omega
    rw [Tryz.cellsTrain] at hx
    obtain ⟨f, hf⟩ := choose_lt (α := TrainD) (n := len) (p := fun i y => w.cell? (a.add (i * 5)) = some (.int .i64 y.frm) ∧ w.cell? (a.add (i * 5 + 1)) = some (.int .i64 y.ready) ∧ w.cell? (a.add (i * 5 + 2)) = some (.int .i64 y.due) ∧ w.cell? (a.add (i * 5 + 3)) = some (.int .i64 y.weight) ∧ ∃ la lc, w.cell? (a.add (i * 5 + 4)) = some (.slice la y.nl lc) ∧ IsLegs 0 w.heap.size w la y.nl y.leg ∧ y.nl ≤ maxLen) (fun i hi => by
      obtain ⟨cs', h1, h2⟩ := hx i (by omega)
      obtain ⟨x, y, z, u, v, rfl, e0, e1, e2, e3, e4⟩ := cells5Of h1
      rw [add_add] at e0 e1 e2 e3 e4
      obtain ⟨xs, k, _, _, _, hlen, hfs⟩ := DataW.trod_struct Tryz.underlying103 h2
      match xs, hlen with
      | [y0, y1, y2, y3, y4], _ =>
        have g0 := hfs 0 _ rfl
        have g1 := hfs 1 _ rfl
        have g2 := hfs 2 _ rfl
        have g3 := hfs 3 _ rfl
        have g4 := hfs 4 _ rfl
        simp [Tryz.cellsInt, Tryz.cellsLegS] at g0 g1 g2 g3 g4
        obtain ⟨n0, k0, _, _⟩ := DataW.trod_int Tryz.underlying3 g0
        obtain ⟨n1, k1, _, _⟩ := DataW.trod_int Tryz.underlying3 g1
        obtain ⟨n2, k2, _, _⟩ := DataW.trod_int Tryz.underlying3 g2
        obtain ⟨n3, k3, _, _⟩ := DataW.trod_int Tryz.underlying3 g3
        obtain ⟨la, nl, lc, fl, k4, hml, hL⟩ := readLegs g4
        simp at k0 k1 k2 k3
        exact ⟨⟨n0, n1, n2, n3, nl, fl⟩, by rw [← k0]; exact e0, by rw [← k1]; exact e1, by rw [← k2]; exact e2, by rw [← k3]; exact e3, la, lc, by rw [← k4]; exact e4, hL, hml⟩)
    refine ⟨some a, len, cap, f, by simpa using hcs, by omega, fun j hj => ?_⟩
    have h0 := (hf 0 (by omega)).1
    rw [Nat.zero_mul] at h0
    obtain ⟨b, off, rfl, e⟩ := spotOf (i := j * 5) h0
    obtain ⟨c0, c1, c2, c3, la, lc, c4, hL, hml⟩ := hf j hj
    rw [Go.WideShapes.add_plain] at c0 c1 c2 c3 c4
    exact ⟨b, off, la, lc, rfl, Nat.zero_le _, ltCell (a := ⟨b, _, none⟩) c0, c0, c1, c2, c3, c4, hL, hml⟩

set_option maxRecDepth 100000 in
/-- A LINE THAT CAME IN. -/
theorem readLine {r : Reach} {b0 : Nat} {v : Value} {d : DataW H} {p : List MemPlace} (hv : Value.okWide Tryz.prog w r b0 25 v) (h : DataW.Trod enc Tryz.prog w base spare held 25 v d p) :
    ∃ (a : Option Addr) (len cap : Nat) (g : Nat → Int) (gap : Int) (a' : Option Addr) (len' cap' : Nat) (f : Nat → TrainD), v = .agg #[.slice a len cap, .int .i64 gap, .slice a' len' cap'] ∧ len ≤ maxLen ∧ len' ≤ maxLen ∧ IsInts 0 w.heap.size w a len g ∧ IsTrains 0 w.heap.size w a' len' f := by
  obtain ⟨v0, v1, v2, y0, y1, y2, n, rfl, _, _, h0, h1, h2⟩ := open_agg3 Tryz.underlying25 (by kernel_rfl) Tryz.cellsLine hv h
  obtain ⟨a, len, cap, g, rfl, hl, hI⟩ := readInts h0
  obtain ⟨gap, e1, _, _⟩ := DataW.trod_int Tryz.underlying3 h1
  obtain ⟨a', len', cap', f, rfl, hl', hT⟩ := readTrains h2
  simp at e1
  subst e1
  exact ⟨a, len, cap, g, gap, a', len', cap', f, rfl, hl, hl', hI, hT⟩
end
end Go.Proofs.YthnlkpifafklkaaGreatDoor

namespace Go.Proofs.YthnlkpifafklkaaGreatDoor
open Go.RowKit Go.Lib Go.ChangeShapes Go.WideShapes

section
variable {H : Type} {enc : TypeId × Value → H} {w : World} {held : Bool}
theorem wordRow {fuel : Nat} {v : Value} {ws : List (List UInt8)} {p : List MemPlace} (hne : ws ≠ []) (h : DataW.trod enc Tryz.prog w 0 (fun _ => true) held fuel 114 [v] = some (.slice (ws.map fun x => .lit (.string x)) [], p)) :
    ∃ b off cap, v = .slice (some ⟨b, off, none⟩) ws.length cap ∧ ∀ i x, ws[i]? = some x → w.cell? ⟨b, off + i, none⟩ = some (.string (ba x)) := by
  rcases open_strings Tryz.underlying114 Tryz.underlying9 (show Tryz.prog.cellsOf 9 = 1 by kernel_rfl) h with ⟨_, hx⟩ | ⟨a, len, cap, ss, hcs, _, hl, hm, hz, hx, hcell, _⟩
  · cases hx
  · rw [if_pos rfl] at hz
    simp only [Prod.mk.injEq, DataW.slice.injEq, strs] at hx
    obtain ⟨⟨e1, _⟩, _⟩ := hx
    have hlen : ws.length = len := by
      have := congrArg List.length e1
      simp at this
      omega
    have hw : ∀ i x, ws[i]? = some x → w.cell? (a.add i) = some (.string (ba x)) := fun i x hi => by
      have hil : i < ws.length := (List.getElem?_eq_some_iff.1 hi).1
      have h1 := congrArg (·[i]?) e1
      simp only [List.getElem?_map, hi, Option.map_some, List.getElem?_take, if_pos (show i < len by omega)] at h1
      rw [hcell i (by omega)]
      cases hs : ss[i]? with
      | none => rw [hs] at h1; simp at h1
      | some s =>
        rw [hs] at h1
        simp at h1
        rw [List.getD, hs, h1]
        simp [ba_of]
    cases ws with
    | nil => exact absurd rfl hne
    | cons y r =>
      obtain ⟨b, off, rfl, _⟩ := spotOf (i := 0) (hw 0 y rfl)
      refine ⟨b, off, cap, by simpa [hlen] using hcs, fun i x hi => ?_⟩
      have := hw i x hi
      rw [Go.WideShapes.add_plain] at this
      exact this
end

theorem words_of_trod {w : World} {fuel : Nat} {cs : List Value} {p : List MemPlace} (h : DataW.trod (fun _ => ()) Tryz.prog w 0 (fun _ => true) false fuel 182 cs = some (Rows.laid_loop_example_stringline_impl_words, p)) :
    ∀ k, k < 4 → ∃ b off cap, cs[k]? = some (.slice (some ⟨b, off, none⟩) (wordsOf k).length cap) ∧ ∀ i x, (wordsOf k)[i]? = some x → w.cell? ⟨b, off + i, none⟩ = some (.string (ba x)) := by
  have hce : Tryz.prog.cellsOf 114 = 1 := by kernel_rfl
  have hct : Tryz.prog.cellsOf 182 = 4 := by kernel_rfl
  cases fuel with
  | zero => simp [DataW.trod] at h
  | succ fuel =>
    simp only [DataW.trod, Tryz.underlying182, hce, hct, Nat.mul_one] at h
    split at h
    · rename_i hl
      obtain ⟨xs, hm, hx⟩ := Option.map_eq_some_iff.1 h
      have hxs : xs.map (·.1) = [.slice ((wordsOf 0).map fun x => .lit (.string x)) [], .slice ((wordsOf 1).map fun x => .lit (.string x)) [], .slice ((wordsOf 2).map fun x => .lit (.string x)) [], .slice ((wordsOf 3).map fun x => .lit (.string x)) []] := by
        have := congrArg Prod.fst hx
        simpa [Rows.laid_loop_example_stringline_impl_words, wordsOf] using this
      intro k hk
      obtain ⟨y, hy, hf⟩ := Lib.mapM_at hm k k (by simp [hk])
      have h2 := congrArg (·[k]?) hxs
      simp only [List.getElem?_map, hy, Option.map_some] at h2
      have hv : ∃ v, (cs.drop k).take 1 = [v] ∧ cs[k]? = some v := by
        have hkc : k < cs.length := by omega
        exact ⟨cs[k], by rw [List.drop_eq_getElem_cons hkc, List.take_succ_cons, List.take_zero], List.getElem?_eq_getElem hkc⟩
      obtain ⟨v, hv1, hv2⟩ := hv
      have hd : y.1 = .slice ((wordsOf k).map fun x => .lit (.string x)) [] := by
        match k, hk with
        | 0, _ => simpa using h2
        | 1, _ => simpa using h2
        | 2, _ => simpa using h2
        | 3, _ => simpa using h2
      have hne : wordsOf k ≠ [] := by
        match k, hk with
        | 0, _ => simp [wordsOf]
        | 1, _ => simp [wordsOf]
        | 2, _ => simp [wordsOf]
        | 3, _ => simp [wordsOf]
      rw [hv1] at hf
      obtain ⟨b, off, cap, e, hc⟩ := wordRow hne (hf.trans (by rw [← hd]))
      exact ⟨b, off, cap, by rw [hv2, e], hc⟩
    · cases h
end Go.Proofs.YthnlkpifafklkaaGreatDoor
