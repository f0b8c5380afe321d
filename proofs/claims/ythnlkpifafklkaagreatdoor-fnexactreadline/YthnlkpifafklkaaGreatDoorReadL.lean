/-
  The program's ReadLine.
-/
import Derived.Test.YthnlkpifafklkaaGreatDoorGReadT
import Derived.Test.YthnlkpifafklkaaGreatDoorImplK
namespace Go.Proofs.YthnlkpifafklkaaGreatDoor
open Go.RowKit

def faultL (l : LnL) : Int × Int := faultOf l.tracks.length (gI l.tracks) l.gap l.trains.length (fT l.trains)
/-- what is told of a text: the code, the row, the line -/
def toldOf (s : Bs) : Int × Int × LnL :=
  if 4000 < s.length then (2, 0, nilL) else match goM nilL 0 (cutN s).1 (cutN s).2 with
    | .inr n => (1, n, nilL)
    | .inl l => if (faultL l).1 = 0 then (0, 0, l) else (2 + (faultL l).1, 0, nilL)
def ToldPost (s : Bs) (w : World) (e : Ending) (w' : World) : Prop := ∃ tr gap L at_ ct aT cT, (toldOf s).2.2 = ⟨tr, gap, L.map Prod.fst⟩ ∧ e = .returned (.agg #[.int .i64 (toldOf s).1, .int .i64 (toldOf s).2.1, .slice at_ tr.length ct, .int .i64 gap, .slice aT L.length cT]) ∧
  LOwn w.heap.size w' tr L (.slice at_ tr.length ct) (.slice aT L.length cT) ∧ tr.length ≤ 39 ∧ L.length ≤ 5000 ∧ (∀ x ∈ L, x.1.legs.length ≤ 5000) ∧ Below w.heap.size w w'
theorem toldPost_nil {s : Bs} {w w' : World} {c n : Int} (h : toldOf s = (c, n, nilL)) (hB : Below w.heap.size w w') : ToldPost s w (.returned (.agg #[.int .i64 c, .int .i64 n, .slice none 0 0, .int .i64 0, .slice none 0 0])) w' := by
  refine ⟨[], 0, [], none, 0, none, 0, by rw [h]; rfl, by rw [h]; rfl, ⟨World.ownsRow_nil _ _ _ _, OwnT.nil _ _, fun k e => by simp [Value.ownBlock] at e, fun x hx => absurd hx List.not_mem_nil⟩, by simp, by simp, fun x hx => absurd hx List.not_mem_nil, hB⟩
theorem faultL_code {l : LnL} : (faultL l).1 = 0 ∨ (faultL l).1 = 1 ∨ (faultL l).1 = 2 ∨ (faultL l).1 = 3 := by
  unfold faultL faultOf
  split
  · split
    · exact Or.inr (Or.inr (Or.inl rfl))
    · split
      · exact Or.inr (Or.inr (Or.inr rfl))
      · exact Or.inl rfl
  · exact Or.inr (Or.inl rfl)

set_option maxRecDepth 20000 in
set_option maxHeartbeats 4000000 in
theorem implRead_no (s : Bs) (w : World) (hno : ∀ l, 4000 < s.length ∨ goM nilL 0 (cutN s).1 (cutN s).2 ≠ .inl l) (hL : LaidR w) (hs : s.length ≤ 1048576) :
    Calls Tryz.prog 19 #[.string (ba s)] w (ToldPost s w) := by
  have hsz : ((ba s).size : Int) = (s.length : Int) := by rw [ba_size]
  by_cases hlong : 4000 < s.length
  · have hT : toldOf s = (2, 0, nilL) := by unfold toldOf; rw [if_pos hlong]
    have hlong' : (4000 : Int) < (s.length : Int) := by omega
    generalize ba s = S at hsz
    have hP : ∀ w', Below w.heap.size w w' → ToldPost s w (.returned (.agg #[.int .i64 2, .int .i64 0, .slice none 0 0, .int .i64 0, .slice none 0 0])) w' := fun w' hB => toldPost_nil hT hB
    clear hT
    go_enter Tryz.func19, Tryz.ntmps19
    go_wp2
    exact bodyPost_ret (v := .agg #[.int .i64 2, .int .i64 0, .slice none 0 0, .int .i64 0, .slice none 0 0]) (by simp [results, Tryz.results19, go_sem]) rfl (hP _ (b1 _ _))
  · have hlong' : ¬ ((4000 : Int) < (s.length : Int)) := by omega
    have hA := b1 w (.cells #[.int .i64 0, .int .i64 0, .slice none 0 0, .int .i64 0, .slice none 0 0] 46)
    have hroom : Room w.heap.size 5 (w.alloc (.cells #[.int .i64 0, .int .i64 0, .slice none 0 0, .int .i64 0, .slice none 0 0] 46)) := Room.lit _ _ _ 5 (by simp)
    have hsA : (w.alloc (.cells #[.int .i64 0, .int .i64 0, .slice none 0 0, .int .i64 0, .slice none 0 0] 46)).heap.size = w.heap.size + 1 := by simp
    have hrd := read_any s _ (hL.later hA) (by omega)
    unfold ReadPost at hrd
    cases hgm : goM nilL 0 (cutN s).1 (cutN s).2 with
    | inr k =>
      rw [hgm] at hrd
      have hT : toldOf s = (1, (k : Int), nilL) := by unfold toldOf; rw [if_neg hlong, hgm]
      have hrd2 := hrd.mono (R' := fun e w' => (∃ n' : Nat, k = n' + 1 ∧ e = .returned (.tuple #[.agg #[.slice none 0 0, .int .i64 0, .slice none 0 0], .int .i64 ((n' : Int) + 1)])) ∧ Below w.heap.size w w' ∧ w.heap.size < w'.heap.size ∧ Room w.heap.size 5 w') (by
        rintro e w' (⟨n', h1, h2, h3⟩ | ⟨tr, gap, L, at_, ct, aT, cT, h1, _⟩)
        · exact ⟨⟨n', Sum.inr.inj h1, h2⟩, Below.join hA (Nat.le_refl _) h3, by have := h3.size; omega, hroom.below h3 (by omega)⟩
        · cases h1)
      have hP : ∀ (n' : Nat) w', k = n' + 1 → Below w.heap.size w w' → ToldPost s w (.returned (.agg #[.int .i64 1, .int .i64 ((n' : Int) + 1), .slice none 0 0, .int .i64 0, .slice none 0 0])) w' := fun n' w' hk hB => toldPost_nil (by rw [hT, hk]; rfl) hB
      clear hT hrd
      generalize ba s = S at hsz hrd2
      go_enter Tryz.func19, Tryz.ntmps19
      go_wp2_with (go_at_call 46; refine hrd2.mono ?_; rintro _ w2 ⟨⟨n', rfl, rfl⟩, hB2, hlt2, hrm⟩; obtain ⟨x0, e0, f0⟩ := hrm 0 (by omega); obtain ⟨x1, e1, f1⟩ := hrm 1 (by omega); obtain ⟨x2, e2, f2⟩ := hrm 2 (by omega); obtain ⟨x3, e3, f3⟩ := hrm 3 (by omega); obtain ⟨x4, e4, f4⟩ := hrm 4 (by omega); have hpos : (0 : Int) < (n' : Int) + 1 := by omega)
      refine bodyPost_ret (v := .agg #[.int .i64 1, .int .i64 ((n' : Int) + 1), .slice none 0 0, .int .i64 0, .slice none 0 0]) (by simp [results, Tryz.results19, go_sem, e0, e1, e2, e3, e4, hlt2]) rfl (hP n' _ rfl ?_)
      exact (((((hB2.setCell (p := ⟨w.heap.size, _, none⟩) (Nat.le_refl _) _).setCell (p := ⟨w.heap.size, _, none⟩) (Nat.le_refl _) _).setCell (p := ⟨w.heap.size, _, none⟩) (Nat.le_refl _) _).setCell (p := ⟨w.heap.size, _, none⟩) (Nat.le_refl _) _).setCell (p := ⟨w.heap.size, _, none⟩) (Nat.le_refl _) _).alloc (by simp; omega) _
    | inl l => exact absurd hgm ((hno l).resolve_left hlong)
end Go.Proofs.YthnlkpifafklkaaGreatDoor
