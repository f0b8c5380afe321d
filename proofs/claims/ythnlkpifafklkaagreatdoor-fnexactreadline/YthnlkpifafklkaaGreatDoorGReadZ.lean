/-
  The program's ReadLine, where every row stands.
  The program's ReadLine, where the line is not right.
-/
import Derived.Test.YthnlkpifafklkaaGreatDoorReadL
namespace Go.Proofs.YthnlkpifafklkaaGreatDoor
open Go.RowKit

/-- what read answers there -/
def ReadYes (l : LnL) (w : World) (e : Ending) (w' : World) : Prop := ∃ tr gap L at_ ct aT cT, l = ⟨tr, gap, L.map Prod.fst⟩ ∧ e = .returned (.tuple #[.agg #[.slice at_ tr.length ct, .int .i64 gap, .slice aT L.length cT], .int .i64 0]) ∧ LOwn (w.heap.size + 1) w' tr L (.slice at_ tr.length ct) (.slice aT L.length cT) ∧ tr.length ≤ 39 ∧ L.length ≤ 5000 ∧ (∀ x ∈ L, x.1.legs.length ≤ 5000) ∧ Below w.heap.size w w' ∧ w.heap.size < w'.heap.size ∧ Room w.heap.size 5 w'
theorem read_yes (s : Bs) (w : World) (hL : LaidR w) (hs : s.length ≤ 4000) {l : LnL} (hgm : goM nilL 0 (cutN s).1 (cutN s).2 = .inl l) :
    Calls Tryz.prog 46 #[.string (ba s)] (w.alloc (.cells #[.int .i64 0, .int .i64 0, .slice none 0 0, .int .i64 0, .slice none 0 0] 46)) (ReadYes l w) := by
  have hA := b1 w (.cells #[.int .i64 0, .int .i64 0, .slice none 0 0, .int .i64 0, .slice none 0 0] 46)
  have hroom : Room w.heap.size 5 (w.alloc (.cells #[.int .i64 0, .int .i64 0, .slice none 0 0, .int .i64 0, .slice none 0 0] 46)) := Room.lit _ _ _ 5 (by simp)
  have hsA : (w.alloc (.cells #[.int .i64 0, .int .i64 0, .slice none 0 0, .int .i64 0, .slice none 0 0] 46)).heap.size = w.heap.size + 1 := by simp
  have hrd := read_any s _ (hL.later hA) hs
  unfold ReadPost at hrd
  rw [hgm] at hrd
  refine hrd.mono ?_
  rintro e w' (⟨n', h1, _⟩ | ⟨tr, gap, L, at_, ct, aT, cT, h1, h2, h3, h4, h5, h6, h7⟩)
  · cases h1
  · rw [hsA] at h3
    exact ⟨tr, gap, L, at_, ct, aT, cT, Sum.inl.inj h1, h2, h3, h4, h5, h6, Below.join hA (Nat.le_refl _) h7, by have := h7.size; omega, hroom.below h7 (by omega)⟩
theorem lineOk_own {B0 : Nat} {l : LnL} {tr : List Int} {gap : Int} {L : List TrV} {at_ : Option Addr} {ct : Nat} {aT : Option Addr} {cT : Nat} {W : World} (hl : l = ⟨tr, gap, L.map Prod.fst⟩) (hown : LOwn B0 W tr L (.slice at_ tr.length ct) (.slice aT L.length cT)) (hl1 : tr.length ≤ 39) (hl2 : L.length ≤ 5000) (hl3 : ∀ x ∈ L, x.1.legs.length ≤ 5000)
    (hg : W.cell? ⟨0, 0, none⟩ = some (.iface 184 (.agg #[.pointer (some ⟨10, 129, none⟩)]))) :
    Calls Tryz.prog 47 #[.agg #[.slice at_ tr.length ct, .int .i64 gap, .slice aT L.length cT]] W fun e w' => e = .returned (.agg #[.int .i64 (faultL l).1, .int .i64 (faultL l).2]) ∧ Below W.heap.size W w' := by
  obtain ⟨a1, c1, e1, hI⟩ := ownInts hown.ints
  obtain ⟨a2, c2, e2, hT⟩ := hown.trs.trains (fun x hx => by have := hl3 x hx; unfold maxLen; omega)
  cases e1
  cases e2
  have hml : ∀ j, j < L.length → (fT (L.map Prod.fst) j).nl ≤ 1048576 := fun j hj => by
    have hf : fT (L.map Prod.fst) j = trD L[j].1 := by unfold fT; rw [List.getD_eq_getElem?_getD, List.getElem?_map, List.getElem?_eq_getElem hj]; rfl
    rw [hf]
    have := hl3 _ (List.getElem_mem hj)
    show (L[j].1.legs.length) ≤ 1048576
    omega
  have h := implOk_any at_ tr.length ct (gI tr) gap aT L.length cT (fT (L.map Prod.fst)) W (by omega) (by omega) hml (hI.mono (Nat.zero_le _) (Nat.le_refl _)) (hT.mono (Nat.zero_le _) (Nat.le_refl _)) hg
  have hff : faultL l = faultOf tr.length (gI tr) gap L.length (fT (L.map Prod.fst)) := by rw [hl]; unfold faultL; simp
  rw [hff]
  exact h

set_option maxRecDepth 20000 in
set_option maxHeartbeats 4000000 in
theorem implRead_yes (s : Bs) (w : World) (hL : LaidR w) (hg : w.cell? ⟨0, 0, none⟩ = some (.iface 184 (.agg #[.pointer (some ⟨10, 129, none⟩)]))) (hs : s.length ≤ 4000) {l : LnL} (hgm : goM nilL 0 (cutN s).1 (cutN s).2 = .inl l) (hz : (faultL l).1 = 0) :
    Calls Tryz.prog 19 #[.string (ba s)] w (ToldPost s w) := by
  have hsz : ((ba s).size : Int) = (s.length : Int) := by rw [ba_size]
  have hlong' : ¬ ((4000 : Int) < (s.length : Int)) := by omega
  have hz2 : faultL l = (0, 0) := faultOf_snd hz
  have hT : toldOf s = (0, 0, l) := by unfold toldOf; rw [if_neg (by omega), hgm]; simp only; rw [if_pos hz]
  have hP : ∀ tr gap L at_ ct aT cT w', l = ⟨tr, gap, L.map Prod.fst⟩ → LOwn w.heap.size w' tr L (.slice at_ tr.length ct) (.slice aT L.length cT) → tr.length ≤ 39 → L.length ≤ 5000 → (∀ x ∈ L, x.1.legs.length ≤ 5000) → Below w.heap.size w w' → ToldPost s w (.returned (.agg #[.int .i64 0, .int .i64 0, .slice at_ tr.length ct, .int .i64 gap, .slice aT L.length cT])) w' :=
    fun tr gap L at_ ct aT cT w' h1 h2 h3 h4 h5 h6 => ⟨tr, gap, L, at_, ct, aT, cT, by rw [hT]; exact h1, by rw [hT], h2, h3, h4, h5, h6⟩
  have hrd := read_yes s w hL hs hgm
  have hP' : Hid _ := hP
  have hz' : Hid _ := hz2
  clear hT hz hz2 hP hgm
  generalize ba s = S at hsz hrd
  go_enter Tryz.func19, Tryz.ntmps19
  go_wp2_with (first | (go_at_call 46; refine hrd.mono ?_; rintro _ w2 ⟨tr, gap, L, at_, ct, aT, cT, hl, rfl, hown, hl1, hl2, hl3, hB2, hlt2, hrm⟩; obtain ⟨x0, e0, f0⟩ := hrm 0 (by omega); obtain ⟨x1, e1, f1⟩ := hrm 1 (by omega); obtain ⟨x2, e2, f2⟩ := hrm 2 (by omega); obtain ⟨x3, e3, f3⟩ := hrm 3 (by omega); obtain ⟨x4, e4, f4⟩ := hrm 4 (by omega)) | (go_at_call 47; refine (lineOk_own hl (hown.later (b1 w2 _)) hl1 hl2 hl3 (cellLater (Below.join hB2 (Nat.le_refl _) (b1 w2 _)) hg)).mono ?_; rintro _ w3 ⟨rfl, hB3⟩; rw [hz'.out]; obtain ⟨n0, n1, n2⟩ := new3 w2 (.slice at_ tr.length ct) (.int .i64 gap) (.slice aT L.length cT) 35; replace n0 := cellLater hB3 n0; replace n1 := cellLater hB3 n1; replace n2 := cellLater hB3 n2; have hrm3 := (hrm.below (b1 w2 _) hlt2).below hB3 (by simp only [World.size_alloc]; omega); obtain ⟨u0, d0, g0⟩ := hrm3 0 (by omega); obtain ⟨u1, d1, g1⟩ := hrm3 1 (by omega); obtain ⟨u2, d2, g2⟩ := hrm3 2 (by omega); obtain ⟨u3, d3, g3⟩ := hrm3 3 (by omega); obtain ⟨u4, d4, g4⟩ := hrm3 4 (by omega); have hlt3 : w2.heap.size < w3.heap.size := (by have h9 := hB3.size; simp only [World.size_alloc] at h9; omega); have hlt4 : w.heap.size < w3.heap.size := (by omega)))
  refine bodyPost_ret (v := .agg #[.int .i64 0, .int .i64 0, .slice at_ tr.length ct, .int .i64 gap, .slice aT L.length cT]) (by simp [results, Tryz.results19, go_sem, d0, d1, d2, d3, d4, hlt4]) rfl (hP'.out tr gap L at_ ct aT cT _ hl ?_ hl1 hl2 hl3 ?_)
  · exact (((((((hown.later (b1 w2 _)).later hB3).set ⟨w.heap.size, _, none⟩ (Nat.lt_succ_self _) _).set ⟨w.heap.size, _, none⟩ (Nat.lt_succ_self _) _).set ⟨w.heap.size, _, none⟩ (Nat.lt_succ_self _) _).set ⟨w.heap.size, _, none⟩ (Nat.lt_succ_self _) _).set ⟨w.heap.size, _, none⟩ (Nat.lt_succ_self _) _).later (b1 _ _) |>.low (Nat.le_succ _)
  · exact (((((Below.join (Below.join hB2 (Nat.le_refl _) (b1 w2 _)) (Nat.le_refl _) hB3).setCell (p := ⟨w.heap.size, _, none⟩) (Nat.le_refl _) _).setCell (p := ⟨w.heap.size, _, none⟩) (Nat.le_refl _) _).setCell (p := ⟨w.heap.size, _, none⟩) (Nat.le_refl _) _).setCell (p := ⟨w.heap.size, _, none⟩) (Nat.le_refl _) _).setCell (p := ⟨w.heap.size, _, none⟩) (Nat.le_refl _) _ |>.alloc (by simp; omega) _
end Go.Proofs.YthnlkpifafklkaaGreatDoor

namespace Go.Proofs.YthnlkpifafklkaaGreatDoor
open Go.RowKit

set_option maxRecDepth 20000 in
set_option maxHeartbeats 4000000 in
theorem implRead_fault (s : Bs) (w : World) (hL : LaidR w) (hg : w.cell? ⟨0, 0, none⟩ = some (.iface 184 (.agg #[.pointer (some ⟨10, 129, none⟩)]))) (hs : s.length ≤ 4000) {l : LnL} (hgm : goM nilL 0 (cutN s).1 (cutN s).2 = .inl l) (hz : (faultL l).1 ≠ 0) :
    Calls Tryz.prog 19 #[.string (ba s)] w (ToldPost s w) := by
  have hsz : ((ba s).size : Int) = (s.length : Int) := by rw [ba_size]
  have hlong' : ¬ ((4000 : Int) < (s.length : Int)) := by omega
  have hT : toldOf s = (2 + (faultL l).1, 0, nilL) := by unfold toldOf; rw [if_neg (by omega), hgm]; simp only; rw [if_neg hz]
  have hP : ∀ w', Below w.heap.size w w' → ToldPost s w (.returned (.agg #[.int .i64 (2 + (faultL l).1), .int .i64 0, .slice none 0 0, .int .i64 0, .slice none 0 0])) w' := fun w' hB => toldPost_nil hT hB
  have hc := faultL_code (l := l)
  have hok : ∀ tr gap L at_ ct aT cT W, l = ⟨tr, gap, L.map Prod.fst⟩ → LOwn (w.heap.size + 1) W tr L (.slice at_ tr.length ct) (.slice aT L.length cT) → tr.length ≤ 39 → L.length ≤ 5000 → (∀ x ∈ L, x.1.legs.length ≤ 5000) → W.cell? ⟨0, 0, none⟩ = some (.iface 184 (.agg #[.pointer (some ⟨10, 129, none⟩)])) → Calls Tryz.prog 47 #[.agg #[.slice at_ tr.length ct, .int .i64 gap, .slice aT L.length cT]] W fun e w' => e = .returned (.agg #[.int .i64 (faultL l).1, .int .i64 (faultL l).2]) ∧ Below W.heap.size W w' := fun tr gap L at_ ct aT cT W h1 h2 h3 h4 h5 h6 => lineOk_own h1 h2 h3 h4 h5 h6
  generalize (faultL l).1 = c at hz hP hc hok hT
  generalize (faultL l).2 = d at hok
  have hcz : (c == 0) = false := by simpa using hz
  have hc0 : 0 ≤ c := by omega
  have hc3 : c ≤ 3 := by omega
  have hrd := read_yes s w hL hs hgm
  have hP' : Hid _ := hP
  have hok' : Hid _ := hok
  clear hT hP hgm hok hc
  generalize ba s = S at hsz hrd
  go_enter Tryz.func19, Tryz.ntmps19
  go_wp2_with (first | (go_at_call 46; refine hrd.mono ?_; rintro _ w2 ⟨tr, gap, L, at_, ct, aT, cT, hl, rfl, hown, hl1, hl2, hl3, hB2, hlt2, hrm⟩; obtain ⟨x0, e0, f0⟩ := hrm 0 (by omega); obtain ⟨x1, e1, f1⟩ := hrm 1 (by omega); obtain ⟨x2, e2, f2⟩ := hrm 2 (by omega); obtain ⟨x3, e3, f3⟩ := hrm 3 (by omega); obtain ⟨x4, e4, f4⟩ := hrm 4 (by omega)) | (go_at_call 47; refine (hok'.out tr gap L at_ ct aT cT _ hl (hown.later (b1 w2 _)) hl1 hl2 hl3 (cellLater (Below.join hB2 (Nat.le_refl _) (b1 w2 _)) hg)).mono ?_; rintro _ w3 ⟨rfl, hB3⟩; obtain ⟨n0, n1, n2⟩ := new3 w2 (.slice at_ tr.length ct) (.int .i64 gap) (.slice aT L.length cT) 35; replace n0 := cellLater hB3 n0; replace n1 := cellLater hB3 n1; replace n2 := cellLater hB3 n2; have hrm3 := (hrm.below (b1 w2 _) hlt2).below hB3 (by simp only [World.size_alloc]; omega); obtain ⟨u0, d0, g0⟩ := hrm3 0 (by omega); obtain ⟨u1, d1, g1⟩ := hrm3 1 (by omega); obtain ⟨u2, d2, g2⟩ := hrm3 2 (by omega); obtain ⟨u3, d3, g3⟩ := hrm3 3 (by omega); obtain ⟨u4, d4, g4⟩ := hrm3 4 (by omega); have hlt3 : w2.heap.size < w3.heap.size := (by have h9 := hB3.size; simp only [World.size_alloc] at h9; omega); have hlt4 : w.heap.size < w3.heap.size := (by omega)))
  refine bodyPost_ret (v := .agg #[.int .i64 (2 + c), .int .i64 0, .slice none 0 0, .int .i64 0, .slice none 0 0]) (by simp [results, Tryz.results19, go_sem, d0, d1, d2, d3, d4, hlt4]) rfl (hP'.out _ ?_)
  exact (((((Below.join (Below.join hB2 (Nat.le_refl _) (b1 w2 _)) (Nat.le_refl _) hB3).setCell (p := ⟨w.heap.size, _, none⟩) (Nat.le_refl _) _).setCell (p := ⟨w.heap.size, _, none⟩) (Nat.le_refl _) _).setCell (p := ⟨w.heap.size, _, none⟩) (Nat.le_refl _) _).setCell (p := ⟨w.heap.size, _, none⟩) (Nat.le_refl _) _).setCell (p := ⟨w.heap.size, _, none⟩) (Nat.le_refl _) _ |>.alloc (by simp; omega) _

theorem implRead_any (s : Bs) (w : World) (hL : LaidR w) (hg : w.cell? ⟨0, 0, none⟩ = some (.iface 184 (.agg #[.pointer (some ⟨10, 129, none⟩)]))) (hs : s.length ≤ 1048576) :
    Calls Tryz.prog 19 #[.string (ba s)] w (ToldPost s w) := by
  by_cases hlong : 4000 < s.length
  · exact implRead_no s w (fun _ => Or.inl hlong) hL hs
  · cases hgm : goM nilL 0 (cutN s).1 (cutN s).2 with
    | inr k => exact implRead_no s w (fun l => Or.inr (by rw [hgm]; exact fun h => by cases h)) hL hs
    | inl l =>
      by_cases hz : (faultL l).1 = 0
      · exact implRead_yes s w hL hg (by omega) hgm hz
      · exact implRead_fault s w hL hg (by omega) hgm hz
end Go.Proofs.YthnlkpifafklkaaGreatDoor
