/-
  The program's ReadLine, where every row stands.
  The program's ReadLine, where the line is not right.
  A plan as a diagram, over plain data.
  When a train is where, by the program: a row of stands.
  A train's course, by the program.
  The program's three looks at a leg: too soon, on a track that is taken, to a station that is full.
  The program's looks at what is taken, by the lists of holds.
-/
import Derived.Test.YtnjaegeapcijpaaGreatDoorGE
import Derived.Test.YtnjaegeapcijpaaGreatDoorGA
import Derived.Test.YtnjaegeapcijpaaGreatDoorLateQ
import Derived.Test.YtnjaegeapcijpaaGreatDoorApp
import Derived.Test.YtnjaegeapcijpaaGreatDoorImplS
import Derived.Test.YtnjaegeapcijpaaGreatDoorGB
import Derived.Test.YtnjaegeapcijpaaGreatDoorImplX
import Derived.Test.YtnjaegeapcijpaaGreatDoorSpecC
import Derived.Test.YtnjaegeapcijpaaGreatDoorSmall
namespace Go.Proofs.YtnjaegeapcijpaaGreatDoor
open Go.RowKit

/-- what read answers there -/
def ReadYes (l : LnL) (w : World) (e : Ending) (w' : World) : Prop := ∃ tr gap L at_ ct aT cT, l = ⟨tr, gap, L.map Prod.fst⟩ ∧ e = .returned (.tuple #[.agg #[.slice at_ tr.length ct, .int .i64 gap, .slice aT L.length cT], .int .i64 0]) ∧ LOwn (w.heap.size + 1) w' tr L (.slice at_ tr.length ct) (.slice aT L.length cT) ∧ tr.length ≤ 39 ∧ L.length ≤ 5000 ∧ (∀ x ∈ L, x.1.legs.length ≤ 5000) ∧ Below w.heap.size w w' ∧ w.heap.size < w'.heap.size ∧ Room w.heap.size 5 w'
theorem read_yes (s : Bs) (w : World) (hL : LaidR w) (hs : s.length ≤ 4000) {l : LnL} (hgm : goM nilL 0 (cutN s).1 (cutN s).2 = .inl l) :
    Calls Tryz.prog 45 #[.string (ba s)] (w.alloc (.cells #[.int .i64 0, .int .i64 0, .slice none 0 0, .int .i64 0, .slice none 0 0] 43)) (ReadYes l w) := by
  have hA := b1 w (.cells #[.int .i64 0, .int .i64 0, .slice none 0 0, .int .i64 0, .slice none 0 0] 43)
  have hroom : Room w.heap.size 5 (w.alloc (.cells #[.int .i64 0, .int .i64 0, .slice none 0 0, .int .i64 0, .slice none 0 0] 43)) := Room.lit _ _ _ 5 (by simp)
  have hsA : (w.alloc (.cells #[.int .i64 0, .int .i64 0, .slice none 0 0, .int .i64 0, .slice none 0 0] 43)).heap.size = w.heap.size + 1 := by simp
  have hrd := read_any s _ (hL.later hA) hs
  unfold ReadPost at hrd
  rw [hgm] at hrd
  refine hrd.mono ?_
  rintro e w' (⟨n', h1, _⟩ | ⟨tr, gap, L, at_, ct, aT, cT, h1, h2, h3, h4, h5, h6, h7⟩)
  · cases h1
  · rw [hsA] at h3
    exact ⟨tr, gap, L, at_, ct, aT, cT, Sum.inl.inj h1, h2, h3, h4, h5, h6, Below.join hA (Nat.le_refl _) h7, by have := h7.size; omega, hroom.below h7 (by omega)⟩
theorem lineOk_own {B0 : Nat} {l : LnL} {tr : List Int} {gap : Int} {L : List TrV} {at_ : Option Addr} {ct : Nat} {aT : Option Addr} {cT : Nat} {W : World} (hl : l = ⟨tr, gap, L.map Prod.fst⟩) (hown : LOwn B0 W tr L (.slice at_ tr.length ct) (.slice aT L.length cT)) (hl1 : tr.length ≤ 39) (hl2 : L.length ≤ 5000) (hl3 : ∀ x ∈ L, x.1.legs.length ≤ 5000)
    (hg : W.cell? ⟨1, 0, none⟩ = some (.iface 194 (.agg #[.pointer (some ⟨10, 131, none⟩)]))) :
    Calls Tryz.prog 46 #[.agg #[.slice at_ tr.length ct, .int .i64 gap, .slice aT L.length cT]] W fun e w' => e = .returned (.agg #[.int .i64 (faultL l).1, .int .i64 (faultL l).2]) ∧ Below W.heap.size W w' := by
  obtain ⟨a1, c1, e1, hI⟩ := ownInts hown.ints
  obtain ⟨a2, c2, e2, hT⟩ := hown.trs.trains (fun x hx => by have := hl3 x hx; unfold maxLen; omega)
  cases e1
  cases e2
  have hml : ∀ j, j < L.length → (fT (L.map Prod.fst) j).nl ≤ 1048576 := fun j hj => by
    have hf : fT (L.map Prod.fst) j = trD L[j].1 := by unfold fT; rw [List.getD_eq_getElem?_getD, List.getElem?_map, List.getElem?_eq_getElem hj]; rfl
    rw [hf]
    have := hl3 _ (List.getElem_mem hj)
    show (L[j].1.legs.length) ≤ 1048576
    omega
  have h := implOk_any at_ tr.length ct (gI tr) gap aT L.length cT (fT (L.map Prod.fst)) W (by omega) (by omega) hml (hI.mono (Nat.zero_le _) (Nat.le_refl _)) (hT.mono (Nat.zero_le _) (Nat.le_refl _)) hg
  have hff : faultL l = faultOf tr.length (gI tr) gap L.length (fT (L.map Prod.fst)) := by rw [hl]; unfold faultL; simp
  rw [hff]
  exact h

set_option maxRecDepth 20000 in
set_option maxHeartbeats 4000000 in
theorem implRead_yes (s : Bs) (w : World) (hL : LaidR w) (hg : w.cell? ⟨1, 0, none⟩ = some (.iface 194 (.agg #[.pointer (some ⟨10, 131, none⟩)]))) (hs : s.length ≤ 4000) {l : LnL} (hgm : goM nilL 0 (cutN s).1 (cutN s).2 = .inl l) (hz : (faultL l).1 = 0) :
    Calls Tryz.prog 13 #[.string (ba s)] w (ToldPost s w) := by
  have hsz : ((ba s).size : Int) = (s.length : Int) := by rw [ba_size]
  have hlong' : ¬ ((4000 : Int) < (s.length : Int)) := by omega
  have hz2 : faultL l = (0, 0) := faultOf_snd hz
  have hT : toldOf s = (0, 0, l) := by unfold toldOf; rw [if_neg (by omega), hgm]; simp only; rw [if_pos hz]
  have hP : ∀ tr gap L at_ ct aT cT w', l = ⟨tr, gap, L.map Prod.fst⟩ → LOwn w.heap.size w' tr L (.slice at_ tr.length ct) (.slice aT L.length cT) → tr.length ≤ 39 → L.length ≤ 5000 → (∀ x ∈ L, x.1.legs.length ≤ 5000) → Below w.heap.size w w' → ToldPost s w (.returned (.agg #[.int .i64 0, .int .i64 0, .slice at_ tr.length ct, .int .i64 gap, .slice aT L.length cT])) w' :=
    fun tr gap L at_ ct aT cT w' h1 h2 h3 h4 h5 h6 => ⟨tr, gap, L, at_, ct, aT, cT, by rw [hT]; exact h1, by rw [hT], h2, h3, h4, h5, h6⟩
  have hrd := read_yes s w hL hs hgm
  have hP' : Hid _ := hP
  have hz' : Hid _ := hz2
  clear hT hz hz2 hP hgm
  generalize ba s = S at hsz hrd
  go_enter Tryz.func13, Tryz.ntmps13
  go_wp2_with (first | (go_at_call 45; refine hrd.mono ?_; rintro _ w2 ⟨tr, gap, L, at_, ct, aT, cT, hl, rfl, hown, hl1, hl2, hl3, hB2, hlt2, hrm⟩; obtain ⟨x0, e0, f0⟩ := hrm 0 (by omega); obtain ⟨x1, e1, f1⟩ := hrm 1 (by omega); obtain ⟨x2, e2, f2⟩ := hrm 2 (by omega); obtain ⟨x3, e3, f3⟩ := hrm 3 (by omega); obtain ⟨x4, e4, f4⟩ := hrm 4 (by omega)) | (go_at_call 46; refine (lineOk_own hl (hown.later (b1 w2 _)) hl1 hl2 hl3 (cellLater (Below.join hB2 (Nat.le_refl _) (b1 w2 _)) hg)).mono ?_; rintro _ w3 ⟨rfl, hB3⟩; rw [hz'.out]; obtain ⟨n0, n1, n2⟩ := new3 w2 (.slice at_ tr.length ct) (.int .i64 gap) (.slice aT L.length cT) 26; replace n0 := cellLater hB3 n0; replace n1 := cellLater hB3 n1; replace n2 := cellLater hB3 n2; have hrm3 := (hrm.below (b1 w2 _) hlt2).below hB3 (by simp only [World.size_alloc]; omega); obtain ⟨u0, d0, g0⟩ := hrm3 0 (by omega); obtain ⟨u1, d1, g1⟩ := hrm3 1 (by omega); obtain ⟨u2, d2, g2⟩ := hrm3 2 (by omega); obtain ⟨u3, d3, g3⟩ := hrm3 3 (by omega); obtain ⟨u4, d4, g4⟩ := hrm3 4 (by omega); have hlt3 : w2.heap.size < w3.heap.size := (by have h9 := hB3.size; simp only [World.size_alloc] at h9; omega); have hlt4 : w.heap.size < w3.heap.size := (by omega)))
  refine bodyPost_ret (v := .agg #[.int .i64 0, .int .i64 0, .slice at_ tr.length ct, .int .i64 gap, .slice aT L.length cT]) (by simp [results, Tryz.results13, go_sem, d0, d1, d2, d3, d4, hlt4]) rfl (hP'.out tr gap L at_ ct aT cT _ hl ?_ hl1 hl2 hl3 ?_)
  · exact (((((((hown.later (b1 w2 _)).later hB3).set ⟨w.heap.size, _, none⟩ (Nat.lt_succ_self _) _).set ⟨w.heap.size, _, none⟩ (Nat.lt_succ_self _) _).set ⟨w.heap.size, _, none⟩ (Nat.lt_succ_self _) _).set ⟨w.heap.size, _, none⟩ (Nat.lt_succ_self _) _).set ⟨w.heap.size, _, none⟩ (Nat.lt_succ_self _) _).later (b1 _ _) |>.low (Nat.le_succ _)
  · exact (((((Below.join (Below.join hB2 (Nat.le_refl _) (b1 w2 _)) (Nat.le_refl _) hB3).setCell (p := ⟨w.heap.size, _, none⟩) (Nat.le_refl _) _).setCell (p := ⟨w.heap.size, _, none⟩) (Nat.le_refl _) _).setCell (p := ⟨w.heap.size, _, none⟩) (Nat.le_refl _) _).setCell (p := ⟨w.heap.size, _, none⟩) (Nat.le_refl _) _).setCell (p := ⟨w.heap.size, _, none⟩) (Nat.le_refl _) _ |>.alloc (by simp; omega) _
end Go.Proofs.YtnjaegeapcijpaaGreatDoor

namespace Go.Proofs.YtnjaegeapcijpaaGreatDoor
open Go.RowKit

set_option maxRecDepth 20000 in
set_option maxHeartbeats 4000000 in
theorem implRead_fault (s : Bs) (w : World) (hL : LaidR w) (hg : w.cell? ⟨1, 0, none⟩ = some (.iface 194 (.agg #[.pointer (some ⟨10, 131, none⟩)]))) (hs : s.length ≤ 4000) {l : LnL} (hgm : goM nilL 0 (cutN s).1 (cutN s).2 = .inl l) (hz : (faultL l).1 ≠ 0) :
    Calls Tryz.prog 13 #[.string (ba s)] w (ToldPost s w) := by
  have hsz : ((ba s).size : Int) = (s.length : Int) := by rw [ba_size]
  have hlong' : ¬ ((4000 : Int) < (s.length : Int)) := by omega
  have hT : toldOf s = (2 + (faultL l).1, 0, nilL) := by unfold toldOf; rw [if_neg (by omega), hgm]; simp only; rw [if_neg hz]
  have hP : ∀ w', Below w.heap.size w w' → ToldPost s w (.returned (.agg #[.int .i64 (2 + (faultL l).1), .int .i64 0, .slice none 0 0, .int .i64 0, .slice none 0 0])) w' := fun w' hB => toldPost_nil hT hB
  have hc := faultL_code (l := l)
  have hok : ∀ tr gap L at_ ct aT cT W, l = ⟨tr, gap, L.map Prod.fst⟩ → LOwn (w.heap.size + 1) W tr L (.slice at_ tr.length ct) (.slice aT L.length cT) → tr.length ≤ 39 → L.length ≤ 5000 → (∀ x ∈ L, x.1.legs.length ≤ 5000) → W.cell? ⟨1, 0, none⟩ = some (.iface 194 (.agg #[.pointer (some ⟨10, 131, none⟩)])) → Calls Tryz.prog 46 #[.agg #[.slice at_ tr.length ct, .int .i64 gap, .slice aT L.length cT]] W fun e w' => e = .returned (.agg #[.int .i64 (faultL l).1, .int .i64 (faultL l).2]) ∧ Below W.heap.size W w' := fun tr gap L at_ ct aT cT W h1 h2 h3 h4 h5 h6 => lineOk_own h1 h2 h3 h4 h5 h6
  generalize (faultL l).1 = c at hz hP hc hok hT
  generalize (faultL l).2 = d at hok
  have hcz : (c == 0) = false := by simpa using hz
  have hc0 : 0 ≤ c := by omega
  have hc3 : c ≤ 3 := by omega
  have hrd := read_yes s w hL hs hgm
  have hP' : Hid _ := hP
  have hok' : Hid _ := hok
  clear hT hP hgm hok hc
  generalize ba s = S at hsz hrd
  go_enter Tryz.func13, Tryz.ntmps13
  go_wp2_with (first | (go_at_call 45; refine hrd.mono ?_; rintro _ w2 ⟨tr, gap, L, at_, ct, aT, cT, hl, rfl, hown, hl1, hl2, hl3, hB2, hlt2, hrm⟩; obtain ⟨x0, e0, f0⟩ := hrm 0 (by omega); obtain ⟨x1, e1, f1⟩ := hrm 1 (by omega); obtain ⟨x2, e2, f2⟩ := hrm 2 (by omega); obtain ⟨x3, e3, f3⟩ := hrm 3 (by omega); obtain ⟨x4, e4, f4⟩ := hrm 4 (by omega)) | (go_at_call 46; refine (hok'.out tr gap L at_ ct aT cT _ hl (hown.later (b1 w2 _)) hl1 hl2 hl3 (cellLater (Below.join hB2 (Nat.le_refl _) (b1 w2 _)) hg)).mono ?_; rintro _ w3 ⟨rfl, hB3⟩; obtain ⟨n0, n1, n2⟩ := new3 w2 (.slice at_ tr.length ct) (.int .i64 gap) (.slice aT L.length cT) 26; replace n0 := cellLater hB3 n0; replace n1 := cellLater hB3 n1; replace n2 := cellLater hB3 n2; have hrm3 := (hrm.below (b1 w2 _) hlt2).below hB3 (by simp only [World.size_alloc]; omega); obtain ⟨u0, d0, g0⟩ := hrm3 0 (by omega); obtain ⟨u1, d1, g1⟩ := hrm3 1 (by omega); obtain ⟨u2, d2, g2⟩ := hrm3 2 (by omega); obtain ⟨u3, d3, g3⟩ := hrm3 3 (by omega); obtain ⟨u4, d4, g4⟩ := hrm3 4 (by omega); have hlt3 : w2.heap.size < w3.heap.size := (by have h9 := hB3.size; simp only [World.size_alloc] at h9; omega); have hlt4 : w.heap.size < w3.heap.size := (by omega)))
  refine bodyPost_ret (v := .agg #[.int .i64 (2 + c), .int .i64 0, .slice none 0 0, .int .i64 0, .slice none 0 0]) (by simp [results, Tryz.results13, go_sem, d0, d1, d2, d3, d4, hlt4]) rfl (hP'.out _ ?_)
  exact (((((Below.join (Below.join hB2 (Nat.le_refl _) (b1 w2 _)) (Nat.le_refl _) hB3).setCell (p := ⟨w.heap.size, _, none⟩) (Nat.le_refl _) _).setCell (p := ⟨w.heap.size, _, none⟩) (Nat.le_refl _) _).setCell (p := ⟨w.heap.size, _, none⟩) (Nat.le_refl _) _).setCell (p := ⟨w.heap.size, _, none⟩) (Nat.le_refl _) _).setCell (p := ⟨w.heap.size, _, none⟩) (Nat.le_refl _) _ |>.alloc (by simp; omega) _

theorem implRead_any (s : Bs) (w : World) (hL : LaidR w) (hg : w.cell? ⟨1, 0, none⟩ = some (.iface 194 (.agg #[.pointer (some ⟨10, 131, none⟩)]))) (hs : s.length ≤ 1048576) :
    Calls Tryz.prog 13 #[.string (ba s)] w (ToldPost s w) := by
  by_cases hlong : 4000 < s.length
  · exact implRead_no s w (fun _ => Or.inl hlong) hL hs
  · cases hgm : goM nilL 0 (cutN s).1 (cutN s).2 with
    | inr k => exact implRead_no s w (fun l => Or.inr (by rw [hgm]; exact fun h => by cases h)) hL hs
    | inl l =>
      by_cases hz : (faultL l).1 = 0
      · exact implRead_yes s w hL hg (by omega) hgm hz
      · exact implRead_fault s w hL hg (by omega) hgm hz
end Go.Proofs.YtnjaegeapcijpaaGreatDoor

namespace Go.Proofs.YtnjaegeapcijpaaGreatDoor
open Go.RowKit

/-- where a train stands, and up to when -/
def standT (s e : Int) : List UInt8 := [32] ++ Lib.itoa s ++ [64] ++ Lib.itoa e
/-- the first k stands, behind b -/
def standsT (t : TrainD) (r : RowD) (b : List UInt8) : Nat → List UInt8
  | 0 => b
  | k + 1 => standsT t r b k ++ standT (cur t k) (toOf t r k)
def lateT (t : TrainD) (e : Int) : List UInt8 := if t.due < e then [32, 108, 97, 116, 101, 32] ++ Lib.itoa (e - t.due) else []
def courseT (t : TrainD) (r : RowD) : List UInt8 := standsT t r [] (t.nl + 1) ++ lateT t (fromOf t r t.nl)
def letterT (i : Nat) : List UInt8 := [UInt8.ofNat (65 + i)]
def diagT (f : Nat → TrainD) (P : Nat → RowD) : Nat → List UInt8
  | 0 => []
  | i + 1 => diagT f P i ++ (letterT i ++ courseT (f i) (P i) ++ [10])
def diagOf (nt : Nat) (g : Nat → Int) (gap : Int) (ntr : Nat) (f : Nat → TrainD) (np : Nat) (P : Nat → RowD) : List UInt8 :=
  if clashOf nt g gap ntr f np P = (0, 0, 0, 0) then diagT f P ntr else []
theorem standsT_app (t : TrainD) (r : RowD) (b : List UInt8) : ∀ k, standsT t r b k = b ++ standsT t r [] k
  | 0 => by simp [standsT]
  | k + 1 => by simp only [standsT]; rw [standsT_app t r b k, List.append_assoc]
/-- as the model writes it: behind what lies already -/
theorem diagT_row (f : Nat → TrainD) (P : Nat → RowD) (i : Nat) : diagT f P (i + 1) = standsT (f i) (P i) (diagT f P i ++ letterT i) ((f i).nl + 1) ++ lateT (f i) (fromOf (f i) (P i) (f i).nl) ++ [10] := by
  simp only [diagT, courseT]
  rw [standsT_app (f i) (P i) (diagT f P i ++ letterT i)]
  simp [List.append_assoc]
theorem fromOf_end (f : Nat → TrainD) (P : Nat → RowD) {i : Nat} (h : 0 < (f i).nl) : fromOf (f i) (P i) (f i).nl = endP f P i := by
  obtain ⟨e, he⟩ : ∃ e, (f i).nl = e + 1 := ⟨(f i).nl - 1, by omega⟩
  unfold endP
  rw [he]
  rfl
theorem standT_len {s e : Int} (h0 : 0 ≤ s) (h1 : s ≤ 99999999) (h2 : 0 ≤ e) (h3 : e ≤ 99999999) : (standT s e).length ≤ 18 := by
  have := itoa_len h0 h1
  have := itoa_len h2 h3
  simp only [standT, List.length_append, List.length_cons, List.length_nil]; omega
theorem lateT_len {t : TrainD} {e : Int} (h0 : 0 ≤ t.due) (h3 : e ≤ 99999999) : (lateT t e).length ≤ 14 := by
  unfold lateT
  split
  · have := itoa_len (n := e - t.due) (by omega) (by omega)
    simp only [List.length_append, List.length_cons, List.length_nil]; omega
  · simp
/-- the numbers of a train's stands are small -/
structure SmallS (t : TrainD) (r : RowD) : Prop where
  st : ∀ k, k ≤ t.nl → 0 ≤ cur t k ∧ cur t k ≤ 99999999
  too : ∀ k, k ≤ t.nl → 0 ≤ toOf t r k ∧ toOf t r k ≤ 99999999
  nl : t.nl ≤ 10
  pos : 0 < t.nl
  d0 : 0 ≤ t.due
  d1 : t.due ≤ 99999999
theorem toOf_end (t : TrainD) (r : RowD) : toOf t r t.nl = fromOf t r t.nl := by unfold toOf; rw [if_neg (by omega)]
theorem standsT_len {t : TrainD} {r : RowD} {b : List UInt8} (h : SmallS t r) : ∀ k, k ≤ t.nl + 1 → (standsT t r b k).length ≤ b.length + 18 * k
  | 0, _ => by simp [standsT]
  | k + 1, hk => by
    have h1 := standsT_len (b := b) h k (by omega)
    have h2 := h.st k (by omega)
    have h3 := h.too k (by omega)
    have h4 := standT_len h2.1 h2.2 h3.1 h3.2
    simp only [standsT, List.length_append]; omega
theorem courseT_len {t : TrainD} {r : RowD} (h : SmallS t r) : (courseT t r).length ≤ 220 := by
  have h1 := standsT_len (b := []) h (t.nl + 1) (Nat.le_refl _)
  have h2 := h.too t.nl (Nat.le_refl _)
  rw [toOf_end] at h2
  have h3 := lateT_len (t := t) (e := fromOf t r t.nl) h.d0 h2.2
  have h4 := h.nl
  simp only [courseT, List.length_append, List.length_nil] at *; omega
theorem diagT_len {f : Nat → TrainD} {P : Nat → RowD} {np : Nat} (h : ∀ i, i < np → SmallS (f i) (P i)) : ∀ i, i ≤ np → (diagT f P i).length ≤ 222 * i
  | 0, _ => by simp [diagT]
  | i + 1, hi => by
    have h1 := diagT_len h i (by omega)
    have h2 := courseT_len (h i (by omega))
    simp only [diagT, letterT, List.length_append, List.length_cons, List.length_nil]; omega
theorem smallS_of {nt ntr : Nat} {g : Nat → Int} {gap : Int} {f : Nat → TrainD} {P : Nat → RowD} (h : faultOf nt g gap ntr f = (0, 0)) (hS : shapeB ntr f ntr P = true) {i : Nat} (hi : i < ntr) : SmallS (f i) (P i) := by
  have hL := smallL_of h
  have hR := rightL_of h
  have hQ := rightP_of hS
  obtain ⟨⟨h1, h2, h3, h4⟩, h5⟩ := hL.tr i hi
  have hto : ∀ k, k < (f i).nl → 0 ≤ (P i).s k ∧ (P i).s k ≤ 1000000 := fun k hk => hQ.at0 i hi k hk
  refine ⟨fun k hk => ?_, fun k hk => ?_, h5, hR.pos i hi, h3.1, h3.2⟩
  · cases k with
    | zero => exact h1
    | succ m => exact (hL.leg i hi m (by omega)).1
  · unfold toOf
    split
    · have := hto k (by assumption); omega
    · have hpos := hR.pos i hi
      obtain ⟨e, he⟩ : ∃ e, k = e + 1 := ⟨k - 1, by omega⟩
      subst he
      have h6 := hto e (by omega)
      have h7 := (hR.train i hi).leg e (by omega)
      show 0 ≤ (P i).s e + ((f i).leg e).run ∧ (P i).s e + ((f i).leg e).run ≤ 99999999
      omega
end Go.Proofs.YtnjaegeapcijpaaGreatDoor

namespace Go.Proofs.YtnjaegeapcijpaaGreatDoor
open Go.RowKit

theorem Tryz.infoStand : (Tryz.prog.info? 142).map (fun i => (i.zero, i.size, i.bytes)) = some (some (.agg #[.int .i64 0, .int .i64 0, .int .i64 0]), 3, 24) := by kernel_rfl

theorem stands_step {W wr w' : World} {v v' : Value} {t : TrainD} {r : RowD} {k : Nat} {B : Nat} (hB : Below B W wr) (hBs : B ≤ wr.heap.size) (h : wr.ownsRow B 142 3 v k (standCells (standsUpto t r k)))
    (ho : w'.ownsRow B 142 3 v' (k + 1) (standCells (standsUpto t r k) ++ [.int .i64 (cur t k), .int .i64 (fromOf t r k), .int .i64 (toOf t r k)])) (hg : wr.grownBy w' v.ownBlock) :
    w'.ownsRow B 142 3 v' (k + 1) (standCells (standsUpto t r (k + 1))) ∧ Below B W w' :=
  ⟨by simp only [standsUpto, standCells_app]; exact ho, hB.grown hg hBs (fun j hj => (h.lt j hj).1)⟩

set_option maxRecDepth 20000 in
set_option maxHeartbeats 4000000 in
theorem stands_any (t : TrainD) (r : RowD) (la : Option Addr) (lc : Nat) (sa : Option Addr) (sc : Nat) (w : World) (hR : RightT t) (hpos : 0 < t.nl) (hs : ∀ k, k < t.nl → 0 ≤ r.s k ∧ r.s k ≤ 1000000) (hsc : t.nl ≤ sc)
    (hL : IsLegs 0 w.heap.size w la t.nl t.leg) (hI : IsInts 0 w.heap.size w sa t.nl r.s) :
    Calls Tryz.prog 82 #[.agg #[.int .i64 t.frm, .int .i64 t.ready, .int .i64 t.due, .int .i64 t.weight, .slice la t.nl lc], .slice sa t.nl sc] w fun e w' => (∃ v, e = .returned v ∧ w'.ownsRow w.heap.size 142 3 v (t.nl + 1) (standCells (standsUpto t r (t.nl + 1)))) ∧ Below w.heap.size w w' := by
  obtain ⟨i0, hi, hz0, hz1, hz2⟩ := info_parts Tryz.infoStand
  have hnl := hR.nl
  have hA1 := b1 w (.cells #[.int .i64 t.frm, .int .i64 t.ready, .int .i64 t.due, .int .i64 t.weight, .slice la t.nl lc] 71)
  have hTb := Go.heap_alloc_new w (.cells #[.int .i64 t.frm, .int .i64 t.ready, .int .i64 t.due, .int .i64 t.weight, .slice la t.nl lc] 71)
  go_enter Tryz.func82, Tryz.ntmps82
  go_wp2
  refine nameW fun W hW => ?_
  rw [← hW] at hA1 hTb
  have e0 := cell_of_row W w.heap.size 0 _ _ _ hTb
  have e1 := cell_of_row W w.heap.size 1 _ _ _ hTb
  have e2 := cell_of_row W w.heap.size 2 _ _ _ hTb
  have e3 := cell_of_row W w.heap.size 3 _ _ _ hTb
  have e4 := cell_of_row W w.heap.size 4 _ _ _ hTb
  simp at e0 e1 e2 e3 e4
  clear hW hTb
  go_loopw [5, 6, 13] (fun v fr kk wr => ∃ (k : Nat), k ≤ t.nl ∧ kk = .int .i64 k ∧ fr = .int .i64 (fromOf t r k) ∧ wr.ownsRow W.heap.size 142 3 v k (standCells (standsUpto t r k)) ∧ Below W.heap.size W wr) (fun _ _ kk _ => t.nl - (intOf kk).toNat)
  case atStart => exact ⟨0, Nat.zero_le _, rfl, rfl, World.ownsRow_nil _ _ _ _, Below.refl _ _⟩
  case round =>
    obtain ⟨k, hk, rfl, rfl, hown, hB⟩ := hrel
    have hAw := Below.join hA1 (Nat.le_refl _) hB
    have d0 := cellLater hB e0
    have d1 := cellLater hB e1
    have d2 := cellLater hB e2
    have d3 := cellLater hB e3
    have d4 := cellLater hB e4
    have hL1 := hL.grow hAw
    have hszW := hB.size
    by_cases hlt : k < t.nl
    · have hk' : (k : Int) < (t.nl : Int) := by omega
      have hk0 : (0 : Int) ≤ (k : Int) := by omega
      have hkc : (k : Int) + 1 ≤ (sc : Int) := by omega
      have hn1 : (0 : Int) ≤ (k : Int) + 1 := by omega
      have hn2 : ((k : Int) + 1).toNat = k + 1 := by omega
      have hw1 : IntKind.i64.wrap ((k : Int) + 1) = (k : Int) + 1 := by rw [IntKind.wrap_i64]; omega
      have hn3 : ¬ ((k : Int) + 1 < 0) := by omega
      have hn4 : ¬ ((sc : Int) < (k : Int) + 1) := by omega
      have hto : toOf t r k = r.s k := by unfold toOf; rw [if_pos hlt]
      obtain ⟨bi, oi, rfl, _, hbi, q0⟩ := hI k hlt
      have hin1 : IsInts 0 w.heap.size w (some ⟨bi, oi, none⟩) (k + 1) r.s := fun j hj => hI j (by omega)
      have q1 := cellLater hAw q0
      have hcu := ahead_any t k la lc wr hk hnl hL1
      have hfr : fromOf t r (k + 1) = r.s k + (t.leg k).run := rfl
      rw [← hto] at q1
      have hto' : Hid _ := hto
      clear hto
      generalize hcv : cur t k = cv at hcu
      generalize htv : toOf t r k = tv at q1 hto'
      generalize hfv : fromOf t r k = fv at *
      have hcv' : Hid _ := hcv
      have htv' : Hid _ := htv
      have hfv' : Hid _ := hfv
      clear hcv htv hfv
      go_wp2_with (first | (go_at_call 83; refine hcu.mono ?_; rintro _ w3 ⟨rfl, hB3⟩; replace d0 := cellLater hB3 d0; replace d1 := cellLater hB3 d1; replace d2 := cellLater hB3 d2; replace d3 := cellLater hB3 d3; replace d4 := cellLater hB3 d4; clear hcu) | (at_builtin; refine wpList_append_own _ rfl _ _ 139 rfl W.heap.size 142 i0 _ 3 24 Tryz.underlying139 hi hz0 hz1 hz2 rfl (by decide) _ _ _ rfl ((ownsRow_later hown hB3).alloc _) ⟨w3.heap.size, 0, none⟩ 1 1 [.int .i64 cv, .int .i64 fv, .int .i64 tv] rfl rfl cells3_lie one3 (by unfold maxLen; omega) (by omega) (by have h2 := hB3.size; simp only [World.size_alloc]; omega) ?_))
      intro v' w6 hown' hgrow _
      have hR2 := stands_step (t := t) (r := r) (Below.join (Below.join hB (Nat.le_refl _) hB3) (Nat.le_refl _) (b1 w3 (.cells #[.int .i64 cv, .int .i64 fv, .int .i64 tv] 142))) (by have h2 := hB3.size; simp only [World.size_alloc]; omega) ((ownsRow_later hown hB3).alloc _) (by rw [hcv'.out, htv'.out, hfv'.out]; exact hown') hgrow
      obtain ⟨hown2, hB6⟩ := hR2
      have hAw6 := Below.join hA1 (Nat.le_refl _) hB6
      clear hown' hgrow hown d0 d1 d2 d3 d4 q1
      have d0 := cellLater hB6 e0
      have d1 := cellLater hB6 e1
      have d2 := cellLater hB6 e2
      have d3 := cellLater hB6 e3
      have d4 := cellLater hB6 e4
      have hEn := end_any t k la lc r.s (some ⟨bi, oi, none⟩) sc w6.drew hlt hR (hs k hlt).1 (hs k hlt).2 (hL.grow hAw6.drew) (hin1.grow hAw6.drew)
      go_wp2
      go_region_held3 (fun w' => w'.cell? ⟨w.heap.size, 0, none⟩ = some (.int .i64 t.frm) ∧ w'.cell? ⟨w.heap.size, 1, none⟩ = some (.int .i64 t.ready) ∧ w'.cell? ⟨w.heap.size, 2, none⟩ = some (.int .i64 t.due) ∧ w'.cell? ⟨w.heap.size, 3, none⟩ = some (.int .i64 t.weight) ∧ w'.cell? ⟨w.heap.size, 4, none⟩ = some (.slice la t.nl lc)) (first | go_keep | (go_split_ands; refine ⟨?_, ?_, ?_, ?_, ?_⟩ <;> exact cellLater hB7 (by assumption))) ((first | (go_at_call 39; refine hEn.mono ?_; rintro _ w7 ⟨rfl, hB7⟩)))
      go_wp2
      go_roundw
      case rel => exact ⟨k + 1, by omega, by go_num, by rw [hfr], ownsRow_later hown2 (Below.join (Below.refl _ _).drew (Nat.le_refl _) hB7), Below.join hB6.drew (Nat.le_refl _) hB7⟩
      case measure => simp [intOf]; omega
    · obtain rfl : k = t.nl := by omega
      have hto : toOf t r t.nl = fromOf t r t.nl := by unfold toOf; rw [if_neg (by omega)]
      have hcu := ahead_any t t.nl la lc wr (Nat.le_refl _) hnl hL1
      generalize hcv : cur t t.nl = cv at hcu
      generalize hfv : fromOf t r t.nl = fv at *
      have hcv' : Hid _ := hcv
      have hfv' : Hid _ := hfv
      have hto' : Hid _ := hto
      clear hcv hfv hto
      go_wp2_with (first | (go_at_call 83; refine hcu.mono ?_; rintro _ w3 ⟨rfl, hB3⟩; replace d0 := cellLater hB3 d0; clear hcu) | (at_builtin; refine wpList_append_own _ rfl _ _ 139 rfl W.heap.size 142 i0 _ 3 24 Tryz.underlying139 hi hz0 hz1 hz2 rfl (by decide) _ _ _ rfl ((ownsRow_later hown hB3).alloc _) ⟨w3.heap.size, 0, none⟩ 1 1 [.int .i64 cv, .int .i64 fv, .int .i64 fv] rfl rfl cells3_lie one3 (by unfold maxLen; omega) (by omega) (by have h2 := hB3.size; simp only [World.size_alloc]; omega) ?_))
      intro v' w6 hown' hgrow _
      have hR2 := stands_step (t := t) (r := r) (Below.join (Below.join hB (Nat.le_refl _) hB3) (Nat.le_refl _) (b1 w3 (.cells #[.int .i64 cv, .int .i64 fv, .int .i64 fv] 142))) (by have h2 := hB3.size; simp only [World.size_alloc]; omega) ((ownsRow_later hown hB3).alloc _) (by rw [hcv'.out, hto'.out, hfv'.out]; exact hown') hgrow
      obtain ⟨hown2, hB6⟩ := hR2
      go_wp2
      go_ret
      exact ⟨⟨_, rfl, Joins.ownsRow_le hown2 hA1.size⟩, Below.join hA1 (Nat.le_refl _) hB6⟩

theorem stand_cells {W : World} {b0 g cap : Nat} {t : TrainD} {r : RowD} {n : Nat} (h : W.ownsRow b0 142 3 (.slice (some ⟨g, 0, none⟩) n cap) n (standCells (standsUpto t r n))) {k : Nat} (hk : k < n) :
    W.cell? ⟨g, k * 3, none⟩ = some (.int .i64 (cur t k)) ∧ W.cell? ⟨g, k * 3 + 1, none⟩ = some (.int .i64 (fromOf t r k)) ∧ W.cell? ⟨g, k * 3 + 2, none⟩ = some (.int .i64 (toOf t r k)) := by
  obtain ⟨h0, h1, h2⟩ := standCells_at _ k _ (standsUpto_at t r n k hk)
  exact ⟨(h.cellAt _ (by omega)).trans h0, (h.cellAt _ (by omega)).trans h1, (h.cellAt _ (by omega)).trans h2⟩
end Go.Proofs.YtnjaegeapcijpaaGreatDoor

namespace Go.Proofs.YtnjaegeapcijpaaGreatDoor
open Go.RowKit

set_option maxRecDepth 20000 in
set_option maxHeartbeats 8000000 in
theorem course_any (t : TrainD) (r : RowD) (la : Option Addr) (lc : Nat) (sa : Option Addr) (sc : Nat) (w : World) (hR : RightT t) (hS : SmallS t r) (hs : ∀ k, k < t.nl → 0 ≤ r.s k ∧ r.s k ≤ 1000000) (hsc : t.nl ≤ sc)
    (hL : IsLegs 0 w.heap.size w la t.nl t.leg) (hI : IsInts 0 w.heap.size w sa t.nl r.s) (hTn : TenIs w) :
    Calls Tryz.prog 51 #[.agg #[.int .i64 t.frm, .int .i64 t.ready, .int .i64 t.due, .int .i64 t.weight, .slice la t.nl lc], .slice sa t.nl sc] w fun e w' => e = .returned (.string (ba (courseT t r))) ∧ Below w.heap.size w w' := by
  have hnl := hS.nl
  have hpos := hS.pos
  have hA1 := b1 w (.cells #[.int .i64 t.frm, .int .i64 t.ready, .int .i64 t.due, .int .i64 t.weight, .slice la t.nl lc] 71)
  have hst := stands_any t r la lc sa sc _ hR hpos hs hsc (hL.grow hA1) (hI.grow hA1)
  have hTb := Go.heap_alloc_new w (.cells #[.int .i64 t.frm, .int .i64 t.ready, .int .i64 t.due, .int .i64 t.weight, .slice la t.nl lc] 71)
  have z0 := cell_of_row _ w.heap.size 0 _ _ _ hTb
  have z1 := cell_of_row _ w.heap.size 1 _ _ _ hTb
  have z2 := cell_of_row _ w.heap.size 2 _ _ _ hTb
  have z3 := cell_of_row _ w.heap.size 3 _ _ _ hTb
  have z4 := cell_of_row _ w.heap.size 4 _ _ _ hTb
  simp only [List.getElem?_toArray, List.getElem?_cons_zero, List.getElem?_cons_succ] at z0 z1 z2 z3 z4
  clear hTb
  go_enter Tryz.func51, Tryz.ntmps51
  go_wp2_with (go_at_call 82; refine hst.mono ?_; rintro _ w2 ⟨⟨v, rfl, hown⟩, hB2⟩; obtain ⟨gS, cS, rfl⟩ := Joins.ownsRow_form hown (by omega); have hBw := Below.join hA1 (Nat.le_refl _) hB2; replace z0 := cellLater hB2 z0; replace z1 := cellLater hB2 z1; replace z2 := cellLater hB2 z2; replace z3 := cellLater hB2 z3; replace z4 := cellLater hB2 z4)
  clear hst hB2 hA1
  go_loopw [5, 13] (fun oo kk wr => ∃ (k : Nat), k ≤ t.nl + 1 ∧ kk = .int .i64 k ∧ oo = .string (ba (standsT t r [] k)) ∧ Below w2.heap.size w2 wr) (fun _ kk _ => t.nl + 1 - (intOf kk).toNat)
  case atStart => exact ⟨0, Nat.zero_le _, rfl, rfl, Below.refl _ _⟩
  case round =>
    obtain ⟨k, hk, rfl, rfl, hB⟩ := hrel
    obtain ⟨so, hso⟩ : ∃ so, so = ba (standsT t r [] k) := ⟨_, rfl⟩
    rw [← hso]
    have hso' : Hid _ := hso
    clear hso
    have hlk := standsT_len (b := []) hS k hk
    simp only [List.length_nil] at hlk
    by_cases hlt : k < t.nl + 1
    · have hk' : (k : Int) < ((t.nl + 1 : Nat) : Int) := by omega
      have hk0 : (0 : Int) ≤ (k : Int) := by omega
      obtain ⟨n00, n01⟩ := hS.st k (by omega)
      obtain ⟨n10, n11⟩ := hS.too k (by omega)
      obtain ⟨g0, g1, g2⟩ := stand_cells (ownsRow_later hown hB) hlt
      have hT2 := (hTn.later hBw).later hB
      have hsn : Hid (standsT t r [] (k + 1) = standsT t r [] k ++ standT (cur t k) (toOf t r k)) := rfl
      generalize cur t k = cv at n00 n01 g0 hsn
      generalize toOf t r k = tv at n10 n11 g2 hsn
      generalize fromOf t r k = fv at g1
      have hi0 := itoa_len n00 n01
      have hi1 := itoa_len n10 n11
      obtain ⟨r1, e1, f1⟩ := cat ⟨#[32]⟩ (ba (Lib.itoa cv)) [32] _ rfl rfl (by simp; omega)
      obtain ⟨r2, e2, f2⟩ := cat r1 ⟨#[64]⟩ _ [64] f1.out rfl (by simp; omega)
      obtain ⟨r3, e3, f3⟩ := cat r2 (ba (Lib.itoa tv)) _ _ f2.out rfl (by simp; omega)
      obtain ⟨r4, e4, f4⟩ := cat so r3 _ _ hso'.out f3.out (by simp; omega)
      have hr4 : Hid (r4 = ba (standsT t r [] k ++ standT cv tv)) := f4
      clear f1 f2 f3 f4 hi0 hi1
      have hA1 := b1 wr (.cells #[.int .i64 cv, .int .i64 fv, .int .i64 tv] 142)
      have hTb := Go.heap_alloc_new wr (.cells #[.int .i64 cv, .int .i64 fv, .int .i64 tv] 142)
      go_wp2
      refine nameV fun V hV => ?_
      rw [← hV] at hA1 hTb
      clear hV g0 g1 g2
      have c0 := cell_of_row V wr.heap.size 0 _ _ _ hTb
      have c2 := cell_of_row V wr.heap.size 2 _ _ _ hTb
      simp at c0 c2
      have hVV : Below V.heap.size V V.drew := (Below.refl _ _).drew
      replace hT2 := (hT2.later hA1).later hVV
      clear hTb
      go_region_held3 (fun w' => w'.cell? ⟨wr.heap.size, 0, none⟩ = some (.int .i64 cv) ∧ w'.cell? ⟨wr.heap.size, 2, none⟩ = some (.int .i64 tv)) (first | go_keep | (go_split_ands; refine ⟨?_, ?_⟩ <;> exact cellLater hB6 (by assumption))) ((go_at_call 72; refine (itoaI_any _ _ (by assumption) (by assumption) hT2).mono ?_; rintro _ w6 ⟨rfl, hB6⟩; replace hT2 := hT2.later hB6; replace hVV := Below.join hVV (Nat.le_refl _) hB6))
      go_wp2
      go_roundw
      case rel => exact ⟨k + 1, by omega, by go_num, by rw [hr4.out, hsn.out], Below.join (Below.join hB (Nat.le_refl _) hA1) (Nat.le_refl _) hVV⟩
      case measure => simp [intOf]; omega
    · obtain rfl : k = t.nl + 1 := by omega
      have hBe := Below.join hBw (Nat.le_refl _) hB
      have d0 := cellLater hB z0
      have d1 := cellLater hB z1
      have d2 := cellLater hB z2
      have d3 := cellLater hB z3
      have d4 := cellLater hB z4
      have hT2 := hTn.later hBe
      have hfr : fromOf t r t.nl = r.s (t.nl - 1) + (t.leg (t.nl - 1)).run := by
        obtain ⟨e, he⟩ : ∃ e, t.nl = e + 1 := ⟨t.nl - 1, by omega⟩
        rw [he]; rfl
      have hEn : Calls Tryz.prog 39 #[.agg #[.int .i64 t.frm, .int .i64 t.ready, .int .i64 t.due, .int .i64 t.weight, .slice la t.nl lc], .slice sa t.nl sc] wr.drew fun x w' => x = .returned (.int .i64 (fromOf t r t.nl)) ∧ Below wr.drew.heap.size wr.drew w' := by
        have hs1 := hs (t.nl - 1) (by omega)
        have hin1 : IsInts 0 wr.drew.heap.size wr.drew sa (t.nl - 1 + 1) r.s := fun j hj => (hI.grow hBe.drew) j (by omega)
        have h := end_any t (t.nl - 1) la lc r.s sa sc wr.drew (by omega) hR hs1.1 hs1.2 (hL.grow hBe.drew) hin1
        rw [Nat.sub_add_cancel hpos] at h
        rw [hfr]
        exact h
      obtain ⟨e0, e1⟩ := hS.too t.nl (Nat.le_refl _)
      rw [toOf_end] at e0 e1
      have hct : Hid (courseT t r = standsT t r [] (t.nl + 1) ++ lateT t (fromOf t r t.nl)) := rfl
      have hdu0 := hS.d0
      have hdu1 := hS.d1
      clear hfr
      generalize fromOf t r t.nl = ev at hEn e0 e1 hct
      have hBd : Below wr.heap.size wr wr.drew := (Below.refl _ _).drew
      clear hB
      by_cases hlate : t.due < ev
      · have hlt' : Hid (lateT t ev = [32, 108, 97, 116, 101, 32] ++ Lib.itoa (ev - t.due)) := by unfold Hid lateT; rw [if_pos hlate]
        have n0 : 0 ≤ ev - t.due := by omega
        have n1 : ev - t.due ≤ 99999999 := by omega
        have hpp : 0 < ev - t.due := by omega
        have hi0 := itoa_len n0 n1
        obtain ⟨r1, e1', f1⟩ := cat ⟨#[32, 108, 97, 116, 101, 32]⟩ (ba (Lib.itoa (ev - t.due))) [32, 108, 97, 116, 101, 32] _ rfl rfl (by simp; omega)
        obtain ⟨r2, e2', f2⟩ := cat so r1 _ _ hso'.out f1.out (by simp; omega)
        have hr2 : Hid (r2 = ba (courseT t r)) := by unfold Hid; rw [f2.out, hct.out, hlt'.out]
        clear f1 f2 hi0
        have hws : IntKind.i64.wrap (ev - t.due) = ev - t.due := by rw [IntKind.wrap_i64]; omega
        go_wp2
        go_region_held3 (fun w' => w'.cell? ⟨w.heap.size, 0, none⟩ = some (.int .i64 t.frm) ∧ w'.cell? ⟨w.heap.size, 1, none⟩ = some (.int .i64 t.ready) ∧ w'.cell? ⟨w.heap.size, 2, none⟩ = some (.int .i64 t.due) ∧ w'.cell? ⟨w.heap.size, 3, none⟩ = some (.int .i64 t.weight) ∧ w'.cell? ⟨w.heap.size, 4, none⟩ = some (.slice la t.nl lc)) (first | go_keep | (go_split_ands; refine ⟨?_, ?_, ?_, ?_, ?_⟩ <;> exact cellLater hB6 (by assumption))) ((go_at_call 39; refine hEn.mono ?_; rintro _ w6 ⟨rfl, hB6⟩))
        have hB7 := Below.join hBd (Nat.le_refl _) hB6
        have hdec := itoaI_any (ev - t.due) w6 n0 n1 (hT2.later hB7)
        go_wp2_with (go_at_call 72; refine hdec.mono ?_; rintro _ w8 ⟨rfl, hB8⟩)
        go_ret
        exact ⟨by rw [← hr2.out]; rfl, Below.join (Below.join hBe (Nat.le_refl _) hB7) (Nat.le_refl _) hB8⟩
      · have hlt' : Hid (lateT t ev = []) := by unfold Hid lateT; rw [if_neg hlate]
        have hpp : ¬ (0 < ev - t.due) := by omega
        have hws : IntKind.i64.wrap (ev - t.due) = ev - t.due := by rw [IntKind.wrap_i64]; omega
        go_wp2
        go_region_held3 (fun w' => w'.cell? ⟨w.heap.size, 0, none⟩ = some (.int .i64 t.frm) ∧ w'.cell? ⟨w.heap.size, 1, none⟩ = some (.int .i64 t.ready) ∧ w'.cell? ⟨w.heap.size, 2, none⟩ = some (.int .i64 t.due) ∧ w'.cell? ⟨w.heap.size, 3, none⟩ = some (.int .i64 t.weight) ∧ w'.cell? ⟨w.heap.size, 4, none⟩ = some (.slice la t.nl lc)) (first | go_keep | (go_split_ands; refine ⟨?_, ?_, ?_, ?_, ?_⟩ <;> exact cellLater hB6 (by assumption))) ((go_at_call 39; refine hEn.mono ?_; rintro _ w6 ⟨rfl, hB6⟩))
        have hB7 := Below.join hBd (Nat.le_refl _) hB6
        go_wp2
        go_ret
        exact ⟨by rw [hct.out, hlt'.out, List.append_nil, ← hso'.out]; rfl, Below.join hBe (Nat.le_refl _) hB7⟩
end Go.Proofs.YtnjaegeapcijpaaGreatDoor

namespace Go.Proofs.YtnjaegeapcijpaaGreatDoor
open Go.RowKit

def soonC (f : Nat → TrainD) (P : Nat → RowD) (i k : Nat) : Int × Int × Int × Int := if (P i).s k < readyOf f P i k then (2, (i : Int), (k : Int), 0) else (0, 0, 0, 0)
def takenC (gap : Int) (np : Nat) (f : Nat → TrainD) (P : Nat → RowD) (i k : Nat) : Int × Int × Int × Int :=
  match (listT gap np f P (trackOf (f i) k)).find? (hitB i ((P i).s k)) with
  | some h => (3, (i : Int), (k : Int), (h.tr : Int))
  | none => (0, 0, 0, 0)
def fullC (g : Nat → Int) (np : Nat) (f : Nat → TrainD) (P : Nat → RowD) (i k : Nat) : Int × Int × Int × Int :=
  if g ((f i).leg k).to.toNat < ((listS np f P ((f i).leg k).to).countP (metB i ((P i).s k)) : Int) then (4, (i : Int), (k : Int), 0) else (0, 0, 0, 0)
def clashV (v : Int × Int × Int × Int) : Value := .agg #[.int .i64 v.1, .int .i64 v.2.1, .int .i64 v.2.2.1, .int .i64 v.2.2.2]
theorem readyR_eq (f : Nat → TrainD) (P : Nat → RowD) (i k : Nat) : readyR (f i) (P i).s k = readyOf f P i k := by cases k <;> rfl

/-- what a look knows of its own two blocks: the holders' box, the answer's four places -/
structure LookBox (w W : World) (a : Option Addr) (len cap : Nat) (a' : Option Addr) (np cap' : Nat) (c : Option Addr) (nc bT bS : Nat) : Prop where
  h0 : W.cell? ⟨w.heap.size, 0, none⟩ = some (.slice a' np cap')
  h1 : W.cell? ⟨w.heap.size, 1, none⟩ = some (.slice c np nc)
  h2 : W.cell? ⟨w.heap.size, 2, none⟩ = some (.slice a len cap)
  h3 : W.cell? ⟨w.heap.size, 3, none⟩ = some (.map (some bT))
  h4 : W.cell? ⟨w.heap.size, 4, none⟩ = some (.map (some bS))
  r0 : W.cell? ⟨w.heap.size + 1, 0, none⟩ = some (.int .i64 0)
  r1 : W.cell? ⟨w.heap.size + 1, 1, none⟩ = some (.int .i64 0)
  r2 : W.cell? ⟨w.heap.size + 1, 2, none⟩ = some (.int .i64 0)
  r3 : W.cell? ⟨w.heap.size + 1, 3, none⟩ = some (.int .i64 0)
  z0 : W.frozen? ⟨w.heap.size + 1, 0, none⟩ = false
  z1 : W.frozen? ⟨w.heap.size + 1, 1, none⟩ = false
  z2 : W.frozen? ⟨w.heap.size + 1, 2, none⟩ = false
  z3 : W.frozen? ⟨w.heap.size + 1, 3, none⟩ = false
theorem LookBox.later {w W W' : World} {a : Option Addr} {len cap : Nat} {a' : Option Addr} {np cap' : Nat} {c : Option Addr} {nc bT bS : Nat} (h : LookBox w W a len cap a' np cap' c nc bT bS) (hb : Below W.heap.size W W') : LookBox w W' a len cap a' np cap' c nc bT bS :=
  ⟨cellLater hb h.h0, cellLater hb h.h1, cellLater hb h.h2, cellLater hb h.h3, cellLater hb h.h4, cellLater hb h.r0, cellLater hb h.r1, cellLater hb h.r2, cellLater hb h.r3, frozenLater hb h.r0 h.z0, frozenLater hb h.r1 h.z1, frozenLater hb h.r2 h.z2, frozenLater hb h.r3 h.z3⟩
theorem LookBox.new (w : World) (a : Option Addr) (len cap : Nat) (a' : Option Addr) (np cap' : Nat) (c : Option Addr) (nc bT bS : Nat) (t t' : TypeId) :
    LookBox w ((w.alloc (.cells #[.slice a' np cap', .slice c np nc, .slice a len cap, .map (some bT), .map (some bS)] t)).alloc (.cells #[.int .i64 0, .int .i64 0, .int .i64 0, .int .i64 0] t')) a len cap a' np cap' c nc bT bS := by
  obtain ⟨⟨y0, y1, y2, y3, y4⟩, _⟩ := box5 (Go.heap_alloc_new w (.cells #[.slice a' np cap', .slice c np nc, .slice a len cap, .map (some bT), .map (some bS)] t))
  refine ⟨cellLater (b1 _ _) y0, cellLater (b1 _ _) y1, cellLater (b1 _ _) y2, cellLater (b1 _ _) y3, cellLater (b1 _ _) y4, ?_, ?_, ?_, ?_, ?_, ?_, ?_, ?_⟩
  · rw [World.cell?_alloc_at _ _ _ _ (by simp)]; rfl
  · rw [World.cell?_alloc_at _ _ _ _ (by simp)]; rfl
  · rw [World.cell?_alloc_at _ _ _ _ (by simp)]; rfl
  · rw [World.cell?_alloc_at _ _ _ _ (by simp)]; rfl
  · rw [World.frozen?_alloc_at _ _ _ _ (by simp)]
  · rw [World.frozen?_alloc_at _ _ _ _ (by simp)]
  · rw [World.frozen?_alloc_at _ _ _ _ (by simp)]
  · rw [World.frozen?_alloc_at _ _ _ _ (by simp)]

set_option maxRecDepth 20000 in
set_option maxHeartbeats 4000000 in
theorem tooSoon_any (a : Option Addr) (len cap : Nat) (a' : Option Addr) (np cap' : Nat) (f : Nat → TrainD) (c : Option Addr) (nc bT bS : Nat) (P : Nat → RowD) (i k : Nat) (w : World)
    (hR : RightL len np f) (hQ : RightP np f np P) (hi : i < np) (hk : k < (f i).nl) (hT : IsTrains 0 w.heap.size w a' np f) (hP : IsRows 0 w.heap.size w c np P) (hC : Caps w c np) :
    Calls Tryz.prog 26 #[.agg #[.slice a' np cap', .slice c np nc, .slice a len cap, .map (some bT), .map (some bS)], .int .i64 i, .int .i64 k] w fun e w' => e = .returned (clashV (soonC f P i k)) ∧ Below w.heap.size w w' := by
  have hX := LookBox.new w a len cap a' np cap' c nc bT bS 61 33
  have hN := b2 w (.cells #[.slice a' np cap', .slice c np nc, .slice a len cap, .map (some bT), .map (some bS)] 61) (.cells #[.int .i64 0, .int .i64 0, .int .i64 0, .int .i64 0] 33)
  have htr := hR.tr
  have hRi := hR.train i hi
  have hnl := hRi.nl
  have hi' : (i : Int) < (np : Int) := by omega
  have hi0 : (0 : Int) ≤ (i : Int) := by omega
  have hk' : (k : Int) < ((f i).nl : Int) := by omega
  have hk0 : (0 : Int) ≤ (k : Int) := by omega
  obtain ⟨b, off, la, lc, rfl, _, hb, t0, t1, t2, t3, t4, hlg, _⟩ := hT i hi
  obtain ⟨bp, op, lp, lpc, rfl, _, hbp, p0, hin, _⟩ := hP i hi
  rw [hQ.row i hi] at p0 hin
  have hcap := hC.at hi p0
  have hkc : (k : Int) ≤ (lpc : Int) := by omega
  obtain ⟨bi, oi, rfl, _, hbi, q0⟩ := hin k hk
  have hin1 : IsInts 0 w.heap.size w (some ⟨bi, oi, none⟩) k (P i).s := fun j hj => hin j (by omega)
  replace t0 := cellLater hN t0
  replace t1 := cellLater hN t1
  replace t2 := cellLater hN t2
  replace t3 := cellLater hN t3
  replace t4 := cellLater hN t4
  replace p0 := cellLater hN p0
  replace q0 := cellLater hN q0
  replace hlg := hlg.grow hN.drew
  replace hin1 := hin1.grow hN.drew
  have y0 := hX.h0
  have y1 := hX.h1
  go_enter Tryz.func26, Tryz.ntmps26
  go_wp2
  refine nameW fun W hW => ?_
  rw [← hW] at hX hN t0 t1 t2 t3 t4 p0 q0 hlg hin1 y0 y1
  clear hW
  go_region_held3 (fun w' => w'.cell? ⟨w.heap.size, 0, none⟩ = some (.slice (some ⟨b, off, none⟩) np cap') ∧ w'.cell? ⟨b, off + i * 5, none⟩ = some (.int .i64 (f i).frm) ∧ w'.cell? ⟨b, off + i * 5 + 1, none⟩ = some (.int .i64 (f i).ready) ∧ w'.cell? ⟨b, off + i * 5 + 2, none⟩ = some (.int .i64 (f i).due) ∧ w'.cell? ⟨b, off + i * 5 + 3, none⟩ = some (.int .i64 (f i).weight) ∧ w'.cell? ⟨b, off + i * 5 + 4, none⟩ = some (.slice la (f i).nl lc) ∧ w'.cell? ⟨bi, oi + k, none⟩ = some (.int .i64 ((P i).s k))) (first | go_keep | (go_split_ands; refine ⟨?_, ?_, ?_, ?_, ?_, ?_, ?_⟩ <;> exact cellLater hB3 (by assumption))) ((first | (go_at_call 60; refine (soonest_any (f i) (P i).s k _ _ _ _ _ hk hRi (fun j hj => hQ.at0 i hi j (by omega)) hlg hin1).mono ?_; rintro e w3 ⟨rfl, hB3⟩)))
  replace hX := hX.later (Below.join (Below.refl _ _).drew (Nat.le_refl _) hB3)
  replace hN := Below.join hN.drew (Nat.le_refl _) hB3
  have r0 := hX.r0
  have r1 := hX.r1
  have r2 := hX.r2
  have r3 := hX.r3
  have z0 := hX.z0
  have z1 := hX.z1
  have z2 := hX.z2
  have z3 := hX.z3
  by_cases hbad : (P i).s k < readyR (f i) (P i).s k
  · have e1 : soonC f P i k = (2, (i : Int), (k : Int), 0) := by unfold soonC; rw [if_pos (by rw [← readyR_eq]; exact hbad)]
    go_wp2
    refine bodyPost_ret (v := .agg #[.int .i64 2, .int .i64 i, .int .i64 k, .int .i64 0]) (by simp [results, Tryz.results26, go_sem, r0, r1, r2, r3]) rfl ⟨by first | rfl | (rw [e1]; rfl), ?_⟩
    exact below_set4 hN (by omega) _ _ _ _
  · have e1 : soonC f P i k = (0, 0, 0, 0) := by unfold soonC; rw [if_neg (by rw [← readyR_eq]; exact hbad)]
    go_wp2
    refine bodyPost_ret (v := .agg #[.int .i64 0, .int .i64 0, .int .i64 0, .int .i64 0]) (by simp [results, Tryz.results26, go_sem, r0, r1, r2, r3]) rfl ⟨by first | rfl | (rw [e1]; rfl), ?_⟩
    exact below_set4 hN (by omega) _ _ _ _
end Go.Proofs.YtnjaegeapcijpaaGreatDoor

namespace Go.Proofs.YtnjaegeapcijpaaGreatDoor
open Go.RowKit

theorem find_first {p : HoldD → Bool} : ∀ {L : List HoldD} {r : Nat} {h : HoldD}, L[r]? = some h → p h = true → (∀ j x, j < r → L[j]? = some x → p x = false) → L.find? p = some h
  | [], r, h, e, _, _ => by simp at e
  | y :: L, 0, h, e, hp, _ => by
    have : y = h := by simpa using e
    subst this
    simp [hp]
  | y :: L, r + 1, h, e, hp, hall => by
    have hy := hall 0 y (by omega) (by simp)
    rw [List.find?_cons, hy]
    exact find_first (r := r) (by simpa using e) hp (fun j x hj hx => hall (j + 1) x (by omega) (by simpa using hx))
theorem find_no {p : HoldD → Bool} {L : List HoldD} (hall : ∀ j x, j < L.length → L[j]? = some x → p x = false) : L.find? p = none := by
  rw [List.find?_eq_none]
  intro x hx
  obtain ⟨j, hj, e⟩ := List.mem_iff_getElem.1 hx
  have := hall j x hj (by rw [List.getElem?_eq_getElem hj, e])
  simp [this]
theorem count_take {p : HoldD → Bool} {L : List HoldD} {r : Nat} {h : HoldD} (e : L[r]? = some h) : (L.take (r + 1)).countP p = (L.take r).countP p + if p h = true then 1 else 0 := by
  rw [List.take_add_one, e, List.countP_append]
  simp [List.countP_cons]

set_option maxRecDepth 20000 in
set_option maxHeartbeats 8000000 in
theorem trackTaken_any (a : Option Addr) (len cap : Nat) (g : Nat → Int) (gap : Int) (a' : Option Addr) (np cap' : Nat) (f : Nat → TrainD) (c : Option Addr) (nc b0 bT bS n : Nat) (mT mS : Int → Value) (LS : Int → List HoldD) (P : Nat → RowD) (i k : Nat) (w : World)
    (hR : RightL len np f) (hG : RightG len g gap np f) (hQ : RightP np f np P) (hi : i < np) (hk : k < (f i).nl) (hT : IsTrains 0 w.heap.size w a' np f) (hP : IsRows 0 w.heap.size w c np P) (hGr : Gr w b0 bT bS n mT mS (listT gap np f P) LS) :
    Calls Tryz.prog 27 #[.agg #[.slice a' np cap', .slice c np nc, .slice a len cap, .map (some bT), .map (some bS)], .int .i64 i, .int .i64 k] w fun e w' => e = .returned (clashV (takenC gap np f P i k)) ∧ Below w.heap.size w w' := by
  have hX := LookBox.new w a len cap a' np cap' c nc bT bS 61 33
  have hN := b2 w (.cells #[.slice a' np cap', .slice c np nc, .slice a len cap, .map (some bT), .map (some bS)] 61) (.cells #[.int .i64 0, .int .i64 0, .int .i64 0, .int .i64 0] 33)
  have htr := hR.tr
  have hRi := hR.train i hi
  have hnl := hRi.nl
  obtain ⟨x0, x1⟩ := trackOf_bd hR hG hi hk
  have hi' : (i : Int) < (np : Int) := by omega
  have hi0 : (0 : Int) ≤ (i : Int) := by omega
  have hk' : (k : Int) < ((f i).nl : Int) := by omega
  have hk0 : (0 : Int) ≤ (k : Int) := by omega
  obtain ⟨b, off, la, lc, rfl, _, hb, t0, t1, t2, t3, t4, hlg, _⟩ := hT i hi
  obtain ⟨bp, op, lp, lpc, rfl, _, hbp, p0, hin, _⟩ := hP i hi
  rw [hQ.row i hi] at p0 hin
  obtain ⟨bi, oi, rfl, _, hbi, q0⟩ := hin k hk
  replace t0 := cellLater hN t0
  replace t1 := cellLater hN t1
  replace t2 := cellLater hN t2
  replace t3 := cellLater hN t3
  replace t4 := cellLater hN t4
  replace p0 := cellLater hN p0
  replace q0 := cellLater hN q0
  replace hlg := hlg.grow hN.drew
  replace hGr := hGr.later hN
  have hll : (listT gap np f P (trackOf (f i) k)).length ≤ 10 := Nat.le_trans (allH_len f np) hG.legs
  have hE : takenC gap np f P i k = (match (listT gap np f P (trackOf (f i) k)).find? (hitB i ((P i).s k)) with | some h => (3, (i : Int), (k : Int), (h.tr : Int)) | none => (0, 0, 0, 0)) := rfl
  generalize takenC gap np f P i k = vv at hE ⊢
  go_enter Tryz.func27, Tryz.ntmps27
  go_wp2
  refine nameW fun W hW => ?_
  rw [← hW] at hX hN t0 t1 t2 t3 t4 p0 q0 hlg hGr
  clear hW
  obtain ⟨ha, hc, hv, hcs⟩ := isHolds_of (hGr.oT (trackOf (f i) k))
  have hlk : ∀ V : World, Below W.heap.size W V → (Instr.lookup 59 (.map (some bT)) (.int .i64 (trackOf (f i) k)) false).run Tryz.prog V = .ok (.slice ha (listT gap np f P (trackOf (f i) k)).length hc) V := fun V hV => by
    have := (hGr.kT.later hV).lookup Tryz.underlying3 Tryz.underlying59 (Tryz.zeroHolds _) (wf_small x0 x1)
    rw [hv] at this
    exact this
  generalize listT gap np f P (trackOf (f i) k) = L at hE hcs hlk hll
  clear hv
  have hS0 := And.intro (b := W.drew.cell? ⟨w.heap.size, 3, none⟩ = some (.map (some bT)) ∧ W.drew.cell? ⟨b, off + i * 5, none⟩ = some (.int .i64 (f i).frm) ∧ W.drew.cell? ⟨b, off + i * 5 + 1, none⟩ = some (.int .i64 (f i).ready) ∧ W.drew.cell? ⟨b, off + i * 5 + 2, none⟩ = some (.int .i64 (f i).due) ∧ W.drew.cell? ⟨b, off + i * 5 + 3, none⟩ = some (.int .i64 (f i).weight) ∧ W.drew.cell? ⟨b, off + i * 5 + 4, none⟩ = some (.slice la (f i).nl lc) ∧ (Instr.lookup 59 (.map (some bT)) (.int .i64 (trackOf (f i) k)) false).run Tryz.prog W.drew = .ok (.slice ha L.length hc) W.drew) (show W.drew.cell? ⟨w.heap.size, 0, none⟩ = some (.slice (some ⟨b, off, none⟩) np cap') from hX.h0) ⟨hX.h3, t0, t1, t2, t3, t4, hlk _ (Below.refl _ _).drew⟩
  go_region_held3 (fun w' => w'.cell? ⟨w.heap.size, 0, none⟩ = some (.slice (some ⟨b, off, none⟩) np cap') ∧ w'.cell? ⟨w.heap.size, 3, none⟩ = some (.map (some bT)) ∧ w'.cell? ⟨b, off + i * 5, none⟩ = some (.int .i64 (f i).frm) ∧ w'.cell? ⟨b, off + i * 5 + 1, none⟩ = some (.int .i64 (f i).ready) ∧ w'.cell? ⟨b, off + i * 5 + 2, none⟩ = some (.int .i64 (f i).due) ∧ w'.cell? ⟨b, off + i * 5 + 3, none⟩ = some (.int .i64 (f i).weight) ∧ w'.cell? ⟨b, off + i * 5 + 4, none⟩ = some (.slice la (f i).nl lc) ∧ (Instr.lookup 59 (.map (some bT)) (.int .i64 (trackOf (f i) k)) false).run Tryz.prog w' = .ok (.slice ha L.length hc) w') (first | exact hS0 | exact hS3) ((first | (go_at_call 58; refine (trackOf_any (f i) k _ _ _ hk hnl hlg).mono ?_; rintro e W3 ⟨rfl, hB3⟩; have hS3 := And.intro (cellLater hB3 hS0.1) (And.intro (cellLater hB3 hS0.2.1) (And.intro (cellLater hB3 hS0.2.2.1) (And.intro (cellLater hB3 hS0.2.2.2.1) (And.intro (cellLater hB3 hS0.2.2.2.2.1) (And.intro (cellLater hB3 hS0.2.2.2.2.2.1) (And.intro (cellLater hB3 hS0.2.2.2.2.2.2.1) (hlk _ (Below.join (Below.refl _ _).drew (Nat.le_refl _) hB3)))))))))))
  clear hlk hS0 hS3
  have hJ := Below.join (Below.refl W.heap.size W).drew (Nat.le_refl _) hB3
  replace hX := hX.later hJ
  replace hN := Below.join hN (Nat.le_refl _) hJ
  replace p0 := cellLater hJ p0
  replace q0 := cellLater hJ q0
  replace hcs : IsHolds W3 (.slice ha L.length hc) L := IsHolds.later ⟨ha, hc, rfl, hcs⟩ hJ
  clear t0 t1 t2 t3 t4 hlg hGr hB3 hJ
  go_wp2
  go_loopw [20] (fun rr wr => ∃ (r : Nat), r ≤ L.length ∧ rr = .int .i64 r ∧ (∀ j x, j < r → L[j]? = some x → hitB i ((P i).s k) x = false) ∧ Below W3.heap.size W3 wr) (fun rr _ => L.length - (intOf rr).toNat)
  case atStart => exact ⟨0, Nat.zero_le _, rfl, fun _ _ h => by omega, Below.refl _ _⟩
  case round =>
    obtain ⟨r, hr, rfl, hall, hB⟩ := hrel
    by_cases hlt : r < L.length
    · obtain ⟨h, hh⟩ : ∃ h, L[r]? = some h := ⟨L[r], List.getElem?_eq_getElem hlt⟩
      obtain ⟨_, _, e9, hcs9⟩ := hcs
      cases e9
      obtain ⟨gg, go, rfl, c0, c1, c2⟩ := hcs9 r h hh
      have hlt' : (r : Int) < (L.length : Int) := by omega
      have hr0 : (0 : Int) ≤ (r : Int) := by omega
      replace c0 := cellLater hB c0
      replace c1 := cellLater hB c1
      replace c2 := cellLater hB c2
      replace p0 := cellLater hB p0
      replace q0 := cellLater hB q0
      replace hX := hX.later hB
      have y1 := hX.h1
      have hA := b1 wr (.cells #[.int .i64 h.tr, .int .i64 h.frm, .int .i64 h.free] 77)
      obtain ⟨d0, d1, d2⟩ := new3 wr (.int .i64 h.tr) (.int .i64 h.frm) (.int .i64 h.free) 77
      replace p0 := cellLater hA p0
      replace q0 := cellLater hA q0
      replace y1 := cellLater hA y1
      replace hX := hX.later hA
      obtain ⟨ht, hf, hfr⟩ := h
      dsimp only at c0 c1 c2 d0 d1 d2 p0 q0 y1
      by_cases hne : ht = i
      · subst hne
        have hhit : hitB ht ((P ht).s k) ⟨ht, hf, hfr⟩ = false := hitB_own rfl
        have hne' : ((ht : Int) != (ht : Int)) = false := by simp
        go_wp2
        refine nameW fun V hV => ?_
        rw [← hV] at d0 d1 d2 p0 q0 y1 hA hX
        clear hV
        go_quiet (fail)
        go_wp2
        go_roundw
        case rel => exact ⟨r + 1, by omega, by go_num, fun j x hj hx => (by by_cases e : j = r; (· subst e; rw [hh] at hx; cases hx; exact hhit); (· exact hall j x (by omega) hx)), Below.join hB (Nat.le_refl _) (below_drewN hA _)⟩
        case measure => simp [intOf]; omega
      · have hhit := hitB_met (i := i) (t := (P i).s k) (h := ⟨ht, hf, hfr⟩) hne
        have hne' : ((ht : Int) != (i : Int)) = true := by simp; omega
        cases hm : metB i ((P i).s k) ⟨ht, hf, hfr⟩
        · rw [hm] at hhit
          have hmet := fun V => metBy_any ⟨ht, hf, hfr⟩ i ((P i).s k) V
          rw [hm] at hmet
          dsimp only at hmet
          clear hm
          go_wp2
          refine nameW fun V hV => ?_
          rw [← hV] at d0 d1 d2 p0 q0 y1 hA hX
          clear hV
          (go_region_held3 (fun w' => w'.cell? ⟨wr.heap.size, 0, none⟩ = some (.int .i64 ht) ∧ w'.cell? ⟨wr.heap.size, 1, none⟩ = some (.int .i64 hf) ∧ w'.cell? ⟨wr.heap.size, 2, none⟩ = some (.int .i64 hfr) ∧ w'.cell? ⟨w.heap.size, 1, none⟩ = some (.slice (some ⟨bp, op, none⟩) np nc) ∧ w'.cell? ⟨bp, op + i, none⟩ = some (.slice (some ⟨bi, oi, none⟩) (f i).nl lpc) ∧ w'.cell? ⟨bi, oi + k, none⟩ = some (.int .i64 ((P i).s k))) (first | go_keep | (go_split_ands; refine ⟨?_, ?_, ?_, ?_, ?_, ?_⟩ <;> exact cellLater hB4 (by assumption))) ((first | (go_at_call 61; refine (hmet _).mono ?_; rintro e W4 ⟨rfl, hB4⟩))))
          go_wp2
          go_roundw
          case rel => exact ⟨r + 1, by omega, by go_num, fun j x hj hx => (by by_cases e : j = r; (· subst e; rw [hh] at hx; cases hx; exact hhit); (· exact hall j x (by omega) hx)), Below.join (Below.join hB (Nat.le_refl _) hA.drew) (Nat.le_refl _) hB4⟩
          case measure => simp [intOf]; omega
        · rw [hm] at hhit
          have hmet := fun V => metBy_any ⟨ht, hf, hfr⟩ i ((P i).s k) V
          rw [hm] at hmet
          dsimp only at hmet
          clear hm
          rw [find_first hh hhit hall] at hE
          dsimp only at hE
          go_wp2
          refine nameW fun V hV => ?_
          rw [← hV] at d0 d1 d2 p0 q0 y1 hA hX
          clear hV
          (go_region_held3 (fun w' => w'.cell? ⟨wr.heap.size, 0, none⟩ = some (.int .i64 ht) ∧ w'.cell? ⟨wr.heap.size, 1, none⟩ = some (.int .i64 hf) ∧ w'.cell? ⟨wr.heap.size, 2, none⟩ = some (.int .i64 hfr) ∧ w'.cell? ⟨w.heap.size, 1, none⟩ = some (.slice (some ⟨bp, op, none⟩) np nc) ∧ w'.cell? ⟨bp, op + i, none⟩ = some (.slice (some ⟨bi, oi, none⟩) (f i).nl lpc) ∧ w'.cell? ⟨bi, oi + k, none⟩ = some (.int .i64 ((P i).s k))) (first | go_keep | (go_split_ands; refine ⟨?_, ?_, ?_, ?_, ?_, ?_⟩ <;> exact cellLater hB4 (by assumption))) ((first | (go_at_call 61; refine (hmet _).mono ?_; rintro e W4 ⟨rfl, hB4⟩))))
          have hJ4 := Below.join (Below.refl V.heap.size V).drew (Nat.le_refl _) hB4
          replace hX := hX.later hJ4
          replace d0 := cellLater hJ4 d0
          have r0 := hX.r0
          have r1 := hX.r1
          have r2 := hX.r2
          have r3 := hX.r3
          have z0 := hX.z0
          have z1 := hX.z1
          have z2 := hX.z2
          have z3 := hX.z3
          go_wp2
          refine bodyPost_ret (v := .agg #[.int .i64 3, .int .i64 i, .int .i64 k, .int .i64 ht]) (by simp [results, Tryz.results27, go_sem, r0, r1, r2, r3]) rfl ⟨by first | (rw [hE]; rfl) | (subst hE; rfl), ?_⟩
          exact below_set4 (Below.join (Below.join (Below.join hN (Nat.le_refl _) hB) (Nat.le_refl _) hA) (Nat.le_refl _) hJ4) (by omega) _ _ _ _
    · have hlt' : (L.length : Int) ≤ (r : Int) := by omega
      rw [find_no (fun j x hj hx => hall j x (by omega) hx)] at hE
      dsimp only at hE
      replace hX := hX.later hB
      have r0 := hX.r0
      have r1 := hX.r1
      have r2 := hX.r2
      have r3 := hX.r3
      have z0 := hX.z0
      have z1 := hX.z1
      have z2 := hX.z2
      have z3 := hX.z3
      clear hlt hr
      go_wp2
      refine bodyPost_ret (v := .agg #[.int .i64 0, .int .i64 0, .int .i64 0, .int .i64 0]) (by simp [results, Tryz.results27, go_sem, r0, r1, r2, r3]) rfl ⟨by first | (rw [hE]; rfl) | (subst hE; rfl), ?_⟩
      exact below_set4 (Below.join hN (Nat.le_refl _) hB) (by omega) _ _ _ _

set_option maxRecDepth 20000 in
set_option maxHeartbeats 8000000 in
theorem stationFull_any (a : Option Addr) (len cap : Nat) (g : Nat → Int) (gap : Int) (a' : Option Addr) (np cap' : Nat) (f : Nat → TrainD) (c : Option Addr) (nc b0 bT bS n : Nat) (mT mS : Int → Value) (LT : Int → List HoldD) (P : Nat → RowD) (i k : Nat) (w : World)
    (hR : RightL len np f) (hG : RightG len g gap np f) (hQ : RightP np f np P) (hi : i < np) (hk : k < (f i).nl) (hI : IsInts 0 w.heap.size w a len g) (hT : IsTrains 0 w.heap.size w a' np f) (hP : IsRows 0 w.heap.size w c np P) (hGr : Gr w b0 bT bS n mT mS LT (listS np f P)) :
    Calls Tryz.prog 28 #[.agg #[.slice a' np cap', .slice c np nc, .slice a len cap, .map (some bT), .map (some bS)], .int .i64 i, .int .i64 k] w fun e w' => e = .returned (clashV (fullC g np f P i k)) ∧ Below w.heap.size w w' := by
  have hX := LookBox.new w a len cap a' np cap' c nc bT bS 61 33
  have hN := b2 w (.cells #[.slice a' np cap', .slice c np nc, .slice a len cap, .map (some bT), .map (some bS)] 61) (.cells #[.int .i64 0, .int .i64 0, .int .i64 0, .int .i64 0] 33)
  have htr := hR.tr
  have hRi := hR.train i hi
  have hnl := hRi.nl
  obtain ⟨x0, x1⟩ := hR.to i hi k hk
  have hst := hR.st
  have hi' : (i : Int) < (np : Int) := by omega
  have hi0 : (0 : Int) ≤ (i : Int) := by omega
  have hk' : (k : Int) < ((f i).nl : Int) := by omega
  have hk0 : (0 : Int) ≤ (k : Int) := by omega
  obtain ⟨b, off, la, lc, rfl, _, hb, _, _, _, _, t4, hlg, _⟩ := hT i hi
  obtain ⟨bl, ol, rfl, _, hbl, g0, _, _⟩ := hlg k hk
  obtain ⟨bp, op, lp, lpc, rfl, _, hbp, p0, hin, _⟩ := hP i hi
  rw [hQ.row i hi] at p0 hin
  obtain ⟨bi, oi, rfl, _, hbi, q0⟩ := hin k hk
  have hE : fullC g np f P i k = if g ((f i).leg k).to.toNat < ((listS np f P ((f i).leg k).to).countP (metB i ((P i).s k)) : Int) then (4, (i : Int), (k : Int), 0) else (0, 0, 0, 0) := rfl
  generalize fullC g np f P i k = vv at hE ⊢
  obtain ⟨q, hq⟩ : ∃ q : Nat, ((f i).leg k).to = (q : Int) := ⟨((f i).leg k).to.toNat, by omega⟩
  rw [hq] at g0 hE x1
  rw [Int.toNat_natCast] at hE
  clear hq x0
  have hql : q < len := by omega
  obtain ⟨ba, oa, rfl, _, hba, w0⟩ := hI q hql
  have hll : (listS np f P (q : Int)).length ≤ 10 := Nat.le_trans (allH_len f np) hG.legs
  replace t4 := cellLater hN t4
  replace g0 := cellLater hN g0
  replace p0 := cellLater hN p0
  replace q0 := cellLater hN q0
  replace w0 := cellLater hN w0
  replace hGr := hGr.later hN
  obtain ⟨ha, hc, hv, hcs⟩ := isHolds_of (hGr.oS (q : Int))
  have hlk := hGr.kS.lookup Tryz.underlying3 Tryz.underlying59 (Tryz.zeroHolds _) (x := (q : Int)) (wf_small (by omega) (by omega))
  rw [hv] at hlk
  generalize listS np f P (q : Int) = L at hE hcs hlk hll
  clear hv hGr
  have y0 := hX.h0
  have y4 := hX.h4
  have hq0 : (0 : Int) ≤ (q : Int) := by omega
  go_enter Tryz.func28, Tryz.ntmps28
  go_wp2
  refine nameW fun W3 hW => ?_
  rw [← hW] at hX hN p0 q0 w0 hcs
  clear hW y0 y4 hlk t4 g0
  replace hcs : IsHolds W3 (.slice ha L.length hc) L := ⟨ha, hc, rfl, hcs⟩
  go_loopw [8, 26] (fun cc rr wr => ∃ (r : Nat), r ≤ L.length ∧ rr = .int .i64 r ∧ cc = .int .i64 ((L.take r).countP (metB i ((P i).s k)) : Nat) ∧ Below W3.heap.size W3 wr) (fun _ rr _ => L.length - (intOf rr).toNat)
  case atStart => exact ⟨0, Nat.zero_le _, rfl, by simp, Below.refl _ _⟩
  case round =>
    obtain ⟨r, hr, rfl, rfl, hB⟩ := hrel
    by_cases hlt : r < L.length
    · obtain ⟨h, hh⟩ : ∃ h, L[r]? = some h := ⟨L[r], List.getElem?_eq_getElem hlt⟩
      have hct := count_take (p := metB i ((P i).s k)) hh
      have hcl : (L.take r).countP (metB i ((P i).s k)) ≤ 10 := Nat.le_trans List.countP_le_length (by rw [List.length_take]; omega)
      obtain ⟨_, _, e9, hcs9⟩ := hcs
      cases e9
      obtain ⟨gg, go, rfl, c0, c1, c2⟩ := hcs9 r h hh
      have hlt' : (r : Int) < (L.length : Int) := by omega
      have hr0 : (0 : Int) ≤ (r : Int) := by omega
      replace c0 := cellLater hB c0
      replace c1 := cellLater hB c1
      replace c2 := cellLater hB c2
      have hA := b1 wr (.cells #[.int .i64 h.tr, .int .i64 h.frm, .int .i64 h.free] 77)
      obtain ⟨d0, d1, d2⟩ := new3 wr (.int .i64 h.tr) (.int .i64 h.frm) (.int .i64 h.free) 77
      replace p0 := cellLater hA (cellLater hB p0)
      replace q0 := cellLater hA (cellLater hB q0)
      have y1 := cellLater hA (cellLater hB hX.h1)
      obtain ⟨ht, hf, hfr⟩ := h
      dsimp only at c0 c1 c2 d0 d1 d2 hA p0 q0 y1
      have hmet := fun V => metBy_any ⟨ht, hf, hfr⟩ i ((P i).s k) V
      dsimp only at hmet
      generalize hcn : (L.take r).countP (metB i ((P i).s k)) = cn at hct hcl
      cases hm : metB i ((P i).s k) ⟨ht, hf, hfr⟩
      · rw [hm] at hmet hct
        simp only [Bool.false_eq_true, if_false, Nat.add_zero] at hct
        clear hm hcn
        go_wp2
        refine nameW fun V hV => ?_
        rw [← hV] at d0 d1 d2 p0 q0 y1 hA
        clear hV
        go_region_held3 (fun w' => w'.cell? ⟨wr.heap.size, 0, none⟩ = some (.int .i64 ht) ∧ w'.cell? ⟨wr.heap.size, 1, none⟩ = some (.int .i64 hf) ∧ w'.cell? ⟨wr.heap.size, 2, none⟩ = some (.int .i64 hfr) ∧ w'.cell? ⟨w.heap.size, 1, none⟩ = some (.slice (some ⟨bp, op, none⟩) np nc) ∧ w'.cell? ⟨bp, op + i, none⟩ = some (.slice (some ⟨bi, oi, none⟩) (f i).nl lpc) ∧ w'.cell? ⟨bi, oi + k, none⟩ = some (.int .i64 ((P i).s k))) (first | go_keep | (go_split_ands; refine ⟨?_, ?_, ?_, ?_, ?_, ?_⟩ <;> exact cellLater hB4 (by assumption))) ((first | (go_at_call 61; refine (hmet _).mono ?_; rintro e W4 ⟨rfl, hB4⟩)))
        go_wp2
        go_roundw
        case rel => exact ⟨r + 1, by omega, by go_num, by rw [hct], Below.join (Below.join hB (Nat.le_refl _) hA.drew) (Nat.le_refl _) hB4⟩
        case measure => simp [intOf]; omega
      · rw [hm] at hmet hct
        simp only [if_true] at hct
        clear hm hcn
        go_wp2
        refine nameW fun V hV => ?_
        rw [← hV] at d0 d1 d2 p0 q0 y1 hA
        clear hV
        go_region_held3 (fun w' => w'.cell? ⟨wr.heap.size, 0, none⟩ = some (.int .i64 ht) ∧ w'.cell? ⟨wr.heap.size, 1, none⟩ = some (.int .i64 hf) ∧ w'.cell? ⟨wr.heap.size, 2, none⟩ = some (.int .i64 hfr) ∧ w'.cell? ⟨w.heap.size, 1, none⟩ = some (.slice (some ⟨bp, op, none⟩) np nc) ∧ w'.cell? ⟨bp, op + i, none⟩ = some (.slice (some ⟨bi, oi, none⟩) (f i).nl lpc) ∧ w'.cell? ⟨bi, oi + k, none⟩ = some (.int .i64 ((P i).s k))) (first | go_keep | (go_split_ands; refine ⟨?_, ?_, ?_, ?_, ?_, ?_⟩ <;> exact cellLater hB4 (by assumption))) ((first | (go_at_call 61; refine (hmet _).mono ?_; rintro e W4 ⟨rfl, hB4⟩)))
        go_wp2
        go_roundw
        case rel => exact ⟨r + 1, by omega, by go_num, by rw [hct]; go_num, Below.join (Below.join hB (Nat.le_refl _) hA.drew) (Nat.le_refl _) hB4⟩
        case measure => simp [intOf]; omega
    · have hlt' : (L.length : Int) ≤ (r : Int) := by omega
      have hre : L.take r = L := List.take_of_length_le (by omega)
      rw [hre]
      replace hX := hX.later hB
      replace w0 := cellLater hB w0
      have y2 := hX.h2
      have r0 := hX.r0
      have r1 := hX.r1
      have r2 := hX.r2
      have r3 := hX.r3
      have z0 := hX.z0
      have z1 := hX.z1
      have z2 := hX.z2
      have z3 := hX.z3
      generalize L.countP (metB i ((P i).s k)) = cn at hE ⊢
      clear hlt hr hre hcs
      by_cases hbad : g q < (cn : Int)
      · rw [if_pos hbad] at hE
        have hbad' : (cn : Int) > g q := hbad
        go_wp2
        refine bodyPost_ret (v := .agg #[.int .i64 4, .int .i64 i, .int .i64 k, .int .i64 0]) (by simp [results, Tryz.results28, go_sem, r0, r1, r2, r3]) rfl ⟨by first | (rw [hE]; rfl) | (subst hE; rfl), ?_⟩
        exact below_set4 (Below.join hN (Nat.le_refl _) hB) (by omega) _ _ _ _
      · rw [if_neg hbad] at hE
        go_wp2
        refine bodyPost_ret (v := .agg #[.int .i64 0, .int .i64 0, .int .i64 0, .int .i64 0]) (by simp [results, Tryz.results28, go_sem, r0, r1, r2, r3]) rfl ⟨by first | (rw [hE]; rfl) | (subst hE; rfl), ?_⟩
        exact below_set4 (Below.join hN (Nat.le_refl _) hB) (by omega) _ _ _ _
end Go.Proofs.YtnjaegeapcijpaaGreatDoor
