/-
  The plan of a drawn order: the first loop of (*spec.l5Cur).plan.
  A drawn plan, each row of it so much later: spec.APlan.
  The trains of a plan in the order in which their legs begin, as plain data: picked one by one, or sorted. The model's Order: what it answers.
  The tracks of a board: the last hold of a track says from when on it is free.
-/
import Derived.Test.YtelickcfodcmaaaGreatDoorGD
import Derived.Test.YtelickcfodcmaaaGreatDoorGE
import Derived.Test.YtelickcfodcmaaaGreatDoorGroups
import Derived.Test.YtelickcfodcmaaaGreatDoorLateQ
import Derived.Test.YtelickcfodcmaaaGreatDoorSpecQ
import Derived.Test.YtelickcfodcmaaaGreatDoorApp
import Derived.Test.YtelickcfodcmaaaGreatDoorGC
namespace Go.Proofs.YtelickcfodcmaaaGreatDoor
open Go.RowKit

theorem trainsAt {w0 W : World} {b k : Nat} {a' : Option Addr} {np : Nat} {f : Nat → TrainD} (hT : IsTrains 0 w0.heap.size w0 a' np f) (hC : Cur w0 b k W) : IsTrains 0 W.heap.size W a' np f := (hT.below hC.base (Nat.le_refl _)).mono (Nat.le_refl _) hC.base.size
theorem intsAt {w0 W : World} {b k : Nat} {a : Option Addr} {n : Nat} {g : Nat → Int} (hI : IsInts 0 w0.heap.size w0 a n g) (hC : Cur w0 b k W) : IsInts 0 W.heap.size W a n g := (hI.below hC.base (Nat.le_refl _)).mono (Nat.le_refl _) hC.base.size
/-- a placed plan, as it lies -/
theorem placed_liesU {B0 : Nat} {W : World} {st : StP} {np : Nat} {v : Value} (h : IsPlaced B0 W st np v) : (∃ (c : Option Addr) (nc : Nat), v = .agg #[.int .i64 0, .int .i64 (st.at_ : Int), .slice c np nc] ∧ OwnP B0 W c np st.P ∧ ∀ j, j < np → (st.P j).n ≤ 10) ∨ (st.code ≠ 0 ∧ v = .agg #[.int .i64 st.code, .int .i64 (st.at_ : Int), .slice none 0 0]) := by
  obtain ⟨cv, rfl, h1, h2⟩ := h
  by_cases e : st.code = 0
  · obtain ⟨c, nc, rfl, ho, h10⟩ := h2 e
    exact Or.inl ⟨c, nc, by rw [e], ho, h10⟩
  · exact Or.inr ⟨e, by rw [h1 e]⟩
/-- how it stands within (*spec.l5Cur).plan -/
structure PlI (w0 w : World) (b k : Nat) (a : Option Addr) (len cap : Nat) (gap : Int) (a' : Option Addr) (np cap' : Nat) (W : World) : Prop where
  cur : Cur w0 b k W
  mid : Mid b (b + 1) w W
  x0 : W.cell? ⟨w.heap.size, 0, none⟩ = some (.slice a len cap)
  x1 : W.cell? ⟨w.heap.size, 1, none⟩ = some (.int .i64 gap)
  x2 : W.cell? ⟨w.heap.size, 2, none⟩ = some (.slice a' np cap')
  room : Room (w.heap.size + 1) 1 W
  lt : w.heap.size + 2 ≤ W.heap.size
section
variable {w0 w W W' : World} {b k k' : Nat} {a : Option Addr} {len cap : Nat} {gap : Int} {a' : Option Addr} {np cap' : Nat}
theorem cellMidT {j i : Nat} {v : Value} (hM : Mid b (b + 1) W W') (hj : b < j) (hc : W.cell? ⟨j, i, none⟩ = some v) : W'.cell? ⟨j, i, none⟩ = some v :=
  (World.cell?_of_block (w := W) (w' := W') (a := ⟨j, i, none⟩) (hM.above j hj (ltCell hc))).trans hc
theorem PlI.turn (h : PlI w0 w b k a len cap gap a' np cap' W) (hM : Mid b (b + 1) W W') (hC : Cur w0 b k' W') (hb : b < w.heap.size) : PlI w0 w b k' a len cap gap a' np cap' W' :=
  ⟨hC, h.mid.trans hM, cellMidT hM hb h.x0, cellMidT hM hb h.x1, cellMidT hM hb h.x2, h.room.keep hM, Nat.le_trans h.lt hM.below.size⟩
theorem PlI.more (h : PlI w0 w b k a len cap gap a' np cap' W) (hk : k ≤ k') : PlI w0 w b k' a len cap gap a' np cap' W := ⟨h.cur.more hk, h.mid, h.x0, h.x1, h.x2, h.room, h.lt⟩
theorem PlI.later (h : PlI w0 w b k a len cap gap a' np cap' W) (hB : Below W.heap.size W W') : PlI w0 w b k a len cap gap a' np cap' W' :=
  ⟨h.cur.later hB, h.mid.trans (Mid.ofBelow hB (Nat.le_of_lt h.cur.lt)), cellLater hB h.x0, cellLater hB h.x1, cellLater hB h.x2, h.room.below hB (by have := h.lt; omega), Nat.le_trans h.lt hB.size⟩
theorem PlI.set (h : PlI w0 w b k a len cap gap a' np cap' W) {p : Addr} (hp : w.heap.size + 2 ≤ p.block) (hb : b < w.heap.size) (x : Value) : PlI w0 w b k a len cap gap a' np cap' (W.setCell p x) := by
  have hs : ∀ j, j < w.heap.size + 2 → (W.setCell p x).heap[j]? = W.heap[j]? := fun j hj => Below.heap_setCell W p x j (by omega)
  have cc : ∀ j o u, j < w.heap.size + 2 → W.cell? ⟨j, o, none⟩ = some u → (W.setCell p x).cell? ⟨j, o, none⟩ = some u := fun j o u hj hu => (World.cell?_of_block (w := W) (a := ⟨j, o, none⟩) (hs j hj)).trans hu
  exact ⟨h.cur.set p (by omega) x, h.mid.setNew p (by omega) (by omega) x, cc _ _ _ (by omega) h.x0, cc _ _ _ (by omega) h.x1, cc _ _ _ (by omega) h.x2, h.room.set p x, by rw [World.size_setCell]; exact h.lt⟩
end
/-- what it answers -/
def PlanPost (w0 : World) (b k : Nat) (w : World) (e : Ending) (w' : World) : Prop := ∃ c n nc P, e = .returned (.agg #[.slice c n nc]) ∧ n ≤ 5 ∧ (∀ j, j < n → (P j).n ≤ 10) ∧ OwnP w.heap.size w' c n P ∧ Cur w0 b (k + 200) w' ∧ Mid b (b + 1) w w'
set_option maxRecDepth 20000 in
set_option maxHeartbeats 8000000 in
theorem plan_any (w0 : World) (b k : Nat) (a : Option Addr) (len cap : Nat) (g : Nat → Int) (gap : Int) (a' : Option Addr) (np cap' : Nat) (f : Nat → TrainD) (w : World) (hk : k ≤ 50000) (hC : Cur w0 b k w) (hl : len ≤ 1048576) (hnp : np ≤ 5) (hml : ∀ j, j < np → (f j).nl ≤ 1048576) (hn10 : legSum f np ≤ 10) (h10 : ∀ j, j < np → (f j).nl ≤ 10)
    (hI : IsInts 0 w0.heap.size w0 a len g) (hT : IsTrains 0 w0.heap.size w0 a' np f) :
    Calls Tryz.prog 20 #[.pointer (some ⟨b, 0, none⟩), .agg #[.slice a len cap, .int .i64 gap, .slice a' np cap']] w (PlanPost w0 b k w) := by
  have hbw : b < w.heap.size := hC.lt
  have hl' : np ≤ 1048576 := by omega
  have hA1 := b1 w (.cells #[.slice a len cap, .int .i64 gap, .slice a' np cap'] 26)
  obtain ⟨n0, n1, n2⟩ := new3 w (.slice a len cap) (.int .i64 gap) (.slice a' np cap') 26
  have hA2 := b1 (w.alloc (.cells #[.slice a len cap, .int .i64 gap, .slice a' np cap'] 26)) (.cells #[.slice none 0 0] 30)
  have hA := Below.join hA1 (Nat.le_refl _) hA2
  have hRm : Room (w.heap.size + 1) 1 ((w.alloc (.cells #[.slice a len cap, .int .i64 gap, .slice a' np cap'] 26)).alloc (.cells #[.slice none 0 0] 30)) := by
    have h := Room.lit (w.alloc (.cells #[.slice a len cap, .int .i64 gap, .slice a' np cap'] 26)) #[.slice none 0 0] 30 1 (Nat.le_refl _)
    rwa [World.size_alloc] at h
  have hp0 : PlI w0 w b k a len cap gap a' np cap' ((w.alloc (.cells #[.slice a len cap, .int .i64 gap, .slice a' np cap'] 26)).alloc (.cells #[.slice none 0 0] 30)) :=
    ⟨hC.later hA, Mid.ofBelow hA (Nat.le_of_lt hbw), cellLater hA2 n0, cellLater hA2 n1, cellLater hA2 n2, hRm, by simp⟩
  clear n0 n1 n2 hA1 hA2 hA hRm hC
  go_enter Tryz.func20, Tryz.ntmps20
  go_wp2
  go_loopw [5] (fun kk wr => ∃ i : Nat, i ≤ 5 ∧ kk = .int .i64 i ∧ PlI w0 w b (k + 40 * i) a len cap gap a' np cap' wr) (fun kk _ => 5 - (intOf kk).toNat)
  case atStart => exact ⟨0, Nat.zero_le _, rfl, hp0⟩
  case round =>
    clear hp0
    obtain ⟨i, hi, rfl, hp⟩ := hrel
    by_cases hlt : i < 5
    · have hlt' : (i : Int) < 5 := by omega
      have hpD := hp.later (Below.refl wr.heap.size wr).drew
      have x0 := hpD.x0
      have x1 := hpD.x1
      have x2 := hpD.x2
      go_wp2
      refine wp_region_held_drew (S := fun w' => w'.cell? ⟨w.heap.size, 0, none⟩ = some (.slice a len cap) ∧ w'.cell? ⟨w.heap.size, 1, none⟩ = some (.int .i64 gap) ∧ w'.cell? ⟨w.heap.size, 2, none⟩ = some (.slice a' np cap')) (by kernel_rfl) ⟨x0, x1, x2⟩ (fun hHeld => ?_)
      refine wpAnyH_take (i := 0) (oi := { dst := some 18, op := Go.Op.load 26 (Go.Operand.tmp 3), type := 26, pos := "l5_draw.go:161", after := #[], guard := none }) (v := ?vv1_0) rfl (by kernel_rfl) (by kernel_rfl) (by kernel_rfl) (fun _ _ _ h => h) (Or.inl ⟨by rfl, ?hy1_0⟩) (by assumption) ?rest1_0
      case hy1_0 =>
        intro w hSw
        (try dsimp only at hSw)
        go_simp
        (try with_reducible rfl)
      simp only [Act.put, List.setIfInBounds_toArray, List.set_cons_zero, List.set_cons_succ]
      refine wpAnyH_take (i := 1) (oi := { dst := some 19, op := Go.Op.move (Go.Operand.tmp 0), type := 52, pos := "l5_draw.go:161", after := #[], guard := none }) (v := ?vv2_1) rfl (by kernel_rfl) (by kernel_rfl) (by kernel_rfl) (fun _ _ _ h => h) (Or.inl ⟨by rfl, ?hy2_1⟩) (by assumption) ?rest2_1
      case hy2_1 =>
        intro w hSw
        (try dsimp only at hSw)
        go_simp
        (try with_reducible rfl)
      simp only [Act.put, List.setIfInBounds_toArray, List.set_cons_zero, List.set_cons_succ]
      refine wpAnyH_take (i := 2) (oi := { dst := some 20, op := Go.Op.load 26 (Go.Operand.tmp 3), type := 26, pos := "l5_draw.go:161", after := #[], guard := none }) (v := ?vv3_2) rfl (by kernel_rfl) (by kernel_rfl) (by kernel_rfl) (fun _ _ _ h => h) (Or.inl ⟨by rfl, ?hy3_2⟩) (by assumption) ?rest3_2
      case hy3_2 =>
        intro w hSw
        (try dsimp only at hSw)
        go_simp
        (try with_reducible rfl)
      simp only [Act.put, List.setIfInBounds_toArray, List.set_cons_zero, List.set_cons_succ]
      refine wpAnyH_ready (rs := [3, 5]) (by kernel_rfl) (by simp) ?_
      refine AllReadyH.cons (o := { dst := some 21, op := Go.Op.call { callee := Go.Callee.value (Go.Operand.func 55), args := #[Go.Operand.tmp 19, Go.Operand.tmp 20], argTypes := #[52, 26] }, type := 23, pos := "l5_draw.go:161", after := #[{ on := 1, ground := Go.Ground.data }, { on := 2, ground := Go.Ground.data }], guard := none }) rfl (fun K hK => ?_) (AllReadyH.cons (o := { dst := some 6, op := Go.Op.alloc 38, type := 0, pos := "l5_draw.go:161", after := #[], guard := none }) rfl (fun K hK => ?_) AllReadyH.nil)
      · go_simp
        go_at_call 55
        with_reducible refine (order_any w0 b _ a len cap gap a' np cap' f wr.drew (by omega) hpD.cur (trainsAt hT hpD.cur) hnp hn10).mono ?_
        rintro _ w5 ⟨v5, D5, rfl, hown5, hlen5, hC5, hM5⟩
        have hp5 := hpD.turn hM5 hC5 hbw
        obtain ⟨oa, oc, rfl, hO5⟩ := ownInts hown5
        have hlen5' : Hid _ := hlen5
        clear hlen5
        go_wp2_with fail
        refine hK.out _ _ ⟨hp5.x0, hp5.x1, hp5.x2⟩ (fun hHeld => ?_)
        clear hK K
        (try simp only [Act.put, List.setIfInBounds_toArray, List.set_cons_zero, List.set_cons_succ])
        refine wpAnyH_ready (rs := [4, 5]) (by kernel_rfl) (by simp) ?_
        refine AllReadyH.cons (o := { dst := some 22, op := Go.Op.call { callee := Go.Callee.value (Go.Operand.func 54), args := #[Go.Operand.tmp 18, Go.Operand.tmp 21], argTypes := #[26, 23] }, type := 38, pos := "l5_draw.go:161", after := #[{ on := 0, ground := Go.Ground.data }, { on := 3, ground := Go.Ground.data }, { on := 3, ground := Go.Ground.chain }], guard := none }) rfl (fun K hK => ?_) (AllReadyH.cons (o := { dst := some 6, op := Go.Op.alloc 38, type := 0, pos := "l5_draw.go:161", after := #[], guard := none }) rfl (fun K hK => ?_) AllReadyH.nil)
        · go_simp
          go_at_call 54
          with_reducible refine (specPlace_any a len cap g gap a' np cap' f oa D5.length oc (gI D5) w5 hl hl' hml (by rw [hlen5'.out]; omega) (intsAt hI hp5.cur) (trainsAt hT hp5.cur) (hO5.mono (Nat.zero_le _) (Nat.le_refl _))).mono ?_
          rintro _ w6 ⟨⟨v6, rfl, hPl6⟩, hB6⟩
          have hp6 := hp5.later hB6
          generalize placeSt len g gap np f D5.length (gI D5) = st6 at *
          have hleg5 : Hid _ := hn10
          rcases placed_liesU hPl6 with ⟨c6, nc6, rfl, hown6, hn6⟩ | ⟨hz6, rfl⟩
          · clear hPl6
            go_wp2_with fail
            refine hK.out _ _ ⟨hp6.x0, hp6.x1, hp6.x2⟩ (fun hHeld => ?_)
            clear hK K
            (try simp only [Act.put, List.setIfInBounds_toArray, List.set_cons_zero, List.set_cons_succ])
            have hA7 := b1 w6 (.cells #[.int .i64 0, .int .i64 0, .slice none 0 0] 38)
            have hp7 := hp6.later hA7
            refine wpAnyH_ready (rs := [5]) (by kernel_rfl) (by simp) ?_
            refine AllReadyH.cons (o := { dst := some 6, op := Go.Op.alloc 38, type := 0, pos := "l5_draw.go:161", after := #[], guard := none }) rfl (fun K hK => ?_) AllReadyH.nil
            go_simp
            refine hK.out _ _ ⟨hp7.x0, hp7.x1, hp7.x2⟩ (fun hHeld => ?_)
            clear hK K
            (try simp only [Act.put, List.setIfInBounds_toArray, List.set_cons_zero, List.set_cons_succ])
            have hRq : Room w6.heap.size 3 (w6.alloc (.cells #[.int .i64 0, .int .i64 0, .slice none 0 0] 38)) := Room.lit w6 _ _ 3 (Nat.le_refl _)
            obtain ⟨r0, rm0, rz0⟩ := hRq 0 (by omega)
            obtain ⟨r1, rm1, rz1⟩ := hRq 1 (by omega)
            obtain ⟨r2, rm2, rz2⟩ := hRq 2 (by omega)
            have hA8 := b1 w6 (.cells #[(.int .i64 0), (.int .i64 (st6.at_ : Int)), (.slice c6 np nc6)] 38)
            have hpV := hp6.later hA8
            have hO' := hown6.same (fun k _ hk => hA8.block k hk)
            refine wpAnyH_ready (rs := [6]) (by kernel_rfl) (by simp) ?_
            refine AllReadyH.cons (o := { dst := none, op := Go.Op.store 38 (Go.Operand.tmp 6) (Go.Operand.tmp 22), type := 0, pos := "l5_draw.go:161", after := #[{ on := 5, ground := Go.Ground.data }, { on := 4, ground := Go.Ground.data }, { on := 4, ground := Go.Ground.chain }, { on := 0, ground := Go.Ground.phase }, { on := 1, ground := Go.Ground.phase }, { on := 2, ground := Go.Ground.phase }, { on := 3, ground := Go.Ground.phase }, { on := 4, ground := Go.Ground.phase }, { on := 5, ground := Go.Ground.phase }], guard := none }) rfl (fun K hK => ?_) AllReadyH.nil
            go_simp
            refine hK.out _ _ ⟨hpV.x0, hpV.x1, hpV.x2⟩ (fun hHeld => ?_)
            clear hK K
            (try simp only [Act.put, List.setIfInBounds_toArray, List.set_cons_zero, List.set_cons_succ])
            refine wpAnyH_done (by kernel_rfl) ?_ _
            clear hRq r0 rm0 rz0 r1 rm1 rz1 r2 rm2 rz2 hA7 hp7 hA8
            have hB0 : w.heap.size + 2 ≤ w5.heap.size := hp5.lt
            obtain ⟨s0, sm0, sz0⟩ := hpV.room 0 (by omega)
            have hn6' : Hid _ := hn6
            clear hn6 hown6
            go_wp2
            refine bodyPost_ret (v := .agg #[.slice c6 np nc6]) (by simp [results, Tryz.results20, go_sem, sm0]) rfl ⟨c6, np, nc6, st6.P, rfl, hnp, hn6'.out, (hO'.set (p := ⟨w.heap.size + 1, 0, none⟩) (by dsimp only; omega)).low (by omega), (hpV.cur.set ⟨w.heap.size + 1, 0, none⟩ (by dsimp only; omega) _).more (by have := hleg5.out; omega), hpV.mid.setNew ⟨w.heap.size + 1, 0, none⟩ (by dsimp only; omega) (by omega) _⟩
          · clear hPl6
            go_wp2_with fail
            refine hK.out _ _ ⟨hp6.x0, hp6.x1, hp6.x2⟩ (fun hHeld => ?_)
            clear hK K
            (try simp only [Act.put, List.setIfInBounds_toArray, List.set_cons_zero, List.set_cons_succ])
            have hA7 := b1 w6 (.cells #[.int .i64 0, .int .i64 0, .slice none 0 0] 38)
            have hp7 := hp6.later hA7
            refine wpAnyH_ready (rs := [5]) (by kernel_rfl) (by simp) ?_
            refine AllReadyH.cons (o := { dst := some 6, op := Go.Op.alloc 38, type := 0, pos := "l5_draw.go:161", after := #[], guard := none }) rfl (fun K hK => ?_) AllReadyH.nil
            go_simp
            refine hK.out _ _ ⟨hp7.x0, hp7.x1, hp7.x2⟩ (fun hHeld => ?_)
            clear hK K
            (try simp only [Act.put, List.setIfInBounds_toArray, List.set_cons_zero, List.set_cons_succ])
            have hRq : Room w6.heap.size 3 (w6.alloc (.cells #[.int .i64 0, .int .i64 0, .slice none 0 0] 38)) := Room.lit w6 _ _ 3 (Nat.le_refl _)
            obtain ⟨r0, rm0, rz0⟩ := hRq 0 (by omega)
            obtain ⟨r1, rm1, rz1⟩ := hRq 1 (by omega)
            obtain ⟨r2, rm2, rz2⟩ := hRq 2 (by omega)
            have hA8 := b1 w6 (.cells #[(.int .i64 st6.code), (.int .i64 (st6.at_ : Int)), (.slice none 0 0)] 38)
            have hpV := hp6.later hA8
            refine wpAnyH_ready (rs := [6]) (by kernel_rfl) (by simp) ?_
            refine AllReadyH.cons (o := { dst := none, op := Go.Op.store 38 (Go.Operand.tmp 6) (Go.Operand.tmp 22), type := 0, pos := "l5_draw.go:161", after := #[{ on := 5, ground := Go.Ground.data }, { on := 4, ground := Go.Ground.data }, { on := 4, ground := Go.Ground.chain }, { on := 0, ground := Go.Ground.phase }, { on := 1, ground := Go.Ground.phase }, { on := 2, ground := Go.Ground.phase }, { on := 3, ground := Go.Ground.phase }, { on := 4, ground := Go.Ground.phase }, { on := 5, ground := Go.Ground.phase }], guard := none }) rfl (fun K hK => ?_) AllReadyH.nil
            go_simp
            refine hK.out _ _ ⟨hpV.x0, hpV.x1, hpV.x2⟩ (fun hHeld => ?_)
            clear hK K
            (try simp only [Act.put, List.setIfInBounds_toArray, List.set_cons_zero, List.set_cons_succ])
            refine wpAnyH_done (by kernel_rfl) ?_ _
            clear hRq r0 rm0 rz0 r1 rm1 rz1 r2 rm2 rz2 hA7 hp7 hA8
            have hB0 : w.heap.size + 2 ≤ w5.heap.size := hp5.lt
            have hzb : (st6.code == 0) = false := by simpa using hz6
            clear hz6
            go_wp2
            go_roundw
            case rel => exact ⟨i + 1, by omega, by go_num, hpV.more (by have := hleg5.out; omega)⟩
            case measure => simp [intOf]; omega
        · have hA7 := b1 w5 (.cells #[.int .i64 0, .int .i64 0, .slice none 0 0] 38)
          have hp7 := hp5.later hA7
          go_simp
          refine hK.out _ _ ⟨hp7.x0, hp7.x1, hp7.x2⟩ (fun hHeld => ?_)
          clear hK K
          (try simp only [Act.put, List.setIfInBounds_toArray, List.set_cons_zero, List.set_cons_succ])
          refine wpAnyH_ready (rs := [4]) (by kernel_rfl) (by simp) ?_
          refine AllReadyH.cons (o := { dst := some 22, op := Go.Op.call { callee := Go.Callee.value (Go.Operand.func 54), args := #[Go.Operand.tmp 18, Go.Operand.tmp 21], argTypes := #[26, 23] }, type := 38, pos := "l5_draw.go:161", after := #[{ on := 0, ground := Go.Ground.data }, { on := 3, ground := Go.Ground.data }, { on := 3, ground := Go.Ground.chain }], guard := none }) rfl (fun K hK => ?_) AllReadyH.nil
          go_simp
          go_at_call 54
          with_reducible refine (specPlace_any a len cap g gap a' np cap' f oa D5.length oc (gI D5) (w5.alloc (.cells #[.int .i64 0, .int .i64 0, .slice none 0 0] 38)) hl hl' hml (by rw [hlen5'.out]; omega) (intsAt hI hp7.cur) (trainsAt hT hp7.cur) ((hO5.grow hA7).mono (Nat.zero_le _) (Nat.le_refl _))).mono ?_
          rintro _ w6 ⟨⟨v6, rfl, hPl6⟩, hB6⟩
          have hp6 := hp7.later hB6
          generalize placeSt len g gap np f D5.length (gI D5) = st6 at *
          have hleg5 : Hid _ := hn10
          rcases placed_liesU hPl6 with ⟨c6, nc6, rfl, hown6, hn6⟩ | ⟨hz6, rfl⟩
          · clear hPl6
            go_wp2_with fail
            refine hK.out _ _ ⟨hp6.x0, hp6.x1, hp6.x2⟩ (fun hHeld => ?_)
            clear hK K
            (try simp only [Act.put, List.setIfInBounds_toArray, List.set_cons_zero, List.set_cons_succ])
            have hRq : Room w5.heap.size 3 w6 := (Room.lit w5 _ _ 3 (Nat.le_refl _)).below hB6 (by rw [World.size_alloc]; omega)
            have hqw : w.heap.size + 2 ≤ w5.heap.size := by have := hp5.lt; omega
            obtain ⟨r0, rm0, rz0⟩ := hRq 0 (by omega)
            obtain ⟨r1, rm1, rz1⟩ := hRq 1 (by omega)
            obtain ⟨r2, rm2, rz2⟩ := hRq 2 (by omega)
            have hpV := ((hp6.set (p := ⟨w5.heap.size, 0, none⟩) hqw hbw (.int .i64 0)).set (p := ⟨w5.heap.size, 1, none⟩) hqw hbw (.int .i64 (st6.at_ : Int))).set (p := ⟨w5.heap.size, 2, none⟩) hqw hbw (.slice c6 np nc6)
            have hql : w5.heap.size < _ := (show w5.heap.size < (w5.alloc (.cells #[.int .i64 0, .int .i64 0, .slice none 0 0] 38)).heap.size by rw [World.size_alloc]; omega)
            have hO' := ((hown6.set (p := ⟨w5.heap.size, 0, none⟩) (x := (.int .i64 0)) hql).set (p := ⟨w5.heap.size, 1, none⟩) (x := (.int .i64 (st6.at_ : Int))) hql).set (p := ⟨w5.heap.size, 2, none⟩) (x := (.slice c6 np nc6)) hql
            refine wpAnyH_ready (rs := [6]) (by kernel_rfl) (by simp) ?_
            refine AllReadyH.cons (o := { dst := none, op := Go.Op.store 38 (Go.Operand.tmp 6) (Go.Operand.tmp 22), type := 0, pos := "l5_draw.go:161", after := #[{ on := 5, ground := Go.Ground.data }, { on := 4, ground := Go.Ground.data }, { on := 4, ground := Go.Ground.chain }, { on := 0, ground := Go.Ground.phase }, { on := 1, ground := Go.Ground.phase }, { on := 2, ground := Go.Ground.phase }, { on := 3, ground := Go.Ground.phase }, { on := 4, ground := Go.Ground.phase }, { on := 5, ground := Go.Ground.phase }], guard := none }) rfl (fun K hK => ?_) AllReadyH.nil
            go_simp
            refine hK.out _ _ ⟨hpV.x0, hpV.x1, hpV.x2⟩ (fun hHeld => ?_)
            clear hK K
            (try simp only [Act.put, List.setIfInBounds_toArray, List.set_cons_zero, List.set_cons_succ])
            refine wpAnyH_done (by kernel_rfl) ?_ _
            have t0 : (((w6.setCell ⟨w5.heap.size, 0, none⟩ (.int .i64 0)).setCell ⟨w5.heap.size, 1, none⟩ (.int .i64 (st6.at_ : Int))).setCell ⟨w5.heap.size, 2, none⟩ (.slice c6 np nc6)).cell? ⟨w5.heap.size, 0, none⟩ = some (.int .i64 0) := (cell_set_ne (by omega)).trans ((cell_set_ne (by omega)).trans (World.cell?_setCell_same _ _ _ rm0))
            have t2 : (((w6.setCell ⟨w5.heap.size, 0, none⟩ (.int .i64 0)).setCell ⟨w5.heap.size, 1, none⟩ (.int .i64 (st6.at_ : Int))).setCell ⟨w5.heap.size, 2, none⟩ (.slice c6 np nc6)).cell? ⟨w5.heap.size, 2, none⟩ = some (.slice c6 np nc6) := World.cell?_setCell_same _ _ _ ((cell_set_ne (by omega)).trans ((cell_set_ne (by omega)).trans rm2))
            clear hRq r0 rm0 rz0 r1 rm1 rz1 r2 rm2 rz2
            obtain ⟨s0, sm0, sz0⟩ := hpV.room 0 (by omega)
            have hn6' : Hid _ := hn6
            clear hn6 hown6
            go_wp2
            refine bodyPost_ret (v := .agg #[.slice c6 np nc6]) (by simp [results, Tryz.results20, go_sem, sm0]) rfl ⟨c6, np, nc6, st6.P, rfl, hnp, hn6'.out, (hO'.set (p := ⟨w.heap.size + 1, 0, none⟩) (by dsimp only; omega)).low (by omega), (hpV.cur.set ⟨w.heap.size + 1, 0, none⟩ (by dsimp only; omega) _).more (by have := hleg5.out; omega), hpV.mid.setNew ⟨w.heap.size + 1, 0, none⟩ (by dsimp only; omega) (by omega) _⟩
          · clear hPl6
            go_wp2_with fail
            refine hK.out _ _ ⟨hp6.x0, hp6.x1, hp6.x2⟩ (fun hHeld => ?_)
            clear hK K
            (try simp only [Act.put, List.setIfInBounds_toArray, List.set_cons_zero, List.set_cons_succ])
            have hRq : Room w5.heap.size 3 w6 := (Room.lit w5 _ _ 3 (Nat.le_refl _)).below hB6 (by rw [World.size_alloc]; omega)
            have hqw : w.heap.size + 2 ≤ w5.heap.size := by have := hp5.lt; omega
            obtain ⟨r0, rm0, rz0⟩ := hRq 0 (by omega)
            obtain ⟨r1, rm1, rz1⟩ := hRq 1 (by omega)
            obtain ⟨r2, rm2, rz2⟩ := hRq 2 (by omega)
            have hpV := ((hp6.set (p := ⟨w5.heap.size, 0, none⟩) hqw hbw (.int .i64 st6.code)).set (p := ⟨w5.heap.size, 1, none⟩) hqw hbw (.int .i64 (st6.at_ : Int))).set (p := ⟨w5.heap.size, 2, none⟩) hqw hbw (.slice none 0 0)
            refine wpAnyH_ready (rs := [6]) (by kernel_rfl) (by simp) ?_
            refine AllReadyH.cons (o := { dst := none, op := Go.Op.store 38 (Go.Operand.tmp 6) (Go.Operand.tmp 22), type := 0, pos := "l5_draw.go:161", after := #[{ on := 5, ground := Go.Ground.data }, { on := 4, ground := Go.Ground.data }, { on := 4, ground := Go.Ground.chain }, { on := 0, ground := Go.Ground.phase }, { on := 1, ground := Go.Ground.phase }, { on := 2, ground := Go.Ground.phase }, { on := 3, ground := Go.Ground.phase }, { on := 4, ground := Go.Ground.phase }, { on := 5, ground := Go.Ground.phase }], guard := none }) rfl (fun K hK => ?_) AllReadyH.nil
            go_simp
            refine hK.out _ _ ⟨hpV.x0, hpV.x1, hpV.x2⟩ (fun hHeld => ?_)
            clear hK K
            (try simp only [Act.put, List.setIfInBounds_toArray, List.set_cons_zero, List.set_cons_succ])
            refine wpAnyH_done (by kernel_rfl) ?_ _
            have t0 : (((w6.setCell ⟨w5.heap.size, 0, none⟩ (.int .i64 st6.code)).setCell ⟨w5.heap.size, 1, none⟩ (.int .i64 (st6.at_ : Int))).setCell ⟨w5.heap.size, 2, none⟩ (.slice none 0 0)).cell? ⟨w5.heap.size, 0, none⟩ = some (.int .i64 st6.code) := (cell_set_ne (by omega)).trans ((cell_set_ne (by omega)).trans (World.cell?_setCell_same _ _ _ rm0))
            have t2 : (((w6.setCell ⟨w5.heap.size, 0, none⟩ (.int .i64 st6.code)).setCell ⟨w5.heap.size, 1, none⟩ (.int .i64 (st6.at_ : Int))).setCell ⟨w5.heap.size, 2, none⟩ (.slice none 0 0)).cell? ⟨w5.heap.size, 2, none⟩ = some (.slice none 0 0) := World.cell?_setCell_same _ _ _ ((cell_set_ne (by omega)).trans ((cell_set_ne (by omega)).trans rm2))
            clear hRq r0 rm0 rz0 r1 rm1 rz1 r2 rm2 rz2
            have hzb : (st6.code == 0) = false := by simpa using hz6
            clear hz6
            go_wp2
            go_roundw
            case rel => exact ⟨i + 1, by omega, by go_num, hpV.more (by have := hleg5.out; omega)⟩
            case measure => simp [intOf]; omega
      · have hA7 := b1 wr (.cells #[.int .i64 0, .int .i64 0, .slice none 0 0] 38)
        have hDr : Below (wr.alloc (.cells #[.int .i64 0, .int .i64 0, .slice none 0 0] 38)).heap.size (wr.alloc (.cells #[.int .i64 0, .int .i64 0, .slice none 0 0] 38)) (wr.alloc (.cells #[.int .i64 0, .int .i64 0, .slice none 0 0] 38)).drew := (Below.refl _ _).drew
        have hp7 := (hp.later hA7).later hDr
        have hsz7 : wr.heap.size < (wr.alloc (.cells #[.int .i64 0, .int .i64 0, .slice none 0 0] 38)).drew.heap.size := by show wr.heap.size < (wr.alloc (.cells #[.int .i64 0, .int .i64 0, .slice none 0 0] 38)).heap.size; rw [World.size_alloc]; omega
        have hR7 : Room wr.heap.size 3 (wr.alloc (.cells #[.int .i64 0, .int .i64 0, .slice none 0 0] 38)).drew := (Room.lit wr _ _ 3 (Nat.le_refl _)).below hDr (by rw [World.size_alloc]; omega)
        go_simp
        refine hK.out _ _ ⟨hp7.x0, hp7.x1, hp7.x2⟩ (fun hHeld => ?_)
        clear hK K
        (try simp only [Act.put, List.setIfInBounds_toArray, List.set_cons_zero, List.set_cons_succ])
        refine wpAnyH_ready (rs := [3]) (by kernel_rfl) (by simp) ?_
        refine AllReadyH.cons (o := { dst := some 21, op := Go.Op.call { callee := Go.Callee.value (Go.Operand.func 55), args := #[Go.Operand.tmp 19, Go.Operand.tmp 20], argTypes := #[52, 26] }, type := 23, pos := "l5_draw.go:161", after := #[{ on := 1, ground := Go.Ground.data }, { on := 2, ground := Go.Ground.data }], guard := none }) rfl (fun K hK => ?_) AllReadyH.nil
        go_simp
        go_at_call 55
        with_reducible refine (order_any w0 b _ a len cap gap a' np cap' f (wr.alloc (.cells #[.int .i64 0, .int .i64 0, .slice none 0 0] 38)).drew (by omega) hp7.cur (trainsAt hT hp7.cur) hnp hn10).mono ?_
        rintro _ w5 ⟨v5, D5, rfl, hown5, hlen5, hC5, hM5⟩
        have hp5 := hp7.turn hM5 hC5 hbw
        obtain ⟨oa, oc, rfl, hO5⟩ := ownInts hown5
        have hlen5' : Hid _ := hlen5
        clear hlen5
        go_wp2_with fail
        refine hK.out _ _ ⟨hp5.x0, hp5.x1, hp5.x2⟩ (fun hHeld => ?_)
        clear hK K
        (try simp only [Act.put, List.setIfInBounds_toArray, List.set_cons_zero, List.set_cons_succ])
        refine wpAnyH_ready (rs := [4]) (by kernel_rfl) (by simp) ?_
        refine AllReadyH.cons (o := { dst := some 22, op := Go.Op.call { callee := Go.Callee.value (Go.Operand.func 54), args := #[Go.Operand.tmp 18, Go.Operand.tmp 21], argTypes := #[26, 23] }, type := 38, pos := "l5_draw.go:161", after := #[{ on := 0, ground := Go.Ground.data }, { on := 3, ground := Go.Ground.data }, { on := 3, ground := Go.Ground.chain }], guard := none }) rfl (fun K hK => ?_) AllReadyH.nil
        go_simp
        go_at_call 54
        with_reducible refine (specPlace_any a len cap g gap a' np cap' f oa D5.length oc (gI D5) w5 hl hl' hml (by rw [hlen5'.out]; omega) (intsAt hI hp5.cur) (trainsAt hT hp5.cur) (hO5.mono (Nat.zero_le _) (Nat.le_refl _))).mono ?_
        rintro _ w6 ⟨⟨v6, rfl, hPl6⟩, hB6⟩
        have hp6 := hp5.later hB6
        generalize placeSt len g gap np f D5.length (gI D5) = st6 at *
        have hleg5 : Hid _ := hn10
        rcases placed_liesU hPl6 with ⟨c6, nc6, rfl, hown6, hn6⟩ | ⟨hz6, rfl⟩
        · clear hPl6
          go_wp2_with fail
          refine hK.out _ _ ⟨hp6.x0, hp6.x1, hp6.x2⟩ (fun hHeld => ?_)
          clear hK K
          (try simp only [Act.put, List.setIfInBounds_toArray, List.set_cons_zero, List.set_cons_succ])
          have hRq : Room wr.heap.size 3 w6 := (hR7.keep hM5).below hB6 (Nat.lt_of_lt_of_le hsz7 hM5.below.size)
          have hqw : w.heap.size + 2 ≤ wr.heap.size := by have := hp.lt; omega
          obtain ⟨r0, rm0, rz0⟩ := hRq 0 (by omega)
          obtain ⟨r1, rm1, rz1⟩ := hRq 1 (by omega)
          obtain ⟨r2, rm2, rz2⟩ := hRq 2 (by omega)
          have hpV := ((hp6.set (p := ⟨wr.heap.size, 0, none⟩) hqw hbw (.int .i64 0)).set (p := ⟨wr.heap.size, 1, none⟩) hqw hbw (.int .i64 (st6.at_ : Int))).set (p := ⟨wr.heap.size, 2, none⟩) hqw hbw (.slice c6 np nc6)
          have hql : wr.heap.size < _ := (show wr.heap.size < w5.heap.size from Nat.lt_of_lt_of_le hsz7 hM5.below.size)
          have hO' := ((hown6.set (p := ⟨wr.heap.size, 0, none⟩) (x := (.int .i64 0)) hql).set (p := ⟨wr.heap.size, 1, none⟩) (x := (.int .i64 (st6.at_ : Int))) hql).set (p := ⟨wr.heap.size, 2, none⟩) (x := (.slice c6 np nc6)) hql
          refine wpAnyH_ready (rs := [6]) (by kernel_rfl) (by simp) ?_
          refine AllReadyH.cons (o := { dst := none, op := Go.Op.store 38 (Go.Operand.tmp 6) (Go.Operand.tmp 22), type := 0, pos := "l5_draw.go:161", after := #[{ on := 5, ground := Go.Ground.data }, { on := 4, ground := Go.Ground.data }, { on := 4, ground := Go.Ground.chain }, { on := 0, ground := Go.Ground.phase }, { on := 1, ground := Go.Ground.phase }, { on := 2, ground := Go.Ground.phase }, { on := 3, ground := Go.Ground.phase }, { on := 4, ground := Go.Ground.phase }, { on := 5, ground := Go.Ground.phase }], guard := none }) rfl (fun K hK => ?_) AllReadyH.nil
          go_simp
          refine hK.out _ _ ⟨hpV.x0, hpV.x1, hpV.x2⟩ (fun hHeld => ?_)
          clear hK K
          (try simp only [Act.put, List.setIfInBounds_toArray, List.set_cons_zero, List.set_cons_succ])
          refine wpAnyH_done (by kernel_rfl) ?_ _
          have t0 : (((w6.setCell ⟨wr.heap.size, 0, none⟩ (.int .i64 0)).setCell ⟨wr.heap.size, 1, none⟩ (.int .i64 (st6.at_ : Int))).setCell ⟨wr.heap.size, 2, none⟩ (.slice c6 np nc6)).cell? ⟨wr.heap.size, 0, none⟩ = some (.int .i64 0) := (cell_set_ne (by omega)).trans ((cell_set_ne (by omega)).trans (World.cell?_setCell_same _ _ _ rm0))
          have t2 : (((w6.setCell ⟨wr.heap.size, 0, none⟩ (.int .i64 0)).setCell ⟨wr.heap.size, 1, none⟩ (.int .i64 (st6.at_ : Int))).setCell ⟨wr.heap.size, 2, none⟩ (.slice c6 np nc6)).cell? ⟨wr.heap.size, 2, none⟩ = some (.slice c6 np nc6) := World.cell?_setCell_same _ _ _ ((cell_set_ne (by omega)).trans ((cell_set_ne (by omega)).trans rm2))
          clear hRq r0 rm0 rz0 r1 rm1 rz1 r2 rm2 rz2
          obtain ⟨s0, sm0, sz0⟩ := hpV.room 0 (by omega)
          have hn6' : Hid _ := hn6
          clear hn6 hown6
          go_wp2
          refine bodyPost_ret (v := .agg #[.slice c6 np nc6]) (by simp [results, Tryz.results20, go_sem, sm0]) rfl ⟨c6, np, nc6, st6.P, rfl, hnp, hn6'.out, (hO'.set (p := ⟨w.heap.size + 1, 0, none⟩) (by dsimp only; omega)).low (by omega), (hpV.cur.set ⟨w.heap.size + 1, 0, none⟩ (by dsimp only; omega) _).more (by have := hleg5.out; omega), hpV.mid.setNew ⟨w.heap.size + 1, 0, none⟩ (by dsimp only; omega) (by omega) _⟩
        · clear hPl6
          go_wp2_with fail
          refine hK.out _ _ ⟨hp6.x0, hp6.x1, hp6.x2⟩ (fun hHeld => ?_)
          clear hK K
          (try simp only [Act.put, List.setIfInBounds_toArray, List.set_cons_zero, List.set_cons_succ])
          have hRq : Room wr.heap.size 3 w6 := (hR7.keep hM5).below hB6 (Nat.lt_of_lt_of_le hsz7 hM5.below.size)
          have hqw : w.heap.size + 2 ≤ wr.heap.size := by have := hp.lt; omega
          obtain ⟨r0, rm0, rz0⟩ := hRq 0 (by omega)
          obtain ⟨r1, rm1, rz1⟩ := hRq 1 (by omega)
          obtain ⟨r2, rm2, rz2⟩ := hRq 2 (by omega)
          have hpV := ((hp6.set (p := ⟨wr.heap.size, 0, none⟩) hqw hbw (.int .i64 st6.code)).set (p := ⟨wr.heap.size, 1, none⟩) hqw hbw (.int .i64 (st6.at_ : Int))).set (p := ⟨wr.heap.size, 2, none⟩) hqw hbw (.slice none 0 0)
          refine wpAnyH_ready (rs := [6]) (by kernel_rfl) (by simp) ?_
          refine AllReadyH.cons (o := { dst := none, op := Go.Op.store 38 (Go.Operand.tmp 6) (Go.Operand.tmp 22), type := 0, pos := "l5_draw.go:161", after := #[{ on := 5, ground := Go.Ground.data }, { on := 4, ground := Go.Ground.data }, { on := 4, ground := Go.Ground.chain }, { on := 0, ground := Go.Ground.phase }, { on := 1, ground := Go.Ground.phase }, { on := 2, ground := Go.Ground.phase }, { on := 3, ground := Go.Ground.phase }, { on := 4, ground := Go.Ground.phase }, { on := 5, ground := Go.Ground.phase }], guard := none }) rfl (fun K hK => ?_) AllReadyH.nil
          go_simp
          refine hK.out _ _ ⟨hpV.x0, hpV.x1, hpV.x2⟩ (fun hHeld => ?_)
          clear hK K
          (try simp only [Act.put, List.setIfInBounds_toArray, List.set_cons_zero, List.set_cons_succ])
          refine wpAnyH_done (by kernel_rfl) ?_ _
          have t0 : (((w6.setCell ⟨wr.heap.size, 0, none⟩ (.int .i64 st6.code)).setCell ⟨wr.heap.size, 1, none⟩ (.int .i64 (st6.at_ : Int))).setCell ⟨wr.heap.size, 2, none⟩ (.slice none 0 0)).cell? ⟨wr.heap.size, 0, none⟩ = some (.int .i64 st6.code) := (cell_set_ne (by omega)).trans ((cell_set_ne (by omega)).trans (World.cell?_setCell_same _ _ _ rm0))
          have t2 : (((w6.setCell ⟨wr.heap.size, 0, none⟩ (.int .i64 st6.code)).setCell ⟨wr.heap.size, 1, none⟩ (.int .i64 (st6.at_ : Int))).setCell ⟨wr.heap.size, 2, none⟩ (.slice none 0 0)).cell? ⟨wr.heap.size, 2, none⟩ = some (.slice none 0 0) := World.cell?_setCell_same _ _ _ ((cell_set_ne (by omega)).trans ((cell_set_ne (by omega)).trans rm2))
          clear hRq r0 rm0 rz0 r1 rm1 rz1 r2 rm2 rz2
          have hzb : (st6.code == 0) = false := by simpa using hz6
          clear hz6
          go_wp2
          go_roundw
          case rel => exact ⟨i + 1, by omega, by go_num, hpV.more (by have := hleg5.out; omega)⟩
          case measure => simp [intOf]; omega
    · obtain rfl : i = 5 := by omega
      have x2 := hp.x2
      have hA7 := b1 wr (.cells #[.slice none 0 0] 30)
      have x2' := (hp.later hA7).x2
      have hq7 : (wr.alloc (.cells #[.slice none 0 0] 30)).cell? ⟨wr.heap.size, 0, none⟩ = some (.slice none 0 0) := by simp
      have hz7 : (wr.alloc (.cells #[.slice none 0 0] 30)).frozen? ⟨wr.heap.size, 0, none⟩ = false := by simp
      go_wp2
      rename_i Kz az
      refine plan_rows wr.heap.size a' np cap' f wr _ Kz _ ?_ hnp h10 (trainsAt hT hp.cur) rfl hA7 hq7 hz7
      intro u9 u10 u11 u13 u31 u32 u33 u34 u35 u36 u37 u38 u39 u40 u41 u42 u43 u44 u45 u46 u47 u48 u49 u50 u51 u52 u53 u54 u55 u56 u57 u58 u59 u60 u61 u62 u63 wz vS v P hP10 hR hBz
      refine az _ _ ?_
      clear az
      obtain ⟨c, nc, rfl, hO⟩ := hR.ownP
      have hpE := hp.later hBz
      obtain ⟨s0, sm0, sz0⟩ := hpE.room 0 (by omega)
      have q0 := hR.c
      have hP10' : Hid _ := hP10
      have lt0 := hp.lt
      clear hP10 hR x2 x2' hq7 hz7
      go_wp2
      refine bodyPost_ret (v := .agg #[.slice c np nc]) (by simp [results, Tryz.results20, go_sem, sm0]) rfl ⟨c, np, nc, P, rfl, hnp, hP10'.out, (hO.set (p := ⟨w.heap.size + 1, 0, none⟩) (by dsimp only; omega)).low (by omega), (hpE.cur.set ⟨w.heap.size + 1, 0, none⟩ (by dsimp only; omega) _).more (by omega), hpE.mid.setNew ⟨w.heap.size + 1, 0, none⟩ (by dsimp only; omega) (by omega) _⟩
end Go.Proofs.YtelickcfodcmaaaGreatDoor

namespace Go.Proofs.YtelickcfodcmaaaGreatDoor
open Go.RowKit

/-- rows of a plan of its own, all of them below hi -/
def OwnU (hi B0 : Nat) (W : World) (c : Option Addr) (np : Nat) (P : Nat → RowD) : Prop := ∃ (gR : Nat) (v : Nat → Value), B0 ≤ gR ∧
  (∀ j, j < np → c = some ⟨gR, 0, none⟩ ∧ W.cell? ⟨gR, j, none⟩ = some (v j) ∧ W.frozen? ⟨gR, j, none⟩ = false) ∧ (∀ j, j < np → W.ownsRow B0 3 1 (v j) (P j).n (rowCells (P j))) ∧
  (∀ j k, j < np → k < np → j ≠ k → Apart (v j) (v k)) ∧ (∀ j, j < np → (v j).ownBlock ≠ some gR) ∧ ∀ j, j < np → gR < hi ∧ ∀ x, (v j).ownBlock = some x → x < hi
section
variable {hi B0 : Nat} {W : World} {c : Option Addr} {np : Nat} {P : Nat → RowD}
theorem OwnP.under (h : OwnP B0 W c np P) : OwnU W.heap.size B0 W c np P := by
  obtain ⟨gR, v, h1, h2, h3, h4, h5⟩ := h
  exact ⟨gR, v, h1, h2, h3, h4, h5, fun j hj => ⟨ltCell (h2 j hj).2.1, fun x hx => ((h3 j hj).lt x hx).2⟩⟩
theorem OwnU.own (h : OwnU hi B0 W c np P) : OwnP B0 W c np P := by
  obtain ⟨gR, v, h1, h2, h3, h4, h5, _⟩ := h
  exact ⟨gR, v, h1, h2, h3, h4, h5⟩
theorem OwnU.same (h : OwnU hi B0 W c np P) {W' : World} (hs : ∀ k, B0 ≤ k → k < hi → W'.heap[k]? = W.heap[k]?) : OwnU hi B0 W' c np P := by
  obtain ⟨gR, v, h1, h2, h3, h4, h5, h6⟩ := h
  refine ⟨gR, v, h1, fun j hj => ?_, fun j hj => ?_, h4, h5, h6⟩
  · obtain ⟨e, hc, hz⟩ := h2 j hj
    have hb := hs gR h1 (h6 j hj).1
    exact ⟨e, (World.cell?_of_block (w := W) (w' := W') (a := ⟨gR, j, none⟩) hb).trans hc, (World.frozen?_of_block (w := W) (w' := W') (a := ⟨gR, j, none⟩) hb).trans hz⟩
  · exact ownsRow_same (h3 j hj) (fun x hx => hs x ((h3 j hj).lt x hx).1 ((h6 j hj).2 x hx))
theorem OwnU.row (h : OwnU hi B0 W c np P) {i : Nat} (hi' : i < np) : ∃ gR ya cap, c = some ⟨gR, 0, none⟩ ∧ W.cell? ⟨gR, i, none⟩ = some (.slice ya (P i).n cap) := by
  obtain ⟨gR, v, h1, h2, h3, _⟩ := h
  obtain ⟨e, hc, _⟩ := h2 i hi'
  rcases (h3 i hi').2 with ⟨e0, h0⟩ | ⟨g, cp, cur, e0, _⟩
  · exact ⟨gR, none, 0, e, by rw [hc, e0, h0]⟩
  · exact ⟨gR, some ⟨g, 0, none⟩, cp, e, by rw [hc, e0]⟩
theorem OwnU.put (h : OwnU hi B0 W c np P) {i m : Nat} (hi' : i < np) (hm : m < (P i).n) :
    ∃ gR g cap, c = some ⟨gR, 0, none⟩ ∧ W.cell? ⟨gR, i, none⟩ = some (.slice (some ⟨g, 0, none⟩) (P i).n cap) ∧ W.cell? ⟨g, m, none⟩ = some (.int .i64 ((P i).s m)) ∧ W.frozen? ⟨g, m, none⟩ = false ∧ B0 ≤ g ∧ g < hi ∧ ∀ x, OwnU hi B0 (W.setCell ⟨g, m, none⟩ (.int .i64 x)) c np (putP P i m x) := by
  obtain ⟨gR, v, h1, h2, h3, h4, h5, h6⟩ := h
  obtain ⟨e, hc, hz⟩ := h2 i hi'
  have ho := h3 i hi'
  rcases ho.2 with ⟨e0, h0⟩ | ⟨g, cp, cur, e0, hb, hg, _⟩
  · omega
  · have ho' := ho
    rw [e0] at ho'
    have hgR : g ≠ gR := fun e2 => h5 i hi' (by rw [e0, ← e2]; rfl)
    refine ⟨gR, g, cp, e, by rw [hc, e0], by rw [ho'.cellAt m (by omega)]; exact rowCells_at _ _ hm, ho'.frozenAt m, (ho'.lt g rfl).1, (h6 i hi').2 g (by rw [e0]; rfl), fun x => ⟨gR, v, h1, fun j hj => ?_, fun j hj => ?_, h4, h5, h6⟩⟩
    · obtain ⟨e3, hc3, hz3⟩ := h2 j hj
      exact ⟨e3, (World.cell?_of_block (a := ⟨gR, j, none⟩) (Below.heap_setCell W ⟨g, m, none⟩ _ gR (fun e2 => hgR e2.symm))).trans hc3, (World.frozen?_setCell ..).trans hz3⟩
    · rw [putP_n]
      by_cases ej : j = i
      · subst ej
        rw [rowCells_put, e0]
        exact ownsRow_put ho' m _
      · rw [putP_other ej]
        refine ownsRow_setCell_other (h3 j hj) (fun e2 => ?_) _
        rcases h4 j i hj hi' ej with e3 | e3
        · rw [e3] at e2; cases e2
        · exact e3 (e2.trans (by rw [e0]; rfl))
end
/-- how it stands within spec.APlan: the plan's box at block q, its rows below it, the box of choices at block b below these -/
structure ShI (w : World) (b k q : Nat) (c : Option Addr) (n nc : Nat) (P : Nat → RowD) (W : World) : Prop where
  cur : Cur w b k W
  own : OwnU q (b + 1) W c n P
  cq : W.cell? ⟨q, 0, none⟩ = some (.slice c n nc)
  room : Room (w.heap.size + 1) 1 W
  bw : b = w.heap.size + 2
  bq : b < q
section
variable {w W W' : World} {b k k' q : Nat} {c : Option Addr} {n nc : Nat} {P : Nat → RowD}
theorem ShI.turn (h : ShI w b k q c n nc P W) (hM : Mid b (b + 1) W W') (hC : Cur w b k' W') : ShI w b k' q c n nc P W' :=
  ⟨hC, h.own.same (fun x hx hq => hM.above x (by omega) (Nat.lt_trans hq (ltCell h.cq))), (World.cell?_of_block (w := W) (w' := W') (a := ⟨q, 0, none⟩) (hM.above q (by have := h.bq; omega) (ltCell h.cq))).trans h.cq, h.room.keep hM, h.bw, h.bq⟩
theorem ShI.more (h : ShI w b k q c n nc P W) (hk : k ≤ k') : ShI w b k' q c n nc P W := ⟨h.cur.more hk, h.own, h.cq, h.room, h.bw, h.bq⟩
theorem ShI.put (h : ShI w b k q c n nc P W) {g m i : Nat} {x : Int} (hg : b + 1 ≤ g) (hgq : g < q) (ho : OwnU q (b + 1) (W.setCell ⟨g, m, none⟩ (.int .i64 x)) c n (putP P i m x)) : ShI w b k q c n nc (putP P i m x) (W.setCell ⟨g, m, none⟩ (.int .i64 x)) :=
  ⟨h.cur.set ⟨g, m, none⟩ (by dsimp only; omega) _, ho, (World.cell?_of_block (a := ⟨q, 0, none⟩) (Below.heap_setCell W ⟨g, m, none⟩ _ q (by dsimp only; omega))).trans h.cq, h.room.set ⟨g, m, none⟩ _, h.bw, h.bq⟩
end
/-- what it answers -/
def APlanPost (w : World) (e : Ending) (w' : World) : Prop := ∃ c n nc P, e = .returned (.agg #[.slice c n nc]) ∧ n ≤ 5 ∧ (∀ j, j < n → (P j).n ≤ 10) ∧ OwnP w.heap.size w' c n P ∧ Below w.heap.size w w'
set_option maxRecDepth 20000 in
set_option maxHeartbeats 8000000 in
theorem aplan_any (a : Option Addr) (len cap : Nat) (g : Nat → Int) (gap : Int) (a' : Option Addr) (np cap' : Nat) (f : Nat → TrainD) (ma : Option Addr) (ml mc : Nat) (w : World) (hml : ml ≤ 1048576) (hM : IsB w ma ml) (hl : len ≤ 1048576) (hnp : np ≤ 5) (h10 : ∀ j, j < np → (f j).nl ≤ 10) (hn10 : legSum f np ≤ 10)
    (hI : IsInts 0 w.heap.size w a len g) (hT : IsTrains 0 w.heap.size w a' np f) :
    Calls Tryz.prog 6 #[.agg #[.slice a len cap, .int .i64 gap, .slice a' np cap'], .slice ma ml mc] w (APlanPost w) := by
  have hA1 := b1 w (.cells #[.slice a len cap, .int .i64 gap, .slice a' np cap'] 26)
  obtain ⟨n0, n1, n2⟩ := new3 w (.slice a len cap) (.int .i64 gap) (.slice a' np cap') 26
  have hA2 := b1 (w.alloc (.cells #[.slice a len cap, .int .i64 gap, .slice a' np cap'] 26)) (.cells #[.slice none 0 0] 30)
  have hA := Below.join hA1 (Nat.le_refl _) hA2
  have hRm : Room (w.heap.size + 1) 1 ((w.alloc (.cells #[.slice a len cap, .int .i64 gap, .slice a' np cap'] 26)).alloc (.cells #[.slice none 0 0] 30)) := by
    have h := Room.lit (w.alloc (.cells #[.slice a len cap, .int .i64 gap, .slice a' np cap'] 26)) #[.slice none 0 0] 30 1 (Nat.le_refl _)
    rwa [World.size_alloc] at h
  have hC := Cur.new w _ (w.heap.size + 2) ma ml mc 55 hml hM hA (by rw [World.size_alloc, World.size_alloc])
  have hA3 := b1 ((w.alloc (.cells #[.slice a len cap, .int .i64 gap, .slice a' np cap'] 26)).alloc (.cells #[.slice none 0 0] 30)) (.cells #[.slice ma ml mc, .int .i64 0, .int .u64 0] 55)
  have hRm3 := hRm.below hA3 (by simp only [World.size_alloc]; omega)
  replace n0 := cellLater hA3 (cellLater hA2 n0)
  replace n1 := cellLater hA3 (cellLater hA2 n1)
  replace n2 := cellLater hA3 (cellLater hA2 n2)
  have hP := plan_any w (w.heap.size + 2) 0 a len cap g gap a' np cap' f _ (Nat.zero_le _) hC hl hnp (fun j hj => by have := h10 j hj; omega) hn10 h10 hI hT
  clear hA1 hA2 hA3 hA hRm hC
  go_enter Tryz.func6, Tryz.ntmps6
  go_wp2_with (go_at_call 20; fail)
  refine hP.mono ?_
  rintro _ w5 ⟨c, n, nc, P, rfl, hn5, hP10, hown, hC5, hM5⟩
  rw [World.size_alloc, World.size_alloc, World.size_alloc] at hown
  have hA5 := b1 w5 (.cells #[.slice c n nc] 30)
  have hs0 : ShI w (w.heap.size + 2) 200 w5.heap.size c n nc P (w5.alloc (.cells #[.slice c n nc] 30)) :=
    ⟨(hC5.later hA5).more (by omega), (hown.under).same (fun k _ hk => hA5.block k hk), by simp, (hRm3.keep hM5).below hA5 (by have := hC5.lt; omega), rfl, hC5.lt⟩
  have cq0 := hs0.cq
  clear hP hRm3 n0 n1 n2 hown hC5 hM5 hA5
  go_wp2
  go_loopw [19] (fun c19 wr => ∃ (i : Nat) (P : Nat → RowD), i ≤ n ∧ c19 = .int .i64 i ∧ (∀ j, j < n → (P j).n ≤ 10) ∧ ShI w (w.heap.size + 2) (200 + 4 * i) w5.heap.size c n nc P wr) (fun c19 _ => n - (intOf c19).toNat)
  case atStart => exact ⟨0, P, Nat.zero_le _, rfl, hP10, hs0⟩
  case round =>
    clear hP10 hs0 cq0
    obtain ⟨i, P, hi, rfl, hP10, hs⟩ := hrel
    by_cases hlt : i < n
    · have hlt' : (i : Int) < (n : Int) := by omega
      have hi0 : (0 : Int) ≤ (i : Int) := by omega
      go_wp2_with (go_at_call 21; fail)
      refine (pick_any w (w.heap.size + 2) _ 6 wr (by omega) (by omega) hs.cur).mono ?_
      rintro _ w6 ⟨x6, rfl, _, _, hC6, hM6⟩
      have hs6 := hs.turn hM6 hC6
      go_wp2_with (go_at_call 21; fail)
      refine (pick_any w (w.heap.size + 2) _ 2 w6 (by omega) (by omega) hs6.cur).mono ?_
      rintro _ w7 ⟨x7, rfl, _, _, hC7, hM7⟩
      have hs7 := hs6.turn hM7 hC7
      clear hs hs6 hC6 hM6 hC7 hM7
      obtain ⟨gR, ya, yc, rfl, r0⟩ := hs7.own.row hlt
      have q0 := hs7.cq
      have hPi := hP10 i hlt
      have hP10' : Hid _ := hP10
      clear hP10
      go_wp2
      clear r0 q0
      go_loopw [33] (fun c33 wq => ∃ (m : Nat) (P' : Nat → RowD), m ≤ (P i).n ∧ c33 = .int .i64 m ∧ (∀ j, (P' j).n = (P j).n) ∧ ShI w (w.heap.size + 2) (200 + 4 * i + 2 + 2) w5.heap.size (some ⟨gR, 0, none⟩) n nc P' wq) (fun c33 _ => (P i).n - (intOf c33).toNat)
      case atStart => exact ⟨0, P, Nat.zero_le _, rfl, fun _ => rfl, hs7⟩
      case round =>
        clear hs7
        obtain ⟨m, P', hm, rfl, hPn, hs⟩ := hrel
        by_cases hmlt : m < (P i).n
        · have hmlt' : (m : Int) < ((P i).n : Int) := by omega
          have hm0 : (0 : Int) ≤ (m : Int) := by omega
          obtain ⟨gR', g', cp', e', r0, r1, rz, hBg, hgq, hput⟩ := hs.own.put hlt (m := m) (by rw [hPn]; exact hmlt)
          cases e'
          rw [hPn] at r0
          have q0 := hs.cq
          have hPn' : Hid _ := hPn
          have hput' : Hid _ := hput
          clear hPn hput
          go_wp2
          go_roundw
          case rel => exact ⟨m + 1, putP P' i m _, by omega, rfl, fun j => by rw [putP_n]; exact hPn'.out j, hs.put hBg hgq (hput'.out _)⟩
          case measure => simp only [intOf]; omega
        · obtain rfl : m = (P i).n := by omega
          have hPn' : Hid _ := hPn
          clear hPn
          go_wp2
          go_roundw
          case rel => exact ⟨i + 1, P', by omega, rfl, fun j hj => by rw [hPn'.out j]; exact hP10'.out j hj, hs.more (by omega)⟩
          case measure => simp only [intOf]; omega
    · obtain rfl : i = n := by omega
      have q0 := hs.cq
      obtain ⟨s0, sm0, sz0⟩ := hs.room 0 (by omega)
      have hP10' : Hid _ := hP10
      clear hP10
      go_wp2
      refine bodyPost_ret (v := .agg #[.slice c i nc]) (by simp [results, Tryz.results6, go_sem, sm0]) rfl ⟨c, i, nc, P, rfl, hn5, hP10'.out, (hs.own.own.set (p := ⟨w.heap.size + 1, 0, none⟩) (by dsimp only; omega)).low (by omega), hs.cur.base.setCell (p := ⟨w.heap.size + 1, 0, none⟩) (by dsimp only; omega) _⟩
end Go.Proofs.YtelickcfodcmaaaGreatDoor

namespace Go.Proofs.YtelickcfodcmaaaGreatDoor
open Go.RowKit

def restRow (P : Nat → RowD) (i a : Nat) : List HoldD := (List.range ((P i).n - a)).map fun j => ⟨i, (P i).s (a + j), 0⟩
def restAll (P : Nat → RowD) (nx : Nat → Nat) : Nat → List HoldD
  | 0 => []
  | i + 1 => restAll P nx i ++ restRow P i (nx i)
def begunRow (P : Nat → RowD) (i : Nat) : Nat → List HoldD
  | 0 => []
  | k + 1 => begunRow P i k ++ [⟨i, (P i).s k, 0⟩]
def begunAll (P : Nat → RowD) : Nat → List HoldD
  | 0 => []
  | i + 1 => begunAll P i ++ begunRow P i (P i).n
theorem begunRow_eq (P : Nat → RowD) (i : Nat) : ∀ k, begunRow P i k = (List.range k).map fun j => ⟨i, (P i).s j, 0⟩
  | 0 => rfl
  | k + 1 => by simp [begunRow, begunRow_eq P i k, List.range_succ]
theorem begunAll_eq (P : Nat → RowD) : ∀ n, begunAll P n = restAll P (fun _ => 0) n
  | 0 => rfl
  | n + 1 => by simp [begunAll, restAll, begunAll_eq P n, begunRow_eq, restRow]
theorem begunRow_len (P : Nat → RowD) (i : Nat) : ∀ k, (begunRow P i k).length = k
  | 0 => rfl
  | k + 1 => by simp [begunRow, begunRow_len P i k]
def rowSum (P : Nat → RowD) : Nat → Nat
  | 0 => 0
  | i + 1 => rowSum P i + (P i).n
theorem begunAll_len (P : Nat → RowD) : ∀ n, (begunAll P n).length = rowSum P n
  | 0 => rfl
  | n + 1 => by simp [begunAll, rowSum, begunAll_len P n, begunRow_len]

/-- by when, then by train -/
def ltH (x y : HoldD) : Bool := decide (x.frm < y.frm ∨ (x.frm = y.frm ∧ x.tr < y.tr))

/-- the train whose next leg begins first, among the first so many; -1 when none has a leg left -/
def bestI (P : Nat → RowD) (nx : Nat → Nat) : Nat → Int
  | 0 => -1
  | i + 1 => if nx i < (P i).n ∧ (bestI P nx i < 0 ∨ (P i).s (nx i) < (P (bestI P nx i).toNat).s (nx (bestI P nx i).toNat)) then (i : Int) else bestI P nx i
def bump (nx : Nat → Nat) (b : Nat) : Nat → Nat := fun i => if i = b then nx i + 1 else nx i
def nxAt (P : Nat → RowD) (n : Nat) : Nat → Nat → Nat
  | 0 => fun _ => 0
  | k + 1 => bump (nxAt P n k) (bestI P (nxAt P n k) n).toNat
def outAt (P : Nat → RowD) (n : Nat) : Nat → List Nat
  | 0 => []
  | k + 1 => outAt P n k ++ [(bestI P (nxAt P n k) n).toNat]
theorem outAt_len (P : Nat → RowD) (n : Nat) : ∀ k, (outAt P n k).length = k
  | 0 => rfl
  | k + 1 => by simp [outAt, outAt_len P n k]

theorem bestI_lt (P : Nat → RowD) (nx : Nat → Nat) : ∀ n, bestI P nx n < n ∧ -1 ≤ bestI P nx n
  | 0 => by simp [bestI]
  | n + 1 => by
    have h := bestI_lt P nx n
    simp only [bestI]
    split
    · omega
    · omega
theorem bestI_none (P : Nat → RowD) (nx : Nat → Nat) : ∀ n, bestI P nx n < 0 → ∀ i, i < n → (P i).n ≤ nx i
  | 0, _, i, h => by omega
  | n + 1, hb, i, hi => by
    simp only [bestI] at hb
    split at hb
    · omega
    · rename_i hc
      by_cases e : i = n
      · subst e
        rcases Nat.lt_or_ge (nx i) (P i).n with h | h
        · exact absurd ⟨h, Or.inl hb⟩ hc
        · exact h
      · exact bestI_none P nx n hb i (by omega)
/-- what is picked has a leg left, and none begins before it, nor at once with a lower number -/
theorem bestI_min (P : Nat → RowD) (nx : Nat → Nat) : ∀ n, 0 ≤ bestI P nx n → nx (bestI P nx n).toNat < (P (bestI P nx n).toNat).n ∧
    ∀ i, i < n → nx i < (P i).n → (P (bestI P nx n).toNat).s (nx (bestI P nx n).toNat) < (P i).s (nx i) ∨ ((P (bestI P nx n).toNat).s (nx (bestI P nx n).toNat) = (P i).s (nx i) ∧ (bestI P nx n).toNat ≤ i)
  | 0, h => by simp [bestI] at h
  | n + 1, h => by
    have hl := bestI_lt P nx n
    simp only [bestI] at h ⊢
    split
    · rename_i hc
      refine ⟨by simpa using hc.1, fun i hi hn => ?_⟩
      simp only [Int.toNat_natCast]
      by_cases e : i = n
      · subst e; right; exact ⟨rfl, Nat.le_refl _⟩
      · rcases hc.2 with h0 | h0
        · have := bestI_none P nx n h0 i (by omega); omega
        · have hb : 0 ≤ bestI P nx n := by
            rcases Int.lt_or_le (bestI P nx n) 0 with h1 | h1
            · have := bestI_none P nx n h1 i (by omega); omega
            · exact h1
          rcases (bestI_min P nx n hb).2 i (by omega) hn with h2 | h2
          · left; omega
          · left; omega
    · rename_i hc
      rw [if_neg hc] at h
      refine ⟨(bestI_min P nx n h).1, fun i hi hn => ?_⟩
      by_cases e : i = n
      · subst e
        have : ¬ ((P i).s (nx i) < (P (bestI P nx i).toNat).s (nx (bestI P nx i).toNat)) := fun h' => hc ⟨hn, Or.inr h'⟩
        rcases Int.lt_or_le ((P (bestI P nx i).toNat).s (nx (bestI P nx i).toNat)) ((P i).s (nx i)) with h2 | h2
        · left; exact h2
        · right; refine ⟨by omega, by omega⟩
      · exact (bestI_min P nx n h).2 i (by omega) hn

theorem restRow_cons {P : Nat → RowD} {i a : Nat} (h : a < (P i).n) : restRow P i a = ⟨i, (P i).s a, 0⟩ :: restRow P i (a + 1) := by
  unfold restRow
  rw [show (P i).n - a = (P i).n - (a + 1) + 1 by omega, List.range_succ_eq_map]
  simp only [List.map_cons, List.map_map, Nat.add_zero, List.cons.injEq, true_and]
  apply List.map_congr_left
  intro j _
  simp only [Function.comp]
  rw [show a + (j + 1) = a + 1 + j by omega]
theorem mem_restRow {P : Nat → RowD} {i a : Nat} {x : HoldD} (h : x ∈ restRow P i a) : ∃ k, a ≤ k ∧ k < (P i).n ∧ x = ⟨i, (P i).s k, 0⟩ := by
  unfold restRow at h
  simp only [List.mem_map, List.mem_range] at h
  obtain ⟨j, hj, rfl⟩ := h
  exact ⟨a + j, by omega, by omega, rfl⟩
theorem mem_restAll {P : Nat → RowD} {nx : Nat → Nat} {x : HoldD} : ∀ {n : Nat}, x ∈ restAll P nx n → ∃ i k, i < n ∧ nx i ≤ k ∧ k < (P i).n ∧ x = ⟨i, (P i).s k, 0⟩
  | 0, h => by simp [restAll] at h
  | n + 1, h => by
    simp only [restAll, List.mem_append] at h
    rcases h with h | h
    · obtain ⟨i, k, h0, h1, h2, h3⟩ := mem_restAll h
      exact ⟨i, k, by omega, h1, h2, h3⟩
    · obtain ⟨k, h1, h2, h3⟩ := mem_restRow h
      exact ⟨n, k, by omega, h1, h2, h3⟩
theorem restAll_congr {P : Nat → RowD} {nx nx' : Nat → Nat} : ∀ {n : Nat}, (∀ i, i < n → nx i = nx' i) → restAll P nx n = restAll P nx' n
  | 0, _ => rfl
  | n + 1, h => by simp only [restAll]; rw [restAll_congr (fun i hi => h i (by omega)), h n (by omega)]
theorem restAll_bump {P : Nat → RowD} {nx : Nat → Nat} {b : Nat} (hb : nx b < (P b).n) : ∀ {n : Nat}, b < n → (restAll P nx n).Perm (⟨b, (P b).s (nx b), 0⟩ :: restAll P (bump nx b) n)
  | 0, h => by omega
  | n + 1, h => by
    simp only [restAll]
    by_cases e : b = n
    · subst e
      rw [restRow_cons hb, show bump nx b b = nx b + 1 by simp [bump], restAll_congr (nx := nx) (nx' := bump nx b) (fun i hi => by simp [bump]; omega)]
      exact List.perm_middle
    · rw [show bump nx b n = nx n by simp [bump]; omega]
      exact (restAll_bump hb (n := n) (by omega)).append_right _

/-- picked one by one they are as sorted -/
theorem out_sorted {P : Nat → RowD} {n : Nat} (hup : ∀ i, i < n → ∀ k, k + 1 < (P i).n → (P i).s k < (P i).s (k + 1)) {L : List HoldD} (hp : L.Perm (begunAll P n)) (hs : L.Pairwise (fun x y => ltH y x = false)) :
    ∀ k, k ≤ L.length → outAt P n k = (L.take k).map HoldD.tr ∧ (L.drop k).Perm (restAll P (nxAt P n k) n)
  | 0, _ => ⟨by simp [outAt], by rw [List.drop_zero]; rw [begunAll_eq] at hp; exact hp⟩
  | k + 1, hk => by
    obtain ⟨h0, h1⟩ := out_sorted hup hp hs k (by omega)
    have hge : ∀ i, i < n → ∀ a d, a + d < (P i).n → (P i).s a ≤ (P i).s (a + d) ∧ (d ≠ 0 → (P i).s a < (P i).s (a + d)) := by
      intro i hi a d
      induction d with
      | zero => intro _; exact ⟨Int.le_refl _, fun h => absurd rfl h⟩
      | succ d ih =>
        intro hd
        have := ih (by omega)
        have := hup i hi (a + d) (by omega)
        rw [show a + (d + 1) = a + d + 1 by omega]
        exact ⟨by omega, fun _ => by omega⟩
    have hd : L.drop k = L[k] :: L.drop (k + 1) := List.drop_eq_getElem_cons (by omega)
    have hx : L[k] ∈ restAll P (nxAt P n k) n := h1.mem_iff.mp (by rw [hd]; exact List.mem_cons_self ..)
    obtain ⟨i, q, hi, hq0, hq1, hxe⟩ := mem_restAll hx
    have hbn : 0 ≤ bestI P (nxAt P n k) n := by
      rcases Int.lt_or_le (bestI P (nxAt P n k) n) 0 with h | h
      · have := bestI_none P (nxAt P n k) n h i hi; omega
      · exact h
    obtain ⟨hb0, hb1⟩ := bestI_min P (nxAt P n k) n hbn
    have hbl := (bestI_lt P (nxAt P n k) n).1
    have hbN : (bestI P (nxAt P n k) n).toNat < n := by omega
    have hpm := restAll_bump (nx := nxAt P n k) hb0 hbN
    have hmem : (⟨(bestI P (nxAt P n k) n).toNat, (P (bestI P (nxAt P n k) n).toNat).s (nxAt P n k (bestI P (nxAt P n k) n).toNat), 0⟩ : HoldD) ∈ L.drop k := h1.mem_iff.mpr (hpm.mem_iff.mpr (List.mem_cons_self ..))
    have hmin := hb1 i hi (by omega)
    have hrow := (hge i hi (nxAt P n k i) (q - nxAt P n k i) (by omega))
    rw [show nxAt P n k i + (q - nxAt P n k i) = q by omega] at hrow
    have hle : ∀ y ∈ L.drop k, ltH y L[k] = false := by
      have hpw : (L.drop k).Pairwise (fun x y => ltH y x = false) := hs.sublist (List.drop_sublist _ _)
      rw [hd] at hpw ⊢
      intro y hy
      rcases List.mem_cons.mp hy with rfl | hy
      · simp [ltH]
      · exact (List.pairwise_cons.mp hpw).1 y hy
    have hk0 := hle _ hmem
    rw [hxe] at hk0
    unfold ltH at hk0
    simp only [decide_eq_false_iff_not] at hk0
    have heq : L[k] = ⟨(bestI P (nxAt P n k) n).toNat, (P (bestI P (nxAt P n k) n).toNat).s (nxAt P n k (bestI P (nxAt P n k) n).toNat), 0⟩ := by
      rw [hxe]
      have ht : i = (bestI P (nxAt P n k) n).toNat := by
        rcases hmin with h | h
        · exact absurd (Or.inl (by omega)) hk0
        · rcases Nat.lt_or_ge (bestI P (nxAt P n k) n).toNat i with h2 | h2
          · rcases Int.lt_or_le ((P (bestI P (nxAt P n k) n).toNat).s (nxAt P n k (bestI P (nxAt P n k) n).toNat)) ((P i).s q) with h3 | h3
            · exact absurd (Or.inl h3) hk0
            · exact absurd (Or.inr ⟨by omega, h2⟩) hk0
          · omega
      have hq : q = nxAt P n k i := by
        rcases Nat.eq_or_lt_of_le hq0 with h | h
        · exact h.symm
        · have := hrow.2 (by omega)
          refine absurd (Or.inl ?_) hk0
          rcases hmin with h4 | h4 <;> omega
      rw [← ht, hq]
    refine ⟨?_, ?_⟩
    · simp only [outAt]
      rw [h0, List.take_add_one, List.getElem?_eq_getElem (by omega), heq]
      simp
    · rw [hd, heq] at h1
      exact (h1.trans hpm).cons_inv
theorem out_eq {P : Nat → RowD} {n : Nat} (hup : ∀ i, i < n → ∀ k, k + 1 < (P i).n → (P i).s k < (P i).s (k + 1)) {L : List HoldD} (hp : L.Perm (begunAll P n)) (hs : L.Pairwise (fun x y => ltH y x = false)) :
    L.map HoldD.tr = outAt P n (rowSum P n) := by
  have hl : L.length = rowSum P n := by rw [hp.length_eq, begunAll_len]
  have h := (out_sorted hup hp hs L.length (Nat.le_refl _)).1
  rw [List.take_length, hl] at h
  exact h.symm

def natCells (L : List Nat) : List Value := L.map fun n : Nat => .int .i64 (n : Int)
theorem natCells_snoc (L : List Nat) (n : Nat) : natCells (L ++ [n]) = natCells L ++ [.int .i64 (n : Int)] := by simp [natCells]
def orderOf (nt : Nat) (g : Nat → Int) (gap : Int) (ntr : Nat) (f : Nat → TrainD) (np : Nat) (P : Nat → RowD) : List Nat :=
  if clashOf nt g gap ntr f np P = (0, 0, 0, 0) then outAt P ntr (rowSum P ntr) else []
theorem rowSum_legs {f : Nat → TrainD} {P : Nat → RowD} : ∀ n, (∀ i, i < n → (P i).n = (f i).nl) → legSum f n = rowSum P n
  | 0, _ => rfl
  | n + 1, h => by simp only [legSum, rowSum]; rw [rowSum_legs n (fun i hi => h i (by omega)), h n (by omega)]
theorem rowSum_le {P : Nat → RowD} : ∀ n, (∀ i, i < n → (P i).n ≤ 10) → rowSum P n ≤ n * 10
  | 0, _ => Nat.le_refl _
  | n + 1, h => by have h0 := rowSum_le n (fun i hi => h i (by omega)); have h1 := h n (by omega); simp only [rowSum]; omega

theorem below_new {A B : World} (h : A.grownBy B none) : Below A.heap.size A B := ⟨h.os, h.tape, h.output, h.size, fun k hk => h.block k hk (by simp)⟩
theorem zeros_of {W : World} {b0 g n : Nat} (h : W.ownsRow b0 3 1 (.slice (some ⟨g, 0, none⟩) n n) n (madeCells #[Value.int .i64 0] n).toList) : ∀ i, i < n → W.cell? ⟨g, i, none⟩ = some (.int .i64 (0 : Nat)) ∧ W.frozen? ⟨g, i, none⟩ = false := fun i hi => by
  refine ⟨?_, h.frozenAt i⟩
  rw [h.cellAt i (by omega), toList_madeCells_one, List.getElem?_replicate, if_pos (by omega)]
  rfl

/-- what the model has when so many are picked -/
structure OS (w0 W : World) (gN : Nat) (P : Nat → RowD) (n : Nat) (wr : World) (v : Value) (k : Nat) : Prop where
  own : wr.ownsRow W.heap.size 3 1 v k (natCells (outAt P n k))
  nxt : ∀ i, i < n → wr.cell? ⟨gN, i, none⟩ = some (.int .i64 (nxAt P n k i : Nat)) ∧ wr.frozen? ⟨gN, i, none⟩ = false
  below : Below w0.heap.size w0 wr
  sz : W.heap.size ≤ wr.heap.size
theorem OS.later {w0 W : World} {gN : Nat} {P : Nat → RowD} {n : Nat} {wr w' : World} {v : Value} {k : Nat} (h : OS w0 W gN P n wr v k) (hB : Below wr.heap.size wr w') : OS w0 W gN P n w' v k :=
  ⟨ownsRow_later h.own hB, fun i hi => ⟨cellLater hB (h.nxt i hi).1, (hB.frozen (ltCell (h.nxt i hi).1)).trans (h.nxt i hi).2⟩, Below.join h.below (Nat.le_refl _) hB, Nat.le_trans h.sz hB.size⟩

theorem nxAt_le {P : Nat → RowD} {n : Nat} : ∀ k i, nxAt P n k i ≤ k
  | 0, i => Nat.le_refl _
  | k + 1, i => by
    have := nxAt_le (P := P) (n := n) k i
    simp only [nxAt, bump]
    split <;> omega
/-- as long as not all are picked there is one that has a leg left -/
theorem restAll_len {P : Nat → RowD} {nx : Nat → Nat} : ∀ n, (∀ i, i < n → (P i).n ≤ nx i) → restAll P nx n = []
  | 0, _ => rfl
  | n + 1, h => by
    simp only [restAll]
    rw [restAll_len n (fun i hi => h i (by omega))]
    unfold restRow
    rw [show (P n).n - nx n = 0 by have := h n (by omega); omega]
    rfl
theorem rest_count {P : Nat → RowD} {n : Nat} : ∀ k, k ≤ rowSum P n → (restAll P (nxAt P n k) n).length = rowSum P n - k
  | 0, _ => by show (restAll P (fun _ => 0) n).length = _; rw [← begunAll_eq, begunAll_len]; rfl
  | k + 1, h => by
    have h0 := rest_count (P := P) (n := n) k (by omega)
    have hb : 0 ≤ bestI P (nxAt P n k) n := by
      rcases Int.lt_or_le (bestI P (nxAt P n k) n) 0 with h' | h'
      · rw [restAll_len n (bestI_none P (nxAt P n k) n h')] at h0
        simp at h0; omega
      · exact h'
    have hbl := (bestI_lt P (nxAt P n k) n).1
    have hp := restAll_bump (nx := nxAt P n k) (bestI_min P (nxAt P n k) n hb).1 (n := n) (by omega)
    have := hp.length_eq
    simp only [List.length_cons] at this
    show (restAll P (bump (nxAt P n k) (bestI P (nxAt P n k) n).toNat) n).length = _
    omega
theorem best_there {P : Nat → RowD} {n k : Nat} (h : k < rowSum P n) : 0 ≤ bestI P (nxAt P n k) n := by
  rcases Int.lt_or_le (bestI P (nxAt P n k) n) 0 with h' | h'
  · have h0 := rest_count (P := P) (n := n) k (by omega)
    rw [restAll_len n (bestI_none P (nxAt P n k) n h')] at h0
    simp at h0; omega
  · exact h'

end Go.Proofs.YtelickcfodcmaaaGreatDoor

namespace Go.Proofs.YtelickcfodcmaaaGreatDoor
open Go.RowKit

def freeH (f : Nat → TrainD) (P : Nat → RowD) (gap : Int) (j m : Nat) : Int := (P j).s m + ((f j).leg m).run + gap
theorem trackRow_is {f : Nat → TrainD} {P : Nat → RowD} {gap : Int} {i k j : Nat} {a : Int} : ∀ n, a ≤ trackRow f P gap i k j a n ∧ (∀ m, m < n → j ≠ i → trackOf (f j) m = trackOf (f i) k → freeH f P gap j m ≤ trackRow f P gap i k j a n) ∧
    (trackRow f P gap i k j a n = a ∨ ∃ m, m < n ∧ j ≠ i ∧ trackOf (f j) m = trackOf (f i) k ∧ trackRow f P gap i k j a n = freeH f P gap j m)
  | 0 => ⟨Int.le_refl _, fun m hm => absurd hm (Nat.not_lt_zero m), Or.inl rfl⟩
  | n + 1 => by
    obtain ⟨h1, h2, h3⟩ := trackRow_is (f := f) (P := P) (gap := gap) (i := i) (k := k) (j := j) (a := a) n
    simp only [trackRow]
    by_cases hc : j ≠ i ∧ trackOf (f j) n = trackOf (f i) k ∧ trackRow f P gap i k j a n < (P j).s n + ((f j).leg n).run + gap
    · rw [if_pos hc]
      refine ⟨by omega, fun m hm hj ht => ?_, Or.inr ⟨n, by omega, hc.1, hc.2.1, rfl⟩⟩
      rcases Nat.lt_or_ge m n with h | h
      · have := h2 m h hj ht; omega
      · obtain rfl : m = n := by omega
        exact Int.le_refl _
    · rw [if_neg hc]
      refine ⟨h1, fun m hm hj ht => ?_, ?_⟩
      · rcases Nat.lt_or_ge m n with h | h
        · exact h2 m h hj ht
        · obtain rfl : m = n := by omega
          exact Int.not_lt.1 (fun h4 => hc ⟨hj, ht, h4⟩)
      · rcases h3 with h3 | ⟨m, hm, hr⟩
        · exact Or.inl h3
        · exact Or.inr ⟨m, by omega, hr⟩
theorem trackAll_is {f : Nat → TrainD} {P : Nat → RowD} {gap : Int} {i k : Nat} {a : Int} : ∀ n, a ≤ trackAll f P gap i k a n ∧ (∀ j, j < n → ∀ m, m < (P j).n → j ≠ i → trackOf (f j) m = trackOf (f i) k → freeH f P gap j m ≤ trackAll f P gap i k a n) ∧
    (trackAll f P gap i k a n = a ∨ ∃ j m, j < n ∧ m < (P j).n ∧ j ≠ i ∧ trackOf (f j) m = trackOf (f i) k ∧ trackAll f P gap i k a n = freeH f P gap j m)
  | 0 => ⟨Int.le_refl _, fun j hj => absurd hj (Nat.not_lt_zero j), Or.inl rfl⟩
  | n + 1 => by
    obtain ⟨h1, h2, h3⟩ := trackAll_is (f := f) (P := P) (gap := gap) (i := i) (k := k) (a := a) n
    obtain ⟨r1, r2, r3⟩ := trackRow_is (f := f) (P := P) (gap := gap) (i := i) (k := k) (j := n) (a := trackAll f P gap i k a n) (P n).n
    simp only [trackAll]
    refine ⟨by omega, fun j hj m hm hji ht => ?_, ?_⟩
    · rcases Nat.lt_or_ge j n with h | h
      · have := h2 j h m hm hji ht; omega
      · obtain rfl : j = n := by omega
        exact r2 m hm hji ht
    · rcases r3 with r3 | ⟨m, hm, hji, ht, e⟩
      · rcases h3 with h3 | ⟨j, m, hj, hr⟩
        · exact Or.inl (r3.trans h3)
        · exact Or.inr ⟨j, m, by omega, hr.1, hr.2.1, hr.2.2.1, r3.trans hr.2.2.2⟩
      · exact Or.inr ⟨n, m, by omega, hm, hji, ht, e⟩

/-- who had a track last, from when, and from when on it is free -/
structure TrackD where
  tr : Nat
  frm : Int
  free : Int
/-- a board's tracks, and that each train's legs follow each other -/
structure TI (np : Nat) (f : Nat → TrainD) (P : Nat → RowD) (gap : Int) (T : Int → TrackD) : Prop where
  at_ : ∀ x, ((∀ j, j < np → ∀ m, m < (P j).n → trackOf (f j) m ≠ x) ∧ T x = ⟨0, 0, 0⟩) ∨
    (∃ j0 m0, j0 < np ∧ m0 < (P j0).n ∧ trackOf (f j0) m0 = x ∧ T x = ⟨j0, (P j0).s m0, freeH f P gap j0 m0⟩ ∧ ∀ j, j < np → ∀ m, m < (P j).n → trackOf (f j) m = x → (j ≠ j0 → freeH f P gap j m ≤ (P j0).s m0) ∧ freeH f P gap j m ≤ freeH f P gap j0 m0)
  chain : ∀ j, j < np → ∀ m, m + 1 < (P j).n → (P j).s m + ((f j).leg m).run ≤ (P j).s (m + 1)
def trackFreeD (T : Int → TrackD) (i : Nat) (x : Int) : Int := if ((T x).tr : Int) = (i : Int) then 0 else (T x).free
theorem TI.low {np : Nat} {f : Nat → TrainD} {P : Nat → RowD} {gap last : Int} {T : Int → TrackD} (h : TI np f P gap T) (hQ : PartP np f P last) {i k : Nat} {lw : Int} (hlw : last ≤ lw) :
    trackAll f P gap i k lw np = maxZ lw (trackFreeD T i (trackOf (f i) k)) := by
  obtain ⟨h1, h2, h3⟩ := trackAll_is (f := f) (P := P) (gap := gap) (i := i) (k := k) (a := lw) np
  have hl0 := hQ.l0
  unfold maxZ trackFreeD
  rcases h.at_ (trackOf (f i) k) with ⟨hno, hT⟩ | ⟨j0, m0, hj0, hm0, ht0, hT, hall⟩
  · rw [hT]
    have e : trackAll f P gap i k lw np = lw := by
      rcases h3 with h3 | ⟨j, m, hj, hm, _, ht, _⟩
      · exact h3
      · exact absurd ht (hno j hj m hm)
    rw [e]
    dsimp only
    split <;> split at * <;> omega
  · rw [hT]
    dsimp only
    by_cases hji : j0 = i
    · subst hji
      rw [if_pos rfl, if_neg (by omega : ¬ lw < 0)]
      rcases h3 with h3 | ⟨j, m, hj, hm, hji, ht, e⟩
      · exact h3
      · have h4 := (hall j hj m hm ht).1 hji
        have h5 := (hQ.at0 j0 hj0 m0 hm0).2
        omega
    · have e0 : ¬ ((j0 : Int) = (i : Int)) := by omega
      rw [if_neg e0]
      have h4 := h2 j0 hj0 m0 hm0 hji ht0
      rcases h3 with h3 | ⟨j, m, hj, hm, hji', ht, e⟩
      · rw [h3] at h4 ⊢; rw [if_neg (by omega)]
      · have h5 := (hall j hj m hm ht).2
        split <;> omega

theorem moreP_old {P : Nat → RowD} {i : Nat} {t : Int} {j m : Nat} (h : m < (P j).n) : (moreP P i t j).s m = (P j).s m := by
  unfold moreP
  by_cases e : j = i
  · subst e; rw [if_pos rfl]; dsimp only; rw [if_neg (by omega)]
  · rw [if_neg e]
theorem moreP_new {P : Nat → RowD} {i : Nat} {t : Int} : (moreP P i t i).s (P i).n = t := by
  unfold moreP; rw [if_pos rfl]; dsimp only; rw [if_pos rfl]
theorem moreP_n {P : Nat → RowD} {i : Nat} {t : Int} : (moreP P i t i).n = (P i).n + 1 := by unfold moreP; rw [if_pos rfl]
theorem moreP_other {P : Nat → RowD} {i : Nat} {t : Int} {j : Nat} (h : j ≠ i) : moreP P i t j = P j := by unfold moreP; rw [if_neg h]
theorem moreP_legs {P : Nat → RowD} {i : Nat} {t : Int} {j m : Nat} (h : m < (moreP P i t j).n) : m < (P j).n ∨ (j = i ∧ m = (P i).n) := by
  by_cases e : j = i
  · subst e; rw [moreP_n] at h; omega
  · rw [moreP_other e] at h; exact Or.inl h
theorem freeH_old {f : Nat → TrainD} {P : Nat → RowD} {gap : Int} {i : Nat} {t : Int} {j m : Nat} (h : m < (P j).n) : freeH f (moreP P i t) gap j m = freeH f P gap j m := by unfold freeH; rw [moreP_old h]
theorem moreP_lt {P : Nat → RowD} {i : Nat} {t : Int} {j m : Nat} (h : m < (P j).n) : m < (moreP P i t j).n := by
  by_cases e : j = i
  · subst e; rw [moreP_n]; omega
  · rw [moreP_other e]; exact h

theorem chain_le {f : Nat → TrainD} {r : RowD} {j : Nat} (hr : ∀ m, m < r.n → 0 ≤ ((f j).leg m).run) (hc : ∀ m, m + 1 < r.n → r.s m + ((f j).leg m).run ≤ r.s (m + 1)) : ∀ d m, m + d < r.n → r.s m + ((f j).leg m).run ≤ r.s (m + d) + ((f j).leg (m + d)).run
  | 0, _, _ => Int.le_refl _
  | d + 1, m, h => by
    have h1 := chain_le hr hc d m (by omega)
    have h2 := hc (m + d) (by omega)
    have h3 := hr (m + d + 1) (by omega)
    rw [show m + (d + 1) = m + d + 1 by omega]
    omega
theorem TI.more {np : Nat} {f : Nat → TrainD} {P : Nat → RowD} {gap last : Int} {T : Int → TrackD} (h : TI np f P gap T) {i : Nat} (hi : i < np) {t : Int} (hg : 0 ≤ gap) (hrun : ∀ j, j < np → ∀ m, m < (f j).nl → 0 ≤ ((f j).leg m).run) (hk : (P i).n < (f i).nl)
    (hlow : lowOf np f P gap last i ≤ t) (hrd : ∀ k, (P i).n = k + 1 → (P i).s k + ((f i).leg k).run ≤ t) :
    TI np f (moreP P i t) gap (fun x => if x = trackOf (f i) (P i).n then ⟨i, t, t + ((f i).leg (P i).n).run + gap⟩ else T x) := by
  have hfn : freeH f (moreP P i t) gap i (P i).n = t + ((f i).leg (P i).n).run + gap := by unfold freeH; rw [moreP_new]
  have hrk := hrun i hi _ hk
  refine ⟨fun x => ?_, fun j hj m hm => ?_⟩
  · by_cases hx : x = trackOf (f i) (P i).n
    · rw [if_pos hx]
      refine Or.inr ⟨i, (P i).n, hi, by rw [moreP_n]; omega, hx.symm, by rw [moreP_new, hfn], fun j hj m hm ht => ?_⟩
      rcases moreP_legs hm with hold | ⟨rfl, rfl⟩
      · rw [freeH_old hold, moreP_new, hfn]
        by_cases hji : j = i
        · subst hji
          refine ⟨fun e => absurd rfl e, ?_⟩
          cases hn : (P j).n with
          | zero => omega
          | succ k =>
            have h1 := hrd k hn
            have h2 := chain_le (f := f) (r := P j) (j := j) (fun m hm => hrun j hj m (by omega)) (h.chain j hj) (k - m) m (by omega)
            rw [show m + (k - m) = k by omega] at h2
            rw [hn] at hrk
            unfold freeH
            omega
        · have h1 := (trackAll_is (f := f) (P := P) (gap := gap) (i := i) (k := (P i).n) (a := maxZ (readyOf f P i (P i).n) last) np).2.1 j hj m hold hji (ht.trans hx)
          have h2 : freeH f P gap j m ≤ t := Int.le_trans h1 hlow
          exact ⟨fun _ => h2, by omega⟩
      · exact ⟨fun e => absurd rfl e, Int.le_refl _⟩
    · rw [if_neg hx]
      rcases h.at_ x with ⟨hno, hT⟩ | ⟨j0, m0, hj0, hm0, ht0, hT, hall⟩
      · refine Or.inl ⟨fun j hj m hm => ?_, hT⟩
        rcases moreP_legs hm with hold | ⟨rfl, rfl⟩
        · exact hno j hj m hold
        · exact fun e => hx e.symm
      · refine Or.inr ⟨j0, m0, hj0, moreP_lt hm0, ht0, by rw [moreP_old hm0, freeH_old hm0]; exact hT, fun j hj m hm ht => ?_⟩
        rcases moreP_legs hm with hold | ⟨rfl, rfl⟩
        · rw [freeH_old hold, moreP_old hm0, freeH_old hm0]
          exact hall j hj m hold ht
        · exact absurd ht.symm hx
  · by_cases hji : j = i
    · subst hji
      rw [moreP_n] at hm
      rw [moreP_old (by omega)]
      by_cases hl : m + 1 < (P j).n
      · rw [moreP_old hl]; exact h.chain j hj m hl
      · have e : (P j).n = m + 1 := by omega
        have h1 := hrd m e
        have h2 := moreP_new (P := P) (i := j) (t := t)
        rw [e] at h2
        rw [h2]; exact h1
    · rw [moreP_other hji] at hm ⊢
      exact h.chain j hj m hm
end Go.Proofs.YtelickcfodcmaaaGreatDoor
