/-
  A line, so much later: laws.wLater, whole.
  The model's word on when a train is where: what it answers. The model's Meets: what it answers.
  When a train is where, by the program: a row of stands.
-/
import Derived.Test.YtelickcfodcmaaaGreatDoorGH
import Derived.Test.YtelickcfodcmaaaGreatDoorSpecQ
import Derived.Test.YtelickcfodcmaaaGreatDoorApp
import Derived.Test.YtelickcfodcmaaaGreatDoorImplS
import Derived.Test.YtelickcfodcmaaaGreatDoorGA
namespace Go.Proofs.YtelickcfodcmaaaGreatDoor
open Go.RowKit

set_option maxRecDepth 20000 in
set_option maxHeartbeats 8000000 in
theorem wLater_any (ba oa cap : Nat) (by_ : Int) (tr : List Int) (gap : Int) (a' : Option Addr) (T : List TrL) (cap' : Nat) (w : World) (hl0 : 0 < tr.length) (hl1 : tr.length ≤ 100) (hT5 : T.length ≤ 5) (hby0 : 0 ≤ by_) (hby1 : by_ ≤ 1000) (hok : ∀ t ∈ T, 0 < t.legs.length ∧ t.legs.length ≤ 10 ∧ 0 ≤ t.ready ∧ t.ready ≤ 100000 ∧ 0 ≤ t.due ∧ t.due ≤ 100000)
    (hI : IsInts 0 w.heap.size w (some ⟨ba, oa, none⟩) tr.length (gI tr)) (hT : IsTrains 0 w.heap.size w a' T.length (fT T)) :
    Calls Tryz.prog 14 #[.agg #[.slice (some ⟨ba, oa, none⟩) tr.length cap, .int .i64 gap, .slice a' T.length cap'], .int .i64 by_] w fun e w' => ∃ L vt vT, L.map Prod.fst = T.map (laterL by_) ∧ e = .returned (.agg #[vt, .int .i64 gap, vT]) ∧ LOwn w.heap.size w' tr L vt vT ∧ Below w.heap.size w w' := by
  have hA2 := b1 (w.alloc (.cells #[.slice (some ⟨ba, oa, none⟩) tr.length cap, .int .i64 gap, .slice a' T.length cap'] 26)) (.cells #[.slice none 0 0, .int .i64 0, .slice none 0 0] 26)
  have hVb : Below w.heap.size w ((w.alloc (.cells #[.slice (some ⟨ba, oa, none⟩) tr.length cap, .int .i64 gap, .slice a' T.length cap'] 26)).alloc (.cells #[.slice none 0 0, .int .i64 0, .slice none 0 0] 26)) := Below.join (b1 w (.cells #[.slice (some ⟨ba, oa, none⟩) tr.length cap, .int .i64 gap, .slice a' T.length cap'] 26)) (Nat.le_refl _) hA2
  have hsV : ((w.alloc (.cells #[.slice (some ⟨ba, oa, none⟩) tr.length cap, .int .i64 gap, .slice a' T.length cap'] 26)).alloc (.cells #[.slice none 0 0, .int .i64 0, .slice none 0 0] 26)).heap.size = w.heap.size + 2 := by rw [World.size_alloc, World.size_alloc]
  obtain ⟨n0, n1, n2⟩ := new3 w (.slice (some ⟨ba, oa, none⟩) tr.length cap) (.int .i64 gap) (.slice a' T.length cap') 26
  replace n0 := cellLater hA2 n0
  replace n1 := cellLater hA2 n1
  replace n2 := cellLater hA2 n2
  have hRm : Room (w.heap.size + 1) 3 ((w.alloc (.cells #[.slice (some ⟨ba, oa, none⟩) tr.length cap, .int .i64 gap, .slice a' T.length cap'] 26)).alloc (.cells #[.slice none 0 0, .int .i64 0, .slice none 0 0] 26)) := by
    have h := Room.lit (w.alloc (.cells #[.slice (some ⟨ba, oa, none⟩) tr.length cap, .int .i64 gap, .slice a' T.length cap'] 26)) #[.slice none 0 0, .int .i64 0, .slice none 0 0] 26 3 (Nat.le_refl _)
    rwa [World.size_alloc] at h
  have lR : w.heap.size + 1 < ((w.alloc (.cells #[.slice (some ⟨ba, oa, none⟩) tr.length cap, .int .i64 gap, .slice a' T.length cap'] 26)).alloc (.cells #[.slice none 0 0, .int .i64 0, .slice none 0 0] 26)).heap.size := by rw [hsV]; omega
  have hVd : Below ((w.alloc (.cells #[.slice (some ⟨ba, oa, none⟩) tr.length cap, .int .i64 gap, .slice a' T.length cap'] 26)).alloc (.cells #[.slice none 0 0, .int .i64 0, .slice none 0 0] 26)).heap.size ((w.alloc (.cells #[.slice (some ⟨ba, oa, none⟩) tr.length cap, .int .i64 gap, .slice a' T.length cap'] 26)).alloc (.cells #[.slice none 0 0, .int .i64 0, .slice none 0 0] 26)) ((w.alloc (.cells #[.slice (some ⟨ba, oa, none⟩) tr.length cap, .int .i64 gap, .slice a' T.length cap'] 26)).alloc (.cells #[.slice none 0 0, .int .i64 0, .slice none 0 0] 26)).drew := (Below.refl _ _).drew
  have hok' : Hid _ := hok
  go_enter Tryz.func14, Tryz.ntmps14
  go_wp2
  refine wp_region_held_drew (S := fun w' => w'.cell? ⟨w.heap.size, 0, none⟩ = some (.slice (some ⟨ba, oa, none⟩) tr.length cap) ∧ w'.cell? ⟨w.heap.size, 1, none⟩ = some (.int .i64 gap)) (by kernel_rfl) ⟨cellLater hVd n0, cellLater hVd n1⟩ (fun hHeld => ?_)
  refine wpAnyH_take (i := 1) (oi := { dst := some 10, op := Go.Op.fieldAddr 26 (Go.Operand.tmp 2) 0, type := 0, pos := "laws.go:60", after := #[], guard := none }) (v := ?vv1_1) rfl (by kernel_rfl) (by kernel_rfl) (by kernel_rfl) (fun _ _ _ h => h) (Or.inl ⟨by rfl, ?hy1_1⟩) (by assumption) ?rest1_1
  case hy1_1 =>
    intro w hSw
    (try dsimp only at hSw)
    go_simp
    (try with_reducible rfl)
  simp only [Act.put, List.setIfInBounds_toArray, List.set_cons_zero, List.set_cons_succ]
  refine wpAnyH_take (i := 2) (oi := { dst := some 11, op := Go.Op.load 23 (Go.Operand.tmp 10), type := 23, pos := "laws.go:60", after := #[{ on := 1, ground := Go.Ground.data }], guard := none }) (v := ?vv2_2) rfl (by kernel_rfl) (by kernel_rfl) (by kernel_rfl) (fun _ _ _ h => h) (Or.inl ⟨by rfl, ?hy2_2⟩) (by assumption) ?rest2_2
  case hy2_2 =>
    intro w hSw
    (try dsimp only at hSw)
    go_simp
    (try with_reducible rfl)
  simp only [Act.put, List.setIfInBounds_toArray, List.set_cons_zero, List.set_cons_succ]
  refine wpAnyH_take (i := 4) (oi := { dst := some 13, op := Go.Op.fieldAddr 26 (Go.Operand.tmp 2) 1, type := 0, pos := "laws.go:60", after := #[], guard := none }) (v := ?vv3_4) rfl (by kernel_rfl) (by kernel_rfl) (by kernel_rfl) (fun _ _ _ h => h) (Or.inl ⟨by rfl, ?hy3_4⟩) (by assumption) ?rest3_4
  case hy3_4 =>
    intro w hSw
    (try dsimp only at hSw)
    go_simp
    (try with_reducible rfl)
  simp only [Act.put, List.setIfInBounds_toArray, List.set_cons_zero, List.set_cons_succ]
  refine wpAnyH_take (i := 5) (oi := { dst := some 14, op := Go.Op.load 3 (Go.Operand.tmp 13), type := 3, pos := "laws.go:60", after := #[{ on := 4, ground := Go.Ground.data }], guard := none }) (v := ?vv4_5) rfl (by kernel_rfl) (by kernel_rfl) (by kernel_rfl) (fun _ _ _ h => h) (Or.inl ⟨by rfl, ?hy4_5⟩) (by assumption) ?rest4_5
  case hy4_5 =>
    intro w hSw
    (try dsimp only at hSw)
    go_simp
    (try with_reducible rfl)
  simp only [Act.put, List.setIfInBounds_toArray, List.set_cons_zero, List.set_cons_succ]
  refine wpAnyH_ready (rs := [0, 7]) (by kernel_rfl) (by simp) ?_
  refine AllReadyH.cons (o := { dst := some 9, op := Go.Op.buildSlice 23 0 #[], type := 23, pos := "laws.go:60", after := #[], guard := none }) rfl (fun K hK => ?_) (AllReadyH.cons (o := { dst := some 5, op := Go.Op.alloc 26, type := 0, pos := "laws.go:60", after := #[], guard := none }) rfl (fun K hK => ?_) AllReadyH.nil)
  · have hX : Below ((w.alloc (.cells #[.slice (some ⟨ba, oa, none⟩) tr.length cap, .int .i64 gap, .slice a' T.length cap'] 26)).alloc (.cells #[.slice none 0 0, .int .i64 0, .slice none 0 0] 26)).heap.size ((w.alloc (.cells #[.slice (some ⟨ba, oa, none⟩) tr.length cap, .int .i64 gap, .slice a' T.length cap'] 26)).alloc (.cells #[.slice none 0 0, .int .i64 0, .slice none 0 0] 26)) (((w.alloc (.cells #[.slice (some ⟨ba, oa, none⟩) tr.length cap, .int .i64 gap, .slice a' T.length cap'] 26)).alloc (.cells #[.slice none 0 0, .int .i64 0, .slice none 0 0] 26)).alloc (.cells #[] 3)).drew := (b1 ((w.alloc (.cells #[.slice (some ⟨ba, oa, none⟩) tr.length cap, .int .i64 gap, .slice a' T.length cap'] 26)).alloc (.cells #[.slice none 0 0, .int .i64 0, .slice none 0 0] 26)) (.cells #[] 3)).drew
    have hE := Go.heap_alloc_new ((w.alloc (.cells #[.slice (some ⟨ba, oa, none⟩) tr.length cap, .int .i64 gap, .slice a' T.length cap'] 26)).alloc (.cells #[.slice none 0 0, .int .i64 0, .slice none 0 0] 26)) (.cells #[] 3)
    rw [hsV] at hE
    have hsX : (((w.alloc (.cells #[.slice (some ⟨ba, oa, none⟩) tr.length cap, .int .i64 gap, .slice a' T.length cap'] 26)).alloc (.cells #[.slice none 0 0, .int .i64 0, .slice none 0 0] 26)).alloc (.cells #[] 3)).drew.heap.size = w.heap.size + 3 := by show (((w.alloc (.cells #[.slice (some ⟨ba, oa, none⟩) tr.length cap, .int .i64 gap, .slice a' T.length cap'] 26)).alloc (.cells #[.slice none 0 0, .int .i64 0, .slice none 0 0] 26)).alloc (.cells #[] 3)).heap.size = _; rw [World.size_alloc, hsV]
    go_simp
    refine hK.out _ _ ⟨cellLater hX n0, cellLater hX n1⟩ (fun hHeld => ?_)
    clear hK K
    (try simp only [Act.put, List.setIfInBounds_toArray, List.set_cons_zero, List.set_cons_succ])
    refine wpAnyH_ready (rs := [3, 7]) (by kernel_rfl) (by simp) ?_
    refine AllReadyH.cons (o := { dst := some 12, op := Go.Op.call { callee := Go.Callee.builtin Go.Builtin.append, args := #[Go.Operand.tmp 9, Go.Operand.tmp 11], argTypes := #[23, 23] }, type := 23, pos := "laws.go:60", after := #[{ on := 0, ground := Go.Ground.data }, { on := 2, ground := Go.Ground.data }], guard := none }) rfl (fun K hK => ?_) (AllReadyH.cons (o := { dst := some 5, op := Go.Op.alloc 26, type := 0, pos := "laws.go:60", after := #[], guard := none }) rfl (fun K hK => ?_) AllReadyH.nil)
    · obtain ⟨vt, X2, hap, hown, hgr, hloc⟩ := tracks_append (((w.alloc (.cells #[.slice (some ⟨ba, oa, none⟩) tr.length cap, .int .i64 gap, .slice a' T.length cap'] 26)).alloc (.cells #[.slice none 0 0, .int .i64 0, .slice none 0 0] 26)).alloc (.cells #[] 3)).drew (w.heap.size + 2) (w.heap.size + 2) w.heap.size ba oa cap tr hE (by omega) (by rw [hsX]; omega) hl1 (IsInts.below hI (Below.join hVb (Nat.le_refl _) hX) (Nat.le_refl _))
      have hX2 : Below ((w.alloc (.cells #[.slice (some ⟨ba, oa, none⟩) tr.length cap, .int .i64 gap, .slice a' T.length cap'] 26)).alloc (.cells #[.slice none 0 0, .int .i64 0, .slice none 0 0] 26)).heap.size ((w.alloc (.cells #[.slice (some ⟨ba, oa, none⟩) tr.length cap, .int .i64 gap, .slice a' T.length cap'] 26)).alloc (.cells #[.slice none 0 0, .int .i64 0, .slice none 0 0] 26)) X2 := below_grown hX hgr (by rw [hsX, hsV]; omega) (fun x hx => by simp only [Option.some.injEq] at hx; rw [hsV]; omega)
      obtain ⟨gv, cv, rfl⟩ := Joins.ownsRow_form hown hl0
      have hgv : gv = w.heap.size + 2 ∨ gv = (((w.alloc (.cells #[.slice (some ⟨ba, oa, none⟩) tr.length cap, .int .i64 gap, .slice a' T.length cap'] 26)).alloc (.cells #[.slice none 0 0, .int .i64 0, .slice none 0 0] 26)).alloc (.cells #[] 3)).drew.heap.size := by
        rcases hloc with h | h
        · left; simpa [Value.ownBlock] using h
        · right; simpa [Value.ownBlock] using h
      rw [hsX] at hgv
      have hs2 := hgr.size
      rw [hsX] at hs2
      refine step_append_eq _ (by rfl) _ _ _ (by rfl) _ _ _ _ (by rfl) (by rfl) hap ?_
      refine hK.out _ _ ⟨cellLater hX2 n0, cellLater hX2 n1⟩ (fun hHeld => ?_)
      clear hK K
      (try simp only [Act.put, List.setIfInBounds_toArray, List.set_cons_zero, List.set_cons_succ])
      refine wpAnyH_take (i := 6) (oi := { dst := some 15, op := Go.Op.build 26 #[(0, Go.Operand.tmp 12), (1, Go.Operand.tmp 14)], type := 26, pos := "laws.go:60", after := #[{ on := 3, ground := Go.Ground.data }, { on := 5, ground := Go.Ground.data }], guard := none }) (v := ?vv205_6) rfl (by kernel_rfl) (by kernel_rfl) (by kernel_rfl) (fun _ _ _ h => h) (Or.inl ⟨by rfl, ?hy205_6⟩) (by assumption) ?rest205_6
      case hy205_6 =>
        intro w hSw
        (try dsimp only at hSw)
        go_simp
        (try with_reducible rfl)
      simp only [Act.put, List.setIfInBounds_toArray, List.set_cons_zero, List.set_cons_succ]
      have hA7 := b1 X2 (.cells #[.slice none 0 0, .int .i64 0, .slice none 0 0] 26)
      have hX7 := Below.join hX2 (Nat.le_refl _) hA7
      refine wpAnyH_ready (rs := [7]) (by kernel_rfl) (by simp) ?_
      refine AllReadyH.cons (o := { dst := some 5, op := Go.Op.alloc 26, type := 0, pos := "laws.go:60", after := #[], guard := none }) rfl (fun K hK => ?_) AllReadyH.nil
      go_simp
      refine hK.out _ _ ⟨cellLater hX7 n0, cellLater hX7 n1⟩ (fun hHeld => ?_)
      clear hK K
      (try simp only [Act.put, List.setIfInBounds_toArray, List.set_cons_zero, List.set_cons_succ])
      have hA8 := b1 X2 (.cells #[(.slice (some ⟨gv, 0, none⟩) tr.length cv), .int .i64 gap, .slice none 0 0] 26)
      have hBY : Below ((w.alloc (.cells #[.slice (some ⟨ba, oa, none⟩) tr.length cap, .int .i64 gap, .slice a' T.length cap'] 26)).alloc (.cells #[.slice none 0 0, .int .i64 0, .slice none 0 0] 26)).heap.size ((w.alloc (.cells #[.slice (some ⟨ba, oa, none⟩) tr.length cap, .int .i64 gap, .slice a' T.length cap'] 26)).alloc (.cells #[.slice none 0 0, .int .i64 0, .slice none 0 0] 26)) (X2.alloc (.cells #[(.slice (some ⟨gv, 0, none⟩) tr.length cv), .int .i64 gap, .slice none 0 0] 26)) := Below.join hX2 (Nat.le_refl _) hA8
      obtain ⟨d0, d1, d2⟩ := new3 X2 (.slice (some ⟨gv, 0, none⟩) tr.length cv) (.int .i64 gap) (.slice none 0 0) 26
      have dz := frozen_new X2 2 #[(.slice (some ⟨gv, 0, none⟩) tr.length cv), .int .i64 gap, .slice none 0 0] 26
      have hoY := ownsRow_later hown hA8
      refine wpAnyH_ready (rs := [8]) (by kernel_rfl) (by simp) ?_
      refine AllReadyH.cons (o := { dst := none, op := Go.Op.store 26 (Go.Operand.tmp 5) (Go.Operand.tmp 15), type := 0, pos := "laws.go:60", after := #[{ on := 7, ground := Go.Ground.data }, { on := 6, ground := Go.Ground.data }, { on := 3, ground := Go.Ground.chain }, { on := 0, ground := Go.Ground.phase }, { on := 1, ground := Go.Ground.phase }, { on := 2, ground := Go.Ground.phase }, { on := 3, ground := Go.Ground.phase }, { on := 4, ground := Go.Ground.phase }, { on := 5, ground := Go.Ground.phase }, { on := 6, ground := Go.Ground.phase }, { on := 7, ground := Go.Ground.phase }], guard := none }) rfl (fun K hK => ?_) AllReadyH.nil
      go_simp
      refine hK.out _ _ ⟨cellLater hBY n0, cellLater hBY n1⟩ (fun hHeld => ?_)
      clear hK K
      (try simp only [Act.put, List.setIfInBounds_toArray, List.set_cons_zero, List.set_cons_succ])
      refine wpAnyH_done (by kernel_rfl) ?_ _
      have hWl := WlI.new d0 d1 d2 dz hoY (fun h => by have := (hown.lt _ h).2; omega) (by omega) (hRm.below hBY lR) (Below.join hVb (Nat.le_refl _) hBY)
      have q2 := cellLater hBY n2
      obtain ⟨Y, hY⟩ : ∃ Y, Y = (X2.alloc (.cells #[(.slice (some ⟨gv, 0, none⟩) tr.length cv), .int .i64 gap, .slice none 0 0] 26)) := ⟨_, rfl⟩
      rw [← hY] at hWl q2 ⊢
      clear hY hap hgr hown hX2 n0 n1 n2
      go_wp2
      rename_i Kz az
      refine later_loop (X2.heap.size) Y.heap.size by_ tr gap (.slice (some ⟨gv, 0, none⟩) tr.length cv) a' T cap' w Y Kz _ ?_ hT5 hby0 hby1 hok hT hWl
      intro u7 u8 u19 u20 u21 u22 u23 u24 u25 u26 u27 u28 u29 u30 u31 u32 u33 u34 u35 u36 u37 u38 u39 u40 u41 u42 u43 u44 u45 wz L vT hLm hWz
      refine az _ _ ?_
      clear az hWl q2
      obtain ⟨xa, xc, rfl⟩ : ∃ xa xc, vT = .slice xa L.length xc := by
        rcases hWz.trs.row.2 with ⟨e, h0⟩ | ⟨g, cp, cur, e, _⟩
        · exact ⟨none, 0, by rw [e, h0]⟩
        · exact ⟨_, cp, e⟩
      have c0 := hWz.c0
      have c1 := hWz.c1
      have c2 := hWz.c2
      have hOw := hWz.own
      obtain ⟨r0, rm0, rz0⟩ := hWz.room 0 (by omega)
      obtain ⟨r1, rm1, rz1⟩ := hWz.room 1 (by omega)
      obtain ⟨r2, rm2, rz2⟩ := hWz.room 2 (by omega)
      have hBz := hWz.below
      have hLm' : Hid _ := hLm
      clear hLm hWz
      go_wp2
      exact bodyPost_ret (v := .agg #[.slice (some ⟨gv, 0, none⟩) tr.length cv, .int .i64 gap, .slice xa L.length xc]) (by simp [results, Tryz.results14, go_sem, rm0, rm1, rm2]) rfl ⟨L, _, _, hLm'.out, rfl, (((hOw.set ⟨w.heap.size + 1, 0, none⟩ (by dsimp only; omega) _).set ⟨w.heap.size + 1, 1, none⟩ (by dsimp only; omega) _).set ⟨w.heap.size + 1, 2, none⟩ (by dsimp only; omega) _).low (by omega), ((hBz.setCell (p := ⟨w.heap.size + 1, 0, none⟩) (by dsimp only; omega) _).setCell (p := ⟨w.heap.size + 1, 1, none⟩) (by dsimp only; omega) _).setCell (p := ⟨w.heap.size + 1, 2, none⟩) (by dsimp only; omega) _⟩
    · have hXb : Below ((w.alloc (.cells #[.slice (some ⟨ba, oa, none⟩) tr.length cap, .int .i64 gap, .slice a' T.length cap'] 26)).alloc (.cells #[.slice none 0 0, .int .i64 0, .slice none 0 0] 26)).heap.size ((w.alloc (.cells #[.slice (some ⟨ba, oa, none⟩) tr.length cap, .int .i64 gap, .slice a' T.length cap'] 26)).alloc (.cells #[.slice none 0 0, .int .i64 0, .slice none 0 0] 26)) ((((w.alloc (.cells #[.slice (some ⟨ba, oa, none⟩) tr.length cap, .int .i64 gap, .slice a' T.length cap'] 26)).alloc (.cells #[.slice none 0 0, .int .i64 0, .slice none 0 0] 26)).alloc (.cells #[] 3)).alloc (.cells #[.slice none 0 0, .int .i64 0, .slice none 0 0] 26)).drew := (Below.join (b1 ((w.alloc (.cells #[.slice (some ⟨ba, oa, none⟩) tr.length cap, .int .i64 gap, .slice a' T.length cap'] 26)).alloc (.cells #[.slice none 0 0, .int .i64 0, .slice none 0 0] 26)) (.cells #[] 3)) (Nat.le_refl _) (b1 (((w.alloc (.cells #[.slice (some ⟨ba, oa, none⟩) tr.length cap, .int .i64 gap, .slice a' T.length cap'] 26)).alloc (.cells #[.slice none 0 0, .int .i64 0, .slice none 0 0] 26)).alloc (.cells #[] 3)) (.cells #[.slice none 0 0, .int .i64 0, .slice none 0 0] 26))).drew
      have hsXb : ((((w.alloc (.cells #[.slice (some ⟨ba, oa, none⟩) tr.length cap, .int .i64 gap, .slice a' T.length cap'] 26)).alloc (.cells #[.slice none 0 0, .int .i64 0, .slice none 0 0] 26)).alloc (.cells #[] 3)).alloc (.cells #[.slice none 0 0, .int .i64 0, .slice none 0 0] 26)).drew.heap.size = w.heap.size + 4 := by show ((((w.alloc (.cells #[.slice (some ⟨ba, oa, none⟩) tr.length cap, .int .i64 gap, .slice a' T.length cap'] 26)).alloc (.cells #[.slice none 0 0, .int .i64 0, .slice none 0 0] 26)).alloc (.cells #[] 3)).alloc (.cells #[.slice none 0 0, .int .i64 0, .slice none 0 0] 26)).heap.size = _; rw [World.size_alloc, World.size_alloc, hsV]
      have hEb : ((((w.alloc (.cells #[.slice (some ⟨ba, oa, none⟩) tr.length cap, .int .i64 gap, .slice a' T.length cap'] 26)).alloc (.cells #[.slice none 0 0, .int .i64 0, .slice none 0 0] 26)).alloc (.cells #[] 3)).alloc (.cells #[.slice none 0 0, .int .i64 0, .slice none 0 0] 26)).drew.heap[w.heap.size + 2]? = some (.cells #[] 3) := ((b1 (((w.alloc (.cells #[.slice (some ⟨ba, oa, none⟩) tr.length cap, .int .i64 gap, .slice a' T.length cap'] 26)).alloc (.cells #[.slice none 0 0, .int .i64 0, .slice none 0 0] 26)).alloc (.cells #[] 3)) (.cells #[.slice none 0 0, .int .i64 0, .slice none 0 0] 26)).block _ (by rw [World.size_alloc, hsV]; omega)).trans hE
      have hRb : Room (w.heap.size + 3) 3 ((((w.alloc (.cells #[.slice (some ⟨ba, oa, none⟩) tr.length cap, .int .i64 gap, .slice a' T.length cap'] 26)).alloc (.cells #[.slice none 0 0, .int .i64 0, .slice none 0 0] 26)).alloc (.cells #[] 3)).alloc (.cells #[.slice none 0 0, .int .i64 0, .slice none 0 0] 26)).drew := by
        have h := Room.lit (((w.alloc (.cells #[.slice (some ⟨ba, oa, none⟩) tr.length cap, .int .i64 gap, .slice a' T.length cap'] 26)).alloc (.cells #[.slice none 0 0, .int .i64 0, .slice none 0 0] 26)).alloc (.cells #[] 3)) #[.slice none 0 0, .int .i64 0, .slice none 0 0] 26 3 (Nat.le_refl _)
        rw [World.size_alloc, hsV] at h
        exact h
      go_simp
      refine hK.out _ _ ⟨cellLater hXb n0, cellLater hXb n1⟩ (fun hHeld => ?_)
      clear hK K
      (try simp only [Act.put, List.setIfInBounds_toArray, List.set_cons_zero, List.set_cons_succ])
      refine wpAnyH_ready (rs := [3]) (by kernel_rfl) (by simp) ?_
      refine AllReadyH.cons (o := { dst := some 12, op := Go.Op.call { callee := Go.Callee.builtin Go.Builtin.append, args := #[Go.Operand.tmp 9, Go.Operand.tmp 11], argTypes := #[23, 23] }, type := 23, pos := "laws.go:60", after := #[{ on := 0, ground := Go.Ground.data }, { on := 2, ground := Go.Ground.data }], guard := none }) rfl (fun K hK => ?_) AllReadyH.nil
      obtain ⟨vt, X2, hap, hown, hgr, hloc⟩ := tracks_append ((((w.alloc (.cells #[.slice (some ⟨ba, oa, none⟩) tr.length cap, .int .i64 gap, .slice a' T.length cap'] 26)).alloc (.cells #[.slice none 0 0, .int .i64 0, .slice none 0 0] 26)).alloc (.cells #[] 3)).alloc (.cells #[.slice none 0 0, .int .i64 0, .slice none 0 0] 26)).drew (w.heap.size + 2) (w.heap.size + 2) w.heap.size ba oa cap tr hEb (by omega) (by rw [hsXb]; omega) hl1 (IsInts.below hI (Below.join hVb (Nat.le_refl _) hXb) (Nat.le_refl _))
      have hX2 : Below ((w.alloc (.cells #[.slice (some ⟨ba, oa, none⟩) tr.length cap, .int .i64 gap, .slice a' T.length cap'] 26)).alloc (.cells #[.slice none 0 0, .int .i64 0, .slice none 0 0] 26)).heap.size ((w.alloc (.cells #[.slice (some ⟨ba, oa, none⟩) tr.length cap, .int .i64 gap, .slice a' T.length cap'] 26)).alloc (.cells #[.slice none 0 0, .int .i64 0, .slice none 0 0] 26)) X2 := below_grown hXb hgr (by rw [hsXb, hsV]; omega) (fun x hx => by simp only [Option.some.injEq] at hx; rw [hsV]; omega)
      obtain ⟨gv, cv, rfl⟩ := Joins.ownsRow_form hown hl0
      have hgv : gv = w.heap.size + 2 ∨ gv = ((((w.alloc (.cells #[.slice (some ⟨ba, oa, none⟩) tr.length cap, .int .i64 gap, .slice a' T.length cap'] 26)).alloc (.cells #[.slice none 0 0, .int .i64 0, .slice none 0 0] 26)).alloc (.cells #[] 3)).alloc (.cells #[.slice none 0 0, .int .i64 0, .slice none 0 0] 26)).drew.heap.size := by
        rcases hloc with h | h
        · left; simpa [Value.ownBlock] using h
        · right; simpa [Value.ownBlock] using h
      rw [hsXb] at hgv
      have hs2 := hgr.size
      rw [hsXb] at hs2
      refine step_append_eq _ (by rfl) _ _ _ (by rfl) _ _ _ _ (by rfl) (by rfl) hap ?_
      refine hK.out _ _ ⟨cellLater hX2 n0, cellLater hX2 n1⟩ (fun hHeld => ?_)
      clear hK K
      (try simp only [Act.put, List.setIfInBounds_toArray, List.set_cons_zero, List.set_cons_succ])
      refine wpAnyH_take (i := 6) (oi := { dst := some 15, op := Go.Op.build 26 #[(0, Go.Operand.tmp 12), (1, Go.Operand.tmp 14)], type := 26, pos := "laws.go:60", after := #[{ on := 3, ground := Go.Ground.data }, { on := 5, ground := Go.Ground.data }], guard := none }) (v := ?vv305_6) rfl (by kernel_rfl) (by kernel_rfl) (by kernel_rfl) (fun _ _ _ h => h) (Or.inl ⟨by rfl, ?hy305_6⟩) (by assumption) ?rest305_6
      case hy305_6 =>
        intro w hSw
        (try dsimp only at hSw)
        go_simp
        (try with_reducible rfl)
      simp only [Act.put, List.setIfInBounds_toArray, List.set_cons_zero, List.set_cons_succ]
      have hRq : Room (w.heap.size + 3) 3 X2 := Room.grown hRb hgr (fun k hk e => by simp only [Option.some.injEq] at hk; omega)
      obtain ⟨b0, bm0, bz0⟩ := hRq 0 (by omega)
      obtain ⟨b1', bm1, bz1⟩ := hRq 1 (by omega)
      obtain ⟨b2', bm2, bz2⟩ := hRq 2 (by omega)
      have hBY : Below ((w.alloc (.cells #[.slice (some ⟨ba, oa, none⟩) tr.length cap, .int .i64 gap, .slice a' T.length cap'] 26)).alloc (.cells #[.slice none 0 0, .int .i64 0, .slice none 0 0] 26)).heap.size ((w.alloc (.cells #[.slice (some ⟨ba, oa, none⟩) tr.length cap, .int .i64 gap, .slice a' T.length cap'] 26)).alloc (.cells #[.slice none 0 0, .int .i64 0, .slice none 0 0] 26)) (((X2.setCell ⟨w.heap.size + 3, 0, none⟩ (.slice (some ⟨gv, 0, none⟩) tr.length cv)).setCell ⟨w.heap.size + 3, 1, none⟩ (.int .i64 gap)).setCell ⟨w.heap.size + 3, 2, none⟩ (.slice none 0 0)) := ((hX2.setCell (p := ⟨w.heap.size + 3, 0, none⟩) (by rw [hsV]; dsimp only; omega) _).setCell (p := ⟨w.heap.size + 3, 1, none⟩) (by rw [hsV]; dsimp only; omega) _).setCell (p := ⟨w.heap.size + 3, 2, none⟩) (by rw [hsV]; dsimp only; omega) _
      refine wpAnyH_ready (rs := [8]) (by kernel_rfl) (by simp) ?_
      refine AllReadyH.cons (o := { dst := none, op := Go.Op.store 26 (Go.Operand.tmp 5) (Go.Operand.tmp 15), type := 0, pos := "laws.go:60", after := #[{ on := 7, ground := Go.Ground.data }, { on := 6, ground := Go.Ground.data }, { on := 3, ground := Go.Ground.chain }, { on := 0, ground := Go.Ground.phase }, { on := 1, ground := Go.Ground.phase }, { on := 2, ground := Go.Ground.phase }, { on := 3, ground := Go.Ground.phase }, { on := 4, ground := Go.Ground.phase }, { on := 5, ground := Go.Ground.phase }, { on := 6, ground := Go.Ground.phase }, { on := 7, ground := Go.Ground.phase }], guard := none }) rfl (fun K hK => ?_) AllReadyH.nil
      go_simp
      refine hK.out _ _ ⟨cellLater hBY n0, cellLater hBY n1⟩ (fun hHeld => ?_)
      clear hK K
      (try simp only [Act.put, List.setIfInBounds_toArray, List.set_cons_zero, List.set_cons_succ])
      refine wpAnyH_done (by kernel_rfl) ?_ _
      have hoY : (((X2.setCell ⟨w.heap.size + 3, 0, none⟩ (.slice (some ⟨gv, 0, none⟩) tr.length cv)).setCell ⟨w.heap.size + 3, 1, none⟩ (.int .i64 gap)).setCell ⟨w.heap.size + 3, 2, none⟩ (.slice none 0 0)).ownsRow (w.heap.size + 2) 3 1 (.slice (some ⟨gv, 0, none⟩) tr.length cv) tr.length (intCells tr) := ownsRow_same hown (fun k hk => by
          have hne : k ≠ w.heap.size + 3 := by simp only [Value.ownBlock, Option.some.injEq] at hk; omega
          exact (Below.heap_setCell _ ⟨w.heap.size + 3, 2, none⟩ _ k hne).trans ((Below.heap_setCell _ ⟨w.heap.size + 3, 1, none⟩ _ k hne).trans (Below.heap_setCell _ ⟨w.heap.size + 3, 0, none⟩ _ k hne)))
      have d0 : (((X2.setCell ⟨w.heap.size + 3, 0, none⟩ (.slice (some ⟨gv, 0, none⟩) tr.length cv)).setCell ⟨w.heap.size + 3, 1, none⟩ (.int .i64 gap)).setCell ⟨w.heap.size + 3, 2, none⟩ (.slice none 0 0)).cell? ⟨w.heap.size + 3, 0, none⟩ = some (.slice (some ⟨gv, 0, none⟩) tr.length cv) := (cell_set_ne (by omega)).trans ((cell_set_ne (by omega)).trans (World.cell?_setCell_same _ _ _ bm0))
      have d1 : (((X2.setCell ⟨w.heap.size + 3, 0, none⟩ (.slice (some ⟨gv, 0, none⟩) tr.length cv)).setCell ⟨w.heap.size + 3, 1, none⟩ (.int .i64 gap)).setCell ⟨w.heap.size + 3, 2, none⟩ (.slice none 0 0)).cell? ⟨w.heap.size + 3, 1, none⟩ = some (.int .i64 gap) := (cell_set_ne (by omega)).trans (World.cell?_setCell_same _ _ _ ((cell_set_ne (by omega)).trans bm1))
      have d2 : (((X2.setCell ⟨w.heap.size + 3, 0, none⟩ (.slice (some ⟨gv, 0, none⟩) tr.length cv)).setCell ⟨w.heap.size + 3, 1, none⟩ (.int .i64 gap)).setCell ⟨w.heap.size + 3, 2, none⟩ (.slice none 0 0)).cell? ⟨w.heap.size + 3, 2, none⟩ = some (.slice none 0 0) := World.cell?_setCell_same _ _ _ ((cell_set_ne (by omega)).trans ((cell_set_ne (by omega)).trans bm2))
      have dz : (((X2.setCell ⟨w.heap.size + 3, 0, none⟩ (.slice (some ⟨gv, 0, none⟩) tr.length cv)).setCell ⟨w.heap.size + 3, 1, none⟩ (.int .i64 gap)).setCell ⟨w.heap.size + 3, 2, none⟩ (.slice none 0 0)).frozen? ⟨w.heap.size + 3, 2, none⟩ = false := by rw [World.frozen?_setCell, World.frozen?_setCell, World.frozen?_setCell]; exact bz2
      clear hRq bm0 bz0 bm1 bz1 bm2 bz2
      have hWl := WlI.new d0 d1 d2 dz hoY (by simp only [Value.ownBlock, ne_eq, Option.some.injEq]; omega) (by omega) ((((hRm.below hX2 lR).set ⟨w.heap.size + 3, 0, none⟩ _).set ⟨w.heap.size + 3, 1, none⟩ _).set ⟨w.heap.size + 3, 2, none⟩ _) (Below.join hVb (Nat.le_refl _) hBY)
      have q2 := cellLater hBY n2
      obtain ⟨Y, hY⟩ : ∃ Y, Y = (((X2.setCell ⟨w.heap.size + 3, 0, none⟩ (.slice (some ⟨gv, 0, none⟩) tr.length cv)).setCell ⟨w.heap.size + 3, 1, none⟩ (.int .i64 gap)).setCell ⟨w.heap.size + 3, 2, none⟩ (.slice none 0 0)) := ⟨_, rfl⟩
      rw [← hY] at hWl q2 ⊢
      clear hY hap hgr hown hX2 n0 n1 n2
      go_wp2
      rename_i Kz az
      refine later_loop (w.heap.size + 3) Y.heap.size by_ tr gap (.slice (some ⟨gv, 0, none⟩) tr.length cv) a' T cap' w Y Kz _ ?_ hT5 hby0 hby1 hok hT hWl
      intro u7 u8 u19 u20 u21 u22 u23 u24 u25 u26 u27 u28 u29 u30 u31 u32 u33 u34 u35 u36 u37 u38 u39 u40 u41 u42 u43 u44 u45 wz L vT hLm hWz
      refine az _ _ ?_
      clear az hWl q2
      obtain ⟨xa, xc, rfl⟩ : ∃ xa xc, vT = .slice xa L.length xc := by
        rcases hWz.trs.row.2 with ⟨e, h0⟩ | ⟨g, cp, cur, e, _⟩
        · exact ⟨none, 0, by rw [e, h0]⟩
        · exact ⟨_, cp, e⟩
      have c0 := hWz.c0
      have c1 := hWz.c1
      have c2 := hWz.c2
      have hOw := hWz.own
      obtain ⟨r0, rm0, rz0⟩ := hWz.room 0 (by omega)
      obtain ⟨r1, rm1, rz1⟩ := hWz.room 1 (by omega)
      obtain ⟨r2, rm2, rz2⟩ := hWz.room 2 (by omega)
      have hBz := hWz.below
      have hLm' : Hid _ := hLm
      clear hLm hWz
      go_wp2
      exact bodyPost_ret (v := .agg #[.slice (some ⟨gv, 0, none⟩) tr.length cv, .int .i64 gap, .slice xa L.length xc]) (by simp [results, Tryz.results14, go_sem, rm0, rm1, rm2]) rfl ⟨L, _, _, hLm'.out, rfl, (((hOw.set ⟨w.heap.size + 1, 0, none⟩ (by dsimp only; omega) _).set ⟨w.heap.size + 1, 1, none⟩ (by dsimp only; omega) _).set ⟨w.heap.size + 1, 2, none⟩ (by dsimp only; omega) _).low (by omega), ((hBz.setCell (p := ⟨w.heap.size + 1, 0, none⟩) (by dsimp only; omega) _).setCell (p := ⟨w.heap.size + 1, 1, none⟩) (by dsimp only; omega) _).setCell (p := ⟨w.heap.size + 1, 2, none⟩) (by dsimp only; omega) _⟩
  · have hX : Below ((w.alloc (.cells #[.slice (some ⟨ba, oa, none⟩) tr.length cap, .int .i64 gap, .slice a' T.length cap'] 26)).alloc (.cells #[.slice none 0 0, .int .i64 0, .slice none 0 0] 26)).heap.size ((w.alloc (.cells #[.slice (some ⟨ba, oa, none⟩) tr.length cap, .int .i64 gap, .slice a' T.length cap'] 26)).alloc (.cells #[.slice none 0 0, .int .i64 0, .slice none 0 0] 26)) (((w.alloc (.cells #[.slice (some ⟨ba, oa, none⟩) tr.length cap, .int .i64 gap, .slice a' T.length cap'] 26)).alloc (.cells #[.slice none 0 0, .int .i64 0, .slice none 0 0] 26)).alloc (.cells #[.slice none 0 0, .int .i64 0, .slice none 0 0] 26)).drew := (b1 ((w.alloc (.cells #[.slice (some ⟨ba, oa, none⟩) tr.length cap, .int .i64 gap, .slice a' T.length cap'] 26)).alloc (.cells #[.slice none 0 0, .int .i64 0, .slice none 0 0] 26)) (.cells #[.slice none 0 0, .int .i64 0, .slice none 0 0] 26)).drew
    have hRz : Room (w.heap.size + 2) 3 (((w.alloc (.cells #[.slice (some ⟨ba, oa, none⟩) tr.length cap, .int .i64 gap, .slice a' T.length cap'] 26)).alloc (.cells #[.slice none 0 0, .int .i64 0, .slice none 0 0] 26)).alloc (.cells #[.slice none 0 0, .int .i64 0, .slice none 0 0] 26)) := by
      have h := Room.lit ((w.alloc (.cells #[.slice (some ⟨ba, oa, none⟩) tr.length cap, .int .i64 gap, .slice a' T.length cap'] 26)).alloc (.cells #[.slice none 0 0, .int .i64 0, .slice none 0 0] 26)) #[.slice none 0 0, .int .i64 0, .slice none 0 0] 26 3 (Nat.le_refl _)
      rwa [hsV] at h
    go_simp
    refine hK.out _ _ ⟨cellLater hX n0, cellLater hX n1⟩ (fun hHeld => ?_)
    clear hK K
    (try simp only [Act.put, List.setIfInBounds_toArray, List.set_cons_zero, List.set_cons_succ])
    refine wpAnyH_ready (rs := [0]) (by kernel_rfl) (by simp) ?_
    refine AllReadyH.cons (o := { dst := some 9, op := Go.Op.buildSlice 23 0 #[], type := 23, pos := "laws.go:60", after := #[], guard := none }) rfl (fun K hK => ?_) AllReadyH.nil
    have hXb : Below ((w.alloc (.cells #[.slice (some ⟨ba, oa, none⟩) tr.length cap, .int .i64 gap, .slice a' T.length cap'] 26)).alloc (.cells #[.slice none 0 0, .int .i64 0, .slice none 0 0] 26)).heap.size ((w.alloc (.cells #[.slice (some ⟨ba, oa, none⟩) tr.length cap, .int .i64 gap, .slice a' T.length cap'] 26)).alloc (.cells #[.slice none 0 0, .int .i64 0, .slice none 0 0] 26)) ((((w.alloc (.cells #[.slice (some ⟨ba, oa, none⟩) tr.length cap, .int .i64 gap, .slice a' T.length cap'] 26)).alloc (.cells #[.slice none 0 0, .int .i64 0, .slice none 0 0] 26)).alloc (.cells #[.slice none 0 0, .int .i64 0, .slice none 0 0] 26)).alloc (.cells #[] 3)).drew := (Below.join (b1 ((w.alloc (.cells #[.slice (some ⟨ba, oa, none⟩) tr.length cap, .int .i64 gap, .slice a' T.length cap'] 26)).alloc (.cells #[.slice none 0 0, .int .i64 0, .slice none 0 0] 26)) (.cells #[.slice none 0 0, .int .i64 0, .slice none 0 0] 26)) (Nat.le_refl _) (b1 (((w.alloc (.cells #[.slice (some ⟨ba, oa, none⟩) tr.length cap, .int .i64 gap, .slice a' T.length cap'] 26)).alloc (.cells #[.slice none 0 0, .int .i64 0, .slice none 0 0] 26)).alloc (.cells #[.slice none 0 0, .int .i64 0, .slice none 0 0] 26)) (.cells #[] 3))).drew
    have hsXb : ((((w.alloc (.cells #[.slice (some ⟨ba, oa, none⟩) tr.length cap, .int .i64 gap, .slice a' T.length cap'] 26)).alloc (.cells #[.slice none 0 0, .int .i64 0, .slice none 0 0] 26)).alloc (.cells #[.slice none 0 0, .int .i64 0, .slice none 0 0] 26)).alloc (.cells #[] 3)).drew.heap.size = w.heap.size + 4 := by show ((((w.alloc (.cells #[.slice (some ⟨ba, oa, none⟩) tr.length cap, .int .i64 gap, .slice a' T.length cap'] 26)).alloc (.cells #[.slice none 0 0, .int .i64 0, .slice none 0 0] 26)).alloc (.cells #[.slice none 0 0, .int .i64 0, .slice none 0 0] 26)).alloc (.cells #[] 3)).heap.size = _; rw [World.size_alloc, World.size_alloc, hsV]
    have hEb : ((((w.alloc (.cells #[.slice (some ⟨ba, oa, none⟩) tr.length cap, .int .i64 gap, .slice a' T.length cap'] 26)).alloc (.cells #[.slice none 0 0, .int .i64 0, .slice none 0 0] 26)).alloc (.cells #[.slice none 0 0, .int .i64 0, .slice none 0 0] 26)).alloc (.cells #[] 3)).drew.heap[w.heap.size + 3]? = some (.cells #[] 3) := by have h := Go.heap_alloc_new (((w.alloc (.cells #[.slice (some ⟨ba, oa, none⟩) tr.length cap, .int .i64 gap, .slice a' T.length cap'] 26)).alloc (.cells #[.slice none 0 0, .int .i64 0, .slice none 0 0] 26)).alloc (.cells #[.slice none 0 0, .int .i64 0, .slice none 0 0] 26)) (.cells #[] 3); rw [World.size_alloc, hsV] at h; exact h
    have hRb : Room (w.heap.size + 2) 3 ((((w.alloc (.cells #[.slice (some ⟨ba, oa, none⟩) tr.length cap, .int .i64 gap, .slice a' T.length cap'] 26)).alloc (.cells #[.slice none 0 0, .int .i64 0, .slice none 0 0] 26)).alloc (.cells #[.slice none 0 0, .int .i64 0, .slice none 0 0] 26)).alloc (.cells #[] 3)).drew := hRz.below ((b1 (((w.alloc (.cells #[.slice (some ⟨ba, oa, none⟩) tr.length cap, .int .i64 gap, .slice a' T.length cap'] 26)).alloc (.cells #[.slice none 0 0, .int .i64 0, .slice none 0 0] 26)).alloc (.cells #[.slice none 0 0, .int .i64 0, .slice none 0 0] 26)) (.cells #[] 3)).drew) (by rw [World.size_alloc, hsV]; omega)
    go_simp
    refine hK.out _ _ ⟨cellLater hXb n0, cellLater hXb n1⟩ (fun hHeld => ?_)
    clear hK K
    (try simp only [Act.put, List.setIfInBounds_toArray, List.set_cons_zero, List.set_cons_succ])
    refine wpAnyH_ready (rs := [3]) (by kernel_rfl) (by simp) ?_
    refine AllReadyH.cons (o := { dst := some 12, op := Go.Op.call { callee := Go.Callee.builtin Go.Builtin.append, args := #[Go.Operand.tmp 9, Go.Operand.tmp 11], argTypes := #[23, 23] }, type := 23, pos := "laws.go:60", after := #[{ on := 0, ground := Go.Ground.data }, { on := 2, ground := Go.Ground.data }], guard := none }) rfl (fun K hK => ?_) AllReadyH.nil
    obtain ⟨vt, X2, hap, hown, hgr, hloc⟩ := tracks_append ((((w.alloc (.cells #[.slice (some ⟨ba, oa, none⟩) tr.length cap, .int .i64 gap, .slice a' T.length cap'] 26)).alloc (.cells #[.slice none 0 0, .int .i64 0, .slice none 0 0] 26)).alloc (.cells #[.slice none 0 0, .int .i64 0, .slice none 0 0] 26)).alloc (.cells #[] 3)).drew (w.heap.size + 3) (w.heap.size + 2) w.heap.size ba oa cap tr hEb (by omega) (by rw [hsXb]; omega) hl1 (IsInts.below hI (Below.join hVb (Nat.le_refl _) hXb) (Nat.le_refl _))
    have hX2 : Below ((w.alloc (.cells #[.slice (some ⟨ba, oa, none⟩) tr.length cap, .int .i64 gap, .slice a' T.length cap'] 26)).alloc (.cells #[.slice none 0 0, .int .i64 0, .slice none 0 0] 26)).heap.size ((w.alloc (.cells #[.slice (some ⟨ba, oa, none⟩) tr.length cap, .int .i64 gap, .slice a' T.length cap'] 26)).alloc (.cells #[.slice none 0 0, .int .i64 0, .slice none 0 0] 26)) X2 := below_grown hXb hgr (by rw [hsXb, hsV]; omega) (fun x hx => by simp only [Option.some.injEq] at hx; rw [hsV]; omega)
    obtain ⟨gv, cv, rfl⟩ := Joins.ownsRow_form hown hl0
    have hgv : gv = w.heap.size + 3 ∨ gv = ((((w.alloc (.cells #[.slice (some ⟨ba, oa, none⟩) tr.length cap, .int .i64 gap, .slice a' T.length cap'] 26)).alloc (.cells #[.slice none 0 0, .int .i64 0, .slice none 0 0] 26)).alloc (.cells #[.slice none 0 0, .int .i64 0, .slice none 0 0] 26)).alloc (.cells #[] 3)).drew.heap.size := by
      rcases hloc with h | h
      · left; simpa [Value.ownBlock] using h
      · right; simpa [Value.ownBlock] using h
    rw [hsXb] at hgv
    have hs2 := hgr.size
    rw [hsXb] at hs2
    refine step_append_eq _ (by rfl) _ _ _ (by rfl) _ _ _ _ (by rfl) (by rfl) hap ?_
    refine hK.out _ _ ⟨cellLater hX2 n0, cellLater hX2 n1⟩ (fun hHeld => ?_)
    clear hK K
    (try simp only [Act.put, List.setIfInBounds_toArray, List.set_cons_zero, List.set_cons_succ])
    refine wpAnyH_take (i := 6) (oi := { dst := some 15, op := Go.Op.build 26 #[(0, Go.Operand.tmp 12), (1, Go.Operand.tmp 14)], type := 26, pos := "laws.go:60", after := #[{ on := 3, ground := Go.Ground.data }, { on := 5, ground := Go.Ground.data }], guard := none }) (v := ?vv9005_6) rfl (by kernel_rfl) (by kernel_rfl) (by kernel_rfl) (fun _ _ _ h => h) (Or.inl ⟨by rfl, ?hy9005_6⟩) (by assumption) ?rest9005_6
    case hy9005_6 =>
      intro w hSw
      (try dsimp only at hSw)
      go_simp
      (try with_reducible rfl)
    simp only [Act.put, List.setIfInBounds_toArray, List.set_cons_zero, List.set_cons_succ]
    have hRq : Room (w.heap.size + 2) 3 X2 := Room.grown hRb hgr (fun k hk e => by simp only [Option.some.injEq] at hk; omega)
    obtain ⟨b0, bm0, bz0⟩ := hRq 0 (by omega)
    obtain ⟨b1', bm1, bz1⟩ := hRq 1 (by omega)
    obtain ⟨b2', bm2, bz2⟩ := hRq 2 (by omega)
    have hBY : Below ((w.alloc (.cells #[.slice (some ⟨ba, oa, none⟩) tr.length cap, .int .i64 gap, .slice a' T.length cap'] 26)).alloc (.cells #[.slice none 0 0, .int .i64 0, .slice none 0 0] 26)).heap.size ((w.alloc (.cells #[.slice (some ⟨ba, oa, none⟩) tr.length cap, .int .i64 gap, .slice a' T.length cap'] 26)).alloc (.cells #[.slice none 0 0, .int .i64 0, .slice none 0 0] 26)) (((X2.setCell ⟨w.heap.size + 2, 0, none⟩ (.slice (some ⟨gv, 0, none⟩) tr.length cv)).setCell ⟨w.heap.size + 2, 1, none⟩ (.int .i64 gap)).setCell ⟨w.heap.size + 2, 2, none⟩ (.slice none 0 0)) := ((hX2.setCell (p := ⟨w.heap.size + 2, 0, none⟩) (by rw [hsV]; dsimp only; omega) _).setCell (p := ⟨w.heap.size + 2, 1, none⟩) (by rw [hsV]; dsimp only; omega) _).setCell (p := ⟨w.heap.size + 2, 2, none⟩) (by rw [hsV]; dsimp only; omega) _
    refine wpAnyH_ready (rs := [8]) (by kernel_rfl) (by simp) ?_
    refine AllReadyH.cons (o := { dst := none, op := Go.Op.store 26 (Go.Operand.tmp 5) (Go.Operand.tmp 15), type := 0, pos := "laws.go:60", after := #[{ on := 7, ground := Go.Ground.data }, { on := 6, ground := Go.Ground.data }, { on := 3, ground := Go.Ground.chain }, { on := 0, ground := Go.Ground.phase }, { on := 1, ground := Go.Ground.phase }, { on := 2, ground := Go.Ground.phase }, { on := 3, ground := Go.Ground.phase }, { on := 4, ground := Go.Ground.phase }, { on := 5, ground := Go.Ground.phase }, { on := 6, ground := Go.Ground.phase }, { on := 7, ground := Go.Ground.phase }], guard := none }) rfl (fun K hK => ?_) AllReadyH.nil
    go_simp
    refine hK.out _ _ ⟨cellLater hBY n0, cellLater hBY n1⟩ (fun hHeld => ?_)
    clear hK K
    (try simp only [Act.put, List.setIfInBounds_toArray, List.set_cons_zero, List.set_cons_succ])
    refine wpAnyH_done (by kernel_rfl) ?_ _
    have hoY : (((X2.setCell ⟨w.heap.size + 2, 0, none⟩ (.slice (some ⟨gv, 0, none⟩) tr.length cv)).setCell ⟨w.heap.size + 2, 1, none⟩ (.int .i64 gap)).setCell ⟨w.heap.size + 2, 2, none⟩ (.slice none 0 0)).ownsRow (w.heap.size + 2) 3 1 (.slice (some ⟨gv, 0, none⟩) tr.length cv) tr.length (intCells tr) := ownsRow_same hown (fun k hk => by
        have hne : k ≠ w.heap.size + 2 := by simp only [Value.ownBlock, Option.some.injEq] at hk; omega
        exact (Below.heap_setCell _ ⟨w.heap.size + 2, 2, none⟩ _ k hne).trans ((Below.heap_setCell _ ⟨w.heap.size + 2, 1, none⟩ _ k hne).trans (Below.heap_setCell _ ⟨w.heap.size + 2, 0, none⟩ _ k hne)))
    have d0 : (((X2.setCell ⟨w.heap.size + 2, 0, none⟩ (.slice (some ⟨gv, 0, none⟩) tr.length cv)).setCell ⟨w.heap.size + 2, 1, none⟩ (.int .i64 gap)).setCell ⟨w.heap.size + 2, 2, none⟩ (.slice none 0 0)).cell? ⟨w.heap.size + 2, 0, none⟩ = some (.slice (some ⟨gv, 0, none⟩) tr.length cv) := (cell_set_ne (by omega)).trans ((cell_set_ne (by omega)).trans (World.cell?_setCell_same _ _ _ bm0))
    have d1 : (((X2.setCell ⟨w.heap.size + 2, 0, none⟩ (.slice (some ⟨gv, 0, none⟩) tr.length cv)).setCell ⟨w.heap.size + 2, 1, none⟩ (.int .i64 gap)).setCell ⟨w.heap.size + 2, 2, none⟩ (.slice none 0 0)).cell? ⟨w.heap.size + 2, 1, none⟩ = some (.int .i64 gap) := (cell_set_ne (by omega)).trans (World.cell?_setCell_same _ _ _ ((cell_set_ne (by omega)).trans bm1))
    have d2 : (((X2.setCell ⟨w.heap.size + 2, 0, none⟩ (.slice (some ⟨gv, 0, none⟩) tr.length cv)).setCell ⟨w.heap.size + 2, 1, none⟩ (.int .i64 gap)).setCell ⟨w.heap.size + 2, 2, none⟩ (.slice none 0 0)).cell? ⟨w.heap.size + 2, 2, none⟩ = some (.slice none 0 0) := World.cell?_setCell_same _ _ _ ((cell_set_ne (by omega)).trans ((cell_set_ne (by omega)).trans bm2))
    have dz : (((X2.setCell ⟨w.heap.size + 2, 0, none⟩ (.slice (some ⟨gv, 0, none⟩) tr.length cv)).setCell ⟨w.heap.size + 2, 1, none⟩ (.int .i64 gap)).setCell ⟨w.heap.size + 2, 2, none⟩ (.slice none 0 0)).frozen? ⟨w.heap.size + 2, 2, none⟩ = false := by rw [World.frozen?_setCell, World.frozen?_setCell, World.frozen?_setCell]; exact bz2
    clear hRq bm0 bz0 bm1 bz1 bm2 bz2
    have hWl := WlI.new d0 d1 d2 dz hoY (by simp only [Value.ownBlock, ne_eq, Option.some.injEq]; omega) (by omega) ((((hRm.below hX2 lR).set ⟨w.heap.size + 2, 0, none⟩ _).set ⟨w.heap.size + 2, 1, none⟩ _).set ⟨w.heap.size + 2, 2, none⟩ _) (Below.join hVb (Nat.le_refl _) hBY)
    have q2 := cellLater hBY n2
    obtain ⟨Y, hY⟩ : ∃ Y, Y = (((X2.setCell ⟨w.heap.size + 2, 0, none⟩ (.slice (some ⟨gv, 0, none⟩) tr.length cv)).setCell ⟨w.heap.size + 2, 1, none⟩ (.int .i64 gap)).setCell ⟨w.heap.size + 2, 2, none⟩ (.slice none 0 0)) := ⟨_, rfl⟩
    rw [← hY] at hWl q2 ⊢
    clear hY hap hgr hown hX2 n0 n1 n2
    go_wp2
    rename_i Kz az
    refine later_loop (w.heap.size + 2) Y.heap.size by_ tr gap (.slice (some ⟨gv, 0, none⟩) tr.length cv) a' T cap' w Y Kz _ ?_ hT5 hby0 hby1 hok hT hWl
    intro u7 u8 u19 u20 u21 u22 u23 u24 u25 u26 u27 u28 u29 u30 u31 u32 u33 u34 u35 u36 u37 u38 u39 u40 u41 u42 u43 u44 u45 wz L vT hLm hWz
    refine az _ _ ?_
    clear az hWl q2
    obtain ⟨xa, xc, rfl⟩ : ∃ xa xc, vT = .slice xa L.length xc := by
      rcases hWz.trs.row.2 with ⟨e, h0⟩ | ⟨g, cp, cur, e, _⟩
      · exact ⟨none, 0, by rw [e, h0]⟩
      · exact ⟨_, cp, e⟩
    have c0 := hWz.c0
    have c1 := hWz.c1
    have c2 := hWz.c2
    have hOw := hWz.own
    obtain ⟨r0, rm0, rz0⟩ := hWz.room 0 (by omega)
    obtain ⟨r1, rm1, rz1⟩ := hWz.room 1 (by omega)
    obtain ⟨r2, rm2, rz2⟩ := hWz.room 2 (by omega)
    have hBz := hWz.below
    have hLm' : Hid _ := hLm
    clear hLm hWz
    go_wp2
    exact bodyPost_ret (v := .agg #[.slice (some ⟨gv, 0, none⟩) tr.length cv, .int .i64 gap, .slice xa L.length xc]) (by simp [results, Tryz.results14, go_sem, rm0, rm1, rm2]) rfl ⟨L, _, _, hLm'.out, rfl, (((hOw.set ⟨w.heap.size + 1, 0, none⟩ (by dsimp only; omega) _).set ⟨w.heap.size + 1, 1, none⟩ (by dsimp only; omega) _).set ⟨w.heap.size + 1, 2, none⟩ (by dsimp only; omega) _).low (by omega), ((hBz.setCell (p := ⟨w.heap.size + 1, 0, none⟩) (by dsimp only; omega) _).setCell (p := ⟨w.heap.size + 1, 1, none⟩) (by dsimp only; omega) _).setCell (p := ⟨w.heap.size + 1, 2, none⟩) (by dsimp only; omega) _⟩
end Go.Proofs.YtelickcfodcmaaaGreatDoor

namespace Go.Proofs.YtelickcfodcmaaaGreatDoor
open Go.RowKit

theorem fromOf_bd {t : TrainD} {r : RowD} (hR : RightT t) (hs : ∀ k, k < t.nl → 0 ≤ r.s k ∧ r.s k ≤ 1000000) : ∀ k, k ≤ t.nl → 0 ≤ fromOf t r k ∧ fromOf t r k ≤ 1010000
  | 0, _ => by have h0 := hR.r0; have h1 := hR.r1; simp only [fromOf]; omega
  | k + 1, h => by
    have hs' := hs k (by omega)
    obtain ⟨l0, l1, l2, l3⟩ := hR.leg k (by omega)
    simp only [fromOf]; omega
theorem toOf_bd {t : TrainD} {r : RowD} (hR : RightT t) (hs : ∀ k, k < t.nl → 0 ≤ r.s k ∧ r.s k ≤ 1000000) (k : Nat) (hk : k ≤ t.nl) : 0 ≤ toOf t r k ∧ toOf t r k ≤ 1010000 := by
  unfold toOf
  split
  · have := hs k (by assumption); omega
  · exact fromOf_bd hR hs k hk
def standV (s : StandD) : Value := .tuple #[.int .i64 s.st, .int .i64 s.frm, .int .i64 s.to]

set_option maxHeartbeats 4000000 in
theorem l3there_any (a : Option Addr) (len cap : Nat) (gap : Int) (a' : Option Addr) (len' cap' : Nat) (f : Nat → TrainD) (c : Option Addr) (np nc : Nat) (P : Nat → RowD) (i k : Nat) (w : World)
    (hR : RightL len len' f) (hQ : RightP len' f np P) (hi : i < len') (hk : k ≤ (f i).nl) (hT : IsTrains 0 w.heap.size w a' len' f) (hP : IsRows 0 w.heap.size w c np P) :
    Calls Tryz.prog 45 #[.agg #[.slice a len cap, .int .i64 gap, .slice a' len' cap'], .agg #[.slice c np nc], .int .i64 i, .int .i64 k] w fun e w' => e = .returned (.tuple #[.int .i64 (cur (f i) k), .int .i64 (fromOf (f i) (P i) k), .int .i64 (toOf (f i) (P i) k)]) ∧ Below w.heap.size w w' := by
  obtain rfl : np = len' := hQ.np
  have htr := hR.tr
  have hRi := hR.train i hi
  have hnl := hRi.nl
  have hpos := hR.pos i hi
  have hi' : (i : Int) < (np : Int) := by omega
  obtain ⟨b, off, la, lc, rfl, _, hb, t0, t1, t2, t3, t4, hlg, _⟩ := hT i hi
  obtain ⟨bp, op, lp, lpc, rfl, _, hbp, p0, hin, _⟩ := hP i hi
  rw [hQ.row i hi] at p0 hin
  obtain ⟨y0, y1, y2, u0⟩ := box2 w a len cap gap (some ⟨b, off, none⟩) np cap' (some ⟨bp, op, none⟩) np nc 26 30
  cases k with
  | zero =>
    have hz : ((0 : Int) == ((f i).nl : Int)) = false := by simp; omega
    have eto : toOf (f i) (P i) 0 = (P i).s 0 := by unfold toOf; rw [if_pos hpos]
    rw [eto]
    obtain ⟨bi, oi, rfl, _, hbi, q0⟩ := hin 0 hpos
    rw [Nat.add_zero] at q0
    have hp' : (0 : Int) < ((f i).nl : Int) := by omega
    go_enter Tryz.func45, Tryz.ntmps45
    go_wp2
    refine nameW fun W3 hW3 => ?_
    have hB3 : Below w.heap.size w W3 := hW3 ▸ b3 _ _ _ _
    have x0 : W3.cell? ⟨w.heap.size + 1, 0, none⟩ = some (.slice (some ⟨bp, op, none⟩) np nc) := by rw [hW3, World.cell?_alloc_lt _ _ ⟨w.heap.size + 1, 0, none⟩ (by simp)]; exact u0
    have e0 : W3.cell? ⟨w.heap.size + 1 + 1, 0, none⟩ = some (.int .i64 (f i).frm) := by rw [hW3, World.cell?_alloc_at _ _ _ _ (by simp)]; rfl
    have e1 : W3.cell? ⟨w.heap.size + 1 + 1, 1, none⟩ = some (.int .i64 (f i).ready) := by rw [hW3, World.cell?_alloc_at _ _ _ _ (by simp)]; rfl
    have e2 : W3.cell? ⟨w.heap.size + 1 + 1, 2, none⟩ = some (.int .i64 (f i).due) := by rw [hW3, World.cell?_alloc_at _ _ _ _ (by simp)]; rfl
    have e3 : W3.cell? ⟨w.heap.size + 1 + 1, 3, none⟩ = some (.int .i64 (f i).weight) := by rw [hW3, World.cell?_alloc_at _ _ _ _ (by simp)]; rfl
    have e4 : W3.cell? ⟨w.heap.size + 1 + 1, 4, none⟩ = some (.slice la (f i).nl lc) := by rw [hW3, World.cell?_alloc_at _ _ _ _ (by simp)]; rfl
    replace p0 := cellLater hB3 p0
    replace q0 := cellLater hB3 q0
    have hlg1 := hlg.grow hB3.drew
    clear hW3 t0 t1 t2 t3 t4 y0 y1 y2 u0
    go_region_held3 (fun w' => w'.cell? ⟨w.heap.size + 1, 0, none⟩ = some (.slice (some ⟨bp, op, none⟩) np nc) ∧ w'.cell? ⟨bp, op + i, none⟩ = some (.slice (some ⟨bi, oi, none⟩) (f i).nl lpc) ∧ w'.cell? ⟨bi, oi, none⟩ = some (.int .i64 ((P i).s 0)) ∧ w'.cell? ⟨w.heap.size + 1 + 1, 0, none⟩ = some (.int .i64 (f i).frm) ∧ w'.cell? ⟨w.heap.size + 1 + 1, 1, none⟩ = some (.int .i64 (f i).ready) ∧ w'.cell? ⟨w.heap.size + 1 + 1, 2, none⟩ = some (.int .i64 (f i).due) ∧ w'.cell? ⟨w.heap.size + 1 + 1, 3, none⟩ = some (.int .i64 (f i).weight) ∧ w'.cell? ⟨w.heap.size + 1 + 1, 4, none⟩ = some (.slice la (f i).nl lc)) (first | go_keep | (go_split_ands; refine ⟨?_, ?_, ?_, ?_, ?_, ?_, ?_, ?_⟩ <;> exact cellLater hB5 (by assumption))) ((go_at_call 63; refine (l2at_any (f i) 0 _ _ _ (Nat.zero_le _) hnl hlg1).mono ?_; rintro e w5 ⟨rfl, hB5⟩))
    go_wp2
    go_ret3
    exact ⟨rfl, Below.join hB3.drew (Nat.le_refl _) hB5⟩
  | succ k =>
    have e0 : ((k + 1 : Nat) : Int) = (k : Int) + 1 := by omega
    rw [e0]
    obtain ⟨l0, l1, l2, l3⟩ := hRi.leg k (by omega)
    obtain ⟨s0, s1⟩ := hQ.at0 i hi k (by omega)
    obtain ⟨bl, ol, rfl, _, hbl, g0, g1, g2⟩ := hlg k (by omega)
    obtain ⟨bi, oi, rfl, _, hbi, q0⟩ := hin k (by omega)
    have hk2 : (k : Int) < ((f i).nl : Int) := by omega
    have hw1 : IntKind.i64.wrap ((k : Int) + 1 - 1) = (k : Int) := by rw [IntKind.wrap_i64]; omega
    have hw2 : IntKind.i64.wrap (k : Int) = (k : Int) := by rw [IntKind.wrap_i64]; omega
    have hn0 : (0 : Int) ≤ (k : Int) := by omega
    have hn1 : (0 : Int) ≤ (k : Int) + 1 := by omega
    have hn2 : ((k : Int) + 1).toNat = k + 1 := by omega
    have hn3 : (0 : Int) < (k : Int) + 1 := by omega
    have efr : fromOf (f i) (P i) (k + 1) = (P i).s k + ((f i).leg k).run := rfl
    have ecu : cur (f i) (k + 1) = ((f i).leg k).to := rfl
    have hwr : IntKind.i64.wrap ((P i).s k + ((f i).leg k).run) = (P i).s k + ((f i).leg k).run := by rw [IntKind.wrap_i64]; omega
    by_cases hkn : k + 1 = (f i).nl
    · have hz : ((k : Int) + 1 == ((f i).nl : Int)) = true := by simp; omega
      have eto : toOf (f i) (P i) (k + 1) = (P i).s k + ((f i).leg k).run := by unfold toOf; rw [if_neg (by omega)]; rfl
      rw [eto, efr, ecu]
      go_enter Tryz.func45, Tryz.ntmps45
      go_wp2
      refine nameW fun W3 hW3 => ?_
      have hB3 : Below w.heap.size w W3 := hW3 ▸ b3 _ _ _ _
      have x0 : W3.cell? ⟨w.heap.size + 1, 0, none⟩ = some (.slice (some ⟨bp, op, none⟩) np nc) := by rw [hW3, World.cell?_alloc_lt _ _ ⟨w.heap.size + 1, 0, none⟩ (by simp)]; exact u0
      have x4 : W3.cell? ⟨w.heap.size + 1 + 1, 4, none⟩ = some (.slice (some ⟨bl, ol, none⟩) (f i).nl lc) := by rw [hW3, World.cell?_alloc_at _ _ _ _ (by simp)]; rfl
      replace p0 := cellLater hB3 p0
      replace q0 := cellLater hB3 q0
      replace g0 := cellLater hB3 g0
      replace g1 := cellLater hB3 g1
      clear hW3 t0 t1 t2 t3 t4 y0 y1 y2 u0
      go_region_held3 (fun w' => w'.cell? ⟨w.heap.size + 1, 0, none⟩ = some (.slice (some ⟨bp, op, none⟩) np nc) ∧ w'.cell? ⟨bp, op + i, none⟩ = some (.slice (some ⟨bi, oi, none⟩) (f i).nl lpc) ∧ w'.cell? ⟨bi, oi + k, none⟩ = some (.int .i64 ((P i).s k)) ∧ w'.cell? ⟨w.heap.size + 1 + 1, 4, none⟩ = some (.slice (some ⟨bl, ol, none⟩) (f i).nl lc) ∧ w'.cell? ⟨bl, ol + k * 3 + 1, none⟩ = some (.int .i64 ((f i).leg k).run)) (go_keep) (fail)
      go_wp2
      go_ret3
      exact ⟨rfl, hB3.drew⟩
    · have hz : ((k : Int) + 1 == ((f i).nl : Int)) = false := by simp; omega
      have hlt : k + 1 < (f i).nl := by omega
      have hlt' : (k : Int) + 1 < ((f i).nl : Int) := by omega
      have eto : toOf (f i) (P i) (k + 1) = (P i).s (k + 1) := by unfold toOf; rw [if_pos hlt]
      rw [eto, efr]
      obtain ⟨bi', oi', ei, _, _, q1⟩ := hin (k + 1) hlt
      simp only [Option.some.injEq, Addr.mk.injEq] at ei
      obtain ⟨rfl, rfl, _⟩ := ei
      have hat : ∀ W : World, IsLegs 0 W.heap.size W (some ⟨bl, ol, none⟩) (f i).nl (f i).leg → Calls Tryz.prog 63 #[.agg #[.int .i64 (f i).frm, .int .i64 (f i).ready, .int .i64 (f i).due, .int .i64 (f i).weight, .slice (some ⟨bl, ol, none⟩) (f i).nl lc], .int .i64 ((k : Int) + 1)] W fun e w' => e = .returned (.int .i64 (cur (f i) (k + 1))) ∧ Below W.heap.size W w' := fun W hL => by
        have h := l2at_any (f i) (k + 1) (some ⟨bl, ol, none⟩) lc W (by omega) hnl hL
        rw [e0] at h
        exact h
      go_enter Tryz.func45, Tryz.ntmps45
      go_wp2
      refine nameW fun W3 hW3 => ?_
      have hB3 : Below w.heap.size w W3 := hW3 ▸ b3 _ _ _ _
      have x0 : W3.cell? ⟨w.heap.size + 1, 0, none⟩ = some (.slice (some ⟨bp, op, none⟩) np nc) := by rw [hW3, World.cell?_alloc_lt _ _ ⟨w.heap.size + 1, 0, none⟩ (by simp)]; exact u0
      have z0 : W3.cell? ⟨w.heap.size + 1 + 1, 0, none⟩ = some (.int .i64 (f i).frm) := by rw [hW3, World.cell?_alloc_at _ _ _ _ (by simp)]; rfl
      have z1 : W3.cell? ⟨w.heap.size + 1 + 1, 1, none⟩ = some (.int .i64 (f i).ready) := by rw [hW3, World.cell?_alloc_at _ _ _ _ (by simp)]; rfl
      have z2 : W3.cell? ⟨w.heap.size + 1 + 1, 2, none⟩ = some (.int .i64 (f i).due) := by rw [hW3, World.cell?_alloc_at _ _ _ _ (by simp)]; rfl
      have z3 : W3.cell? ⟨w.heap.size + 1 + 1, 3, none⟩ = some (.int .i64 (f i).weight) := by rw [hW3, World.cell?_alloc_at _ _ _ _ (by simp)]; rfl
      have x4 : W3.cell? ⟨w.heap.size + 1 + 1, 4, none⟩ = some (.slice (some ⟨bl, ol, none⟩) (f i).nl lc) := by rw [hW3, World.cell?_alloc_at _ _ _ _ (by simp)]; rfl
      replace p0 := cellLater hB3 p0
      replace q0 := cellLater hB3 q0
      replace q1 := cellLater hB3 q1
      replace g1 := cellLater hB3 g1
      have hlg1 := hlg.grow hB3.drew.drew
      clear hW3 t0 t1 t2 t3 t4 y0 y1 y2 u0
      go_region_held3 (fun w' => w'.cell? ⟨w.heap.size + 1, 0, none⟩ = some (.slice (some ⟨bp, op, none⟩) np nc) ∧ w'.cell? ⟨bp, op + i, none⟩ = some (.slice (some ⟨bi, oi, none⟩) (f i).nl lpc) ∧ w'.cell? ⟨bi, oi + k, none⟩ = some (.int .i64 ((P i).s k)) ∧ w'.cell? ⟨w.heap.size + 1 + 1, 4, none⟩ = some (.slice (some ⟨bl, ol, none⟩) (f i).nl lc) ∧ w'.cell? ⟨bl, ol + k * 3 + 1, none⟩ = some (.int .i64 ((f i).leg k).run)) (go_keep) (fail)
      go_wp2
      go_region_held3 (fun w' => w'.cell? ⟨w.heap.size + 1, 0, none⟩ = some (.slice (some ⟨bp, op, none⟩) np nc) ∧ w'.cell? ⟨bp, op + i, none⟩ = some (.slice (some ⟨bi, oi, none⟩) (f i).nl lpc) ∧ w'.cell? ⟨bi, oi + (k + 1), none⟩ = some (.int .i64 ((P i).s (k + 1))) ∧ w'.cell? ⟨w.heap.size + 1 + 1, 0, none⟩ = some (.int .i64 (f i).frm) ∧ w'.cell? ⟨w.heap.size + 1 + 1, 1, none⟩ = some (.int .i64 (f i).ready) ∧ w'.cell? ⟨w.heap.size + 1 + 1, 2, none⟩ = some (.int .i64 (f i).due) ∧ w'.cell? ⟨w.heap.size + 1 + 1, 3, none⟩ = some (.int .i64 (f i).weight) ∧ w'.cell? ⟨w.heap.size + 1 + 1, 4, none⟩ = some (.slice (some ⟨bl, ol, none⟩) (f i).nl lc)) (first | go_keep | (go_split_ands; refine ⟨?_, ?_, ?_, ?_, ?_, ?_, ?_, ?_⟩ <;> exact cellLater hB5 (by assumption))) ((go_at_call 63; refine (hat _ hlg1).mono ?_; rintro e w5 ⟨rfl, hB5⟩))
      go_wp2
      go_ret3
      exact ⟨rfl, Below.join hB3.drew.drew (Nat.le_refl _) hB5⟩

theorem Tryz.infoMeet : (Tryz.prog.info? 44).map (fun i => (i.zero, i.size, i.bytes)) = some (some (.agg #[.int .i64 0, .int .i64 0, .int .i64 0, .int .i64 0, .int .i64 0]), 5, 40) := by kernel_rfl

/-- a row of meetings that a call has made so far, behind a world that it began with -/
structure Got (W wr : World) (v : Value) (L : List MeetD) : Prop where
  own : wr.ownsRow W.heap.size 44 5 v L.length (meetCells L)
  below : Below W.heap.size W wr
theorem Got.later {W wr w' : World} {v : Value} {L : List MeetD} (h : Got W wr v L) (hB : Below wr.heap.size wr w') : Got W w' v L := ⟨ownsRow_later h.own hB, Below.join h.below (Nat.le_refl _) hB⟩
theorem Got.one {W wr w' : World} {v v' : Value} {L : List MeetD} {m : MeetD} (h : Got W wr v L) (ho : w'.ownsRow W.heap.size 44 5 v' (L.length + 1) (meetCells L ++ [.int .i64 m.a, .int .i64 m.b, .int .i64 m.at_, .int .i64 m.frm, .int .i64 m.to])) (hg : wr.grownBy w' v.ownBlock) : Got W w' v' (L ++ [m]) :=
  ⟨by rw [meetCells_app, List.length_append]; exact ho, h.below.grown hg h.below.size (fun k hk => (h.own.lt k hk).1)⟩

set_option maxRecDepth 20000 in
set_option maxHeartbeats 16000000 in
theorem specMeets_from (a : Option Addr) (len cap : Nat) (g : Nat → Int) (gap : Int) (a' : Option Addr) (len' cap' : Nat) (f : Nat → TrainD) (c : Option Addr) (np nc : Nat) (P : Nat → RowD) (w : World) 
    (hT : IsTrains 0 w.heap.size w a' len' f) (hP : IsRows 0 w.heap.size w c np P)
    (hCh : Calls Tryz.prog 8 #[.agg #[.slice a len cap, .int .i64 gap, .slice a' len' cap'], .agg #[.slice c np nc]] ((w.alloc (.cells #[.slice a len cap, .int .i64 gap, .slice a' len' cap'] 26)).alloc (.cells #[.slice c np nc] 30)) fun e w' => e = .returned (.agg #[.int .i64 (clashOf len g gap len' f np P).1, .int .i64 (clashOf len g gap len' f np P).2.1, .int .i64 (clashOf len g gap len' f np P).2.2.1, .int .i64 (clashOf len g gap len' f np P).2.2.2]) ∧ Below ((w.alloc (.cells #[.slice a len cap, .int .i64 gap, .slice a' len' cap'] 26)).alloc (.cells #[.slice c np nc] 30)).heap.size ((w.alloc (.cells #[.slice a len cap, .int .i64 gap, .slice a' len' cap'] 26)).alloc (.cells #[.slice c np nc] 30)) w') :
    Calls Tryz.prog 13 #[.agg #[.slice a len cap, .int .i64 gap, .slice a' len' cap'], .agg #[.slice c np nc]] w fun e w' => (∃ v, e = .returned v ∧ w'.ownsRow w.heap.size 44 5 v (meetsOf len g gap len' f np P).length (meetCells (meetsOf len g gap len' f np P))) ∧ Below w.heap.size w w' := by
  obtain ⟨y0, y1, y2, u0⟩ := box2 w a len cap gap a' len' cap' c np nc 26 30
  have hN := b2 w (.cells #[.slice a len cap, .int .i64 gap, .slice a' len' cap'] 26) (.cells #[.slice c np nc] 30)
  rcases clashOf_or len g gap len' f np P with hz | hz
  · have hA : meetsOf len g gap len' f np P = allM f P len' len' := by unfold meetsOf; rw [if_pos hz]
    obtain ⟨hF, hS⟩ := clashOf_ok hz
    have hF0 := faultOf_snd hF
    have hR := rightL_of hF0
    have hQ := rightP_of hS
    obtain rfl : np = len' := hQ.np
    rw [hA]
    rw [hz] at hCh
    dsimp only at hCh
    clear hA hz hF hF0 hS
    have htr := hR.tr
    obtain ⟨i0, hi, hz0, hz1, hz2⟩ := info_parts Tryz.infoMeet
    have hln := fun i hi => allM_len P htr (fun j hj => (hR.train j hj).nl) i hi
    have hmn := fun i (hi : i < np) d hd => manyM_len P (fun j hj => (hR.train j hj).nl) hi d hd
    have hpn := fun i j (hj : j < np) k => pairM_len P (i := i) (hR.train j hj).nl k
    go_enter Tryz.func13, Tryz.ntmps13
    go_wp2_with (go_at_call 8; refine hCh.mono ?_; rintro _ w2 ⟨rfl, hB2⟩; have hB := Below.join hN (Nat.le_refl _) hB2; have x0 := cellLater hB2 y0; have x1 := cellLater hB2 y1; have x2 := cellLater hB2 y2; have x3 := cellLater hB2 u0; have lw := ltCell x2)
    have hA1 := b1 w2 (.cells #[.int .i64 0, .int .i64 0, .int .i64 0, .int .i64 0] 33)
    refine nameW fun W hW => ?_
    rw [← hW] at hA1
    clear hW
    replace hB := Below.join hB (Nat.le_refl _) hA1
    replace x0 := cellLater hA1 x0
    replace x1 := cellLater hA1 x1
    replace x2 := cellLater hA1 x2
    replace x3 := cellLater hA1 x3
    clear hA1 hB2 lw hCh y0 y1 y2 u0 hN
    go_loopw [6, 26] (fun v ii wr => ∃ (i : Nat), i ≤ np ∧ ii = .int .i64 i ∧ Got W wr v (allM f P np i)) (fun _ ii _ => np - (intOf ii).toNat)
    case atStart => exact ⟨0, Nat.zero_le _, rfl, World.ownsRow_nil _ _ _ _, Below.refl _ _⟩
    case round =>
      obtain ⟨i, hin, rfl, hG⟩ := hrel
      by_cases hlt : i < np
      · have hi' : (i : Int) < (np : Int) := by omega
        have hlni := hln i hin
        go_wp2
        go_loopw [6, 8] (fun v jj wr2 => ∃ (j d : Nat), j = i + 1 + d ∧ j ≤ np ∧ jj = .int .i64 j ∧ Got W wr2 v (allM f P np i ++ manyM f P i d)) (fun _ jj _ => np - (intOf jj).toNat)
        case atStart => exact ⟨i + 1, 0, rfl, by omega, by go_num, by simpa [manyM] using hG⟩
        case round =>
          obtain ⟨j, d, hjd', hjn, rfl, hG2⟩ := hrel
          have hjd : Hid (j = i + 1 + d) := hjd'
          clear hjd'
          by_cases hjlt : j < np
          · have hj' : (j : Int) < (np : Int) := by omega
            have hmni := hmn i hlt d (by have := hjd.out; omega)
            have hLL : (allM f P np i ++ manyM f P i d).length ≤ 4000 := by have := hjd.out; rw [List.length_append]; omega
            generalize hE2' : allM f P np i ++ manyM f P i d = L2 at hG2 hLL
            have hE2 : Hid _ := hE2'
            clear hE2'
            obtain ⟨bi, oi, lai, lci, rfl, _, _, _, _, _, _, ti, _, _⟩ := hT i hlt
            obtain ⟨bj, oj, laj, lcj, ea', _, _, _, _, _, _, tj, _, _⟩ := hT j hjlt
            simp only [Option.some.injEq, Addr.mk.injEq] at ea'
            obtain ⟨rfl, rfl, _⟩ := ea'
            have hBw2 := Below.join hB (Nat.le_refl _) hG2.below
            have v2 := cellLater hG2.below x2
            have ti2 := cellLater hBw2 ti
            have tj2 := cellLater hBw2 tj
            go_wp2
            clear v2 ti2 tj2
            go_loopw [6, 9] (fun v kk wr3 => ∃ (k : Nat), k ≤ (f i).nl + 1 ∧ kk = .int .i64 k ∧ Got W wr3 v (L2 ++ pairM f P i j k)) (fun _ kk _ => (f i).nl + 1 - (intOf kk).toNat)
            case atStart => exact ⟨0, Nat.zero_le _, rfl, by simpa [pairM] using hG2⟩
            case round =>
              obtain ⟨k, hkn, rfl, hG3⟩ := hrel
              have hBw3 := Below.join hB (Nat.le_refl _) hG3.below
              have v2 := cellLater hG3.below x2
              have ti3 := cellLater hBw3 ti
              have tj3 := cellLater hBw3 tj
              have hnli := (hR.train i hlt).nl
              have hnlj := (hR.train j hjlt).nl
              by_cases hklt : k ≤ (f i).nl
              · have hk' : (k : Int) ≤ ((f i).nl : Int) := by omega
                have hppi := hpn i j hjlt k
                have hL3 : (L2 ++ pairM f P i j k).length ≤ 4200 := by rw [List.length_append]; omega
                generalize hE3' : L2 ++ pairM f P i j k = L3 at hG3 hL3
                have hE3 : Hid _ := hE3'
                clear hE3'
                go_wp2
                clear v2 ti3 tj3
                go_loopw [6, 10] (fun v mm wr4 => ∃ (m : Nat), m ≤ (f j).nl + 1 ∧ mm = .int .i64 m ∧ Got W wr4 v (L3 ++ rowM f P i j k m)) (fun _ mm _ => (f j).nl + 1 - (intOf mm).toNat)
                case atStart => exact ⟨0, Nat.zero_le _, rfl, by simpa [rowM] using hG3⟩
                case round =>
                  obtain ⟨m, hmn4, rfl, hG4⟩ := hrel
                  have hBw4 := Below.join hB (Nat.le_refl _) hG4.below
                  have c0 := cellLater hG4.below x0
                  have c1 := cellLater hG4.below x1
                  have c2 := cellLater hG4.below x2
                  have c3 := cellLater hG4.below x3
                  have tj4 := cellLater hBw4 tj
                  by_cases hmlt : m ≤ (f j).nl
                  · have hm' : (m : Int) ≤ ((f j).nl : Int) := by omega
                    have hrow := rowM_len f P i j k m
                    have hL4 : (L3 ++ rowM f P i j k m).length ≤ 4300 := by rw [List.length_append]; omega
                    have hstep : L3 ++ rowM f P i j k (m + 1) = (L3 ++ rowM f P i j k m) ++ meetOf i j (standOf (f i) (P i) k) (standOf (f j) (P j) m) := by rw [List.append_assoc]; rfl
                    have hC1 := l3there_any a len cap gap _ np cap' f c np nc P i k _ hR hQ hlt hklt (hT.grow hBw4) (hP.grow hBw4)
                    have hC2 := fun V hV => l3there_any a len cap gap _ np cap' f c np nc P j m V hR hQ hjlt hmlt (hT.grow (Below.join hBw4 (Nat.le_refl _) hV)) (hP.grow (Below.join hBw4 (Nat.le_refl _) hV))
                    have hst : Hid _ := hstep
                    clear hstep
                    generalize L3 ++ rowM f P i j k m = L4 at hG4 hL4 hst
                    have em : meetOf i j (standOf (f i) (P i) k) (standOf (f j) (P j) m) = if cur (f i) k = cur (f j) m ∧ maxI (fromOf (f i) (P i) k) (fromOf (f j) (P j) m) ≤ minI (toOf (f i) (P i) k) (toOf (f j) (P j) m) then [⟨i, j, cur (f i) k, maxI (fromOf (f i) (P i) k) (fromOf (f j) (P j) m), minI (toOf (f i) (P i) k) (toOf (f j) (P j) m)⟩] else [] := rfl
                    have hem : Hid _ := em
                    clear em
                    generalize meetOf i j (standOf (f i) (P i) k) (standOf (f j) (P j) m) = MM at hst hem
                    generalize cur (f i) k = xs at hC1 hem
                    generalize fromOf (f i) (P i) k = xf at hC1 hem
                    generalize toOf (f i) (P i) k = xt at hC1 hem
                    generalize cur (f j) m = ys at hC2 hem
                    generalize fromOf (f j) (P j) m = yf at hC2 hem
                    generalize toOf (f j) (P j) m = yt at hC2 hem
                    have lw0 := ltCell c2
                    by_cases hs : xs = ys
                    · subst hs
                      by_cases hf : xf < yf
                      · have e1 : maxI xf yf = yf := if_pos hf
                        by_cases ht : yt < xt
                        · have e2 : minI xt yt = yt := if_pos ht
                          by_cases hle : yf ≤ yt
                          · have eM : Hid (MM = [⟨i, j, xs, yf, yt⟩]) := by unfold Hid; rw [hem.out, e1, e2, if_pos ⟨rfl, hle⟩]
                            clear hem e1 e2
                            go_wp2_with (first | (at_builtin; refine wpList_append_own _ rfl _ _ 41 rfl W.heap.size 44 i0 _ 5 40 Tryz.underlying41 hi hz0 hz1 hz2 rfl (by decide) _ _ _ rfl ((ownsRow_later hG4.own hB45).alloc _) ⟨w5.heap.size, 0, none⟩ 1 1 [.int .i64 i, .int .i64 j, .int .i64 xs, .int .i64 yf, .int .i64 yt] rfl rfl cells5_lie one5 (by unfold maxLen; omega) (by omega) (by have h1 := hG4.below.size; have h2 := hB45.size; simp only [World.size_alloc]; omega) ?_) | first | (go_at_call 45; refine hC1.mono ?_; rintro _ w4 ⟨rfl, hB4⟩; replace c0 := cellLater hB4 c0; replace c1 := cellLater hB4 c1; replace c2 := cellLater hB4 c2; replace c3 := cellLater hB4 c3; clear hC1) | (go_at_call 45; refine (hC2 _ hB4).mono ?_; rintro _ w5 ⟨rfl, hB5⟩; have hB45 := Below.join hB4 (Nat.le_refl _) hB5; clear hC2))
                            intro v' w6 hown' hgrow _
                            have hG5 := (hG4.later (Below.join hB45 (Nat.le_refl _) (b1 w5 (.cells #[.int .i64 i, .int .i64 j, .int .i64 xs, .int .i64 yf, .int .i64 yt] 44)))).one (m := ⟨i, j, xs, yf, yt⟩) hown' hgrow
                            clear hown' hgrow
                            go_wp2
                            go_roundw
                            case rel => exact ⟨m + 1, by omega, by go_num, by rw [hst.out, eM.out]; exact hG5⟩
                            case measure => simp [intOf]; omega
                          · have eM : Hid (MM = []) := by unfold Hid; rw [hem.out, e1, e2, if_neg (fun h => hle h.2)]
                            clear hem e1 e2
                            go_wp2_with (first | (go_at_call 45; refine hC1.mono ?_; rintro _ w4 ⟨rfl, hB4⟩; replace c0 := cellLater hB4 c0; replace c1 := cellLater hB4 c1; replace c2 := cellLater hB4 c2; replace c3 := cellLater hB4 c3; clear hC1) | (go_at_call 45; refine (hC2 _ hB4).mono ?_; rintro _ w5 ⟨rfl, hB5⟩; have hB45 := Below.join hB4 (Nat.le_refl _) hB5; clear hC2))
                            go_roundw
                            case rel => exact ⟨m + 1, by omega, by go_num, by rw [hst.out, eM.out, List.append_nil]; exact hG4.later hB45⟩
                            case measure => simp [intOf]; omega
                        · have e2 : minI xt yt = xt := if_neg ht
                          by_cases hle : yf ≤ xt
                          · have eM : Hid (MM = [⟨i, j, xs, yf, xt⟩]) := by unfold Hid; rw [hem.out, e1, e2, if_pos ⟨rfl, hle⟩]
                            clear hem e1 e2
                            go_wp2_with (first | (at_builtin; refine wpList_append_own _ rfl _ _ 41 rfl W.heap.size 44 i0 _ 5 40 Tryz.underlying41 hi hz0 hz1 hz2 rfl (by decide) _ _ _ rfl ((ownsRow_later hG4.own hB45).alloc _) ⟨w5.heap.size, 0, none⟩ 1 1 [.int .i64 i, .int .i64 j, .int .i64 xs, .int .i64 yf, .int .i64 xt] rfl rfl cells5_lie one5 (by unfold maxLen; omega) (by omega) (by have h1 := hG4.below.size; have h2 := hB45.size; simp only [World.size_alloc]; omega) ?_) | first | (go_at_call 45; refine hC1.mono ?_; rintro _ w4 ⟨rfl, hB4⟩; replace c0 := cellLater hB4 c0; replace c1 := cellLater hB4 c1; replace c2 := cellLater hB4 c2; replace c3 := cellLater hB4 c3; clear hC1) | (go_at_call 45; refine (hC2 _ hB4).mono ?_; rintro _ w5 ⟨rfl, hB5⟩; have hB45 := Below.join hB4 (Nat.le_refl _) hB5; clear hC2))
                            intro v' w6 hown' hgrow _
                            have hG5 := (hG4.later (Below.join hB45 (Nat.le_refl _) (b1 w5 (.cells #[.int .i64 i, .int .i64 j, .int .i64 xs, .int .i64 yf, .int .i64 xt] 44)))).one (m := ⟨i, j, xs, yf, xt⟩) hown' hgrow
                            clear hown' hgrow
                            go_wp2
                            go_roundw
                            case rel => exact ⟨m + 1, by omega, by go_num, by rw [hst.out, eM.out]; exact hG5⟩
                            case measure => simp [intOf]; omega
                          · have eM : Hid (MM = []) := by unfold Hid; rw [hem.out, e1, e2, if_neg (fun h => hle h.2)]
                            clear hem e1 e2
                            go_wp2_with (first | (go_at_call 45; refine hC1.mono ?_; rintro _ w4 ⟨rfl, hB4⟩; replace c0 := cellLater hB4 c0; replace c1 := cellLater hB4 c1; replace c2 := cellLater hB4 c2; replace c3 := cellLater hB4 c3; clear hC1) | (go_at_call 45; refine (hC2 _ hB4).mono ?_; rintro _ w5 ⟨rfl, hB5⟩; have hB45 := Below.join hB4 (Nat.le_refl _) hB5; clear hC2))
                            go_roundw
                            case rel => exact ⟨m + 1, by omega, by go_num, by rw [hst.out, eM.out, List.append_nil]; exact hG4.later hB45⟩
                            case measure => simp [intOf]; omega
                      · have e1 : maxI xf yf = xf := if_neg hf
                        by_cases ht : yt < xt
                        · have e2 : minI xt yt = yt := if_pos ht
                          by_cases hle : xf ≤ yt
                          · have eM : Hid (MM = [⟨i, j, xs, xf, yt⟩]) := by unfold Hid; rw [hem.out, e1, e2, if_pos ⟨rfl, hle⟩]
                            clear hem e1 e2
                            go_wp2_with (first | (at_builtin; refine wpList_append_own _ rfl _ _ 41 rfl W.heap.size 44 i0 _ 5 40 Tryz.underlying41 hi hz0 hz1 hz2 rfl (by decide) _ _ _ rfl ((ownsRow_later hG4.own hB45).alloc _) ⟨w5.heap.size, 0, none⟩ 1 1 [.int .i64 i, .int .i64 j, .int .i64 xs, .int .i64 xf, .int .i64 yt] rfl rfl cells5_lie one5 (by unfold maxLen; omega) (by omega) (by have h1 := hG4.below.size; have h2 := hB45.size; simp only [World.size_alloc]; omega) ?_) | first | (go_at_call 45; refine hC1.mono ?_; rintro _ w4 ⟨rfl, hB4⟩; replace c0 := cellLater hB4 c0; replace c1 := cellLater hB4 c1; replace c2 := cellLater hB4 c2; replace c3 := cellLater hB4 c3; clear hC1) | (go_at_call 45; refine (hC2 _ hB4).mono ?_; rintro _ w5 ⟨rfl, hB5⟩; have hB45 := Below.join hB4 (Nat.le_refl _) hB5; clear hC2))
                            intro v' w6 hown' hgrow _
                            have hG5 := (hG4.later (Below.join hB45 (Nat.le_refl _) (b1 w5 (.cells #[.int .i64 i, .int .i64 j, .int .i64 xs, .int .i64 xf, .int .i64 yt] 44)))).one (m := ⟨i, j, xs, xf, yt⟩) hown' hgrow
                            clear hown' hgrow
                            go_wp2
                            go_roundw
                            case rel => exact ⟨m + 1, by omega, by go_num, by rw [hst.out, eM.out]; exact hG5⟩
                            case measure => simp [intOf]; omega
                          · have eM : Hid (MM = []) := by unfold Hid; rw [hem.out, e1, e2, if_neg (fun h => hle h.2)]
                            clear hem e1 e2
                            go_wp2_with (first | (go_at_call 45; refine hC1.mono ?_; rintro _ w4 ⟨rfl, hB4⟩; replace c0 := cellLater hB4 c0; replace c1 := cellLater hB4 c1; replace c2 := cellLater hB4 c2; replace c3 := cellLater hB4 c3; clear hC1) | (go_at_call 45; refine (hC2 _ hB4).mono ?_; rintro _ w5 ⟨rfl, hB5⟩; have hB45 := Below.join hB4 (Nat.le_refl _) hB5; clear hC2))
                            go_roundw
                            case rel => exact ⟨m + 1, by omega, by go_num, by rw [hst.out, eM.out, List.append_nil]; exact hG4.later hB45⟩
                            case measure => simp [intOf]; omega
                        · have e2 : minI xt yt = xt := if_neg ht
                          by_cases hle : xf ≤ xt
                          · have eM : Hid (MM = [⟨i, j, xs, xf, xt⟩]) := by unfold Hid; rw [hem.out, e1, e2, if_pos ⟨rfl, hle⟩]
                            clear hem e1 e2
                            go_wp2_with (first | (at_builtin; refine wpList_append_own _ rfl _ _ 41 rfl W.heap.size 44 i0 _ 5 40 Tryz.underlying41 hi hz0 hz1 hz2 rfl (by decide) _ _ _ rfl ((ownsRow_later hG4.own hB45).alloc _) ⟨w5.heap.size, 0, none⟩ 1 1 [.int .i64 i, .int .i64 j, .int .i64 xs, .int .i64 xf, .int .i64 xt] rfl rfl cells5_lie one5 (by unfold maxLen; omega) (by omega) (by have h1 := hG4.below.size; have h2 := hB45.size; simp only [World.size_alloc]; omega) ?_) | first | (go_at_call 45; refine hC1.mono ?_; rintro _ w4 ⟨rfl, hB4⟩; replace c0 := cellLater hB4 c0; replace c1 := cellLater hB4 c1; replace c2 := cellLater hB4 c2; replace c3 := cellLater hB4 c3; clear hC1) | (go_at_call 45; refine (hC2 _ hB4).mono ?_; rintro _ w5 ⟨rfl, hB5⟩; have hB45 := Below.join hB4 (Nat.le_refl _) hB5; clear hC2))
                            intro v' w6 hown' hgrow _
                            have hG5 := (hG4.later (Below.join hB45 (Nat.le_refl _) (b1 w5 (.cells #[.int .i64 i, .int .i64 j, .int .i64 xs, .int .i64 xf, .int .i64 xt] 44)))).one (m := ⟨i, j, xs, xf, xt⟩) hown' hgrow
                            clear hown' hgrow
                            go_wp2
                            go_roundw
                            case rel => exact ⟨m + 1, by omega, by go_num, by rw [hst.out, eM.out]; exact hG5⟩
                            case measure => simp [intOf]; omega
                          · have eM : Hid (MM = []) := by unfold Hid; rw [hem.out, e1, e2, if_neg (fun h => hle h.2)]
                            clear hem e1 e2
                            go_wp2_with (first | (go_at_call 45; refine hC1.mono ?_; rintro _ w4 ⟨rfl, hB4⟩; replace c0 := cellLater hB4 c0; replace c1 := cellLater hB4 c1; replace c2 := cellLater hB4 c2; replace c3 := cellLater hB4 c3; clear hC1) | (go_at_call 45; refine (hC2 _ hB4).mono ?_; rintro _ w5 ⟨rfl, hB5⟩; have hB45 := Below.join hB4 (Nat.le_refl _) hB5; clear hC2))
                            go_roundw
                            case rel => exact ⟨m + 1, by omega, by go_num, by rw [hst.out, eM.out, List.append_nil]; exact hG4.later hB45⟩
                            case measure => simp [intOf]; omega
                    · have eM : Hid (MM = []) := by unfold Hid; rw [hem.out, if_neg (fun h => hs h.1)]
                      have hs' : (xs == ys) = false := by simpa using hs
                      clear hem
                      by_cases hf : xf < yf <;> by_cases ht : yt < xt
                      all_goals
                        go_wp2_with (first | (go_at_call 45; refine hC1.mono ?_; rintro _ w4 ⟨rfl, hB4⟩; replace c0 := cellLater hB4 c0; replace c1 := cellLater hB4 c1; replace c2 := cellLater hB4 c2; replace c3 := cellLater hB4 c3; clear hC1) | (go_at_call 45; refine (hC2 _ hB4).mono ?_; rintro _ w5 ⟨rfl, hB5⟩; have hB45 := Below.join hB4 (Nat.le_refl _) hB5; clear hC2))
                        go_roundw
                        case rel => exact ⟨m + 1, by omega, by go_num, by rw [hst.out, eM.out, List.append_nil]; exact hG4.later hB45⟩
                        case measure => simp [intOf]; omega
                  · obtain rfl : m = (f j).nl + 1 := by omega
                    have hm' : ¬ ((((f j).nl + 1 : Nat) : Int) ≤ ((f j).nl : Int)) := by omega
                    go_wp2
                    go_roundw
                    case rel => exact ⟨k + 1, by omega, by go_num, by rw [← hE3.out] at hG4; simpa only [pairM, List.append_assoc] using hG4⟩
                    case measure => simp [intOf]; omega
              · obtain rfl : k = (f i).nl + 1 := by omega
                have hk' : ¬ ((((f i).nl + 1 : Nat) : Int) ≤ ((f i).nl : Int)) := by omega
                go_wp2
                go_roundw
                case rel => exact ⟨j + 1, d + 1, by have := hjd.out; omega, by omega, by go_num, by rw [← hE2.out, hjd.out] at hG3; simpa only [manyM, List.append_assoc] using hG3⟩
                case measure => simp [intOf]; omega
          · obtain rfl : j = np := by omega
            have v2 := cellLater hG2.below x2
            go_wp2
            go_roundw
            case rel => exact ⟨i + 1, by omega, by go_num, by rw [show d = j - (i + 1) by have := hjd.out; omega] at hG2; simpa only [allM] using hG2⟩
            case measure => simp [intOf]; omega
      · obtain rfl : i = np := by omega
        go_wp2
        go_ret
        exact ⟨⟨_, rfl, Joins.ownsRow_le hG.own hB.size⟩, Below.join hB (Nat.le_refl _) hG.below⟩
  · have hA : meetsOf len g gap len' f np P = [] := by unfold meetsOf; rw [if_neg (fun h => hz (by rw [h]))]
    rw [hA]
    clear hA
    generalize clashOf len g gap len' f np P = vq at hz hCh
    obtain ⟨v0, v1, v2, v3⟩ := vq
    dsimp only at hz hCh
    have hz' : (v0 != 0) = true := by simpa using hz
    go_enter Tryz.func13, Tryz.ntmps13
    go_wp2_with (go_at_call 8; refine hCh.mono ?_; rintro _ w2 ⟨rfl, hB2⟩)
    go_ret
    exact ⟨⟨_, rfl, World.ownsRow_nil _ _ _ _⟩, Below.join (Below.join hN (Nat.le_refl _) hB2) (Nat.le_refl _) (b1 _ _)⟩
end Go.Proofs.YtelickcfodcmaaaGreatDoor

namespace Go.Proofs.YtelickcfodcmaaaGreatDoor
open Go.RowKit

theorem Tryz.infoStand : (Tryz.prog.info? 122).map (fun i => (i.zero, i.size, i.bytes)) = some (some (.agg #[.int .i64 0, .int .i64 0, .int .i64 0]), 3, 24) := by kernel_rfl

theorem stands_step {W wr w' : World} {v v' : Value} {t : TrainD} {r : RowD} {k : Nat} {B : Nat} (hB : Below B W wr) (hBs : B ≤ wr.heap.size) (h : wr.ownsRow B 122 3 v k (standCells (standsUpto t r k)))
    (ho : w'.ownsRow B 122 3 v' (k + 1) (standCells (standsUpto t r k) ++ [.int .i64 (cur t k), .int .i64 (fromOf t r k), .int .i64 (toOf t r k)])) (hg : wr.grownBy w' v.ownBlock) :
    w'.ownsRow B 122 3 v' (k + 1) (standCells (standsUpto t r (k + 1))) ∧ Below B W w' :=
  ⟨by simp only [standsUpto, standCells_app]; exact ho, hB.grown hg hBs (fun j hj => (h.lt j hj).1)⟩

set_option maxRecDepth 20000 in
set_option maxHeartbeats 4000000 in
theorem stands_any (t : TrainD) (r : RowD) (la : Option Addr) (lc : Nat) (sa : Option Addr) (sc : Nat) (w : World) (hR : RightT t) (hpos : 0 < t.nl) (hs : ∀ k, k < t.nl → 0 ≤ r.s k ∧ r.s k ≤ 1000000) (hsc : t.nl ≤ sc)
    (hL : IsLegs 0 w.heap.size w la t.nl t.leg) (hI : IsInts 0 w.heap.size w sa t.nl r.s) :
    Calls Tryz.prog 73 #[.agg #[.int .i64 t.frm, .int .i64 t.ready, .int .i64 t.due, .int .i64 t.weight, .slice la t.nl lc], .slice sa t.nl sc] w fun e w' => (∃ v, e = .returned v ∧ w'.ownsRow w.heap.size 122 3 v (t.nl + 1) (standCells (standsUpto t r (t.nl + 1)))) ∧ Below w.heap.size w w' := by
  obtain ⟨i0, hi, hz0, hz1, hz2⟩ := info_parts Tryz.infoStand
  have hnl := hR.nl
  have hA1 := b1 w (.cells #[.int .i64 t.frm, .int .i64 t.ready, .int .i64 t.due, .int .i64 t.weight, .slice la t.nl lc] 72)
  have hTb := Go.heap_alloc_new w (.cells #[.int .i64 t.frm, .int .i64 t.ready, .int .i64 t.due, .int .i64 t.weight, .slice la t.nl lc] 72)
  go_enter Tryz.func73, Tryz.ntmps73
  go_wp2
  refine nameW fun W hW => ?_
  rw [← hW] at hA1 hTb
  have e0 := cell_of_row W w.heap.size 0 _ _ _ hTb
  have e1 := cell_of_row W w.heap.size 1 _ _ _ hTb
  have e2 := cell_of_row W w.heap.size 2 _ _ _ hTb
  have e3 := cell_of_row W w.heap.size 3 _ _ _ hTb
  have e4 := cell_of_row W w.heap.size 4 _ _ _ hTb
  simp at e0 e1 e2 e3 e4
  clear hW hTb
  go_loopw [5, 6, 13] (fun v fr kk wr => ∃ (k : Nat), k ≤ t.nl ∧ kk = .int .i64 k ∧ fr = .int .i64 (fromOf t r k) ∧ wr.ownsRow W.heap.size 122 3 v k (standCells (standsUpto t r k)) ∧ Below W.heap.size W wr) (fun _ _ kk _ => t.nl - (intOf kk).toNat)
  case atStart => exact ⟨0, Nat.zero_le _, rfl, rfl, World.ownsRow_nil _ _ _ _, Below.refl _ _⟩
  case round =>
    obtain ⟨k, hk, rfl, rfl, hown, hB⟩ := hrel
    have hAw := Below.join hA1 (Nat.le_refl _) hB
    have d0 := cellLater hB e0
    have d1 := cellLater hB e1
    have d2 := cellLater hB e2
    have d3 := cellLater hB e3
    have d4 := cellLater hB e4
    have hL1 := hL.grow hAw
    have hszW := hB.size
    by_cases hlt : k < t.nl
    · have hk' : (k : Int) < (t.nl : Int) := by omega
      have hk0 : (0 : Int) ≤ (k : Int) := by omega
      have hkc : (k : Int) + 1 ≤ (sc : Int) := by omega
      have hn1 : (0 : Int) ≤ (k : Int) + 1 := by omega
      have hn2 : ((k : Int) + 1).toNat = k + 1 := by omega
      have hw1 : IntKind.i64.wrap ((k : Int) + 1) = (k : Int) + 1 := by rw [IntKind.wrap_i64]; omega
      have hn3 : ¬ ((k : Int) + 1 < 0) := by omega
      have hn4 : ¬ ((sc : Int) < (k : Int) + 1) := by omega
      have hto : toOf t r k = r.s k := by unfold toOf; rw [if_pos hlt]
      obtain ⟨bi, oi, rfl, _, hbi, q0⟩ := hI k hlt
      have hin1 : IsInts 0 w.heap.size w (some ⟨bi, oi, none⟩) (k + 1) r.s := fun j hj => hI j (by omega)
      have q1 := cellLater hAw q0
      have hcu := ahead_any t k la lc wr hk hnl hL1
      have hfr : fromOf t r (k + 1) = r.s k + (t.leg k).run := rfl
      rw [← hto] at q1
      have hto' : Hid _ := hto
      clear hto
      generalize hcv : cur t k = cv at hcu
      generalize htv : toOf t r k = tv at q1 hto'
      generalize hfv : fromOf t r k = fv at *
      have hcv' : Hid _ := hcv
      have htv' : Hid _ := htv
      have hfv' : Hid _ := hfv
      clear hcv htv hfv
      go_wp2_with (first | (go_at_call 93; refine hcu.mono ?_; rintro _ w3 ⟨rfl, hB3⟩; replace d0 := cellLater hB3 d0; replace d1 := cellLater hB3 d1; replace d2 := cellLater hB3 d2; replace d3 := cellLater hB3 d3; replace d4 := cellLater hB3 d4; clear hcu) | (at_builtin; refine wpList_append_own _ rfl _ _ 119 rfl W.heap.size 122 i0 _ 3 24 Tryz.underlying119 hi hz0 hz1 hz2 rfl (by decide) _ _ _ rfl ((ownsRow_later hown hB3).alloc _) ⟨w3.heap.size, 0, none⟩ 1 1 [.int .i64 cv, .int .i64 fv, .int .i64 tv] rfl rfl cells3_lie one3 (by unfold maxLen; omega) (by omega) (by have h2 := hB3.size; simp only [World.size_alloc]; omega) ?_))
      intro v' w6 hown' hgrow _
      have hR2 := stands_step (t := t) (r := r) (Below.join (Below.join hB (Nat.le_refl _) hB3) (Nat.le_refl _) (b1 w3 (.cells #[.int .i64 cv, .int .i64 fv, .int .i64 tv] 122))) (by have h2 := hB3.size; simp only [World.size_alloc]; omega) ((ownsRow_later hown hB3).alloc _) (by rw [hcv'.out, htv'.out, hfv'.out]; exact hown') hgrow
      obtain ⟨hown2, hB6⟩ := hR2
      have hAw6 := Below.join hA1 (Nat.le_refl _) hB6
      clear hown' hgrow hown d0 d1 d2 d3 d4 q1
      have d0 := cellLater hB6 e0
      have d1 := cellLater hB6 e1
      have d2 := cellLater hB6 e2
      have d3 := cellLater hB6 e3
      have d4 := cellLater hB6 e4
      have hEn := end_any t k la lc r.s (some ⟨bi, oi, none⟩) sc w6.drew hlt hR (hs k hlt).1 (hs k hlt).2 (hL.grow hAw6.drew) (hin1.grow hAw6.drew)
      go_wp2
      go_region_held3 (fun w' => w'.cell? ⟨w.heap.size, 0, none⟩ = some (.int .i64 t.frm) ∧ w'.cell? ⟨w.heap.size, 1, none⟩ = some (.int .i64 t.ready) ∧ w'.cell? ⟨w.heap.size, 2, none⟩ = some (.int .i64 t.due) ∧ w'.cell? ⟨w.heap.size, 3, none⟩ = some (.int .i64 t.weight) ∧ w'.cell? ⟨w.heap.size, 4, none⟩ = some (.slice la t.nl lc)) (first | go_keep | (go_split_ands; refine ⟨?_, ?_, ?_, ?_, ?_⟩ <;> exact cellLater hB7 (by assumption))) ((first | (go_at_call 39; refine hEn.mono ?_; rintro _ w7 ⟨rfl, hB7⟩)))
      go_wp2
      go_roundw
      case rel => exact ⟨k + 1, by omega, by go_num, by rw [hfr], ownsRow_later hown2 (Below.join (Below.refl _ _).drew (Nat.le_refl _) hB7), Below.join hB6.drew (Nat.le_refl _) hB7⟩
      case measure => simp [intOf]; omega
    · obtain rfl : k = t.nl := by omega
      have hto : toOf t r t.nl = fromOf t r t.nl := by unfold toOf; rw [if_neg (by omega)]
      have hcu := ahead_any t t.nl la lc wr (Nat.le_refl _) hnl hL1
      generalize hcv : cur t t.nl = cv at hcu
      generalize hfv : fromOf t r t.nl = fv at *
      have hcv' : Hid _ := hcv
      have hfv' : Hid _ := hfv
      have hto' : Hid _ := hto
      clear hcv hfv hto
      go_wp2_with (first | (go_at_call 93; refine hcu.mono ?_; rintro _ w3 ⟨rfl, hB3⟩; replace d0 := cellLater hB3 d0; clear hcu) | (at_builtin; refine wpList_append_own _ rfl _ _ 119 rfl W.heap.size 122 i0 _ 3 24 Tryz.underlying119 hi hz0 hz1 hz2 rfl (by decide) _ _ _ rfl ((ownsRow_later hown hB3).alloc _) ⟨w3.heap.size, 0, none⟩ 1 1 [.int .i64 cv, .int .i64 fv, .int .i64 fv] rfl rfl cells3_lie one3 (by unfold maxLen; omega) (by omega) (by have h2 := hB3.size; simp only [World.size_alloc]; omega) ?_))
      intro v' w6 hown' hgrow _
      have hR2 := stands_step (t := t) (r := r) (Below.join (Below.join hB (Nat.le_refl _) hB3) (Nat.le_refl _) (b1 w3 (.cells #[.int .i64 cv, .int .i64 fv, .int .i64 fv] 122))) (by have h2 := hB3.size; simp only [World.size_alloc]; omega) ((ownsRow_later hown hB3).alloc _) (by rw [hcv'.out, hto'.out, hfv'.out]; exact hown') hgrow
      obtain ⟨hown2, hB6⟩ := hR2
      go_wp2
      go_ret
      exact ⟨⟨_, rfl, Joins.ownsRow_le hown2 hA1.size⟩, Below.join hA1 (Nat.le_refl _) hB6⟩

theorem stand_cells {W : World} {b0 g cap : Nat} {t : TrainD} {r : RowD} {n : Nat} (h : W.ownsRow b0 122 3 (.slice (some ⟨g, 0, none⟩) n cap) n (standCells (standsUpto t r n))) {k : Nat} (hk : k < n) :
    W.cell? ⟨g, k * 3, none⟩ = some (.int .i64 (cur t k)) ∧ W.cell? ⟨g, k * 3 + 1, none⟩ = some (.int .i64 (fromOf t r k)) ∧ W.cell? ⟨g, k * 3 + 2, none⟩ = some (.int .i64 (toOf t r k)) := by
  obtain ⟨h0, h1, h2⟩ := standCells_at _ k _ (standsUpto_at t r n k hk)
  exact ⟨(h.cellAt _ (by omega)).trans h0, (h.cellAt _ (by omega)).trans h1, (h.cellAt _ (by omega)).trans h2⟩
end Go.Proofs.YtelickcfodcmaaaGreatDoor
