/-
  The draws of the model: a line is spoilt.
-/
import Derived.Test.YtgdljgjamafpiaaGreatDoorGSpo
namespace Go.Proofs.YtgdljgjamafpiaaGreatDoor
open Go.RowKit

def slLen (W : World) (p : Addr) : Nat := match W.cell? p with
  | some (.slice _ n _) => n
  | _ => 0
theorem row_cap {w : World} {base : Nat} {e : TypeId} {size g n cap : Nat} {xs : List Value} (h : w.ownsRow base e size (.slice (some ⟨g, 0, none⟩) n cap) n xs) : n ≤ cap := by
  obtain ⟨_, hx | ⟨g', cap', cur, hv, _, _, h3, _⟩⟩ := h
  · cases hx.1
  · cases hv
    exact h3
theorem Spo.grownBl {w0 w : World} {b bl B0 k : Nat} {O : Nat → Prop} {tr : List Int} {gap : Int} {L : List TrV} {vt vT : Value} {W W' : World} {row : Option Nat} (h : Spo w0 w b bl B0 O k tr gap L vt vT W) (hg : W.grownBy W' row) (hr : ∀ j, row = some j → Blk vt vT L j) : W'.heap[bl]? = W.heap[bl]? :=
  hg.block bl (by have := h.lt; omega) (fun e => (h.blk bl (hr bl e.symm)).1 rfl)
theorem slLen_of {W : World} {p : Addr} {a : Option Addr} {n c : Nat} (h : W.cell? p = some (.slice a n c)) : slLen W p = n := by unfold slLen; rw [h]
set_option maxRecDepth 20000 in
set_option maxHeartbeats 8000000 in
theorem spoil_any (w0 w : World) (b B0 k : Nat) (tr : List Int) (gap : Int) (L : List TrV) (vt vT : Value) (hk : k ≤ 5000) (hown : LOwn B0 w tr L vt vT) (htl : 1 ≤ tr.length ∧ tr.length ≤ 13) (hLl : L.length ≤ 6) (hgl : ∀ x ∈ L, x.1.legs.length ≤ 10) (hC : Cur w0 b k w) (hb : b < B0) (hB0 : B0 ≤ w.heap.size) :
    Calls Tryz.prog 15 #[.pointer (some ⟨b, 0, none⟩), .agg #[vt, .int .i64 gap, vT]] w (SpoilPost w0 w b B0 (Blk vt vT L) (k + 100)) := by
  obtain ⟨O, hO⟩ : ∃ O, O = Blk vt vT L := ⟨_, rfl⟩
  obtain ⟨at_, ct, rfl, _⟩ := ownInts hown.ints
  obtain ⟨aT, cT, rfl, _⟩ := hown.trs.trains (fun x hx => by have := hgl x hx; unfold maxLen; omega)
  obtain ⟨bl, hbl0⟩ : ∃ bl, bl = w.heap.size := ⟨_, rfl⟩
  have hbl : b < bl := by omega
  have hS0 : Spo w0 w b bl B0 O k tr gap L (.slice at_ tr.length ct) (.slice aT L.length cT) ((w.alloc (.cells #[.slice at_ tr.length ct, .int .i64 gap, .slice aT L.length cT] 26)).alloc (.cells #[.slice none 0 0, .int .i64 0, .slice none 0 0] 26)) := by
    have hA1 := b1 w (.cells #[.slice at_ tr.length ct, .int .i64 gap, .slice aT L.length cT] 26)
    have hA2 := b1 (w.alloc (.cells #[.slice at_ tr.length ct, .int .i64 gap, .slice aT L.length cT] 26)) (.cells #[.slice none 0 0, .int .i64 0, .slice none 0 0] 26)
    have hR : Room (w.alloc (.cells #[.slice at_ tr.length ct, .int .i64 gap, .slice aT L.length cT] 26)).heap.size 3 ((w.alloc (.cells #[.slice at_ tr.length ct, .int .i64 gap, .slice aT L.length cT] 26)).alloc (.cells #[.slice none 0 0, .int .i64 0, .slice none 0 0] 26)) := Room.lit _ _ _ 3 (by simp)
    rw [World.size_alloc, ← hbl0] at hR
    refine ⟨?_, ?_, ?_, ?_, ?_, ?_, (hown.later hA1).later hA2, fun j hj => ?_, htl, hLl, hgl, (hC.later hA1).later hA2, fun j hj _ _ => ?_, hR⟩
    · subst hbl0; exact cellLater hA2 (by simp)
    · subst hbl0; exact cellLater hA2 (by simp)
    · subst hbl0; exact cellLater hA2 (by simp)
    · subst hbl0; simp
    · subst hbl0; simp
    · subst hbl0; simp
    · have := (hown.blk hj).2
      exact ⟨by omega, by omega, Or.inl (by rw [hO]; exact hj)⟩
    · rw [hA2.block j (by rw [World.size_alloc]; omega), hA1.block j (by omega)]
  have hP := pick_any w0 b k 9 _ (by omega) (by decide) hS0.cur
  rw [← hO]
  have hO' : Hid _ := hO
  clear hO
  go_enter Tryz.func15, Tryz.ntmps15
  go_wp2_with (go_at_call 14; fail)
  refine hP.mono ?_
  rintro _ v1 ⟨y, rfl, hy0, hy9, hC1, hM1⟩
  have hS := hS0.mid hM1 hC1 hb hbl
  clear hP hS0 hC1 hM1 hC hown
  rw [← hbl0]
  rename_i K2 a2 K1 a1 K0 a0
  have hEnd : ∀ (u1 u2 u5 u6 u7 u8 u9 u10 u11 u12 u13 u14 u15 u16 u17 u18 u19 u20 u21 u22 u23 u24 u25 u26 u27 u28 u29 u30 u31 u32 u33 u34 u35 u36 u37 u38 u39 u40 u41 u42 u43 u44 u45 u46 u47 u48 u49 u50 u51 u52 u53 u54 u55 u56 u57 u58 u59 u60 u61 u62 u63 u64 u65 u66 u67 u68 u69 u70 u71 u72 u73 u74 u75 u76 u77 u78 u79 u80 u81 u82 u83 u84 u85 u86 u87 u88 u89 u90 u91 u92 u93 u94 u95 u96 u97 u98 u99 u100 u101 u102 u103 u104 u105 u106 u107 u108 u109 u110 u111 u112 u113 u114 u115 u116 u117 u118 u119 u120 u121 u122 u123 u124 u125 u126 u127 u128 u129 u130 u131 u132 u133 u134 u135 u136 u137 u138 u139 u140 u141 u142 u143 u144 u145 u146 u147 u148 u149 u150 u151 u152 u153 u154 u155 u156 u157 u158 u159 u160 u161 u162 u163 u164 u165 u166 u167 u168 u169 u170 u171 u172 u173 u174 u175 u176 u177 u178 u179 u180 u181 u182 u183 u184 u185 : Value) (k' : Nat) (tr' : List Int) (gap' : Int) (L' : List TrV) (vt' vT' : Value) (W' : World), Spo w0 w b bl B0 O k' tr' gap' L' vt' vT' W' → k' ≤ k + 100 → K2 ⟨(.pointer (some ⟨b, 0, none⟩) :: u1 :: u2 :: .pointer (some ⟨bl, 0, none⟩) :: .pointer (some ⟨bl + 1, 0, none⟩) :: u5 :: u6 :: u7 :: u8 :: u9 :: u10 :: u11 :: u12 :: u13 :: u14 :: u15 :: u16 :: u17 :: u18 :: u19 :: u20 :: u21 :: u22 :: u23 :: u24 :: u25 :: u26 :: u27 :: u28 :: u29 :: u30 :: u31 :: u32 :: u33 :: u34 :: u35 :: u36 :: u37 :: u38 :: u39 :: u40 :: u41 :: u42 :: u43 :: u44 :: u45 :: u46 :: u47 :: u48 :: u49 :: u50 :: u51 :: u52 :: u53 :: u54 :: u55 :: u56 :: u57 :: u58 :: u59 :: u60 :: u61 :: u62 :: u63 :: u64 :: u65 :: u66 :: u67 :: u68 :: u69 :: u70 :: u71 :: u72 :: u73 :: u74 :: u75 :: u76 :: u77 :: u78 :: u79 :: u80 :: u81 :: u82 :: u83 :: u84 :: u85 :: u86 :: u87 :: u88 :: u89 :: u90 :: u91 :: u92 :: u93 :: u94 :: u95 :: u96 :: u97 :: u98 :: u99 :: u100 :: u101 :: u102 :: u103 :: u104 :: u105 :: u106 :: u107 :: u108 :: u109 :: u110 :: u111 :: u112 :: u113 :: u114 :: u115 :: u116 :: u117 :: u118 :: u119 :: u120 :: u121 :: u122 :: u123 :: u124 :: u125 :: u126 :: u127 :: u128 :: u129 :: u130 :: u131 :: u132 :: u133 :: u134 :: u135 :: u136 :: u137 :: u138 :: u139 :: u140 :: u141 :: u142 :: u143 :: u144 :: u145 :: u146 :: u147 :: u148 :: u149 :: u150 :: u151 :: u152 :: u153 :: u154 :: u155 :: u156 :: u157 :: u158 :: u159 :: u160 :: u161 :: u162 :: u163 :: u164 :: u165 :: u166 :: u167 :: u168 :: u169 :: u170 :: u171 :: u172 :: u173 :: u174 :: u175 :: u176 :: u177 :: u178 :: u179 :: u180 :: u181 :: u182 :: u183 :: u184 :: u185 :: []).toArray, []⟩ W' := by
    intro u1 u2 u5 u6 u7 u8 u9 u10 u11 u12 u13 u14 u15 u16 u17 u18 u19 u20 u21 u22 u23 u24 u25 u26 u27 u28 u29 u30 u31 u32 u33 u34 u35 u36 u37 u38 u39 u40 u41 u42 u43 u44 u45 u46 u47 u48 u49 u50 u51 u52 u53 u54 u55 u56 u57 u58 u59 u60 u61 u62 u63 u64 u65 u66 u67 u68 u69 u70 u71 u72 u73 u74 u75 u76 u77 u78 u79 u80 u81 u82 u83 u84 u85 u86 u87 u88 u89 u90 u91 u92 u93 u94 u95 u96 u97 u98 u99 u100 u101 u102 u103 u104 u105 u106 u107 u108 u109 u110 u111 u112 u113 u114 u115 u116 u117 u118 u119 u120 u121 u122 u123 u124 u125 u126 u127 u128 u129 u130 u131 u132 u133 u134 u135 u136 u137 u138 u139 u140 u141 u142 u143 u144 u145 u146 u147 u148 u149 u150 u151 u152 u153 u154 u155 u156 u157 u158 u159 u160 u161 u162 u163 u164 u165 u166 u167 u168 u169 u170 u171 u172 u173 u174 u175 u176 u177 u178 u179 u180 u181 u182 u183 u184 u185 k' tr' gap' L' vt' vT' W' hS' hk'
    exact a2 _ _ (spoil_end w0 w b bl B0 k' (k + 100) O tr' gap' L' vt' vT' W' hS' hbl0 hbl hk')
  have hEnd' : Hid _ := hEnd
  have hB0' : B0 ≤ bl := by omega
  have hbl' : Hid (bl = w.heap.size) := hbl0
  have a1' : Hid _ := a1
  clear hEnd a2 a1 hbl0
  refine a0 _ _ ?_
  clear a0
  go_wp2
  refine a1'.out _ _ ?_
  clear a1'
  have htl := hS.tl
  have hLl := hS.Ll
  have hlt := hS.lt
  have q0 := hS.c0
  have hcase : y = 0 ∨ y = 1 ∨ y = 2 ∨ y = 3 ∨ y = 4 ∨ (y ≠ 0 ∧ y ≠ 1 ∧ y ≠ 2 ∧ y ≠ 3 ∧ y ≠ 4) := by omega
  rcases hcase with rfl | rfl | rfl | rfl | rfl | ⟨hn0, hn1, hn2, hn3, hn4⟩
  · have hA := b1 v1 (.cells #[.int .i64 (-1), .int .i64 10000, .int .i64 10001] 3)
    have hSA := hS.later hA hbl
    go_wp2_with (go_at_call 14; fail)
    refine (pick_any w0 b (k + 2) 3 _ (by omega) (by decide) hSA.cur).mono ?_
    rintro _ v2 ⟨y1, rfl, hy0, hy1, hC1, hM1⟩
    have hS1 := hSA.mid hM1 hC1 hb hbl
    have e1 := hS1.c1
    have hz1 := hS1.z1
    obtain ⟨j, rfl⟩ : ∃ j : Nat, y1 = j := ⟨y1.toNat, by omega⟩
    have hj3 : (j : Int) < 3 := by omega
    obtain ⟨z, hz3⟩ := three_at v1 (-1) 10000 10001 3 j (by omega)
    have hz4 := cellMid hM1 (by omega) hz3
    clear hz3
    go_wp2
    apply hEnd'.out
    · exact hS1.gap_ z hbl
    · omega
  · obtain ⟨gt, ct', et⟩ := Joins.ownsRow_form hS.own.ints (by omega)
    cases et
    have hl0 : (0 : Int) < (tr.length : Int) := by omega
    have hSd := hS.later (Below.refl v1.heap.size v1).drew hbl
    go_wp2
    refine wp_region_held_drew (S := fun w' => w'.cell? ⟨bl, 0, none⟩ = some (.slice (some ⟨gt, 0, none⟩) tr.length ct)) (by kernel_rfl) hSd.c0 (fun hHeld => ?_)
    refine wpAnyH_take (i := 0) (oi := { dst := some 135, op := Go.Op.fieldAddr 26 (Go.Operand.tmp 3) 0, type := 0, pos := "l5_draw.go:88", after := #[], guard := none }) (v := ?vv1_0) rfl (by kernel_rfl) (by kernel_rfl) (by kernel_rfl) (fun _ _ _ h => h) (Or.inl ⟨by rfl, ?hy1_0⟩) (by assumption) ?rest1_0
    case hy1_0 =>
      intro w hSw
      (try dsimp only at hSw)
      go_simp
      (try with_reducible rfl)
    simp only [Act.put, List.setIfInBounds_toArray, List.set_cons_zero, List.set_cons_succ]
    refine wpAnyH_take (i := 1) (oi := { dst := some 136, op := Go.Op.load 23 (Go.Operand.tmp 135), type := 23, pos := "l5_draw.go:88", after := #[{ on := 0, ground := Go.Ground.data }], guard := none }) (v := ?vv2_1) rfl (by kernel_rfl) (by kernel_rfl) (by kernel_rfl) (fun _ _ _ h => h) (Or.inl ⟨by rfl, ?hy2_1⟩) (by assumption) ?rest2_1
    case hy2_1 =>
      intro w hSw
      (try dsimp only at hSw)
      go_simp
      (try with_reducible rfl)
    simp only [Act.put, List.setIfInBounds_toArray, List.set_cons_zero, List.set_cons_succ]
    refine wpAnyH_take (i := 2) (oi := { dst := some 137, op := Go.Op.move (Go.Operand.tmp 0), type := 46, pos := "l5_draw.go:88", after := #[], guard := none }) (v := ?vv3_2) rfl (by kernel_rfl) (by kernel_rfl) (by kernel_rfl) (fun _ _ _ h => h) (Or.inl ⟨by rfl, ?hy3_2⟩) (by assumption) ?rest3_2
    case hy3_2 =>
      intro w hSw
      (try dsimp only at hSw)
      go_simp
      (try with_reducible rfl)
    simp only [Act.put, List.setIfInBounds_toArray, List.set_cons_zero, List.set_cons_succ]
    refine wpAnyH_take (i := 3) (oi := { dst := some 138, op := Go.Op.fieldAddr 26 (Go.Operand.tmp 3) 0, type := 0, pos := "l5_draw.go:88", after := #[], guard := none }) (v := ?vv4_3) rfl (by kernel_rfl) (by kernel_rfl) (by kernel_rfl) (fun _ _ _ h => h) (Or.inl ⟨by rfl, ?hy4_3⟩) (by assumption) ?rest4_3
    case hy4_3 =>
      intro w hSw
      (try dsimp only at hSw)
      go_simp
      (try with_reducible rfl)
    simp only [Act.put, List.setIfInBounds_toArray, List.set_cons_zero, List.set_cons_succ]
    refine wpAnyH_take (i := 4) (oi := { dst := some 139, op := Go.Op.load 23 (Go.Operand.tmp 138), type := 23, pos := "l5_draw.go:88", after := #[{ on := 3, ground := Go.Ground.data }], guard := none }) (v := ?vv5_4) rfl (by kernel_rfl) (by kernel_rfl) (by kernel_rfl) (fun _ _ _ h => h) (Or.inl ⟨by rfl, ?hy5_4⟩) (by assumption) ?rest5_4
    case hy5_4 =>
      intro w hSw
      (try dsimp only at hSw)
      go_simp
      (try with_reducible rfl)
    simp only [Act.put, List.setIfInBounds_toArray, List.set_cons_zero, List.set_cons_succ]
    refine wpAnyH_take (i := 5) (oi := { dst := some 140, op := Go.Op.call { callee := Go.Callee.builtin Go.Builtin.len, args := #[Go.Operand.tmp 139], argTypes := #[23] }, type := 3, pos := "l5_draw.go:88", after := #[{ on := 4, ground := Go.Ground.data }], guard := none }) (v := ?vv6_5) rfl (by kernel_rfl) (by kernel_rfl) (by kernel_rfl) (fun _ _ _ h => h) (Or.inl ⟨by rfl, ?hy6_5⟩) (by assumption) ?rest6_5
    case hy6_5 =>
      intro w hSw
      (try dsimp only at hSw)
      go_simp
      (try with_reducible rfl)
    simp only [Act.put, List.setIfInBounds_toArray, List.set_cons_zero, List.set_cons_succ]
    refine wpAnyH_take (i := 8) (oi := { dst := some 143, op := Go.Op.move (Go.Operand.tmp 0), type := 46, pos := "l5_draw.go:88", after := #[], guard := none }) (v := ?vv7_8) rfl (by kernel_rfl) (by kernel_rfl) (by kernel_rfl) (fun _ _ _ h => h) (Or.inl ⟨by rfl, ?hy7_8⟩) (by assumption) ?rest7_8
    case hy7_8 =>
      intro w hSw
      (try dsimp only at hSw)
      go_simp
      (try with_reducible rfl)
    simp only [Act.put, List.setIfInBounds_toArray, List.set_cons_zero, List.set_cons_succ]
    refine wpAnyH_ready (rs := [6, 7]) (by kernel_rfl) (by simp) ?_
    refine AllReadyH.cons (o := { dst := some 141, op := Go.Op.call { callee := Go.Callee.value (Go.Operand.func 14), args := #[Go.Operand.tmp 137, Go.Operand.tmp 140], argTypes := #[46, 3] }, type := 3, pos := "l5_draw.go:88", after := #[{ on := 2, ground := Go.Ground.data }, { on := 5, ground := Go.Ground.data }], guard := none }) rfl (fun K hK => ?_) (AllReadyH.cons (o := { dst := some 142, op := Go.Op.buildSlice 23 3 #[(0, Go.Operand.const (Go.Value.int Go.IntKind.i64 0)), (1, Go.Operand.const (Go.Value.int Go.IntKind.i64 10)), (2, Go.Operand.const (Go.Value.int Go.IntKind.i64 11))], type := 23, pos := "l5_draw.go:88", after := #[], guard := none }) rfl (fun K hK => ?_) AllReadyH.nil)
    · go_simp
      refine (pick_any w0 b (k + 2) tr.length v1.drew (by omega) (by omega) hSd.cur).mono ?_
      rintro _ v2 ⟨yi, rfl, hyi0, hyi1, hCyi, hMyi⟩
      have hS2 := hSd.mid hMyi hCyi hb hbl
      obtain ⟨i, rfl⟩ : ∃ i : Nat, yi = i := ⟨yi.toNat, by omega⟩
      have hib : (i : Int) < (tr.length : Int) := by omega
      refine hK.out _ _ hS2.c0 (fun hHeld => ?_)
      clear hK K
      (try simp only [Act.put, List.setIfInBounds_toArray, List.set_cons_zero, List.set_cons_succ])
      refine wpAnyH_ready (rs := [7, 9]) (by kernel_rfl) (by simp) ?_
      refine AllReadyH.cons (o := { dst := some 142, op := Go.Op.buildSlice 23 3 #[(0, Go.Operand.const (Go.Value.int Go.IntKind.i64 0)), (1, Go.Operand.const (Go.Value.int Go.IntKind.i64 10)), (2, Go.Operand.const (Go.Value.int Go.IntKind.i64 11))], type := 23, pos := "l5_draw.go:88", after := #[], guard := none }) rfl (fun K hK => ?_) (AllReadyH.cons (o := { dst := some 144, op := Go.Op.call { callee := Go.Callee.value (Go.Operand.func 14), args := #[Go.Operand.tmp 143, Go.Operand.const (Go.Value.int Go.IntKind.i64 3)], argTypes := #[46, 3] }, type := 3, pos := "l5_draw.go:88", after := #[{ on := 8, ground := Go.Ground.data }, { on := 6, ground := Go.Ground.chain }], guard := none }) rfl (fun K hK => ?_) AllReadyH.nil)
      · go_simp
        have hSA := hS2.later (b1 v2 (.cells #[.int .i64 0, .int .i64 10, .int .i64 11] 3)) hbl
        refine hK.out _ _ hSA.c0 (fun hHeld => ?_)
        clear hK K
        (try simp only [Act.put, List.setIfInBounds_toArray, List.set_cons_zero, List.set_cons_succ])
        refine wpAnyH_ready (rs := [9]) (by kernel_rfl) (by simp) ?_
        refine AllReadyH.cons (o := { dst := some 144, op := Go.Op.call { callee := Go.Callee.value (Go.Operand.func 14), args := #[Go.Operand.tmp 143, Go.Operand.const (Go.Value.int Go.IntKind.i64 3)], argTypes := #[46, 3] }, type := 3, pos := "l5_draw.go:88", after := #[{ on := 8, ground := Go.Ground.data }, { on := 6, ground := Go.Ground.chain }], guard := none }) rfl (fun K hK => ?_) AllReadyH.nil
        go_simp
        refine (pick_any w0 b (k + 2 + 2) 3 (v2.alloc (.cells #[.int .i64 0, .int .i64 10, .int .i64 11] 3)) (by omega) (by omega) hSA.cur).mono ?_
        rintro _ v3 ⟨yj, rfl, hyj0, hyj1, hCyj, hMyj⟩
        have hS3 := hSA.mid hMyj hCyj hb hbl
        obtain ⟨j, rfl⟩ : ∃ j : Nat, yj = j := ⟨yj.toNat, by omega⟩
        have hjb : (j : Int) < 3 := by omega
        obtain ⟨z, hz3⟩ := three_at v2 0 10 11 3 j (by omega)
        have hz4 := cellMid hMyj (by have := hS2.lt; omega) hz3
        clear hz3
        refine hK.out _ _ hS3.c0 (fun hHeld => ?_)
        clear hK K
        (try simp only [Act.put, List.setIfInBounds_toArray, List.set_cons_zero, List.set_cons_succ])
        have g0 := hS3.own.ints
        have gc := ints_at g0 (show i < tr.length by omega)
        have gz := row_free g0 i
        clear g0
        refine wpAnyH_ready (rs := [10]) (by kernel_rfl) (by simp) ?_
        refine AllReadyH.cons (o := { dst := some 145, op := Go.Op.indexAddr 23 (Go.Operand.tmp 142) (Go.Operand.tmp 144), type := 0, pos := "l5_draw.go:88", after := #[{ on := 7, ground := Go.Ground.data }, { on := 9, ground := Go.Ground.data }], guard := none }) rfl (fun K hK => ?_) AllReadyH.nil
        go_simp
        refine hK.out _ _ hS3.c0 (fun hHeld => ?_)
        clear hK K
        (try simp only [Act.put, List.setIfInBounds_toArray, List.set_cons_zero, List.set_cons_succ])
        refine wpAnyH_ready (rs := [11]) (by kernel_rfl) (by simp) ?_
        refine AllReadyH.cons (o := { dst := some 146, op := Go.Op.load 3 (Go.Operand.tmp 145), type := 3, pos := "l5_draw.go:88", after := #[{ on := 10, ground := Go.Ground.data }], guard := none }) rfl (fun K hK => ?_) AllReadyH.nil
        go_simp
        refine hK.out _ _ hS3.c0 (fun hHeld => ?_)
        clear hK K
        (try simp only [Act.put, List.setIfInBounds_toArray, List.set_cons_zero, List.set_cons_succ])
        refine wpAnyH_ready (rs := [12]) (by kernel_rfl) (by simp) ?_
        refine AllReadyH.cons (o := { dst := some 147, op := Go.Op.indexAddr 23 (Go.Operand.tmp 136) (Go.Operand.tmp 141), type := 0, pos := "l5_draw.go:88", after := #[{ on := 1, ground := Go.Ground.data }, { on := 6, ground := Go.Ground.data }, { on := 0, ground := Go.Ground.phase }, { on := 1, ground := Go.Ground.phase }, { on := 2, ground := Go.Ground.phase }, { on := 3, ground := Go.Ground.phase }, { on := 4, ground := Go.Ground.phase }, { on := 5, ground := Go.Ground.phase }, { on := 6, ground := Go.Ground.phase }, { on := 7, ground := Go.Ground.phase }, { on := 8, ground := Go.Ground.phase }, { on := 9, ground := Go.Ground.phase }, { on := 10, ground := Go.Ground.phase }, { on := 11, ground := Go.Ground.phase }], guard := none }) rfl (fun K hK => ?_) AllReadyH.nil
        go_simp
        refine hK.out _ _ hS3.c0 (fun hHeld => ?_)
        clear hK K
        (try simp only [Act.put, List.setIfInBounds_toArray, List.set_cons_zero, List.set_cons_succ])
        refine wpAnyH_ready (rs := [13]) (by kernel_rfl) (by simp) ?_
        refine AllReadyH.cons (o := { dst := none, op := Go.Op.store 3 (Go.Operand.tmp 147) (Go.Operand.tmp 146), type := 0, pos := "l5_draw.go:88", after := #[{ on := 12, ground := Go.Ground.data }, { on := 11, ground := Go.Ground.data }, { on := 9, ground := Go.Ground.chain }, { on := 0, ground := Go.Ground.phase }, { on := 1, ground := Go.Ground.phase }, { on := 2, ground := Go.Ground.phase }, { on := 3, ground := Go.Ground.phase }, { on := 4, ground := Go.Ground.phase }, { on := 5, ground := Go.Ground.phase }, { on := 6, ground := Go.Ground.phase }, { on := 7, ground := Go.Ground.phase }, { on := 8, ground := Go.Ground.phase }, { on := 9, ground := Go.Ground.phase }, { on := 10, ground := Go.Ground.phase }, { on := 11, ground := Go.Ground.phase }], guard := none }) rfl (fun K hK => ?_) AllReadyH.nil
        go_simp
        refine hK.out _ _ ((hS3.trackPut rfl i z hb hbl).c0) (fun hHeld => ?_)
        clear hK K
        (try simp only [Act.put, List.setIfInBounds_toArray, List.set_cons_zero, List.set_cons_succ])
        refine wpAnyH_done (by kernel_rfl) ?_ _
        show K2 _ _
        apply hEnd'.out
        · exact hS3.trackPut rfl i z hb hbl
        · omega
      · go_simp
        refine (pick_any w0 b (k + 2 + 2) 3 v2 (by omega) (by omega) hS2.cur).mono ?_
        rintro _ v3 ⟨yj, rfl, hyj0, hyj1, hCyj, hMyj⟩
        have hS3 := hS2.mid hMyj hCyj hb hbl
        obtain ⟨j, rfl⟩ : ∃ j : Nat, yj = j := ⟨yj.toNat, by omega⟩
        have hjb : (j : Int) < 3 := by omega
        refine hK.out _ _ hS3.c0 (fun hHeld => ?_)
        clear hK K
        (try simp only [Act.put, List.setIfInBounds_toArray, List.set_cons_zero, List.set_cons_succ])
        refine wpAnyH_ready (rs := [7]) (by kernel_rfl) (by simp) ?_
        refine AllReadyH.cons (o := { dst := some 142, op := Go.Op.buildSlice 23 3 #[(0, Go.Operand.const (Go.Value.int Go.IntKind.i64 0)), (1, Go.Operand.const (Go.Value.int Go.IntKind.i64 10)), (2, Go.Operand.const (Go.Value.int Go.IntKind.i64 11))], type := 23, pos := "l5_draw.go:88", after := #[], guard := none }) rfl (fun K hK => ?_) AllReadyH.nil
        go_simp
        have hSA := hS3.later (b1 v3 (.cells #[.int .i64 0, .int .i64 10, .int .i64 11] 3)) hbl
        obtain ⟨z, hz4⟩ := three_at v3 0 10 11 3 j (by omega)
        refine hK.out _ _ hSA.c0 (fun hHeld => ?_)
        clear hK K
        (try simp only [Act.put, List.setIfInBounds_toArray, List.set_cons_zero, List.set_cons_succ])
        have g0 := hSA.own.ints
        have gc := ints_at g0 (show i < tr.length by omega)
        have gz := row_free g0 i
        clear g0
        refine wpAnyH_ready (rs := [10]) (by kernel_rfl) (by simp) ?_
        refine AllReadyH.cons (o := { dst := some 145, op := Go.Op.indexAddr 23 (Go.Operand.tmp 142) (Go.Operand.tmp 144), type := 0, pos := "l5_draw.go:88", after := #[{ on := 7, ground := Go.Ground.data }, { on := 9, ground := Go.Ground.data }], guard := none }) rfl (fun K hK => ?_) AllReadyH.nil
        go_simp
        refine hK.out _ _ hSA.c0 (fun hHeld => ?_)
        clear hK K
        (try simp only [Act.put, List.setIfInBounds_toArray, List.set_cons_zero, List.set_cons_succ])
        refine wpAnyH_ready (rs := [11]) (by kernel_rfl) (by simp) ?_
        refine AllReadyH.cons (o := { dst := some 146, op := Go.Op.load 3 (Go.Operand.tmp 145), type := 3, pos := "l5_draw.go:88", after := #[{ on := 10, ground := Go.Ground.data }], guard := none }) rfl (fun K hK => ?_) AllReadyH.nil
        go_simp
        refine hK.out _ _ hSA.c0 (fun hHeld => ?_)
        clear hK K
        (try simp only [Act.put, List.setIfInBounds_toArray, List.set_cons_zero, List.set_cons_succ])
        refine wpAnyH_ready (rs := [12]) (by kernel_rfl) (by simp) ?_
        refine AllReadyH.cons (o := { dst := some 147, op := Go.Op.indexAddr 23 (Go.Operand.tmp 136) (Go.Operand.tmp 141), type := 0, pos := "l5_draw.go:88", after := #[{ on := 1, ground := Go.Ground.data }, { on := 6, ground := Go.Ground.data }, { on := 0, ground := Go.Ground.phase }, { on := 1, ground := Go.Ground.phase }, { on := 2, ground := Go.Ground.phase }, { on := 3, ground := Go.Ground.phase }, { on := 4, ground := Go.Ground.phase }, { on := 5, ground := Go.Ground.phase }, { on := 6, ground := Go.Ground.phase }, { on := 7, ground := Go.Ground.phase }, { on := 8, ground := Go.Ground.phase }, { on := 9, ground := Go.Ground.phase }, { on := 10, ground := Go.Ground.phase }, { on := 11, ground := Go.Ground.phase }], guard := none }) rfl (fun K hK => ?_) AllReadyH.nil
        go_simp
        refine hK.out _ _ hSA.c0 (fun hHeld => ?_)
        clear hK K
        (try simp only [Act.put, List.setIfInBounds_toArray, List.set_cons_zero, List.set_cons_succ])
        refine wpAnyH_ready (rs := [13]) (by kernel_rfl) (by simp) ?_
        refine AllReadyH.cons (o := { dst := none, op := Go.Op.store 3 (Go.Operand.tmp 147) (Go.Operand.tmp 146), type := 0, pos := "l5_draw.go:88", after := #[{ on := 12, ground := Go.Ground.data }, { on := 11, ground := Go.Ground.data }, { on := 9, ground := Go.Ground.chain }, { on := 0, ground := Go.Ground.phase }, { on := 1, ground := Go.Ground.phase }, { on := 2, ground := Go.Ground.phase }, { on := 3, ground := Go.Ground.phase }, { on := 4, ground := Go.Ground.phase }, { on := 5, ground := Go.Ground.phase }, { on := 6, ground := Go.Ground.phase }, { on := 7, ground := Go.Ground.phase }, { on := 8, ground := Go.Ground.phase }, { on := 9, ground := Go.Ground.phase }, { on := 10, ground := Go.Ground.phase }, { on := 11, ground := Go.Ground.phase }], guard := none }) rfl (fun K hK => ?_) AllReadyH.nil
        go_simp
        refine hK.out _ _ ((hSA.trackPut rfl i z hb hbl).c0) (fun hHeld => ?_)
        clear hK K
        (try simp only [Act.put, List.setIfInBounds_toArray, List.set_cons_zero, List.set_cons_succ])
        refine wpAnyH_done (by kernel_rfl) ?_ _
        show K2 _ _
        apply hEnd'.out
        · exact hSA.trackPut rfl i z hb hbl
        · omega
    · go_simp
      have hSA := hSd.later (b1 v1.drew (.cells #[.int .i64 0, .int .i64 10, .int .i64 11] 3)) hbl
      refine hK.out _ _ hSA.c0 (fun hHeld => ?_)
      clear hK K
      (try simp only [Act.put, List.setIfInBounds_toArray, List.set_cons_zero, List.set_cons_succ])
      refine wpAnyH_ready (rs := [6]) (by kernel_rfl) (by simp) ?_
      refine AllReadyH.cons (o := { dst := some 141, op := Go.Op.call { callee := Go.Callee.value (Go.Operand.func 14), args := #[Go.Operand.tmp 137, Go.Operand.tmp 140], argTypes := #[46, 3] }, type := 3, pos := "l5_draw.go:88", after := #[{ on := 2, ground := Go.Ground.data }, { on := 5, ground := Go.Ground.data }], guard := none }) rfl (fun K hK => ?_) AllReadyH.nil
      go_simp
      refine (pick_any w0 b (k + 2) tr.length (v1.drew.alloc (.cells #[.int .i64 0, .int .i64 10, .int .i64 11] 3)) (by omega) (by omega) hSA.cur).mono ?_
      rintro _ v2 ⟨yi, rfl, hyi0, hyi1, hCyi, hMyi⟩
      have hS2 := hSA.mid hMyi hCyi hb hbl
      obtain ⟨i, rfl⟩ : ∃ i : Nat, yi = i := ⟨yi.toNat, by omega⟩
      have hib : (i : Int) < (tr.length : Int) := by omega
      refine hK.out _ _ hS2.c0 (fun hHeld => ?_)
      clear hK K
      (try simp only [Act.put, List.setIfInBounds_toArray, List.set_cons_zero, List.set_cons_succ])
      refine wpAnyH_ready (rs := [9]) (by kernel_rfl) (by simp) ?_
      refine AllReadyH.cons (o := { dst := some 144, op := Go.Op.call { callee := Go.Callee.value (Go.Operand.func 14), args := #[Go.Operand.tmp 143, Go.Operand.const (Go.Value.int Go.IntKind.i64 3)], argTypes := #[46, 3] }, type := 3, pos := "l5_draw.go:88", after := #[{ on := 8, ground := Go.Ground.data }, { on := 6, ground := Go.Ground.chain }], guard := none }) rfl (fun K hK => ?_) AllReadyH.nil
      go_simp
      refine (pick_any w0 b (k + 2 + 2) 3 v2 (by omega) (by omega) hS2.cur).mono ?_
      rintro _ v3 ⟨yj, rfl, hyj0, hyj1, hCyj, hMyj⟩
      have hS3 := hS2.mid hMyj hCyj hb hbl
      obtain ⟨j, rfl⟩ : ∃ j : Nat, yj = j := ⟨yj.toNat, by omega⟩
      have hjb : (j : Int) < 3 := by omega
      obtain ⟨z, hz3⟩ := three_at v1.drew 0 10 11 3 j (by omega)
      have hz4 : v3.cell? ⟨v1.heap.size, j, none⟩ = some (.int .i64 z) := cellMid hMyj (by show b < v1.heap.size; omega) (cellMid hMyi (by show b < v1.heap.size; omega) hz3)
      clear hz3
      refine hK.out _ _ hS3.c0 (fun hHeld => ?_)
      clear hK K
      (try simp only [Act.put, List.setIfInBounds_toArray, List.set_cons_zero, List.set_cons_succ])
      have g0 := hS3.own.ints
      have gc := ints_at g0 (show i < tr.length by omega)
      have gz := row_free g0 i
      clear g0
      refine wpAnyH_ready (rs := [10]) (by kernel_rfl) (by simp) ?_
      refine AllReadyH.cons (o := { dst := some 145, op := Go.Op.indexAddr 23 (Go.Operand.tmp 142) (Go.Operand.tmp 144), type := 0, pos := "l5_draw.go:88", after := #[{ on := 7, ground := Go.Ground.data }, { on := 9, ground := Go.Ground.data }], guard := none }) rfl (fun K hK => ?_) AllReadyH.nil
      go_simp
      refine hK.out _ _ hS3.c0 (fun hHeld => ?_)
      clear hK K
      (try simp only [Act.put, List.setIfInBounds_toArray, List.set_cons_zero, List.set_cons_succ])
      refine wpAnyH_ready (rs := [11]) (by kernel_rfl) (by simp) ?_
      refine AllReadyH.cons (o := { dst := some 146, op := Go.Op.load 3 (Go.Operand.tmp 145), type := 3, pos := "l5_draw.go:88", after := #[{ on := 10, ground := Go.Ground.data }], guard := none }) rfl (fun K hK => ?_) AllReadyH.nil
      go_simp
      refine hK.out _ _ hS3.c0 (fun hHeld => ?_)
      clear hK K
      (try simp only [Act.put, List.setIfInBounds_toArray, List.set_cons_zero, List.set_cons_succ])
      refine wpAnyH_ready (rs := [12]) (by kernel_rfl) (by simp) ?_
      refine AllReadyH.cons (o := { dst := some 147, op := Go.Op.indexAddr 23 (Go.Operand.tmp 136) (Go.Operand.tmp 141), type := 0, pos := "l5_draw.go:88", after := #[{ on := 1, ground := Go.Ground.data }, { on := 6, ground := Go.Ground.data }, { on := 0, ground := Go.Ground.phase }, { on := 1, ground := Go.Ground.phase }, { on := 2, ground := Go.Ground.phase }, { on := 3, ground := Go.Ground.phase }, { on := 4, ground := Go.Ground.phase }, { on := 5, ground := Go.Ground.phase }, { on := 6, ground := Go.Ground.phase }, { on := 7, ground := Go.Ground.phase }, { on := 8, ground := Go.Ground.phase }, { on := 9, ground := Go.Ground.phase }, { on := 10, ground := Go.Ground.phase }, { on := 11, ground := Go.Ground.phase }], guard := none }) rfl (fun K hK => ?_) AllReadyH.nil
      go_simp
      refine hK.out _ _ hS3.c0 (fun hHeld => ?_)
      clear hK K
      (try simp only [Act.put, List.setIfInBounds_toArray, List.set_cons_zero, List.set_cons_succ])
      refine wpAnyH_ready (rs := [13]) (by kernel_rfl) (by simp) ?_
      refine AllReadyH.cons (o := { dst := none, op := Go.Op.store 3 (Go.Operand.tmp 147) (Go.Operand.tmp 146), type := 0, pos := "l5_draw.go:88", after := #[{ on := 12, ground := Go.Ground.data }, { on := 11, ground := Go.Ground.data }, { on := 9, ground := Go.Ground.chain }, { on := 0, ground := Go.Ground.phase }, { on := 1, ground := Go.Ground.phase }, { on := 2, ground := Go.Ground.phase }, { on := 3, ground := Go.Ground.phase }, { on := 4, ground := Go.Ground.phase }, { on := 5, ground := Go.Ground.phase }, { on := 6, ground := Go.Ground.phase }, { on := 7, ground := Go.Ground.phase }, { on := 8, ground := Go.Ground.phase }, { on := 9, ground := Go.Ground.phase }, { on := 10, ground := Go.Ground.phase }, { on := 11, ground := Go.Ground.phase }], guard := none }) rfl (fun K hK => ?_) AllReadyH.nil
      go_simp
      refine hK.out _ _ ((hS3.trackPut rfl i z hb hbl).c0) (fun hHeld => ?_)
      clear hK K
      (try simp only [Act.put, List.setIfInBounds_toArray, List.set_cons_zero, List.set_cons_succ])
      refine wpAnyH_done (by kernel_rfl) ?_ _
      show K2 _ _
      apply hEnd'.out
      · exact hS3.trackPut rfl i z hb hbl
      · omega
  · go_wp2
    clear q0
    obtain ⟨i0, ii, iz0, iz1, iz2⟩ := info_parts Tryz.infoInt
    go_loopw [] (fun wr => ∃ (kk : Nat) (tr' : List Int) (vt' : Value), Spo w0 w b bl B0 O kk tr' gap L vt' (.slice aT L.length cT) wr ∧ kk ≤ k + 4 + 2 * tr'.length) (fun wr => 14 - slLen wr ⟨bl, 0, none⟩)
    case atStart => exact ⟨k + 2, tr, _, hS, by omega⟩
    case round =>
      clear hS hlt htl
      obtain ⟨kk, tr', vt', hS', hkk⟩ := hrel
      obtain ⟨at', ct', rfl, _⟩ := ownInts hS'.own.ints
      have q0 := hS'.c0
      have htl' := hS'.tl
      have hlt' := hS'.lt
      have hSd := hS'.later (Below.refl wr.heap.size wr).drew hbl
      have hP := pick_any w0 b kk 2 wr.drew (by omega) (by decide) hSd.cur
      go_wp2
      go_region_held3 (fun w' => w'.cell? ⟨bl, 0, none⟩ = some (.slice at' tr'.length ct')) (first | go_keep | exact cellMid hM1 (by omega) (by assumption)) ((go_at_call 14; refine hP.mono ?_; rintro _ v2 ⟨y2, rfl, hy20, hy21, hC1, hM1⟩))
      have hS2 := hSd.mid hM1 hC1 hb hbl
      have hlt2 := hS2.lt
      have hSA := hS2.later (b1 v2 (.cells #[.int .i64 1] 3)) hbl
      have e0 := hS2.c0
      clear hP hSd hM1 hC1
      have hwp : IntKind.i64.wrap (12 + y2) = 12 + y2 := by rw [IntKind.wrap_i64]; omega
      rw [hwp]
      clear hwp
      by_cases hl2 : (tr'.length : Int) < 12 + y2
      · go_wp2_with (at_builtin; refine wpList_append_own_at _ rfl _ _ 23 rfl B0 3 i0 _ 1 8 Tryz.underlying23 ii iz0 iz1 iz2 rfl (by decide) _ _ _ rfl hSA.own.ints ⟨v2.heap.size, 0, none⟩ 1 1 [.int .i64 1] rfl rfl cells1_lie one1 (by unfold maxLen; omega) (by omega) (by simp only [World.size_alloc]; omega) ?_)
        intro v' W1 hown1 hgr1 _ hloc1
        obtain ⟨gn, cn, rfl⟩ := Joins.ownsRow_form hown1 (by omega)
        have hbk := hSA.grownBl hgr1 (fun j hj => Or.inl hj)
        have m0 := (World.cell?_of_block (w' := W1) (a := ⟨bl, 0, none⟩) hbk).trans hSA.c0
        have mz := (World.frozen?_of_block (w' := W1) (a := ⟨bl, 0, none⟩) hbk).trans hSA.z0
        have hS9 := hS2.trackAdd hown1 hgr1 (by simpa using hloc1) (by omega) hb hbl
        have c9 := hS9.c0
        have hS9' : Hid _ := hS9
        have c9' : Hid _ := c9
        clear hS9 c9 hbk e0
        go_wp2
        go_roundw
        case rel => exact ⟨kk + 2, _, _, hS9'.out, by rw [List.length_append]; simp; omega⟩
        case measure =>
          rw [slLen_of c9'.out, slLen_of q0]
          omega
      · go_wp2
        apply hEnd'.out
        · exact hS2
        · omega
  · go_wp2
    clear q0
    obtain ⟨i0, ii, iz0, iz1, iz2⟩ := info3 Tryz.infoTrain
    go_loopw [] (fun wr => ∃ (kk : Nat) (L' : List TrV) (vT' : Value), Spo w0 w b bl B0 O kk tr gap L' (.slice at_ tr.length ct) vT' wr ∧ kk ≤ k + 4 + 2 * L'.length) (fun wr => 14 - slLen wr ⟨bl, 2, none⟩)
    case atStart => exact ⟨k + 2, L, _, hS, by omega⟩
    case round =>
      clear hS hlt htl
      obtain ⟨kk, L', vT', hS', hkk⟩ := hrel
      obtain ⟨aT', cT', rfl, _⟩ := hS'.own.trs.trains (fun x hx => by have := hS'.gl x hx; unfold maxLen; omega)
      have q0 := hS'.c2
      have hLl' := hS'.Ll
      have hlt' := hS'.lt
      have hSd := hS'.later (Below.refl wr.heap.size wr).drew hbl
      have hP := pick_any w0 b kk 2 wr.drew (by omega) (by decide) hSd.cur
      go_wp2
      go_region_held3 (fun w' => w'.cell? ⟨bl, 2, none⟩ = some (.slice aT' L'.length cT')) (first | go_keep | exact cellMid hM1 (by omega) (by assumption)) ((go_at_call 14; refine hP.mono ?_; rintro _ v2 ⟨y2, rfl, hy20, hy21, hC1, hM1⟩))
      have hS2 := hSd.mid hM1 hC1 hb hbl
      have hlt2 := hS2.lt
      have hSA := (hS2.later (b1 v2 (.cells #[.int .i64 1, .int .i64 5, .int .i64 0] 68)) hbl).later (b1 _ (.cells #[.int .i64 0, .int .i64 0, .int .i64 0, .int .i64 1, .slice (some ⟨v2.heap.size, 0, none⟩) 1 1] 63)) hbl
      have e0 := hS2.c2
      clear hP hSd hM1 hC1
      have hwp : IntKind.i64.wrap (5 + y2) = 5 + y2 := by rw [IntKind.wrap_i64]; omega
      rw [hwp]
      clear hwp
      by_cases hl2 : (L'.length : Int) < 5 + y2
      · go_wp2_with (at_builtin; refine wpList_append_own_at _ rfl _ _ 24 rfl B0 63 i0 _ 5 56 Tryz.underlying24 ii iz0 iz1 iz2 rfl (by decide) _ _ _ rfl hSA.own.trs.row ⟨v2.heap.size + 1, 0, none⟩ 1 1 [.int .i64 0, .int .i64 0, .int .i64 0, .int .i64 1, .slice (some ⟨v2.heap.size, 0, none⟩) 1 1] rfl rfl (lie5 (by rw [World.size_alloc])) (TrV_one (t := ⟨0, 0, 0, 1, []⟩)) (by unfold maxLen; omega) (by omega) (by simp only [World.size_alloc]; omega) ?_)
        intro v' W1 hown1 hgr1 _ hloc1
        obtain ⟨gn, cn, rfl⟩ := Joins.ownsRow_form hown1 (by omega)
        have hbk := hSA.grownBl hgr1 (fun j hj => Or.inr (Or.inl hj))
        have m0 := (World.cell?_of_block (w' := W1) (a := ⟨bl, 2, none⟩) hbk).trans hSA.c2
        have mz := (World.frozen?_of_block (w' := W1) (a := ⟨bl, 2, none⟩) hbk).trans hSA.z2
        have hS9 := hS2.trainAdd hown1 hgr1 (by simpa using hloc1) (by omega) hb hB0' hbl
        have c9 := hS9.c2
        have hS9' : Hid _ := hS9
        have c9' : Hid _ := c9
        clear hS9 c9 hbk e0
        go_wp2
        go_roundw
        case rel => exact ⟨kk + 2, _, _, hS9'.out, by rw [List.length_append]; simp; omega⟩
        case measure =>
          rw [slLen_of c9'.out, slLen_of q0]
          omega
      · go_wp2
        apply hEnd'.out
        · exact hS2
        · omega
  · obtain ⟨gt, ct', et⟩ := Joins.ownsRow_form hS.own.ints (by omega)
    cases et
    have hcap := row_cap hS.own.ints
    have hcap' : (1 : Int) ≤ (ct : Int) := by omega
    have hz0 := hS.z0
    go_wp2
    apply hEnd'.out
    · exact hS.cut rfl hbl
    · omega
  · have hb0 : (y == 0) = false := by simpa using hn0
    have hb1 : (y == 1) = false := by simpa using hn1
    have hb2 : (y == 2) = false := by simpa using hn2
    have hb3 : (y == 3) = false := by simpa using hn3
    have hb4 : (y == 4) = false := by simpa using hn4
    refine wp_block ?_
    refine wp_seq_k (fun K24 h24 => ?_)
    have h24' : Hid _ := h24
    clear h24
    go_wp2
    refine h24'.out _ _ ?_
    clear h24'
    refine wp_cond_false (by first | rfl | (simp [Act.eval, hb0]; done)) ?_
    refine wp_seq_k (fun K26 h26 => ?_)
    have h26' : Hid _ := h26
    clear h26
    go_wp2
    refine h26'.out _ _ ?_
    clear h26'
    refine wp_cond_false (by first | rfl | (simp [Act.eval, hb1]; done)) ?_
    refine wp_seq_k (fun K29 h29 => ?_)
    have h29' : Hid _ := h29
    clear h29
    go_wp2
    refine h29'.out _ _ ?_
    clear h29'
    refine wp_cond_false (by first | rfl | (simp [Act.eval, hb2]; done)) ?_
    refine wp_seq_k (fun K32 h32 => ?_)
    have h32' : Hid _ := h32
    clear h32
    go_wp2
    refine h32'.out _ _ ?_
    clear h32'
    refine wp_cond_false (by first | rfl | (simp [Act.eval, hb3]; done)) ?_
    refine wp_seq_k (fun K35 h35 => ?_)
    have h35' : Hid _ := h35
    clear h35
    go_wp2
    refine h35'.out _ _ ?_
    clear h35'
    refine wp_cond_false (by first | rfl | (simp [Act.eval, hb4]; done)) ?_
    refine spoil_def w0 w b bl B0 (k + 2) (k + 100) O tr gap L _ _ v1 K2 ?_ hS hbl'.out (by omega) (by omega) hb hbl
    intro u1 u2 u5 u6 u7 u8 u9 u10 u11 u12 u13 u14 u15 u16 u17 u18 u19 u20 u21 u22 u23 u24 u25 u26 u27 u28 u29 u30 u31 u32 u33 u34 u35 u36 u37 u38 u39 u40 u41 u42 u43 u44 u45 u46 u47 u48 u49 u50 u51 u52 u53 u54 u55 u56 u57 u58 u59 u60 u61 u62 u63 u64 u65 u66 u67 u68 u69 u70 u71 u72 u73 u74 u75 u76 u77 u78 u79 u80 u81 u82 u83 u84 u85 u86 u87 u88 u89 u90 u91 u92 u93 u94 u95 u96 u97 u98 u99 u100 u101 u102 u103 u104 u105 u106 u107 u108 u109 u110 u111 u112 u113 u114 u115 u116 u117 u118 u119 u120 u121 u122 u123 u124 u125 u126 u127 u128 u129 u130 u131 u132 u133 u134 u135 u136 u137 u138 u139 u140 u141 u142 u143 u144 u145 u146 u147 u148 u149 u150 u151 u152 u153 u154 u155 u156 u157 u158 u159 u160 u161 u162 u163 u164 u165 u166 u167 u168 u169 u170 u171 u172 u173 u174 u175 u176 u177 u178 u179 u180 u181 u182 u183 u184 u185 k' L' W' hS' hk'
    apply hEnd'.out
    · exact hS'
    · omega
end Go.Proofs.YtgdljgjamafpiaaGreatDoor

