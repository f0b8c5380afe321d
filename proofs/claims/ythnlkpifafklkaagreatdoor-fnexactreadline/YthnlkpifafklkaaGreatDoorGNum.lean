/-
  The program's reader: its box, and how the worlds go on.
  The program's reader: a number.
-/
import Derived.Test.YthnlkpifafklkaaGreatDoorReadC
import Derived.Test.YthnlkpifafklkaaGreatDoorToM
import Derived.Test.YthnlkpifafklkaaGreatDoorWordsI
import Derived.Test.YthnlkpifafklkaaGreatDoorItoaI
namespace Go.Proofs.YthnlkpifafklkaaGreatDoor
open Go.RowKit

/-- the reader's box at block b, behind the world w0 that it was made in -/
structure Rd (w0 : World) (b : Nat) (s : Bs) (row : Int) (W : World) : Prop where
  base : Below w0.heap.size w0 W
  lo : w0.heap.size ≤ b
  c0 : W.cell? ⟨b, 0, none⟩ = some (.string (ba s))
  c1 : W.cell? ⟨b, 1, none⟩ = some (.int .i64 row)
  z0 : W.frozen? ⟨b, 0, none⟩ = false
  z1 : W.frozen? ⟨b, 1, none⟩ = false
section
variable {w0 W W' : World} {b : Nat} {s : Bs} {row : Int}
theorem Rd.later (h : Rd w0 b s row W) (hB : Below W.heap.size W W') : Rd w0 b s row W' :=
  ⟨Below.join h.base (Nat.le_refl _) hB, h.lo, cellLater hB h.c0, cellLater hB h.c1, (hB.frozen (ltCell h.c0)).trans h.z0, (hB.frozen (ltCell h.c1)).trans h.z1⟩
theorem Rd.take (h : Rd w0 b s row W) (s' : Bs) : Rd w0 b s' row (W.setCell ⟨b, 0, none⟩ (.string (ba s'))) :=
  ⟨h.base.setCell h.lo _, h.lo, World.cell?_setCell_same _ _ _ h.c0, (cell_set_ne (by omega)).trans h.c1, (World.frozen?_setCell ..).trans h.z0, (World.frozen?_setCell ..).trans h.z1⟩
theorem Rd.next (h : Rd w0 b s row W) (row' : Int) : Rd w0 b s row' (W.setCell ⟨b, 1, none⟩ (.int .i64 row')) :=
  ⟨h.base.setCell h.lo _, h.lo, (cell_set_ne (by omega)).trans h.c0, World.cell?_setCell_same _ _ _ h.c1, (World.frozen?_setCell ..).trans h.z0, (World.frozen?_setCell ..).trans h.z1⟩
theorem Rd.mid {lo hi : Nat} (h : Rd w0 b s row W) (hM : Mid lo hi W W') (hl : b < lo) : Rd w0 b s row W' := by
  have hb := hM.below
  refine ⟨h.base.trans (hb.mono (by have := h.lo; omega)), h.lo, hM.cellBelow hl h.c0, hM.cellBelow hl h.c1, ?_, ?_⟩
  · exact (World.frozen?_of_block (w := W) (w' := W') (a := ⟨b, 0, none⟩) (hb.block b hl)).trans h.z0
  · exact (World.frozen?_of_block (w := W) (w' := W') (a := ⟨b, 1, none⟩) (hb.block b hl)).trans h.z1
end
theorem way_take {w0 W : World} {b : Nat} {s : Bs} {row : Int} (_ : Rd w0 b s row W) (x : Value) (o : Nat) : Mid b (b + 1) W (W.setCell ⟨b, o, none⟩ x) := Mid.set (Nat.le_refl _) (Nat.lt_succ_self _) x
theorem Rd.ofBelow {w0 W W' : World} {b : Nat} {s : Bs} {row : Int} (h : Rd w0 b s row W) (hB : Below W.heap.size W W') : Mid b (b + 1) W W' := Mid.ofBelow hB (Nat.le_of_lt (ltCell h.c0))

/-- what strconv answers where it reads no number -/
def ErrIs (w : World) : Prop := (∃ tp p, w.var? Tryz.prog "strconv.ErrSyntax" = some #[.iface tp p]) ∧ ∃ tp p, w.var? Tryz.prog "strconv.ErrRange" = some #[.iface tp p]
theorem ErrIs.later {w w' : World} (h : ErrIs w) (hB : Below w.heap.size w w') : ErrIs w' := by
  obtain ⟨⟨t, p, h1⟩, t2, p2, h2⟩ := h
  exact ⟨⟨t, p, Go.Joins.var_stays (show Tryz.prog.globalNamed "strconv.ErrSyntax" = some 3 by kernel_rfl) h1 hB (Nat.le_refl _)⟩, t2, p2, Go.Joins.var_stays (show Tryz.prog.globalNamed "strconv.ErrRange" = some 4 by kernel_rfl) h2 hB (Nat.le_refl _)⟩
/-- what the reader leans on, as it lies -/
structure LaidR (w : World) : Prop where
  ten : TenIs w
  err : ErrIs w
  words : WordsIs w
theorem LaidR.later {w w' : World} (h : LaidR w) (hB : Below w.heap.size w w') : LaidR w' := ⟨h.ten.later hB, h.err.later hB, h.words.later hB⟩

theorem atoi_nonneg {l : Bs} (hd : l.all dig = true) {v : Int} (h : Lib.atoiAll l = .ok v) : 0 ≤ v := by
  cases l with
  | nil => simp [Lib.atoiAll] at h
  | cons c r =>
    rw [List.all_cons, Bool.and_eq_true] at hd
    have hc := dig_range hd.1
    unfold Lib.atoiAll at h
    have h45 : ¬ (c.toNat = 45) := by omega
    simp only [h45, if_false, not_false_eq_true, true_and, false_and] at h
    split at h
    · cases h
    · cases h
    · split at h
      · cases h
      · cases h; omega
theorem atoi_ok (l : Bs) (hl : l.length ≤ 1000000) {v : Int} (h : Lib.atoiAll l = .ok v) (W : World) : Calls Tryz.prog 139 #[.string (ba l)] W fun e w' => e = .returned (.tuple #[.int .i64 v, .nilIface]) ∧ Below W.heap.size W w' := by
  have := Any.strconv_Atoi_ok Tryz.laysC172 (ba l) (by rw [ba_size]; omega) v (by rw [ba_list]; exact h) W
  refine this.mono ?_
  rintro _ w' ⟨rfl, rfl | ⟨t, rfl⟩⟩
  · exact ⟨rfl, Below.refl _ _⟩
  · exact ⟨rfl, Lib.bytesWorld_below _ _ _⟩
theorem atoi_err (l : Bs) (hl : l.length ≤ 1000000) (h : Lib.atoiAll l = .«syntax» ∨ Lib.atoiAll l = .range) (W : World) (hE : ErrIs W) : Calls Tryz.prog 139 #[.string (ba l)] W fun e w' => (∃ n t p, e = .returned (.tuple #[.int .i64 n, .iface t p])) ∧ Below W.heap.size W w' := by
  obtain ⟨⟨t1, p1, h1⟩, t2, p2, h2⟩ := hE
  rcases h with h | h
  · have := Any.strconv_Atoi_syntax_var Tryz.laysC172 (ba l) (by rw [ba_size]; omega) (by rw [ba_list]; exact h) t1 p1 W h1
    refine this.mono ?_
    rintro _ w' ⟨N, rfl, _, _, hB⟩
    exact ⟨⟨_, _, _, rfl⟩, hB⟩
  · have := Any.strconv_Atoi_range_var Tryz.laysC172 (ba l) (by rw [ba_size]; omega) (by rw [ba_list]; exact h) t2 p2 W h2
    refine this.mono ?_
    rintro _ w' ⟨N, rfl, _, _, hB⟩
    exact ⟨⟨_, _, _, rfl⟩, hB⟩
end Go.Proofs.YthnlkpifafklkaaGreatDoor

namespace Go.Proofs.YthnlkpifafklkaaGreatDoor
open Go.RowKit

/-- the reader leaves at this row -/
def Quit (b : Nat) (row : Int) (w : World) (e : Ending) (w' : World) : Prop := e = .panicked [{ v := .iface 123 (.agg #[.int .i64 row]), recovered := false }] ∧ Mid b (b + 1) w w'
section
variable {w0 w : World} {b : Nat} {s : Bs} {row : Int}
theorem takeR_no (hR : Rd w0 b s row w) {p : Bs} (h : takeB p s = none) : Calls Tryz.prog 125 #[.pointer (some ⟨b, 0, none⟩), .string (ba p)] w fun e w' => Quit b row w e w' := by
  have hp : p.isPrefixOf s = false := by
    unfold takeB at h
    split at h
    · cases h
    · rename_i h2; exact Bool.eq_false_iff.2 h2
  refine (take_no b s p row w hR.c0 hR.c1 hp).mono ?_
  rintro _ _ ⟨rfl, rfl⟩
  exact ⟨rfl, Mid.refl _ _ _⟩
theorem takeR_yes (hR : Rd w0 b s row w) {p r : Bs} (h : takeB p s = some r) : Calls Tryz.prog 125 #[.pointer (some ⟨b, 0, none⟩), .string (ba p)] w fun e w' => e = .returned (.tuple #[]) ∧ Rd w0 b r row w' ∧ Mid b (b + 1) w w' := by
  have hp : p.isPrefixOf s = true ∧ s.drop p.length = r := by
    unfold takeB at h
    split at h
    · rename_i h2; exact ⟨h2, Option.some.inj h⟩
    · cases h
  refine (take_yes b s p w hR.c0 hR.z0 hp.1).mono ?_
  rintro _ _ ⟨rfl, rfl⟩
  rw [hp.2]
  exact ⟨rfl, hR.take r, way_take hR _ 0⟩
end

theorem slice_dig (s : Bs) (W : World) : (Instr.slice 9 (.string (ba s)) none (some (.int .i64 ((s.takeWhile dig).length : Int))) none).run Tryz.prog W = .ok (.string (ba (s.takeWhile dig))) W := by
  have hl := trim_len s
  rw [run_slice_string_h W 9 (ba s) Tryz.underlying9 .i64 _ (by omega) (by rw [ba_size]; omega), Int.toNat_natCast, ba_take, take_len]
theorem size_dig (s : Bs) : ((ba s).size : Int) - ((ba (s.dropWhile dig)).size : Int) = ((s.takeWhile dig).length : Int) := by
  have hl := trim_len s
  rw [ba_size, ba_size]; omega

theorem ba_toList (l : Bs) : (ba l).toList = l := ByteArray.toList_mk l
set_option maxRecDepth 20000 in
set_option maxHeartbeats 2000000 in
theorem number_err (w0 : World) (b : Nat) (s : Bs) (row : Int) (w : World) (hR : Rd w0 b s row w) (hL : LaidR w0) (hs : s.length ≤ 4000) (hn : Lib.atoiAll (s.takeWhile dig) = .«syntax» ∨ Lib.atoiAll (s.takeWhile dig) = .range) :
    Calls Tryz.prog 126 #[.pointer (some ⟨b, 0, none⟩)] w fun e w' => Quit b row w e w' := by
  have hT := fun W => trim_any s W
  have hl := trim_len s
  have hlen : (s.takeWhile dig).length ≤ 4000 := by omega
  have hA := fun W hE => atoi_err (s.takeWhile dig) (by omega) hn W hE
  have hsl := slice_dig s
  have hsz := size_dig s
  have hc0 := hR.c0
  generalize (s.takeWhile dig).length = K at hsl hsz hlen
  generalize ba (s.takeWhile dig) = D at hsl hA
  generalize ba (s.dropWhile dig) = T at hT hsz
  generalize ba s = S at hc0 hT hsz hsl
  have hw : IntKind.i64.wrap ((S.size : Int) - (T.size : Int)) = (K : Int) := by rw [hsz, IntKind.wrap_i64]; omega
  have hw' : wrap64 ((S.size : Int) - (T.size : Int)) = (K : Int) := by unfold wrap64; omega
  clear hl hsz hn
  go_enter Tryz.func126, Tryz.ntmps126
  go_wp2
  go_region_held3 (fun w' => w'.cell? ⟨b, 0, none⟩ = some (.string S)) (first | (go_split_ands; exact cellLater hB2 (by assumption)) | go_keep) ((first | (go_at_call 138; refine (hT _).mono ?_; rintro e w2 ⟨rfl, hB2⟩)))
  have hBd : Below w.heap.size w w2 := Below.join ((Below.refl _ w).drew) (Nat.le_refl _) hB2
  have hR2 := hR.later hBd
  go_wp2_with (first | (go_at_call 139; refine (hA _ (hL.err.later hR2.base)).mono ?_; rintro _ w3 ⟨⟨nn, tt, pp, rfl⟩, hB3⟩; have hR3 := hR2.later hB3) | (go_at_call 137; refine (leave_any b row _ hR3.c1).mono ?_; rintro _ _ ⟨rfl, rfl⟩))
  exact ⟨rfl, rfl, hR.ofBelow (Below.join hBd (Nat.le_refl _) hB3)⟩

set_option maxRecDepth 20000 in
set_option maxHeartbeats 2000000 in
theorem number_big (w0 : World) (b : Nat) (s : Bs) (row : Int) (w : World) (hR : Rd w0 b s row w) (hs : s.length ≤ 4000) {v : Int} (hn : Lib.atoiAll (s.takeWhile dig) = .ok v) (hv : 9999999 < v) :
    Calls Tryz.prog 126 #[.pointer (some ⟨b, 0, none⟩)] w fun e w' => Quit b row w e w' := by
  have hT := fun W => trim_any s W
  have hl := trim_len s
  have hlen : (s.takeWhile dig).length ≤ 4000 := by omega
  have hA := fun W => atoi_ok (s.takeWhile dig) (by omega) hn W
  have hsl := slice_dig s
  have hsz := size_dig s
  have hc0 := hR.c0
  generalize (s.takeWhile dig).length = K at hsl hsz hlen
  generalize ba (s.takeWhile dig) = D at hsl hA
  generalize ba (s.dropWhile dig) = T at hT hsz
  generalize ba s = S at hc0 hT hsz hsl
  have hw : IntKind.i64.wrap ((S.size : Int) - (T.size : Int)) = (K : Int) := by rw [hsz, IntKind.wrap_i64]; omega
  have hw' : wrap64 ((S.size : Int) - (T.size : Int)) = (K : Int) := by unfold wrap64; omega
  clear hl hsz hn
  go_enter Tryz.func126, Tryz.ntmps126
  go_wp2
  go_region_held3 (fun w' => w'.cell? ⟨b, 0, none⟩ = some (.string S)) (first | (go_split_ands; exact cellLater hB2 (by assumption)) | go_keep) ((first | (go_at_call 138; refine (hT _).mono ?_; rintro e w2 ⟨rfl, hB2⟩)))
  have hBd : Below w.heap.size w w2 := Below.join ((Below.refl _ w).drew) (Nat.le_refl _) hB2
  have hR2 := hR.later hBd
  go_wp2_with (first | (go_at_call 139; refine (hA _).mono ?_; rintro _ w3 ⟨rfl, hB3⟩; have hR3 := hR2.later hB3) | (go_at_call 137; refine (leave_any b row _ hR3.c1).mono ?_; rintro _ _ ⟨rfl, rfl⟩))
  exact ⟨rfl, rfl, hR.ofBelow (Below.join hBd (Nat.le_refl _) hB3)⟩

set_option maxRecDepth 20000 in
set_option maxHeartbeats 2000000 in
theorem number_other (w0 : World) (b : Nat) (s : Bs) (row : Int) (w : World) (hR : Rd w0 b s row w) (hL : LaidR w0) (hs : s.length ≤ 4000) {v : Int} (hn : Lib.atoiAll (s.takeWhile dig) = .ok v) (h0 : 0 ≤ v) (hv : v ≤ 9999999) (hne : Lib.itoa v ≠ s.takeWhile dig) :
    Calls Tryz.prog 126 #[.pointer (some ⟨b, 0, none⟩)] w fun e w' => Quit b row w e w' := by
  have hT := fun W => trim_any s W
  have hl := trim_len s
  have hlen : (s.takeWhile dig).length ≤ 4000 := by omega
  have hA := fun W => atoi_ok (s.takeWhile dig) (by omega) hn W
  have hv' : ¬ (9999999 < v) := by omega
  have hI := fun W hT => itoaI_any v W h0 (by omega) hT
  have hcmp : ((ba (Lib.itoa v)).toList == (ba (s.takeWhile dig)).toList) = false := by rw [ba_toList, ba_toList]; simpa using hne
  have hsl := slice_dig s
  have hsz := size_dig s
  have hc0 := hR.c0
  generalize (s.takeWhile dig).length = K at hsl hsz hlen
  generalize ba (s.takeWhile dig) = D at hsl hA hcmp
  generalize ba (s.dropWhile dig) = T at hT hsz
  generalize ba s = S at hc0 hT hsz hsl
  have hw : IntKind.i64.wrap ((S.size : Int) - (T.size : Int)) = (K : Int) := by rw [hsz, IntKind.wrap_i64]; omega
  have hw' : wrap64 ((S.size : Int) - (T.size : Int)) = (K : Int) := by unfold wrap64; omega
  clear hl hsz hn hne
  go_enter Tryz.func126, Tryz.ntmps126
  go_wp2
  go_region_held3 (fun w' => w'.cell? ⟨b, 0, none⟩ = some (.string S)) (first | (go_split_ands; exact cellLater hB2 (by assumption)) | go_keep) ((first | (go_at_call 138; refine (hT _).mono ?_; rintro e w2 ⟨rfl, hB2⟩)))
  have hBd : Below w.heap.size w w2 := Below.join ((Below.refl _ w).drew) (Nat.le_refl _) hB2
  have hR2 := hR.later hBd
  go_wp2_with (first | (go_at_call 139; refine (hA _).mono ?_; rintro _ w3 ⟨rfl, hB3⟩; have hR3 := hR2.later hB3) | (go_at_call 92; refine (hI _ (hL.ten.later hR3.base)).mono ?_; rintro _ w4 ⟨rfl, hB4⟩; have hR4 := hR3.later hB4) | (go_at_call 137; refine (leave_any b row _ hR4.c1).mono ?_; rintro _ _ ⟨rfl, rfl⟩))
  exact ⟨rfl, rfl, hR.ofBelow (Below.join (Below.join hBd (Nat.le_refl _) hB3) (Nat.le_refl _) hB4)⟩

set_option maxRecDepth 20000 in
set_option maxHeartbeats 2000000 in
theorem number_yes (w0 : World) (b : Nat) (s : Bs) (row : Int) (w : World) (hR : Rd w0 b s row w) (hL : LaidR w0) (hs : s.length ≤ 4000) (hn : numOk (s.takeWhile dig) = true) :
    Calls Tryz.prog 126 #[.pointer (some ⟨b, 0, none⟩)] w fun e w' => e = .returned (.int .i64 (numVal (s.takeWhile dig))) ∧ Rd w0 b (s.drop (s.takeWhile dig).length) row w' ∧ Mid b (b + 1) w w' := by
  have hT := fun W => trim_any s W
  have hl := trim_len s
  have hlen : (s.takeWhile dig).length ≤ 4000 := by omega
  obtain ⟨hn1, h0, hv, hit⟩ := num_ok hn
  have hA := fun W => atoi_ok (s.takeWhile dig) (by omega) hn1 W
  have hv' : ¬ (9999999 < numVal (s.takeWhile dig)) := by omega
  have hI := fun W hT => itoaI_any (numVal (s.takeWhile dig)) W h0 (by omega) hT
  rw [hit] at hI
  have hcmp : ((ba (s.takeWhile dig)).toList == (ba (s.takeWhile dig)).toList) = true := by simp
  have htk : takeB (s.takeWhile dig) s = some (s.drop (s.takeWhile dig).length) := by
    unfold takeB; rw [if_pos]; rw [List.isPrefixOf_iff_prefix]; exact List.takeWhile_prefix _
  have hTk := fun W (h : Rd w0 b s row W) => takeR_yes h htk
  clear htk hn hn1 hit
  generalize hrr : s.drop (s.takeWhile dig).length = rr at hTk
  generalize numVal (s.takeWhile dig) = v at *
  have hsl := slice_dig s
  have hsz := size_dig s
  have hc0 := hR.c0
  generalize (s.takeWhile dig).length = K at hsl hsz hlen
  generalize ba (s.takeWhile dig) = D at hsl hA hI hcmp hTk
  generalize ba (s.dropWhile dig) = T at hT hsz
  generalize ba s = S at hc0 hT hsz hsl
  have hw : IntKind.i64.wrap ((S.size : Int) - (T.size : Int)) = (K : Int) := by rw [hsz, IntKind.wrap_i64]; omega
  have hw' : wrap64 ((S.size : Int) - (T.size : Int)) = (K : Int) := by unfold wrap64; omega
  clear hl hsz
  go_enter Tryz.func126, Tryz.ntmps126
  go_wp2
  go_region_held3 (fun w' => w'.cell? ⟨b, 0, none⟩ = some (.string S)) (first | (go_split_ands; exact cellLater hB2 (by assumption)) | go_keep) ((first | (go_at_call 138; refine (hT _).mono ?_; rintro e w2 ⟨rfl, hB2⟩)))
  have hBd : Below w.heap.size w w2 := Below.join ((Below.refl _ w).drew) (Nat.le_refl _) hB2
  have hR2 := hR.later hBd
  go_wp2_with (first | (go_at_call 139; refine (hA _).mono ?_; rintro _ w3 ⟨rfl, hB3⟩; have hR3 := hR2.later hB3) | (go_at_call 92; refine (hI _ (hL.ten.later hR3.base)).mono ?_; rintro _ w4 ⟨rfl, hB4⟩; have hR4 := hR3.later hB4) | (go_at_call 125; refine (hTk _ hR4).mono ?_; rintro _ w5 ⟨rfl, hR5, hM5⟩))
  go_ret
  exact ⟨rfl, hR5, (hR.ofBelow (Below.join (Below.join hBd (Nat.le_refl _) hB3) (Nat.le_refl _) hB4)).trans hM5⟩

theorem number_no (w0 : World) (b : Nat) (s : Bs) (row : Int) (w : World) (hR : Rd w0 b s row w) (hL : LaidR w0) (hs : s.length ≤ 4000) (hn : numB s = none) :
    Calls Tryz.prog 126 #[.pointer (some ⟨b, 0, none⟩)] w fun e w' => Quit b row w e w' := by
  have hk : numOk (s.takeWhile dig) = false := by
    unfold numB at hn
    split at hn
    · cases hn
    · rename_i h2; exact Bool.eq_false_iff.2 h2
  rcases num_no (takeWhile_dig s) hk with h | h | ⟨v, h, hv⟩
  · exact number_err w0 b s row w hR hL hs (Or.inl h)
  · exact number_err w0 b s row w hR hL hs (Or.inr h)
  · have h0 := atoi_nonneg (takeWhile_dig s) h
    by_cases h1 : 9999999 < v
    · exact number_big w0 b s row w hR hs h h1
    · exact number_other w0 b s row w hR hL hs h h0 (by omega) (hv.resolve_left h1)
theorem numB_parts {s r : Bs} {a : List Int} (h : numB s = some (a, r)) : numOk (s.takeWhile dig) = true ∧ a = [numVal (s.takeWhile dig)] ∧ r = s.drop (s.takeWhile dig).length := by
  unfold numB at h
  split at h
  · rename_i h2
    simp only [Option.some.injEq, Prod.mk.injEq] at h
    exact ⟨h2, h.1.symm, h.2.symm⟩
  · cases h
end Go.Proofs.YthnlkpifafklkaaGreatDoor
