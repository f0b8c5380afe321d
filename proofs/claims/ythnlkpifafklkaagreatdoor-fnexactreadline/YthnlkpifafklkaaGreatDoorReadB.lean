/-
  The program's reader: what comes, and what is taken.
-/
import Derived.Test.YthnlkpifafklkaaGreatDoorReadA
import Derived.Test.YthnlkpifafklkaaGreatDoorShelfR
namespace Go.Proofs.YthnlkpifafklkaaGreatDoor
open Go.RowKit

theorem hasPrefix_is (s p : Bs) : Lib.hasPrefix s p = p.isPrefixOf s := rfl

theorem ba_drop (s : Bs) (k : Nat) : (ba s).extract k (ba s).size = ba (s.drop k) := by
  apply ByteArray.ext
  rw [ByteArray.data_extract, ba_size]
  show s.toArray.extract k s.length = (s.drop k).toArray
  apply Array.ext'
  simp [List.take_of_length_le]

set_option maxHeartbeats 1000000 in
theorem comes_any (b : Nat) (s p : Bs) (w : World) (h0 : w.cell? ⟨b, 0, none⟩ = some (.string (ba s))) :
    Calls Tryz.prog 124 #[.pointer (some ⟨b, 0, none⟩), .string (ba p)] w fun e w' => e = .returned (.bool (p.isPrefixOf s)) ∧ w' = w := by
  have hP := Any.strings_HasPrefix Tryz.lays99 (ba s) (ba p) w
  rw [ba_list, ba_list, hasPrefix_is] at hP
  go_enter Tryz.func124, Tryz.ntmps124
  go_wp2_with (go_at_call 136; refine hP.mono ?_; rintro _ _ ⟨rfl, rfl⟩)
  go_ret
  exact ⟨rfl, rfl⟩

set_option maxHeartbeats 1000000 in
theorem take_no (b : Nat) (s p : Bs) (row : Int) (w : World) (h0 : w.cell? ⟨b, 0, none⟩ = some (.string (ba s))) (h1 : w.cell? ⟨b, 1, none⟩ = some (.int .i64 row)) (hp : p.isPrefixOf s = false) :
    Calls Tryz.prog 125 #[.pointer (some ⟨b, 0, none⟩), .string (ba p)] w fun e w' => e = .panicked [{ v := .iface 123 (.agg #[.int .i64 row]), recovered := false }] ∧ w' = w := by
  have hC := comes_any b s p w h0
  rw [hp] at hC
  go_enter Tryz.func125, Tryz.ntmps125
  go_wp2_with (first | (go_at_call 124; refine hC.mono ?_; rintro _ _ ⟨rfl, rfl⟩) | (go_at_call 137; refine (leave_any b row _ h1).mono ?_; rintro _ _ ⟨rfl, rfl⟩))
  exact ⟨rfl, rfl, rfl⟩

set_option maxHeartbeats 1000000 in
theorem take_yes (b : Nat) (s p : Bs) (w : World) (h0 : w.cell? ⟨b, 0, none⟩ = some (.string (ba s))) (hz : w.frozen? ⟨b, 0, none⟩ = false) (hp : p.isPrefixOf s = true) :
    Calls Tryz.prog 125 #[.pointer (some ⟨b, 0, none⟩), .string (ba p)] w fun e w' => e = .returned (.tuple #[]) ∧ w' = w.setCell ⟨b, 0, none⟩ (.string (ba (s.drop p.length))) := by
  have hC := comes_any b s p w h0
  rw [hp] at hC
  have hlen : p.length ≤ s.length := (List.isPrefixOf_iff_prefix.1 hp).length_le
  go_enter Tryz.func125, Tryz.ntmps125
  go_wp2_with (first | (go_at_call 124; refine hC.mono ?_; rintro _ _ ⟨rfl, rfl⟩))
  refine bodyPost_end (results_none rfl _ _ _) rfl ⟨rfl, ?_⟩
  rw [ba_drop, ba_size]

set_option maxHeartbeats 1000000 in
theorem endRow_no (b : Nat) (s : Bs) (row : Int) (w : World) (h0 : w.cell? ⟨b, 0, none⟩ = some (.string (ba s))) (h1 : w.cell? ⟨b, 1, none⟩ = some (.int .i64 row)) (hp : [10].isPrefixOf s = false) :
    Calls Tryz.prog 127 #[.pointer (some ⟨b, 0, none⟩)] w fun e w' => e = .panicked [{ v := .iface 123 (.agg #[.int .i64 row]), recovered := false }] ∧ w' = w := by
  have hC := take_no b s [10] row w h0 h1 hp
  go_enter Tryz.func127, Tryz.ntmps127
  go_wp2_with (go_at_call 125; refine hC.mono ?_; rintro _ _ ⟨rfl, rfl⟩)
  exact ⟨rfl, rfl, rfl⟩

set_option maxHeartbeats 1000000 in
theorem endRow_yes (b : Nat) (s : Bs) (row : Int) (w : World) (h0 : w.cell? ⟨b, 0, none⟩ = some (.string (ba s))) (hz : w.frozen? ⟨b, 0, none⟩ = false) (h1 : w.cell? ⟨b, 1, none⟩ = some (.int .i64 row)) (hz1 : w.frozen? ⟨b, 1, none⟩ = false) (hr : 0 ≤ row) (hr1 : row ≤ 1000000) (hp : [10].isPrefixOf s = true) :
    Calls Tryz.prog 127 #[.pointer (some ⟨b, 0, none⟩)] w fun e w' => e = .returned (.tuple #[]) ∧ w' = (w.setCell ⟨b, 0, none⟩ (.string (ba (s.drop 1)))).setCell ⟨b, 1, none⟩ (.int .i64 (row + 1)) := by
  have hC := take_yes b s [10] w h0 hz hp
  have k1 : (w.setCell ⟨b, 0, none⟩ (.string (ba (s.drop 1)))).cell? ⟨b, 1, none⟩ = some (.int .i64 row) := (cell_set_ne (by omega)).trans h1
  go_enter Tryz.func127, Tryz.ntmps127
  go_wp2_with (go_at_call 125; refine hC.mono ?_; rintro _ _ ⟨rfl, rfl⟩)
  exact bodyPost_end (results_none rfl _ _ _) rfl ⟨rfl, by rw [List.drop_one]⟩
end Go.Proofs.YthnlkpifafklkaaGreatDoor
