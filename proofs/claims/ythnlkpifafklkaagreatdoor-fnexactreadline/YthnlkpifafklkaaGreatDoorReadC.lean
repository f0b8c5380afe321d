/-
  The program's reader: the digits that come.
-/
import Derived.Test.YthnlkpifafklkaaGreatDoorReadB
import Derived.Deep.RegionHeld3
namespace Go.Proofs.YthnlkpifafklkaaGreatDoor
open Go.RowKit

def tenB : Bs := [48, 49, 50, 51, 52, 53, 54, 55, 56, 57]
set_option maxRecDepth 100000 in
theorem dig_ten : ∀ b : UInt8, tenB.contains b = dig b := by
  have h : ∀ k : Fin 256, tenB.contains (UInt8.ofNat k.val) = dig (UInt8.ofNat k.val) := by decide
  intro b
  have := h ⟨b.toNat, b.toNat_lt⟩
  simpa using this
theorem trim_ten (s : Bs) : Lib.trimLeftS s tenB = s.dropWhile dig := by
  unfold Lib.trimLeftS
  congr 1
  exact funext dig_ten
theorem trim_len (s : Bs) : s.length = (s.takeWhile dig).length + (s.dropWhile dig).length := by
  rw [← List.length_append, List.takeWhile_append_dropWhile]
theorem take_len (s : Bs) : s.take (s.takeWhile dig).length = s.takeWhile dig := by
  conv => lhs; arg 2; rw [← List.takeWhile_append_dropWhile (p := dig) (l := s)]
  rw [List.take_left]
theorem takeWhile_dig (s : Bs) : (s.takeWhile dig).all dig = true := by
  induction s with
  | nil => rfl
  | cons b s ih =>
    rw [List.takeWhile_cons]
    split
    · rename_i h; rw [List.all_cons, h, ih]; rfl
    · rfl
theorem ba_take (s : Bs) (k : Nat) : (ba s).extract 0 k = ba (s.take k) := by
  apply ByteArray.ext
  rw [ByteArray.data_extract]
  show s.toArray.extract 0 k = (s.take k).toArray
  apply Array.ext'
  simp
theorem info_set : (Tryz.prog.info? (Tryz.lays161_ren.t 116)).map (fun i => (i.zero, i.size)) = some (some (.agg (Array.replicate 256 (.bool false))), 256) := by kernel_rfl
theorem trim_any (s : Bs) (w : World) : Calls Tryz.prog 138 #[.string (ba s), .string ⟨#[48, 49, 50, 51, 52, 53, 54, 55, 56, 57]⟩] w fun e w' => e = .returned (.string (ba (s.dropWhile dig))) ∧ Below w.heap.size w w' := by
  have hall : ∀ b ∈ tenB, b.toNat < 128 := by decide
  have h := Any.strings_TrimLeft_laid Tryz.lays161 info_set (ba s) (ba tenB) w (by decide) (by rw [ba_list]; exact fun j b hb => hall b (List.mem_of_getElem? hb))
  rw [ba_list, ba_list, trim_ten] at h
  exact h
end Go.Proofs.YthnlkpifafklkaaGreatDoor
