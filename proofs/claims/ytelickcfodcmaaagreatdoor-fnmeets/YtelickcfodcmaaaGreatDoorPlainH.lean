/-
  Who has what, as lists of holds, over plain data; and what the first clash is by them.
-/
import Derived.Test.YtelickcfodcmaaaGreatDoorPlainC
import Derived.Test.YtelickcfodcmaaaGreatDoorPlainG
namespace Go.Proofs.YtelickcfodcmaaaGreatDoor

structure HoldD where
  tr : Nat
  frm : Int
  free : Int
def holdT (gap : Int) (f : Nat → TrainD) (P : Nat → RowD) (j m : Nat) : HoldD := ⟨j, (P j).s m, (P j).s m + ((f j).leg m).run + gap⟩
def holdS (f : Nat → TrainD) (P : Nat → RowD) (j m : Nat) : HoldD := ⟨j, (P j).s m, leavesOf f P j m + 1⟩
def rowH (p : Nat → Nat → Bool) (h : Nat → Nat → HoldD) (j : Nat) : Nat → List HoldD
  | 0 => []
  | m + 1 => rowH p h j m ++ if p j m = true then [h j m] else []
def allH (p : Nat → Nat → Bool) (h : Nat → Nat → HoldD) (nl : Nat → Nat) : Nat → List HoldD
  | 0 => []
  | j + 1 => allH p h nl j ++ rowH p h j (nl j)
/-- a leg of train i that begins in a tick comes upon this hold -/
def metB (i : Nat) (t : Int) (h : HoldD) : Bool := decide ((h.frm < t ∨ (h.frm = t ∧ h.tr ≤ i)) ∧ t < h.free)
def hitB (i : Nat) (t : Int) (h : HoldD) : Bool := decide (h.tr ≠ i ∧ (h.frm < t ∨ (h.frm = t ∧ h.tr ≤ i)) ∧ t < h.free)
theorem hitB_own {i : Nat} {t : Int} {h : HoldD} (e : h.tr = i) : hitB i t h = false := decide_eq_false (fun hh => hh.1 e)
theorem hitB_met {i : Nat} {t : Int} {h : HoldD} (e : h.tr ≠ i) : hitB i t h = metB i t h := by
  rw [Bool.eq_iff_iff]; simp only [hitB, metB, decide_eq_true_eq]; constructor
  · exact fun hh => hh.2
  · exact fun hh => ⟨e, hh⟩

section
variable {p : Nat → Nat → Bool} {hd : Nat → Nat → HoldD} {nl : Nat → Nat}
theorem mem_rowH {j : Nat} {x : HoldD} : ∀ {n : Nat}, x ∈ rowH p hd j n ↔ ∃ m, m < n ∧ p j m = true ∧ x = hd j m
  | 0 => by simp [rowH]
  | n + 1 => by
    rw [rowH, List.mem_append, mem_rowH (n := n)]
    constructor
    · rintro (⟨m, hm, h1, h2⟩ | h)
      · exact ⟨m, by omega, h1, h2⟩
      · split at h
        · rename_i hp; exact ⟨n, by omega, hp, by simpa using h⟩
        · simp at h
    · rintro ⟨m, hm, h1, h2⟩
      by_cases e : m = n
      · subst e; right; rw [if_pos h1]; simpa using h2
      · left; exact ⟨m, by omega, h1, h2⟩
theorem mem_allH {x : HoldD} : ∀ {n : Nat}, x ∈ allH p hd nl n ↔ ∃ j, j < n ∧ ∃ m, m < nl j ∧ p j m = true ∧ x = hd j m
  | 0 => by simp [allH]
  | n + 1 => by
    rw [allH, List.mem_append, mem_allH (n := n), mem_rowH]
    constructor
    · rintro (⟨j, hj, r⟩ | r)
      · exact ⟨j, by omega, r⟩
      · exact ⟨n, by omega, r⟩
    · rintro ⟨j, hj, r⟩
      by_cases e : j = n
      · subst e; right; exact r
      · left; exact ⟨j, by omega, r⟩
theorem rowH_len (j : Nat) : ∀ n, (rowH p hd j n).length ≤ n
  | 0 => by simp [rowH]
  | n + 1 => by
    have := rowH_len j n
    rw [rowH, List.length_append]
    split <;> simp <;> omega
theorem sorted_allH (ht : ∀ j m, (hd j m).tr = j) : ∀ n, (allH p hd nl n).Pairwise (fun a b => a.tr ≤ b.tr)
  | 0 => by simp [allH]
  | n + 1 => by
    rw [allH, List.pairwise_append]
    refine ⟨sorted_allH ht n, ?_, fun a ha b hb => ?_⟩
    · refine List.Pairwise.imp_of_mem (R := fun _ _ => True) (fun {a b} ha hb _ => ?_) (List.pairwise_of_forall (fun _ _ => trivial))
      obtain ⟨m, _, _, rfl⟩ := mem_rowH.1 ha
      obtain ⟨m', _, _, rfl⟩ := mem_rowH.1 hb
      rw [ht, ht]; exact Nat.le_refl _
    · obtain ⟨j, hj, m, _, _, rfl⟩ := mem_allH.1 ha
      obtain ⟨m', _, _, rfl⟩ := mem_rowH.1 hb
      rw [ht, ht]; omega
end

/-- the holds of a track, of a station -/
def onTrack (f : Nat → TrainD) (x : Int) (j m : Nat) : Bool := decide (trackOf (f j) m = x)
def atStation (f : Nat → TrainD) (x : Int) (j m : Nat) : Bool := decide (((f j).leg m).to = x)
def listT (gap : Int) (ntr : Nat) (f : Nat → TrainD) (P : Nat → RowD) (x : Int) : List HoldD := allH (onTrack f x) (holdT gap f P) (fun j => (f j).nl) ntr
def listS (ntr : Nat) (f : Nat → TrainD) (P : Nat → RowD) (x : Int) : List HoldD := allH (atStation f x) (holdS f P) (fun j => (f j).nl) ntr

section
variable {gap : Int} {ntr : Nat} {f : Nat → TrainD} {P : Nat → RowD}
theorem onB_iff {i k j m : Nat} : onB gap f P i k j m = true ↔ onTrack f (trackOf (f i) k) j m = true ∧ hitB i ((P i).s k) (holdT gap f P j m) = true := by
  unfold onB onTrack hitB holdT
  rw [decide_eq_true_iff, decide_eq_true_iff, decide_eq_true_iff]
  dsimp only
  constructor
  · rintro ⟨h1, h2, h3, h4, h5⟩
    exact ⟨h2.symm, by omega, by omega, h5⟩
  · rintro ⟨h1, h2, h3, h4⟩
    exact ⟨by omega, h1.symm, by omega, by omega, h4⟩
theorem withOf_list_none {i k : Nat} (h : ∀ x ∈ listT gap ntr f P (trackOf (f i) k), hitB i ((P i).s k) x = false) : withOf gap ntr f P i k = none := by
  refine withOf_none fun j hj m hm => ?_
  cases hb : onB gap f P i k j m
  · rfl
  · obtain ⟨h1, h2⟩ := onB_iff.1 hb
    rw [h _ (mem_allH.2 ⟨j, hj, m, hm, h1, rfl⟩)] at h2
    cases h2
theorem withOf_list_some {i k : Nat} {L1 L2 : List HoldD} {x : HoldD} (e : listT gap ntr f P (trackOf (f i) k) = L1 ++ x :: L2) (hx : hitB i ((P i).s k) x = true) (h1 : ∀ y ∈ L1, hitB i ((P i).s k) y = false) : withOf gap ntr f P i k = some x.tr := by
  have hs := sorted_allH (p := onTrack f (trackOf (f i) k)) (hd := holdT gap f P) (nl := fun j => (f j).nl) (fun _ _ => rfl) ntr
  rw [show allH (onTrack f (trackOf (f i) k)) (holdT gap f P) (fun j => (f j).nl) ntr = L1 ++ x :: L2 from e] at hs
  have hmem : x ∈ listT gap ntr f P (trackOf (f i) k) := by rw [e]; simp
  obtain ⟨j, hj, m, hm, hp, hxe⟩ := mem_allH.1 hmem
  have htr : x.tr = j := by rw [hxe]; rfl
  rw [htr]
  refine firstBad_some ?_ (fun q hq => ?_) hj
  · cases hfr : freeOf gap f P i k j
    · rfl
    · have hon : onB gap f P i k j m = true := onB_iff.2 ⟨hp, by rw [← hxe]; exact hx⟩
      have hall : firstBad (fun m => !onB gap f P i k j m) (f j).nl = none := Option.isNone_iff_eq_none.1 hfr
      have := firstBad_all hall m hm
      simp [hon] at this
  · refine freeOf_true fun m' hm' => ?_
    cases hb : onB gap f P i k q m'
    · rfl
    · obtain ⟨c1, c2⟩ := onB_iff.1 hb
      have hy : holdT gap f P q m' ∈ L1 ++ x :: L2 := by rw [← e]; exact mem_allH.2 ⟨q, by omega, m', hm', c1, rfl⟩
      rcases List.mem_append.1 hy with hy | hy
      · rw [h1 _ hy] at c2; cases c2
      · rcases List.mem_cons.1 hy with hy | hy
        · have : (holdT gap f P q m').tr = x.tr := by rw [hy]
          have e2 : (holdT gap f P q m').tr = q := rfl
          omega
        · have := (List.pairwise_cons.1 (List.pairwise_append.1 hs).2.1).1 _ hy
          have e2 : (holdT gap f P q m').tr = q := rfl
          omega

theorem countRow_list {i k : Nat} (hl : ∀ m, m < (f i).nl → (P i).s m ≤ leavesOf f P i m) (j : Nat) : ∀ n, n ≤ (f j).nl → (rowH (atStation f ((f i).leg k).to) (holdS f P) j n).countP (metB i ((P i).s k)) = countRow f P i k j n
  | 0, _ => by simp [rowH, countRow]
  | n + 1, hn => by
    rw [rowH, List.countP_append, countRow_list hl j n (by omega), countRow]
    congr 1
    by_cases hp : ((f j).leg n).to = ((f i).leg k).to
    · rw [if_pos (by simp [atStation, hp])]
      have : skipB f P i k j n = !metB i ((P i).s k) (holdS f P j n) := by
        have hx : skipB f P i k j n = true ↔ ¬ (metB i ((P i).s k) (holdS f P j n) = true) := by
          unfold skipB metB holdS
          rw [decide_eq_true_iff, decide_eq_true_iff]
          by_cases hji : j = i
          · subst hji
            by_cases hnk : n = k
            · subst hnk
              have := hl n (by omega)
              dsimp only
              omega
            · dsimp only
              omega
          · dsimp only
            omega
        cases h1 : skipB f P i k j n <;> cases h2 : metB i ((P i).s k) (holdS f P j n) <;> simp_all
      rw [this]
      cases h3 : metB i ((P i).s k) (holdS f P j n)
      · simp [h3]
      · simp [h3]
    · rw [if_neg (by simp [atStation, hp])]
      have : skipB f P i k j n = true := by simp only [skipB, decide_eq_true_eq]; exact Or.inl hp
      rw [this]; simp
theorem countAll_list {i k : Nat} (hl : ∀ m, m < (f i).nl → (P i).s m ≤ leavesOf f P i m) : ∀ n, (allH (atStation f ((f i).leg k).to) (holdS f P) (fun j => (f j).nl) n).countP (metB i ((P i).s k)) = countAll f P i k n
  | 0 => by simp [allH, countAll]
  | n + 1 => by rw [allH, List.countP_append, countAll_list hl n, countRow_list hl n _ (Nat.le_refl _), countAll]
end
end Go.Proofs.YtelickcfodcmaaaGreatDoor
