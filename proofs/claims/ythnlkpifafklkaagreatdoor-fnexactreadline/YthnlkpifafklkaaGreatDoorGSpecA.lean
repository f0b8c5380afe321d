/-
  The model's reader: a line, cut at each of its blanks.
  The model's reader: the numbers of a line that is like a pattern.
-/
import Derived.Test.YthnlkpifafklkaaGreatDoorReadE
import Derived.Test.YthnlkpifafklkaaGreatDoorSpecT
namespace Go.Proofs.YthnlkpifafklkaaGreatDoor
open Go.RowKit

def glue (x : Bs) : List Bs → List Bs
  | y :: ys => (x ++ y) :: ys
  | [] => [x]
theorem cutB_ne (l : Bs) : cutB l ≠ [] := by
  cases l with
  | nil => simp [cutB]
  | cons b t =>
    unfold cutB
    split
    · simp
    · split <;> simp
theorem glue_nil {c : List Bs} (h : c ≠ []) : glue [] c = c := by
  cases c with
  | nil => exact absurd rfl h
  | cons y ys => rfl
theorem cutB_step (x : Bs) (b : UInt8) (t : Bs) : glue x (cutB (b :: t)) = if b = 32 then x :: cutB t else glue (x ++ [b]) (cutB t) := by
  rw [cutB]
  by_cases hb : b = 32
  · rw [if_pos hb, if_pos hb]; simp [glue]
  · rw [if_neg hb, if_neg hb]
    cases cutB t with
    | nil => rfl
    | cons y ys => simp [glue]
theorem ba_get (l : Bs) (i : Nat) (h : i < (ba l).size) (h' : i < l.length) : (ba l)[i]'h = l[i]'h' := rfl
theorem Tryz.infoStr : (Tryz.prog.info? 9).map (fun i => (i.zero, i.size, i.bytes)) = some (some (.string ⟨#[]⟩), 1, 16) := by kernel_rfl
theorem oneS {x : ByteArray} : ∀ u ∈ [Value.string x], u.oneCell' = true := by
  intro u hu; simp only [List.mem_cons, List.not_mem_nil, or_false] at hu; rcases hu with rfl; rfl
theorem parts_step {W wr w' : World} {v v' : Value} {L : List Bs} {x : Bs} {B : Nat} (hB : Below B W wr) (hBs : B ≤ wr.heap.size) (h : wr.ownsRow B 9 1 v L.length (strCells L))
    (ho : w'.ownsRow B 9 1 v' (L.length + 1) (strCells L ++ [.string (ba x)])) (hg : wr.grownBy w' v.ownBlock) :
    w'.ownsRow B 9 1 v' (L ++ [x]).length (strCells (L ++ [x])) ∧ Below B W w' :=
  ⟨by rw [strCells_app, List.length_append]; exact ho, hB.grown hg hBs (fun j hj => (h.lt j hj).1)⟩

set_option maxRecDepth 20000 in
set_option maxHeartbeats 4000000 in
theorem l4words_S (S : ByteArray) (l : Bs) (w : World) (hl : l.length ≤ 4000) (hsz : S.size = l.length) (hgetS : ∀ i (h : i < S.size) (h' : i < l.length), S[i]'h = l[i]'h') : Calls Tryz.prog 73 #[.string S] w fun e w' => ∃ v, e = .returned v ∧ w'.ownsRow w.heap.size 9 1 v (cutB l).length (strCells (cutB l)) ∧ Below w.heap.size w w' := by
  obtain ⟨i0, hi, hz0, hz1, hz2⟩ := info3 Tryz.infoStr
  have hsz' : (S.size : Int) = (l.length : Int) := by rw [hsz]
  go_enter Tryz.func73, Tryz.ntmps73
  go_wp2
  go_loopw [3, 4, 5] (fun oo xx ii wr => ∃ (i : Nat) (L : List Bs) (x : Bs), i ≤ l.length + 1 ∧ ii = .int .i64 i ∧ xx = .string (ba x) ∧ x.length ≤ i ∧ L.length ≤ i ∧ wr.ownsRow w.heap.size 9 1 oo L.length (strCells L) ∧ (i ≤ l.length → cutB l = L ++ glue x (cutB (l.drop i))) ∧ (i = l.length + 1 → cutB l = L) ∧ Below w.heap.size w wr) (fun _ _ ii _ => l.length + 1 - (intOf ii).toNat)
  case atStart => exact ⟨0, [], [], Nat.zero_le _, rfl, rfl, Nat.le_refl _, Nat.le_refl _, World.ownsRow_nil _ _ _ _, fun _ => by rw [List.drop_zero, glue_nil (cutB_ne l)]; rfl, fun h => by omega, Below.refl _ _⟩
  case round =>
    obtain ⟨i, L, x, hile, rfl, rfl, hxl, hLl, hown, hcut, hend, hB⟩ := hrel
    have hszW := hB.size
    have hi0 : (0 : Int) ≤ (i : Int) := by omega
    rcases Nat.lt_trichotomy i l.length with hlt | heq | hgt
    · have hi' : (i : Int) < (l.length : Int) := by omega
      have hile' : (i : Int) ≤ (l.length : Int) := by omega
      have hne : ((i : Int) == (l.length : Int)) = false := by simp; omega
      have hget : S[i]'(by omega) = l[i] := hgetS i (by omega) hlt
      have hdrop : l.drop i = l[i] :: l.drop (i + 1) := (List.getElem_cons_drop hlt).symm
      have hc := hcut (by omega)
      rw [hdrop, cutB_step] at hc
      have hc' : Hid _ := hc
      clear hc hcut hend hdrop hgetS
      generalize l[i] = c at hget hc'
      have hxx : x.length ≤ 4000 := by omega
      have hLL : L.length ≤ 4000 := by omega
      by_cases h32 : c = 32
      · subst h32
        go_wp2_with (at_builtin; refine wpList_append_own _ rfl _ _ 114 rfl w.heap.size 9 i0 _ 1 16 Tryz.underlying114 hi hz0 hz1 hz2 rfl (by decide) _ _ _ rfl (hown.alloc _) ⟨wr.heap.size, 0, none⟩ 1 1 [.string (ba x)] rfl rfl cells1_lie oneS (by unfold maxLen; omega) (by omega) (by simp only [World.size_alloc]; omega) ?_)
        intro v' w6 hown' hgrow _
        obtain ⟨hown2, hB6⟩ := parts_step (x := x) (Below.join hB (Nat.le_refl _) (b1 wr (.cells #[.string (ba x)] 9))) (by simp only [World.size_alloc]; omega) (hown.alloc _) hown' hgrow
        go_wp2
        go_roundw
        case rel => exact ⟨i + 1, L ++ [x], [], by omega, by go_num, rfl, by simp, by simp; omega, hown2, fun _ => by rw [hc'.out, if_pos trivial, glue_nil (cutB_ne _)]; simp, fun h => by omega, hB6⟩
        case measure => simp [intOf] <;> omega
      · have h32' : ((c.toNat : Int) == 32) = false := by
          have : c.toNat ≠ 32 := fun e => h32 (by rw [← UInt8.toNat_inj]; exact e)
          simp; omega
        have hcl : c.toNat < 256 := c.toNat_lt
        have hc1 : ∀ j, j < 1 → (wr.alloc (.cells #[.int .u8 (c.toNat : Int)] 5)).cell? ⟨wr.heap.size, 0 + j, none⟩ = some (.int .u8 ([(c.toNat : Int)].getD j 0)) := fun j hj => by
          obtain rfl : j = 0 := by omega
          simp
        have hconv := run_convert_bytes_arg (P := Tryz.prog) (wr.alloc (.cells #[.int .u8 (c.toNat : Int)] 5)) 91 5 Tryz.underlying91 Tryz.underlying5 wr.heap.size 0 1 1 [(c.toNat : Int)] rfl hc1 9 Tryz.underlying9
        have hs : strOfNums [(c.toNat : Int)] = ba [c] := by
          unfold strOfNums ba
          simp
        rw [hs] at hconv
        have hadd := add_ba x [c] (by simp; omega)
        rw [if_neg h32] at hc'
        have h32'' : ¬ (c.toNat = 32) := fun e => h32 (by rw [← UInt8.toNat_inj]; exact e)
        clear hc1 hs
        generalize hs1 : ba [c] = s1 at hconv hadd
        generalize hs2 : ba x = s2 at hadd ⊢
        generalize hs3 : ba (x ++ [c]) = s3 at hadd
        have hs3' : Hid _ := hs3
        clear hs1 hs2 hs3
        go_wp2
        go_roundw
        case rel => exact ⟨i + 1, L, x ++ [c], by omega, by go_num, by rw [hs3'.out], by simp; omega, by omega, ownsRow_later hown (b1 _ _), fun _ => by rw [hc'.out], fun h => by omega, Below.join hB (Nat.le_refl _) (b1 _ _)⟩
        case measure => simp [intOf] <;> omega
    · subst heq
      have hc := hcut (Nat.le_refl _)
      rw [List.drop_length] at hc
      have hc' : Hid _ := hc
      clear hc hcut hend
      have hxx : x.length ≤ 4000 := by omega
      have hLL : L.length ≤ 4000 := by omega
      go_wp2_with (at_builtin; refine wpList_append_own _ rfl _ _ 114 rfl w.heap.size 9 i0 _ 1 16 Tryz.underlying114 hi hz0 hz1 hz2 rfl (by decide) _ _ _ rfl (hown.alloc _) ⟨wr.heap.size, 0, none⟩ 1 1 [.string (ba x)] rfl rfl cells1_lie oneS (by unfold maxLen; omega) (by omega) (by simp only [World.size_alloc]; omega) ?_)
      intro v' w6 hown' hgrow _
      obtain ⟨hown2, hB6⟩ := parts_step (x := x) (Below.join hB (Nat.le_refl _) (b1 wr (.cells #[.string (ba x)] 9))) (by simp only [World.size_alloc]; omega) (hown.alloc _) hown' hgrow
      go_wp2
      go_roundw
      case rel => exact ⟨l.length + 1, L ++ [x], [], by omega, by go_num, rfl, by simp, by simp; omega, hown2, fun h => by omega, fun _ => by rw [hc'.out]; simp [cutB, glue], hB6⟩
      case measure => simp [intOf] <;> omega
    · obtain rfl : i = l.length + 1 := by omega
      have he := hend rfl
      have hgt' : ¬ ((l.length : Int) + 1 ≤ (l.length : Int)) := by omega
      have he' : Hid _ := he
      clear he hcut hend
      go_wp2
      go_ret
      exact ⟨u3, rfl, by rw [he'.out]; exact hown, hB⟩
theorem l4words_any (l : Bs) (w : World) (hl : l.length ≤ 4000) : Calls Tryz.prog 73 #[.string (ba l)] w fun e w' => ∃ v, e = .returned v ∧ w'.ownsRow w.heap.size 9 1 v (cutB l).length (strCells (cutB l)) ∧ Below w.heap.size w w' :=
  l4words_S (ba l) l w hl (ba_size l) (fun _ _ _ => rfl)
end Go.Proofs.YthnlkpifafklkaaGreatDoor

namespace Go.Proofs.YthnlkpifafklkaaGreatDoor
open Go.RowKit

def IsStrs (W : World) (a : Option Addr) (L : List Bs) : Prop := ∀ j x, L[j]? = some x → ∃ b off, a = some ⟨b, off, none⟩ ∧ W.cell? ⟨b, off + j, none⟩ = some (.string (ba x))
theorem IsStrs.later {W W' : World} {a : Option Addr} {L : List Bs} (h : IsStrs W a L) (hB : Below W.heap.size W W') : IsStrs W' a L := fun j x hx => by
  obtain ⟨b, off, e, hc⟩ := h j x hx
  exact ⟨b, off, e, cellLater hB hc⟩
theorem ownStrs {W : World} {B0 : Nat} {v : Value} {L : List Bs} (h : W.ownsRow B0 9 1 v L.length (strCells L)) : ∃ a c, v = .slice a L.length c ∧ IsStrs W a L := by
  rcases h.2 with ⟨rfl, h0⟩ | ⟨g, cap, cur, rfl, hb, hg, _⟩
  · exact ⟨none, 0, by rw [h0], fun j x hx => by rw [List.getElem?_eq_none (by omega)] at hx; cases hx⟩
  · refine ⟨_, cap, rfl, fun j x hx => ⟨g, 0, rfl, ?_⟩⟩
    have hj : j < L.length := (List.getElem?_eq_some_iff.1 hx).1
    rw [Nat.zero_add, World.ownsRow.cellAt h j (by omega)]
    exact strCells_at L j x hx
def tokOf (x : Bs) : Tok := if x = [35] then .num else .word x
theorem numVal_snoc (l : Bs) (b : UInt8) : numVal (l ++ [b]) = 10 * numVal l + ((b.toNat : Int) - 48) := by unfold numVal; rw [List.foldl_append]; rfl
theorem numVal_small {l : Bs} (h : l.all dig = true) (hl : l.length ≤ 7) : 0 ≤ numVal l ∧ numVal l ≤ 9999999 := by
  have h1 := (parse_digits l 0 0 h (by decide) (by omega)).2
  rw [numVal_nat l h]
  have h2 : 10 ^ (0 + l.length) ≤ 10 ^ 7 := Nat.pow_le_pow_right (by decide) (by omega)
  have h3 : (10 : Nat) ^ 7 = 10000000 := by decide
  omega
theorem take_dig {x : Bs} {k : Nat} (hk : k < x.length) (h : (x.take k).all dig = true) (hd : dig x[k] = true) : (x.take (k + 1)).all dig = true := by
  rw [List.take_succ_eq_append_getElem hk, List.all_append, h]; simp [hd]
theorem dig_no {b : UInt8} (h : dig b = false) : b.toNat < 48 ∨ 57 < b.toNat := by
  unfold dig at h
  simp at h
  omega
theorem take_all_of {x : Bs} (h : x.all dig = true) (k : Nat) : (x.take k).all dig = true := by
  rw [List.all_eq_true] at h ⊢
  exact fun b hb => h b (List.mem_of_mem_take hb)

set_option maxRecDepth 20000 in
set_option maxHeartbeats 8000000 in
theorem l4nums_any (a a' : Option Addr) (c c' : Nat) (L M : List Bs) (w : World) (hL : L.length ≤ 4100) (hx : ∀ x ∈ L, x.length ≤ 4100) (hI : IsStrs w a L) (hJ : IsStrs w a' M) :
    Calls Tryz.prog 74 #[.slice a L.length c, .slice a' M.length c'] w fun e w' => ((likeB (M.map tokOf) L = none ∧ e = .returned (.tuple #[.slice none 0 0, .bool false])) ∨ ∃ ns v, likeB (M.map tokOf) L = some ns ∧ e = .returned (.tuple #[v, .bool true]) ∧ w'.ownsRow w.heap.size 3 1 v ns.length (intCells ns)) ∧ Below w.heap.size w w' := by
  obtain ⟨i0, hi, hz0, hz1, hz2⟩ := info3 Tryz.infoInt
  by_cases hlen : L.length = M.length
  · generalize hT0 : likeB (M.map tokOf) L = T
    have hne : ((L.length : Int) == (M.length : Int)) = true := by simp; omega
    go_enter Tryz.func74, Tryz.ntmps74
    go_wp2
    go_loopw [6, 18] (fun oo ii wr => ∃ (i : Nat) (ns : List Int), i ≤ L.length ∧ ii = .int .i64 i ∧ ns.length ≤ i ∧ wr.ownsRow w.heap.size 3 1 oo ns.length (intCells ns) ∧ T = (likeB ((M.drop i).map tokOf) (L.drop i)).map (fun y => ns ++ y) ∧ Below w.heap.size w wr) (fun _ ii _ => L.length - (intOf ii).toNat)
    case atStart => exact ⟨0, [], Nat.zero_le _, rfl, Nat.le_refl _, World.ownsRow_nil _ _ _ _, by rw [← hT0]; simp, Below.refl _ _⟩
    case round =>
      obtain ⟨i, ns, hile, rfl, hnl, hown, hT, hB⟩ := hrel
      have hszW := hB.size
      have hi0 : (0 : Int) ≤ (i : Int) := by omega
      by_cases hlt : i < L.length
      · have hi' : (i : Int) < (L.length : Int) := by omega
        have hiM : (i : Int) < (M.length : Int) := by omega
        have hltM : i < M.length := by omega
        have hdL : L.drop i = L[i] :: L.drop (i + 1) := List.drop_eq_getElem_cons hlt
        have hdM : M.drop i = M[i] :: M.drop (i + 1) := List.drop_eq_getElem_cons hltM
        obtain ⟨b, off, rfl, q0⟩ := hI i L[i] (List.getElem?_eq_getElem hlt)
        obtain ⟨b', off', rfl, q1⟩ := hJ i M[i] (List.getElem?_eq_getElem hltM)
        replace q0 := cellLater hB q0
        replace q1 := cellLater hB q1
        have hxl := hx L[i] (List.getElem_mem hlt)
        rw [hdL, hdM, List.map_cons, likeB] at hT
        have hlen' : Hid _ := hlen
        clear hdL hdM hT0 hne hlen
        generalize L[i] = x at hT q0 hxl
        generalize M[i] = m at hT q1
        by_cases hm : m = [35]
        · subst hm
          have hc35 : ((ba [35]).toList == [35]) = true := by rw [ba_toList]; rfl
          rw [show tokOf [35] = .num from rfl, tokOk_num] at hT
          obtain ⟨X, hXs, hXg, hqX⟩ : ∃ X : ByteArray, X.size = x.length ∧ (∀ k (h : k < X.size) (h' : k < x.length), X[k]'h = x[k]'h') ∧ wr.cell? ⟨b, off + i, none⟩ = some (.string X) := ⟨ba x, ba_size x, fun _ _ _ => rfl, q0⟩
          have hXs' : (X.size : Int) = (x.length : Int) := by rw [hXs]
          clear q0
          generalize ba [35] = Y at q1 hc35
          have hT' : Hid _ := hT
          clear hT
          go_wp2
          go_loopw [9, 10] (fun vv kk wq => ∃ (k : Nat) (v : Int), k ≤ x.length ∧ kk = .int .i64 k ∧ vv = .int .i64 v ∧ (x.take k).all dig = true ∧ (k ≤ 7 → v = numVal (x.take k)) ∧ wq = wr) (fun _ kk _ => x.length - (intOf kk).toNat)
          case atStart => exact ⟨0, 0, Nat.zero_le _, rfl, rfl, by simp, fun _ => by simp [numVal], rfl⟩
          case round =>
            obtain ⟨k, v, hk, rfl, rfl, hall, hv, rfl⟩ := hrel
            have hk0 : (0 : Int) ≤ (k : Int) := by omega
            by_cases hkl : k < x.length
            · have hkl' : (k : Int) < (x.length : Int) := by omega
              have hget : X[k]'(by omega) = x[k] := hXg k (by omega) hkl
              have hT := hT'.out
              cases hd : dig x[k] with
              | false =>
                have hno : numOk x = false := by
                  cases hn : numOk x with
                  | false => rfl
                  | true =>
                    have h2 := (numOk_parts hn).1
                    rw [List.all_eq_true] at h2
                    rw [h2 x[k] (List.getElem_mem hkl)] at hd
                    cases hd
                rw [hno] at hT
                have hr := dig_no hd
                have hTn : Hid _ := hT
                clear hd hno hT hXg
                generalize x[k] = cc at hget hr
                rcases hr with hr | hr
                · have hr' : (cc.toNat : Int) < 48 := by omega
                  go_wp2
                  go_ret2
                  exact ⟨Or.inl ⟨hTn.out, rfl⟩, hB⟩
                · have hr' : ¬ ((cc.toNat : Int) < 48) := by omega
                  have hr2 : (57 : Int) < (cc.toNat : Int) := by omega
                  go_wp2
                  go_ret2
                  exact ⟨Or.inl ⟨hTn.out, rfl⟩, hB⟩
              | true =>
                have hall2 := take_dig hkl hall hd
                have hr := dig_range hd
                have hns : numVal (x.take (k + 1)) = 10 * numVal (x.take k) + ((x[k].toNat : Int) - 48) := by rw [List.take_succ_eq_append_getElem hkl, numVal_snoc]
                have hr1 : ¬ ((x[k].toNat : Int) < 48) := by omega
                have hr2 : ¬ ((57 : Int) < (x[k].toNat : Int)) := by omega
                have hns' : Hid _ := hns
                clear hns hd hT hXg
                generalize x[k] = cc at hget hr hr1 hr2 hns'
                by_cases hk7 : k < 7
                · have hv7 := hv (by omega)
                  have hsm := numVal_small hall (by rw [List.length_take]; omega)
                  rw [← hv7] at hsm
                  have hv' : Hid _ := hv7
                  have hv0 := hsm.1
                  have hv1 := hsm.2
                  clear hv hv7 hsm
                  go_wp2
                  go_roundw
                  case rel => exact ⟨k + 1, _, by omega, by go_num, rfl, hall2, fun _ => (by rw [hns'.out, ← hv'.out]), trivial⟩
                  case measure => simp [intOf] <;> omega
                · clear hv
                  go_wp2
                  go_roundw
                  case rel => exact ⟨k + 1, _, by omega, by go_num, rfl, hall2, fun h => by omega, trivial⟩
                  case measure => simp [intOf] <;> omega
            · obtain rfl : k = x.length := by omega
              rw [List.take_length] at hall hv
              have hT := hT'.out
              by_cases hl0 : x.length = 0
              · have hno : numOk x = false := by unfold numOk; simp [hl0]
                rw [hno] at hT
                have hTn : Hid _ := hT
                have h1 : ((x.length : Int) == 0) = true := by simp; exact List.eq_nil_of_length_eq_zero hl0
                clear hT hno hXg hv hl0
                go_wp2
                go_ret2
                exact ⟨Or.inl ⟨hTn.out, rfl⟩, hB⟩
              · have h1 : ((x.length : Int) == 0) = false := by simp; exact fun e => hl0 (by rw [e]; rfl)
                by_cases hl7 : 7 < x.length
                · have hno : numOk x = false := by
                    cases hn : numOk x with
                    | false => rfl
                    | true => have := (numOk_parts hn).2.2.1; omega
                  rw [hno] at hT
                  have hTn : Hid _ := hT
                  have h7 : (7 : Int) < (x.length : Int) := by omega
                  clear hT hno hXg hv hl0
                  go_wp2
                  go_ret2
                  exact ⟨Or.inl ⟨hTn.out, rfl⟩, hB⟩
                · have h7 : ¬ ((7 : Int) < (x.length : Int)) := by omega
                  have hvn : v = numVal x := hv (by omega)
                  have hpos : 0 < x.length := by omega
                  have hpos' : (0 : Int) < (x.length : Int) := by omega
                  have hget : X[0]'(by omega) = x[0] := hXg 0 (by omega) hpos
                  have hhd : x.head? = some x[0] := by rw [List.head?_eq_getElem?, List.getElem?_eq_getElem hpos]
                  by_cases hz : x[0] = 48
                  · by_cases h11 : 1 < x.length
                    · have hno : numOk x = false := by
                        cases hn : numOk x with
                        | false => rfl
                        | true =>
                          rcases (numOk_parts hn).2.2.2 with h | h
                          · omega
                          · rw [hhd, hz] at h; exact absurd rfl h
                      rw [hno] at hT
                      have hTn : Hid _ := hT
                      have h11' : (1 : Int) < (x.length : Int) := by omega
                      rw [hz] at hget
                      clear hT hno hXg hv hl0 hhd hz hvn
                      go_wp2
                      go_ret2
                      exact ⟨Or.inl ⟨hTn.out, rfl⟩, hB⟩
                    · have hok : numOk x = true := numOk_of hall hpos (by omega) (Or.inl (by omega))
                      rw [hok, if_pos rfl, ← hvn] at hT
                      have hTn : Hid _ := hT
                      have h11' : ¬ ((1 : Int) < (x.length : Int)) := by omega
                      rw [hz] at hget
                      clear hT hok hXg hv hl0 hhd hz hvn
                      go_wp2_with (at_builtin; refine wpList_append_own _ rfl _ _ 22 rfl w.heap.size 3 i0 _ 1 8 Tryz.underlying22 hi hz0 hz1 hz2 rfl (by decide) _ _ _ rfl (hown.alloc _) ⟨wr.heap.size, 0, none⟩ 1 1 [.int .i64 v] rfl rfl cells1_lie one1 (by unfold maxLen; omega) (by omega) (by simp only [World.size_alloc]; omega) ?_)
                      intro v' w6 hown' hgrow _
                      have hB6 : Below w.heap.size w w6 := below_grown (Below.join hB (Nat.le_refl _) (b1 wr (.cells #[.int .i64 v] 3))) hgrow (by simp only [World.size_alloc]; omega) (fun j hj => (hown.lt j hj).1)
                      go_wp2
                      go_roundw
                      case rel => exact ⟨i + 1, ns ++ [v], by omega, by go_num, by rw [List.length_append]; simp; omega, by rw [intCells_snoc, List.length_append]; exact hown', (by rw [hTn.out]; cases likeB ((M.drop (i + 1)).map tokOf) (L.drop (i + 1)) <;> simp), hB6⟩
                      case measure => simp [intOf] <;> omega
                  · have hok : numOk x = true := numOk_of hall hpos (by omega) (Or.inr (by rw [hhd]; simpa using hz))
                    rw [hok, if_pos rfl, ← hvn] at hT
                    have hTn : Hid _ := hT
                    have hzn : ((x[0].toNat : Int) == 48) = false := by
                      have : x[0].toNat ≠ 48 := fun e => hz (by rw [← UInt8.toNat_inj]; exact e)
                      simp; omega
                    have hzn2 : ¬ (x[0].toNat = 48) := fun e => hz (by rw [← UInt8.toNat_inj]; exact e)
                    clear hT hok hXg hv hl0 hhd hz hvn
                    generalize x[0] = cc at hget hzn hzn2
                    go_wp2_with (at_builtin; refine wpList_append_own _ rfl _ _ 22 rfl w.heap.size 3 i0 _ 1 8 Tryz.underlying22 hi hz0 hz1 hz2 rfl (by decide) _ _ _ rfl (hown.alloc _) ⟨wr.heap.size, 0, none⟩ 1 1 [.int .i64 v] rfl rfl cells1_lie one1 (by unfold maxLen; omega) (by omega) (by simp only [World.size_alloc]; omega) ?_)
                    intro v' w6 hown' hgrow _
                    have hB6 : Below w.heap.size w w6 := below_grown (Below.join hB (Nat.le_refl _) (b1 wr (.cells #[.int .i64 v] 3))) hgrow (by simp only [World.size_alloc]; omega) (fun j hj => (hown.lt j hj).1)
                    go_wp2
                    go_roundw
                    case rel => exact ⟨i + 1, ns ++ [v], by omega, by go_num, by rw [List.length_append]; simp; omega, by rw [intCells_snoc, List.length_append]; exact hown', (by rw [hTn.out]; cases likeB ((M.drop (i + 1)).map tokOf) (L.drop (i + 1)) <;> simp), hB6⟩
                    case measure => simp [intOf] <;> omega
        · have hc35 : ((ba m).toList == [35]) = false := by
            rw [ba_toList]; simpa using hm
          rw [show tokOf m = .word m by unfold tokOf; rw [if_neg hm], tokOk_word] at hT
          by_cases hxm : x = m
          · subst hxm
            have hcx : ((ba x).toList == (ba x).toList) = true := by simp
            rw [if_pos rfl] at hT
            have hT' : Hid _ := hT
            clear hT
            generalize ba x = X at q0 q1 hc35 hcx
            go_wp2
            go_roundw
            case rel => exact ⟨i + 1, ns, by omega, by go_num, by omega, hown, (by rw [hT'.out]; cases likeB ((M.drop (i + 1)).map tokOf) (L.drop (i + 1)) <;> rfl), hB⟩
            case measure => simp [intOf] <;> omega
          · have hcx : ((ba x).toList == (ba m).toList) = false := by rw [ba_toList, ba_toList]; simpa using hxm
            rw [if_neg hxm] at hT
            generalize ba x = X at q0 hcx
            generalize ba m = Y at q1 hcx hc35
            go_wp2
            go_ret2
            exact ⟨Or.inl ⟨hT, rfl⟩, hB⟩
      · obtain rfl : i = L.length := by omega
        rw [List.drop_length, hlen, List.drop_length] at hT
        go_wp2
        go_ret2
        exact ⟨Or.inr ⟨ns, u6, by rw [hT]; simp [likeB], rfl, hown⟩, hB⟩
  · have hne : ((L.length : Int) == (M.length : Int)) = false := by simp; omega
    have hno : ∀ (ts : List Tok) (xs : List Bs), ts.length ≠ xs.length → likeB ts xs = none := fun ts => by
      induction ts with
      | nil => intro xs h; cases xs with
        | nil => exact absurd rfl h
        | cons x xs => rfl
      | cons t ts ih => intro xs h; cases xs with
        | nil => rfl
        | cons x xs => rw [likeB, ih xs (by simpa using h)]; cases tokOk t x <;> rfl
    have hn := hno (M.map tokOf) L (by rw [List.length_map]; exact fun e => hlen e.symm)
    clear hno
    go_enter Tryz.func74, Tryz.ntmps74
    go_wp2
    go_ret2
    exact ⟨Or.inl ⟨hn, rfl⟩, Below.refl _ _⟩
end Go.Proofs.YthnlkpifafklkaaGreatDoor
