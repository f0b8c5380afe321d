/-
  Who meets whom, as plain data. Rows that a call makes for itself: one more in the row, a whole row more; what others see of it.
-/
import Derived.Test.YtelickcfodcmaaaGreatDoorGroups
import Derived.Test.YtelickcfodcmaaaGreatDoorLateQ
import Derived.Laws.AppendOwnNone
import Derived.Lib.SmallJoins
namespace Go.Proofs.YtelickcfodcmaaaGreatDoor
open Go.RowKit

structure StandD where
  st : Int
  frm : Int
  to : Int
def fromOf (t : TrainD) (r : RowD) : Nat → Int
  | 0 => t.ready
  | k + 1 => r.s k + (t.leg k).run
def toOf (t : TrainD) (r : RowD) (k : Nat) : Int := if k < t.nl then r.s k else fromOf t r k
def standOf (t : TrainD) (r : RowD) (k : Nat) : StandD := ⟨cur t k, fromOf t r k, toOf t r k⟩
structure MeetD where
  a : Int
  b : Int
  at_ : Int
  frm : Int
  to : Int
def maxI (x y : Int) : Int := if x < y then y else x
def minI (x y : Int) : Int := if y < x then y else x
def meetOf (i j : Nat) (x y : StandD) : List MeetD := if x.st = y.st ∧ maxI x.frm y.frm ≤ minI x.to y.to then [⟨i, j, x.st, maxI x.frm y.frm, minI x.to y.to⟩] else []
def rowM (f : Nat → TrainD) (P : Nat → RowD) (i j k : Nat) : Nat → List MeetD
  | 0 => []
  | m + 1 => rowM f P i j k m ++ meetOf i j (standOf (f i) (P i) k) (standOf (f j) (P j) m)
def pairM (f : Nat → TrainD) (P : Nat → RowD) (i j : Nat) : Nat → List MeetD
  | 0 => []
  | k + 1 => pairM f P i j k ++ rowM f P i j k ((f j).nl + 1)
/-- all that train i meets among the d trains above it -/
def manyM (f : Nat → TrainD) (P : Nat → RowD) (i : Nat) : Nat → List MeetD
  | 0 => []
  | d + 1 => manyM f P i d ++ pairM f P i (i + 1 + d) ((f i).nl + 1)
def allM (f : Nat → TrainD) (P : Nat → RowD) (n : Nat) : Nat → List MeetD
  | 0 => []
  | i + 1 => allM f P n i ++ manyM f P i (n - (i + 1))
def meetsOf (nt : Nat) (g : Nat → Int) (gap : Int) (ntr : Nat) (f : Nat → TrainD) (np : Nat) (P : Nat → RowD) : List MeetD :=
  if clashOf nt g gap ntr f np P = (0, 0, 0, 0) then allM f P ntr ntr else []

theorem meetOf_len (i j : Nat) (x y : StandD) : (meetOf i j x y).length ≤ 1 := by unfold meetOf; split <;> simp
theorem rowM_len (f : Nat → TrainD) (P : Nat → RowD) (i j k : Nat) : ∀ m, (rowM f P i j k m).length ≤ m
  | 0 => Nat.le_refl _
  | m + 1 => by
    have h0 := rowM_len f P i j k m
    have h1 := meetOf_len i j (standOf (f i) (P i) k) (standOf (f j) (P j) m)
    simp only [rowM, List.length_append]; omega
theorem pairM_len {f : Nat → TrainD} (P : Nat → RowD) {i j : Nat} (h : (f j).nl ≤ 10) : ∀ k, (pairM f P i j k).length ≤ k * 11
  | 0 => by simp [pairM]
  | k + 1 => by
    have h0 := pairM_len P (i := i) h k
    have h1 := rowM_len f P i j k ((f j).nl + 1)
    simp only [pairM, List.length_append]; omega
theorem manyM_len {f : Nat → TrainD} (P : Nat → RowD) {n : Nat} (h : ∀ j, j < n → (f j).nl ≤ 10) {i : Nat} (hi : i < n) : ∀ d, i + 1 + d ≤ n → (manyM f P i d).length ≤ d * 121
  | 0, _ => by simp [manyM]
  | d + 1, hd => by
    have h0 := manyM_len P h hi d (by omega)
    have h1 := pairM_len P (i := i) (h (i + 1 + d) (by omega)) ((f i).nl + 1)
    have := h i hi
    simp only [manyM, List.length_append]; omega
theorem allM_len {f : Nat → TrainD} (P : Nat → RowD) {n : Nat} (hn : n ≤ 5) (h : ∀ j, j < n → (f j).nl ≤ 10) : ∀ i, i ≤ n → (allM f P n i).length ≤ i * 605
  | 0, _ => by simp [allM]
  | i + 1, hi => by
    have h0 := allM_len P hn h i (by omega)
    have h1 := manyM_len P h (i := i) (by omega) (n - (i + 1)) (by omega)
    simp only [allM, List.length_append]; omega
theorem meetsOf_len (nt : Nat) (g : Nat → Int) (gap : Int) (ntr : Nat) (f : Nat → TrainD) (np : Nat) (P : Nat → RowD) : (meetsOf nt g gap ntr f np P).length ≤ 3025 := by
  unfold meetsOf
  split
  · rename_i hz
    obtain ⟨hF, hS⟩ := clashOf_ok hz
    have hR := rightL_of (faultOf_snd hF)
    have := allM_len P hR.tr (fun j hj => (hR.train j hj).nl) ntr (Nat.le_refl _)
    have := hR.tr
    omega
  · simp

def standCells : List StandD → List Value
  | [] => []
  | h :: L => .int .i64 h.st :: .int .i64 h.frm :: .int .i64 h.to :: standCells L
theorem standCells_len : ∀ L : List StandD, (standCells L).length = L.length * 3
  | [] => rfl
  | h :: L => by simp only [standCells, List.length_cons, standCells_len L]; omega
theorem standCells_app : ∀ (L M : List StandD), standCells (L ++ M) = standCells L ++ standCells M
  | [], _ => rfl
  | x :: L, M => by simp only [List.cons_append, standCells, standCells_app L M]
theorem standCells_at : ∀ (L : List StandD) (r : Nat) (h : StandD), L[r]? = some h → (standCells L)[r * 3]? = some (.int .i64 h.st) ∧ (standCells L)[r * 3 + 1]? = some (.int .i64 h.frm) ∧ (standCells L)[r * 3 + 2]? = some (.int .i64 h.to)
  | [], r, h, e => by simp at e
  | x :: L, 0, h, e => by
    simp at e; subst e
    exact ⟨rfl, rfl, rfl⟩
  | x :: L, r + 1, h, e => by
    have e' : L[r]? = some h := by simpa using e
    obtain ⟨h0, h1, h2⟩ := standCells_at L r h e'
    refine ⟨?_, ?_, ?_⟩
    · rw [show (r + 1) * 3 = r * 3 + 3 by omega]; exact h0
    · rw [show (r + 1) * 3 + 1 = r * 3 + 1 + 3 by omega]; exact h1
    · rw [show (r + 1) * 3 + 2 = r * 3 + 2 + 3 by omega]; exact h2
def standsUpto (t : TrainD) (r : RowD) : Nat → List StandD
  | 0 => []
  | k + 1 => standsUpto t r k ++ [standOf t r k]
theorem standsUpto_len (t : TrainD) (r : RowD) : ∀ k, (standsUpto t r k).length = k
  | 0 => rfl
  | k + 1 => by simp [standsUpto, standsUpto_len t r k]
theorem standsUpto_at (t : TrainD) (r : RowD) : ∀ k j, j < k → (standsUpto t r k)[j]? = some (standOf t r j)
  | 0, j, h => by omega
  | k + 1, j, h => by
    simp only [standsUpto]
    by_cases e : j = k
    · subst e
      rw [List.getElem?_append_right (by rw [standsUpto_len]; omega), standsUpto_len]; simp
    · rw [List.getElem?_append_left (by rw [standsUpto_len]; omega)]
      exact standsUpto_at t r k j (by omega)

def meetCells : List MeetD → List Value
  | [] => []
  | h :: L => .int .i64 h.a :: .int .i64 h.b :: .int .i64 h.at_ :: .int .i64 h.frm :: .int .i64 h.to :: meetCells L
theorem meetCells_len : ∀ L : List MeetD, (meetCells L).length = L.length * 5
  | [] => rfl
  | h :: L => by simp only [meetCells, List.length_cons, meetCells_len L]; omega
theorem meetCells_app : ∀ (L M : List MeetD), meetCells (L ++ M) = meetCells L ++ meetCells M
  | [], _ => rfl
  | x :: L, M => by simp only [List.cons_append, meetCells, meetCells_app L M]
theorem meetCells_at : ∀ (L : List MeetD) (r : Nat) (h : MeetD), L[r]? = some h → (meetCells L)[r * 5]? = some (.int .i64 h.a) ∧ (meetCells L)[r * 5 + 1]? = some (.int .i64 h.b) ∧ (meetCells L)[r * 5 + 2]? = some (.int .i64 h.at_) ∧ (meetCells L)[r * 5 + 3]? = some (.int .i64 h.frm) ∧ (meetCells L)[r * 5 + 4]? = some (.int .i64 h.to)
  | [], r, h, e => by simp at e
  | x :: L, 0, h, e => by
    simp at e; subst e
    exact ⟨rfl, rfl, rfl, rfl, rfl⟩
  | x :: L, r + 1, h, e => by
    have e' : L[r]? = some h := by simpa using e
    obtain ⟨h0, h1, h2, h3, h4⟩ := meetCells_at L r h e'
    refine ⟨?_, ?_, ?_, ?_, ?_⟩
    · rw [show (r + 1) * 5 = r * 5 + 5 by omega]; exact h0
    · rw [show (r + 1) * 5 + 1 = r * 5 + 1 + 5 by omega]; exact h1
    · rw [show (r + 1) * 5 + 2 = r * 5 + 2 + 5 by omega]; exact h2
    · rw [show (r + 1) * 5 + 3 = r * 5 + 3 + 5 by omega]; exact h3
    · rw [show (r + 1) * 5 + 4 = r * 5 + 4 + 5 by omega]; exact h4
theorem meetCells_one : ∀ (L : List MeetD) u, u ∈ meetCells L → u.oneCell' = true
  | [], u, h => by simp [meetCells] at h
  | x :: L, u, h => by
    simp only [meetCells, List.mem_cons] at h
    rcases h with rfl | rfl | rfl | rfl | rfl | h
    · rfl
    · rfl
    · rfl
    · rfl
    · rfl
    · exact meetCells_one L u h

theorem ownsRow_later {W W' : World} {b0 : Nat} {e : TypeId} {size : Nat} {v : Value} {n : Nat} {xs : List Value} (h : W.ownsRow b0 e size v n xs) (hB : Below W.heap.size W W') : W'.ownsRow b0 e size v n xs :=
  ownsRow_same h (fun k hk => hB.block k (h.lt k hk).2)
theorem below_grown {n : Nat} {A W W' : World} {row : Option Nat} (h : Below n A W) (hg : W.grownBy W' row) (hn : n ≤ W.heap.size) (hr : ∀ k, row = some k → n ≤ k) : Below n A W' := h.grown hg hn hr

/-- a row that a call made, appended to another one that it made -/
theorem wpList_append_rows {P : Program} (w : World) {ops : Array Oper} {rest : List Oper} {o : Oper} {a : Act} {Q : Exit → Act → World → Prop} (hgd : o.guard = none) (s x : Operand) (t : TypeId)
    (ho : o.op = .call { callee := .builtin .append, args := #[s, x], argTypes := #[t, t] })
    (base base' : Nat) (e : TypeId) (i : TypeInfo) (z : Value) (size bytes : Nat) (ht : P.underlying t = some (.slice e)) (hi : P.info? e = some i) (hz : i.zero = some z)
    (hsize : i.size = size) (hby : i.bytes = bytes) (hzs : z.cells.size = size) (hsz : 0 < size)
    (v : Value) (n : Nat) (xs : List Value) (hs : a.eval s = v) (hown : w.ownsRow base e size v n xs)
    (v2 : Value) (m : Nat) (news : List Value) (hx : a.eval x = v2) (hown2 : w.ownsRow base' e size v2 m news) (h1 : ∀ u ∈ news, u.oneCell' = true)
    (hbound : n + m ≤ maxLen) (hbytes : (n + m) * bytes ≤ 140737488355328) (hbase : base ≤ w.heap.size)
    (h : ∀ v' w', w'.ownsRow base e size v' (n + m) (xs ++ news) → w.grownBy w' v.ownBlock → wpList P ops Q rest (a.put o.dst v') w') : wpList P ops Q (o :: rest) a w := by
  rcases hown2.2 with ⟨rfl, rfl⟩ | ⟨g, cap, cur, rfl, hb, hgg, _⟩
  · refine wpList_append_own_none hgd s x t ho base e i size ht hi v n xs hs hown hx ?_
    refine h v w ?_ ⟨rfl, rfl, rfl, Nat.le_refl _, fun _ _ _ => rfl⟩
    have : news = [] := List.eq_nil_of_length_eq_zero (by rw [hown2.1]; omega)
    rw [this, List.append_nil]
    exact hown
  · exact wpList_append_own w hgd s x t ho base e i z size bytes ht hi hz hsize hby hzs hsz v n xs hs hown ⟨g, 0, none⟩ m cap news hx hown2.1 (hown2.cells (g := g) rfl) h1 hbound hbytes hbase (fun v' w' a b _ => h v' w' a b)

theorem cells3_lie {W : World} {x y z : Value} {t : TypeId} : ∀ (j : Nat) (u : Value), [x, y, z][j]? = some u → (W.alloc (.cells #[x, y, z] t)).cell? ((⟨W.heap.size, 0, none⟩ : Addr).add j) = some u := by
  intro j u hj
  match j, hj with
  | 0, hj => simp at hj; subst hj; simp [Addr.add]
  | 1, hj => simp at hj; subst hj; simp [Addr.add]
  | 2, hj => simp at hj; subst hj; simp [Addr.add]
theorem cells5_lie {W : World} {x y z p q : Value} {t : TypeId} : ∀ (j : Nat) (u : Value), [x, y, z, p, q][j]? = some u → (W.alloc (.cells #[x, y, z, p, q] t)).cell? ((⟨W.heap.size, 0, none⟩ : Addr).add j) = some u := by
  intro j u hj
  match j, hj with
  | 0, hj => simp at hj; subst hj; simp [Addr.add]
  | 1, hj => simp at hj; subst hj; simp [Addr.add]
  | 2, hj => simp at hj; subst hj; simp [Addr.add]
  | 3, hj => simp at hj; subst hj; simp [Addr.add]
  | 4, hj => simp at hj; subst hj; simp [Addr.add]
theorem cells1_lie {W : World} {x : Value} {t : TypeId} : ∀ (j : Nat) (u : Value), [x][j]? = some u → (W.alloc (.cells #[x] t)).cell? ((⟨W.heap.size, 0, none⟩ : Addr).add j) = some u := by
  intro j u hj
  match j, hj with
  | 0, hj => simp at hj; subst hj; simp [Addr.add]
theorem one3 {x y z : Int} : ∀ u ∈ [Value.int .i64 x, .int .i64 y, .int .i64 z], u.oneCell' = true := by
  intro u hu; simp only [List.mem_cons, List.not_mem_nil, or_false] at hu; rcases hu with rfl | rfl | rfl <;> rfl
theorem one5 {x y z p q : Int} : ∀ u ∈ [Value.int .i64 x, .int .i64 y, .int .i64 z, .int .i64 p, .int .i64 q], u.oneCell' = true := by
  intro u hu; simp only [List.mem_cons, List.not_mem_nil, or_false] at hu; rcases hu with rfl | rfl | rfl | rfl | rfl <;> rfl
theorem one1 {x : Int} : ∀ u ∈ [Value.int .i64 x], u.oneCell' = true := by
  intro u hu; simp only [List.mem_cons, List.not_mem_nil, or_false] at hu; rcases hu with rfl; rfl
end Go.Proofs.YtelickcfodcmaaaGreatDoor
