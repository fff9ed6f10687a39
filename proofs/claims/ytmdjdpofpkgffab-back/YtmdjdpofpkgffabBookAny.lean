/- BookAny: the law's step of whatever kind; two books, and where they lie. -/
import Derived.Test.YtmdjdpofpkgffabBookLaw
namespace Go.Proofs.Ytmdjdpofpkgffab
open Go.ChangeShapes Go.WideShapes Go.ChangeAt Go.RowKit
open Split
set_option linter.unusedVariables false
set_option linter.unusedSimpArgs false

set_option maxHeartbeats 2000000 in
theorem book_else (P D : Nat) (S : Nat → Prop) (b : Bk) (kind a bb : Int) (s t : ByteArray) (v : Value) (w : World) (h : Pair w P D S b) (hk : kind < 2 ∨ 6 < kind) :
    Calls Try.prog 34 #[.pointer (some ⟨P, 0, none⟩), .pointer (some ⟨D, 0, none⟩), .agg #[.int .i64 kind, .int .i64 a, .int .i64 bb, .string s, .string t, v]] w fun e w' => e = .returned (.bool true) ∧ Pair w' P D (grow S w w') b ∧ Fr (fun k => k = P ∨ S k) w w' := by
  have H := hide (pair_zero h ((Below.refl w.heap.size w).alloc (Nat.le_refl _) (.cells #[.int .i64 kind, .int .i64 a, .int .i64 bb, .string s, .string t, v] 46)))
  have k2 : (kind == 2) = false := by simp; omega
  have k3 : (kind == 3) = false := by simp; omega
  have k4 : (kind == 4) = false := by simp; omega
  have k5 : (kind == 5) = false := by simp; omega
  have k6 : (kind == 6) = false := by simp; omega
  clear h hk
  go_enter Try.func34, Try.ntmps34
  go_wp2
  go_ret
  exact ⟨rfl, unhide H⟩

theorem book_any (P D : Nat) (S : Nat → Prop) (b : Bk) (kind a bb : Int) (s t : ByteArray) (v : Value) (w : World) (h : Pair w P D S b) (hs : s.size ≤ 1000000000000000) :
    Calls Try.prog 34 #[.pointer (some ⟨P, 0, none⟩), .pointer (some ⟨D, 0, none⟩), .agg #[.int .i64 kind, .int .i64 a, .int .i64 bb, .string s, .string t, v]] w fun e w' => e = .returned (.bool true) ∧ Pair w' P D (grow S w w') (stepB kind a s b) ∧ Fr (fun k => k = P ∨ S k) w w' := by
  by_cases k3 : kind = 3
  · subst k3
    exact book_install P D S b a bb s t v w h hs
  by_cases k4 : kind = 4
  · subst k4
    exact book_charge P D S b a bb s t v w h hs
  by_cases k5 : kind = 5
  · subst k5
    exact book_pay P D S b a bb s t v w h
  by_cases k6 : kind = 6
  · subst k6
    exact book_undo P D S b a bb s t v w h
  have e : stepB kind a s b = b := by simp [stepB, k3, k4, k5, k6]
  rw [e]
  by_cases k2 : kind = 2
  · subst k2
    exact book_owed P D S b a bb s t v w h
  · exact book_else P D S b kind a bb s t v w h (by omega)

/-- The blocks of a book and its twin. -/
def Foot (P : Nat) (S : Nat → Prop) : Nat → Prop := fun k => k = P ∨ S k

/-- The first m of two pairs of books lie in memory, apart from each other. -/
structure Two (m : Nat) (w : World) (X Y B : Nat) (P D : Nat → Nat) (S : Nat → Nat → Prop) (b : Nat → Bk) : Prop where
  xr : ∃ cur, w.heap[X]? = some (.cells cur 43 (0, 0)) ∧ cur.size = 2 ∧ ∀ i, i < m → cur[i]? = some (.pointer (some ⟨P i, 0, none⟩))
  yr : ∃ cur, w.heap[Y]? = some (.cells cur 56 (0, 0)) ∧ cur.size = 2 ∧ ∀ i, i < m → cur[i]? = some (.pointer (some ⟨D i, 0, none⟩))
  pair : ∀ i, i < m → Pair w (P i) (D i) (S i) (b i)
  sep : ∀ i j, i < m → j < m → i ≠ j → ∀ k, Foot (P i) (S i) k → ¬ Foot (P j) (S j) k
  off : ∀ i, i < m → ∀ k, Foot (P i) (S i) k → B ≤ k ∧ k ≠ X ∧ k ≠ Y
  xy : B ≤ X ∧ B ≤ Y

def upd {α : Type} (f : Nat → α) (k : Nat) (x : α) : Nat → α := fun i => if i = k then x else f i
theorem upd_same {α : Type} (f : Nat → α) (k : Nat) (x : α) : upd f k x k = x := by simp [upd]
theorem upd_other {α : Type} (f : Nat → α) (k : Nat) (x : α) {i : Nat} (h : i ≠ k) : upd f k x i = f i := by simp [upd, h]

section
variable {m : Nat} {w w' : World} {X Y B : Nat} {P D : Nat → Nat} {S : Nat → Nat → Prop} {b : Nat → Bk}

theorem Two.xcell (h : Two m w X Y B P D S b) (i : Nat) (hi : i < m) : w.cell? ⟨X, i, none⟩ = some (.pointer (some ⟨P i, 0, none⟩)) := by
  obtain ⟨cur, h1, h2, h3⟩ := h.xr
  rw [cell_of_row w X i _ _ _ h1]
  exact h3 i hi
theorem Two.ycell (h : Two m w X Y B P D S b) (i : Nat) (hi : i < m) : w.cell? ⟨Y, i, none⟩ = some (.pointer (some ⟨D i, 0, none⟩)) := by
  obtain ⟨cur, h1, h2, h3⟩ := h.yr
  rw [cell_of_row w Y i _ _ _ h1]
  exact h3 i hi
theorem Two.xy_ne (h : Two m w X Y B P D S b) : X ≠ Y := by
  obtain ⟨c1, h1, _⟩ := h.xr
  obtain ⟨c2, h2, _⟩ := h.yr
  intro e
  subst e
  rw [h1] at h2
  simp at h2
theorem Two.foot_lt (h : Two m w X Y B P D S b) {i : Nat} (hi : i < m) {k : Nat} (hk : Foot (P i) (S i) k) : k < w.heap.size := by
  rcases hk with rfl | hk
  · exact (h.pair i hi).lt
  · exact (h.pair i hi).rb.inb k hk
theorem Two.xlt (h : Two m w X Y B P D S b) : X < w.heap.size := by
  obtain ⟨c1, h1, _⟩ := h.xr
  exact cell_lt h1
theorem Two.ylt (h : Two m w X Y B P D S b) : Y < w.heap.size := by
  obtain ⟨c1, h1, _⟩ := h.yr
  exact cell_lt h1

/-- A step that writes to none of the two's blocks. -/
theorem Two.keep (h : Two m w X Y B P D S b) (hf : Fr (fun _ => False) w w') : Two m w' X Y B P D S b := by
  obtain ⟨c1, h1, h1'⟩ := h.xr
  obtain ⟨c2, h2, h2'⟩ := h.yr
  exact ⟨⟨c1, (hf.block X h.xlt id).trans h1, h1'⟩, ⟨c2, (hf.block Y h.ylt id).trans h2, h2'⟩, fun i hi => (h.pair i hi).keep hf id (fun _ _ => id), h.sep, h.off, h.xy⟩
theorem Two.below (h : Two m w X Y B P D S b) (hb : Below w.heap.size w w') : Two m w' X Y B P D S b := h.keep (Fr.of_below hb)

/-- A step on one of the pairs. -/
theorem Two.step (h : Two m w X Y B P D S b) {k : Nat} (hk : k < m) {b' : Bk} (hp : Pair w' (P k) (D k) (grow (S k) w w') b') (hf : Fr (Foot (P k) (S k)) w w') (hB : B ≤ w.heap.size) : Two m w' X Y B P D (upd S k (grow (S k) w w')) (upd b k b') := by
  obtain ⟨c1, h1, h1'⟩ := h.xr
  obtain ⟨c2, h2, h2'⟩ := h.yr
  have hx := fun hx => (h.off k hk X hx).2.1 rfl
  have hy := fun hy => (h.off k hk Y hy).2.2 rfl
  have hfoot : ∀ i, i < m → ∀ j, Foot (P i) (upd S k (grow (S k) w w') i) j → Foot (P i) (S i) j ∨ (i = k ∧ w.heap.size ≤ j ∧ j < w'.heap.size) := by
    intro i hi j hj
    by_cases e : i = k
    · subst e
      rw [upd_same] at hj
      rcases hj with rfl | hj | hj
      · exact .inl (.inl rfl)
      · exact .inl (.inr hj)
      · exact .inr ⟨rfl, hj⟩
    · rw [upd_other _ _ _ e] at hj
      exact .inl hj
  refine ⟨⟨c1, (hf.block X h.xlt hx).trans h1, h1'⟩, ⟨c2, (hf.block Y h.ylt hy).trans h2, h2'⟩, fun i hi => ?_, fun i j hi hj hij q hq hq' => ?_, fun i hi q hq => ?_, h.xy⟩
  · by_cases e : i = k
    · subst e
      rw [upd_same, upd_same]
      exact hp
    · rw [upd_other _ _ _ e, upd_other _ _ _ e]
      exact (h.pair i hi).keep hf (fun hx => h.sep k i hk hi (fun e' => e e'.symm) _ hx (.inl rfl)) (fun q hq hx => h.sep k i hk hi (fun e' => e e'.symm) _ hx (.inr hq))
  · rcases hfoot i hi q hq with h3 | h3 <;> rcases hfoot j hj q hq' with h4 | h4
    · exact h.sep i j hi hj hij q h3 h4
    · have := h.foot_lt hi h3; omega
    · have := h.foot_lt hj h4; omega
    · omega
  · rcases hfoot i hi q hq with h3 | h3
    · exact h.off i hi q h3
    · have := h.xlt
      have := h.ylt
      omega
end
end Go.Proofs.Ytmdjdpofpkgffab
