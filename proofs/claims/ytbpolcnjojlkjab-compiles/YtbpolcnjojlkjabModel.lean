/- Plain functions: the text's bytes, a step's head. Nothing of the program. -/
namespace Go.Proofs.Ytbpolcnjojlkjab.Split

/-- The byte at a place (256: none). -/
def byt (t : ByteArray) (i : Nat) : Int := if h : i < t.size then (t[i].toNat : Int) else 256
theorem byt_lt {t : ByteArray} {i : Nat} (h : i < t.size) : byt t i = (t[i].toNat : Int) := by simp [byt, h]
theorem byt_ge {t : ByteArray} {i : Nat} (h : ¬ i < t.size) : byt t i = 256 := by simp [byt, h]
theorem byt_bd (t : ByteArray) (i : Nat) : 0 ≤ byt t i ∧ byt t i ≤ 256 := by
  unfold byt
  split
  · have := (t[i]).toNat_lt; omega
  · omega
theorem lt_of_byt {t : ByteArray} {i : Nat} (h : byt t i ≠ 256) : i < t.size := by
  by_cases hx : i < t.size
  · exact hx
  · exact absurd (byt_ge hx) h
theorem byt_255 {t : ByteArray} {i : Nat} (h : i < t.size) : byt t i ≤ 255 := by
  rw [byt_lt h]; have := (t[i]).toNat_lt; omega

def dig (c : Int) : Bool := decide (48 ≤ c ∧ c ≤ 57)
def buc (c : Int) : Bool := decide (97 ≤ c ∧ c ≤ 104)
theorem dig_t {c : Int} : dig c = true ↔ (48 ≤ c ∧ c ≤ 57) := by simp [dig]
theorem dig_f {c : Int} : dig c = false ↔ (c < 48 ∨ 57 < c) := by simp [dig]; omega
theorem buc_t {c : Int} : buc c = true ↔ (97 ≤ c ∧ c ≤ 104) := by simp [buc]
theorem buc_f {c : Int} : buc c = false ↔ (c < 97 ∨ 104 < c) := by simp [buc]; omega

/-- How far digits stand: at most n of them. -/
def digM (t : ByteArray) (i : Nat) : Nat → Nat
  | 0 => i
  | n + 1 => if dig (byt t i) then digM t (i + 1) n else i
theorem digM_le (t : ByteArray) : ∀ n i, i ≤ digM t i n ∧ digM t i n ≤ i + n
  | 0, i => by simp [digM]
  | n + 1, i => by
    have := digM_le t n (i + 1)
    unfold digM
    split <;> omega
theorem digM_size (t : ByteArray) : ∀ n i, i ≤ t.size → digM t i n ≤ t.size
  | 0, i, h => by simpa [digM] using h
  | n + 1, i, h => by
    unfold digM
    split
    · rename_i hd
      exact digM_size t n (i + 1) (lt_of_byt (by rw [dig_t] at hd; omega))
    · exact h

def bucM (t : ByteArray) (i : Nat) : Nat := if buc (byt t i) then i + 1 else i
theorem bucM_t {t : ByteArray} {i : Nat} (h : buc (byt t i) = true) : bucM t i = i + 1 := by simp [bucM, h]
theorem bucM_f {t : ByteArray} {i : Nat} (h : buc (byt t i) = false) : bucM t i = i := by simp [bucM, h]
theorem bucM_le (t : ByteArray) (i : Nat) : i ≤ bucM t i ∧ bucM t i ≤ i + 1 := by unfold bucM; split <;> omega
theorem bucM_size (t : ByteArray) (i : Nat) (h : i ≤ t.size) : bucM t i ≤ t.size := by
  unfold bucM
  split
  · rename_i hd
    exact lt_of_byt (by rw [buc_t] at hd; omega)
  · exact h

/-- Does the bucket at place j rise above the one ahead of it? -/
def riseB (t : ByteArray) (j : Nat) : Bool := buc (byt t j) && decide (byt t (j - 1) < byt t j)
def riseM (t : ByteArray) : Nat → Nat → Nat
  | 0, j => j
  | f + 1, j => if riseB t j then riseM t f (j + 1) else j
theorem riseM_le (t : ByteArray) : ∀ f j, j ≤ riseM t f j
  | 0, j => Nat.le_refl _
  | f + 1, j => by
    have := riseM_le t f (j + 1)
    unfold riseM
    split <;> omega
theorem riseM_size (t : ByteArray) : ∀ f j, j ≤ t.size → riseM t f j ≤ t.size
  | 0, j, h => h
  | f + 1, j, h => by
    unfold riseM
    split
    · rename_i hd
      exact riseM_size t f (j + 1) (lt_of_byt (by simp [riseB, buc_t] at hd; omega))
    · exact h
def risM (t : ByteArray) (i : Nat) : Nat := if buc (byt t i) then riseM t t.size (i + 1) else i
theorem risM_le (t : ByteArray) (i : Nat) : i ≤ risM t i := by
  unfold risM
  split
  · have := riseM_le t t.size (i + 1); omega
  · omega
theorem risM_size (t : ByteArray) (i : Nat) (h : i ≤ t.size) : risM t i ≤ t.size := by
  unfold risM
  split
  · rename_i hd
    exact riseM_size t _ _ (lt_of_byt (by rw [buc_t] at hd; omega))
  · exact h

/-- A step's head: the place behind it, how many blocks it has, whether it stands. -/
def headM (t : ByteArray) (i : Nat) : Nat × Nat × Bool :=
  if byt t i = 80 then (bucM t (i + 1), 0, decide (bucM t (i + 1) = i + 2))
  else if byt t i = 67 ∨ byt t i = 73 then
    if bucM t (i + 1) = i + 2 then (digM t (i + 2) 4, if byt t i = 73 then 2 else 0, decide (digM t (i + 2) 4 = i + 6))
    else (bucM t (i + 1), 0, false)
  else if byt t i = 82 then
    if byt t (i + 1) = 104 then (i + 1, 0, false) else (risM t (i + 1), 0, decide (i + 3 ≤ risM t (i + 1)))
  else if byt t i = 72 then
    if digM t (i + 1) 2 = i + 3 ∧ byt t (i + 1) = 48 ∧ byt t (i + 2) = 48 then (i + 2, 1, false) else (digM t (i + 1) 2, 1, decide (digM t (i + 1) 2 = i + 3))
  else (i, 0, false)
end Go.Proofs.Ytbpolcnjojlkjab.Split
