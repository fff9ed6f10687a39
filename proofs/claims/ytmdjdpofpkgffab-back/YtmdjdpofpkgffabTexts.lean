/- Texts: Model, ScanM -/

/- Plain functions: the text's bytes, a step's head. Nothing of the program. -/
namespace Go.Proofs.Ytmdjdpofpkgffab.Split

/-- The byte at a place (256: none). -/
def byt (t : ByteArray) (i : Nat) : Int := if h : i < t.size then (t[i].toNat : Int) else 256
theorem byt_lt {t : ByteArray} {i : Nat} (h : i < t.size) : byt t i = (t[i].toNat : Int) := by simp [byt, h]
theorem byt_ge {t : ByteArray} {i : Nat} (h : ¬ i < t.size) : byt t i = 256 := by simp [byt, h]
theorem byt_bd (t : ByteArray) (i : Nat) : 0 ≤ byt t i ∧ byt t i ≤ 256 := by
  unfold byt
  split
  · have := (t[i]).toNat_lt; omega
  · omega
theorem lt_of_byt {t : ByteArray} {i : Nat} (h : byt t i ≠ 256) : i < t.size := by
  by_cases hx : i < t.size
  · exact hx
  · exact absurd (byt_ge hx) h
theorem byt_255 {t : ByteArray} {i : Nat} (h : i < t.size) : byt t i ≤ 255 := by
  rw [byt_lt h]; have := (t[i]).toNat_lt; omega

def dig (c : Int) : Bool := decide (48 ≤ c ∧ c ≤ 57)
def buc (c : Int) : Bool := decide (97 ≤ c ∧ c ≤ 104)
theorem dig_t {c : Int} : dig c = true ↔ (48 ≤ c ∧ c ≤ 57) := by simp [dig]
theorem dig_f {c : Int} : dig c = false ↔ (c < 48 ∨ 57 < c) := by simp [dig]; omega
theorem buc_t {c : Int} : buc c = true ↔ (97 ≤ c ∧ c ≤ 104) := by simp [buc]
theorem buc_f {c : Int} : buc c = false ↔ (c < 97 ∨ 104 < c) := by simp [buc]; omega

/-- How far digits stand: at most n of them. -/
def digM (t : ByteArray) (i : Nat) : Nat → Nat
  | 0 => i
  | n + 1 => if dig (byt t i) then digM t (i + 1) n else i
theorem digM_le (t : ByteArray) : ∀ n i, i ≤ digM t i n ∧ digM t i n ≤ i + n
  | 0, i => by simp [digM]
  | n + 1, i => by
    have := digM_le t n (i + 1)
    unfold digM
    split <;> omega
theorem digM_size (t : ByteArray) : ∀ n i, i ≤ t.size → digM t i n ≤ t.size
  | 0, i, h => by simpa [digM] using h
  | n + 1, i, h => by
    unfold digM
    split
    · rename_i hd
      exact digM_size t n (i + 1) (lt_of_byt (by rw [dig_t] at hd; omega))
    · exact h

def bucM (t : ByteArray) (i : Nat) : Nat := if buc (byt t i) then i + 1 else i
theorem bucM_t {t : ByteArray} {i : Nat} (h : buc (byt t i) = true) : bucM t i = i + 1 := by simp [bucM, h]
theorem bucM_f {t : ByteArray} {i : Nat} (h : buc (byt t i) = false) : bucM t i = i := by simp [bucM, h]
theorem bucM_le (t : ByteArray) (i : Nat) : i ≤ bucM t i ∧ bucM t i ≤ i + 1 := by unfold bucM; split <;> omega
theorem bucM_size (t : ByteArray) (i : Nat) (h : i ≤ t.size) : bucM t i ≤ t.size := by
  unfold bucM
  split
  · rename_i hd
    exact lt_of_byt (by rw [buc_t] at hd; omega)
  · exact h

/-- Does the bucket at place j rise above the one ahead of it? -/
def riseB (t : ByteArray) (j : Nat) : Bool := buc (byt t j) && decide (byt t (j - 1) < byt t j)
def riseM (t : ByteArray) : Nat → Nat → Nat
  | 0, j => j
  | f + 1, j => if riseB t j then riseM t f (j + 1) else j
theorem riseM_le (t : ByteArray) : ∀ f j, j ≤ riseM t f j
  | 0, j => Nat.le_refl _
  | f + 1, j => by
    have := riseM_le t f (j + 1)
    unfold riseM
    split <;> omega
theorem riseM_size (t : ByteArray) : ∀ f j, j ≤ t.size → riseM t f j ≤ t.size
  | 0, j, h => h
  | f + 1, j, h => by
    unfold riseM
    split
    · rename_i hd
      exact riseM_size t f (j + 1) (lt_of_byt (by simp [riseB, buc_t] at hd; omega))
    · exact h
def risM (t : ByteArray) (i : Nat) : Nat := if buc (byt t i) then riseM t t.size (i + 1) else i
theorem risM_le (t : ByteArray) (i : Nat) : i ≤ risM t i := by
  unfold risM
  split
  · have := riseM_le t t.size (i + 1); omega
  · omega
theorem risM_size (t : ByteArray) (i : Nat) (h : i ≤ t.size) : risM t i ≤ t.size := by
  unfold risM
  split
  · rename_i hd
    exact riseM_size t _ _ (lt_of_byt (by rw [buc_t] at hd; omega))
  · exact h

/-- A step's head: the place behind it, how many blocks it has, whether it stands. -/
def headM (t : ByteArray) (i : Nat) : Nat × Nat × Bool :=
  if byt t i = 80 then (bucM t (i + 1), 0, decide (bucM t (i + 1) = i + 2))
  else if byt t i = 67 ∨ byt t i = 73 then
    if bucM t (i + 1) = i + 2 then (digM t (i + 2) 4, if byt t i = 73 then 2 else 0, decide (digM t (i + 2) 4 = i + 6))
    else (bucM t (i + 1), 0, false)
  else if byt t i = 82 then
    if byt t (i + 1) = 104 then (i + 1, 0, false) else (risM t (i + 1), 0, decide (i + 3 ≤ risM t (i + 1)))
  else if byt t i = 72 then
    if digM t (i + 1) 2 = i + 3 ∧ byt t (i + 1) = 48 ∧ byt t (i + 2) = 48 then (i + 2, 1, false) else (digM t (i + 1) 2, 1, decide (digM t (i + 1) 2 = i + 3))
  else (i, 0, false)
end Go.Proofs.Ytmdjdpofpkgffab.Split

/- The document's reading of a policy, as a plain function; the steps that it comes to. -/
namespace Go.Proofs.Ytmdjdpofpkgffab.Split
set_option linter.unusedVariables false
set_option linter.unusedSimpArgs false

/-- A step, flat: blocks end by steps of their own (69: of H, 74: of I's first). -/
structure St where
  kind : Int
  bucket : Int
  amount : Int
  among : List Bool
  leave : Int

def none8 : List Bool := List.replicate 8 false

def numM (t : ByteArray) (i : Nat) : Nat → Int
  | 0 => 0
  | n + 1 => 10 * numM t i n + (byt t (i + n) - 48)

def amongM (t : ByteArray) (i j : Nat) : List Bool := (List.range 8).map fun (k : Nat) => (List.range (j - i)).any fun (q : Nat) => byt t (i + q) == 97 + (k : Int)

/-- The step whose head stands at place i. -/
def stM (t : ByteArray) (i : Nat) : St :=
  if byt t i = 80 then ⟨80, byt t (i + 1) - 97, 0, none8, 0⟩
  else if byt t i = 67 ∨ byt t i = 73 then ⟨byt t i, byt t (i + 1) - 97, numM t (i + 2) 4, none8, 0⟩
  else if byt t i = 82 then ⟨82, 0, 0, amongM t (i + 1) (risM t (i + 1)), 0⟩
  else ⟨72, 0, numM t (i + 1) 2, none8, 0⟩

def stE : St := ⟨69, 0, 0, none8, 0⟩
def stJ (n : Int) : St := ⟨74, 0, 0, none8, n⟩
def St.leaving (s : St) (n : Int) : St := { s with leave := n }

/-- What a reading comes to: the place, the first block too many, whether it stands, the steps. -/
structure Rd where
  j : Nat
  deep : Int
  ok : Bool
  code : List St

theorem head_rng {t : ByteArray} {i : Nat} (hi : i < t.size) : i ≤ (headM t i).1 ∧ (headM t i).1 ≤ t.size := by
  have h1 := bucM_le t (i + 1)
  have h2 := bucM_size t (i + 1) (by omega)
  have h5 := digM_le t 2 (i + 1)
  have h6 := digM_size t 2 (i + 1) (by omega)
  have h7 := risM_le t (i + 1)
  have h8 := risM_size t (i + 1) (by omega)
  unfold headM
  split
  · dsimp only; omega
  split
  · split
    · rename_i hb
      have h3 := digM_le t 4 (i + 2)
      have h4 := digM_size t 4 (i + 2) (by omega)
      dsimp only; omega
    · dsimp only; omega
  split
  · split
    · dsimp only; omega
    · dsimp only; omega
  split
  · split
    · dsimp only; omega
    · dsimp only; omega
  · dsimp only; omega

theorem head_lt {t : ByteArray} {i : Nat} (hi : i < t.size) (ho : (headM t i).2.2 = true) : i + 2 ≤ (headM t i).1 := by
  revert ho
  unfold headM
  split
  · dsimp only; simp; omega
  split
  · split
    · dsimp only; simp; omega
    · simp
  split
  · split
    · simp
    · dsimp only; simp; omega
  split
  · split
    · simp
    · dsimp only; simp; omega
  · simp

/-- The block at place j. -/
def blkM (t : ByteArray) (rec : Nat → Nat → Int → Rd) (j dep : Nat) (deep : Int) : Rd :=
  if byt t j = 40 then
    let r := rec (j + 1) (dep + 1) (-1)
    let deep1 : Int := if deep < 0 ∧ 5 ≤ dep then j else deep
    let deep2 : Int := if deep1 < 0 then r.deep else deep1
    if r.ok = true ∧ r.j < t.size then ⟨r.j + 1, deep2, true, r.code⟩ else ⟨r.j, deep2, false, []⟩
  else ⟨j, deep, false, []⟩

/-- One step, and the rest by rec. -/
def bodyM (t : ByteArray) (rec : Nat → Nat → Int → Rd) (i dep : Nat) (deep : Int) : Rd :=
  if i < t.size ∧ byt t i ≠ 41 then
    if (headM t i).2.2 = true then
      if (headM t i).2.1 = 0 then
        let r := rec (headM t i).1 dep deep
        ⟨r.j, r.deep, r.ok, stM t i :: r.code⟩
      else
        let b := blkM t rec (headM t i).1 dep deep
        if b.ok = true then
          if (headM t i).2.1 = 1 then
            let r := rec b.j dep b.deep
            ⟨r.j, r.deep, r.ok, stM t i :: (b.code ++ stE :: r.code)⟩
          else
            let c := blkM t rec b.j dep b.deep
            if c.ok = true then
              let r := rec c.j dep c.deep
              ⟨r.j, r.deep, r.ok, (stM t i).leaving (b.code.length + 1) :: (b.code ++ stJ c.code.length :: (c.code ++ r.code))⟩
            else ⟨c.j, c.deep, false, []⟩
        else ⟨b.j, b.deep, false, []⟩
    else ⟨(headM t i).1, deep, false, []⟩
  else ⟨i, deep, true, []⟩

def scanM (t : ByteArray) : Nat → Nat → Nat → Int → Rd
  | 0 => fun i _ deep => ⟨i, deep, false, []⟩
  | f + 1 => bodyM t (scanM t f)

def Rng (t : ByteArray) (rec : Nat → Nat → Int → Rd) : Prop := ∀ i dep deep, i ≤ t.size → i ≤ (rec i dep deep).j ∧ (rec i dep deep).j ≤ t.size
def Agree (t : ByteArray) (i : Nat) (rec rec' : Nat → Nat → Int → Rd) : Prop := ∀ i' dep deep, i < i' → i' ≤ t.size → rec i' dep deep = rec' i' dep deep

theorem blk_rng {t : ByteArray} {rec : Nat → Nat → Int → Rd} (hR : Rng t rec) {j dep : Nat} {deep : Int} (hj : j ≤ t.size) :
    j ≤ (blkM t rec j dep deep).j ∧ (blkM t rec j dep deep).j ≤ t.size ∧ ((blkM t rec j dep deep).ok = true → j + 2 ≤ (blkM t rec j dep deep).j) := by
  unfold blkM
  split
  · rename_i hb
    have hlt : j < t.size := lt_of_byt (by rw [hb]; decide)
    have := hR (j + 1) (dep + 1) (-1) hlt
    dsimp only
    split
    · dsimp only; omega
    · dsimp only; simp; omega
  · dsimp only; simp; omega

theorem blk_congr {t : ByteArray} {rec rec' : Nat → Nat → Int → Rd} {i j dep : Nat} {deep : Int} (hA : Agree t i rec rec') (hij : i ≤ j) (hj : j ≤ t.size) :
    blkM t rec j dep deep = blkM t rec' j dep deep := by
  unfold blkM
  split
  · rename_i hb
    have hlt : j < t.size := lt_of_byt (by rw [hb]; decide)
    rw [hA (j + 1) (dep + 1) (-1) (by omega) hlt]
  · rfl

theorem body_rng {t : ByteArray} {rec : Nat → Nat → Int → Rd} (hR : Rng t rec) : Rng t (bodyM t rec) := by
  intro i dep deep hi
  unfold bodyM
  split
  · rename_i hc
    have h1 := head_rng hc.1
    split
    · split
      · have := hR (headM t i).1 dep deep h1.2
        dsimp only; omega
      · have hb := blk_rng hR (dep := dep) (deep := deep) h1.2
        dsimp only
        generalize blkM t rec (headM t i).1 dep deep = b at *
        split
        · split
          · have := hR b.j dep b.deep hb.2.1
            dsimp only; omega
          · have hb2 := blk_rng hR (dep := dep) (deep := b.deep) hb.2.1
            generalize blkM t rec b.j dep b.deep = c at *
            split
            · have := hR c.j dep c.deep hb2.2.1
              dsimp only; omega
            · dsimp only; omega
        · dsimp only; omega
    · dsimp only; omega
  · dsimp only; omega

theorem body_congr {t : ByteArray} {rec rec' : Nat → Nat → Int → Rd} {i dep : Nat} {deep : Int} (hR : Rng t rec) (hA : Agree t i rec rec') : bodyM t rec i dep deep = bodyM t rec' i dep deep := by
  unfold bodyM
  split
  · rename_i hc
    have h1 := head_rng hc.1
    split
    · rename_i ho
      have h2 := head_lt hc.1 ho
      split
      · rw [hA (headM t i).1 dep deep (by omega) h1.2]
      · have hb := blk_rng hR (dep := dep) (deep := deep) h1.2
        rw [← blk_congr (dep := dep) (deep := deep) hA h1.1 h1.2]
        dsimp only
        generalize blkM t rec (headM t i).1 dep deep = b at *
        split
        · split
          · rw [hA b.j dep b.deep (by omega) hb.2.1]
          · have hb2 := blk_rng hR (dep := dep) (deep := b.deep) hb.2.1
            rw [← blk_congr (dep := dep) (deep := b.deep) hA (by omega) hb.2.1]
            generalize blkM t rec b.j dep b.deep = c at *
            split
            · rw [hA c.j dep c.deep (by omega) hb2.2.1]
            · rfl
        · rfl
    · rfl
  · rfl

theorem scan_rng (t : ByteArray) : ∀ f, Rng t (scanM t f)
  | 0 => fun i dep deep hi => ⟨Nat.le_refl _, hi⟩
  | f + 1 => body_rng (scan_rng t f)

theorem scan_fuel (t : ByteArray) : ∀ f i dep deep, i ≤ t.size → t.size - i < f → scanM t (f + 1) i dep deep = scanM t f i dep deep
  | 0, i, dep, deep, hi, h => by omega
  | f + 1, i, dep, deep, hi, h => by
    show bodyM t (scanM t (f + 1)) i dep deep = bodyM t (scanM t f) i dep deep
    refine body_congr (scan_rng t (f + 1)) fun i' dep' deep' h1 h2 => ?_
    exact scan_fuel t f i' dep' deep' h2 (by omega)

/-- The reading, with fuel enough. -/
def scanF (t : ByteArray) (i dep : Nat) (deep : Int) : Rd := scanM t (t.size + 1) i dep deep

theorem scan_eq (t : ByteArray) (i dep : Nat) (deep : Int) (hi : i ≤ t.size) : scanF t i dep deep = bodyM t (scanF t) i dep deep := by
  have := scan_fuel t (t.size + 1) i dep deep hi (by omega)
  unfold scanF
  rw [← this]
  rfl
theorem scanF_rng (t : ByteArray) : Rng t (scanF t) := scan_rng t _
end Go.Proofs.Ytmdjdpofpkgffab.Split
