/- ScanM, Reader -/
import Derived.Test.YtbpolcnjojlkjabPack1
import Derived.RegionTactic
import Derived.ChangeAlike
import Derived.WalkSmall

/- The document's reading of a policy, as a plain function; the steps that it comes to. -/
namespace Go.Proofs.Ytbpolcnjojlkjab.Split
set_option linter.unusedVariables false
set_option linter.unusedSimpArgs false

/-- A step, flat: blocks end by steps of their own (69: of H, 74: of I's first). -/
structure St where
  kind : Int
  bucket : Int
  amount : Int
  among : List Bool
  leave : Int

def none8 : List Bool := List.replicate 8 false

def numM (t : ByteArray) (i : Nat) : Nat → Int
  | 0 => 0
  | n + 1 => 10 * numM t i n + (byt t (i + n) - 48)

def amongM (t : ByteArray) (i j : Nat) : List Bool := (List.range 8).map fun (k : Nat) => (List.range (j - i)).any fun (q : Nat) => byt t (i + q) == 97 + (k : Int)

/-- The step whose head stands at place i. -/
def stM (t : ByteArray) (i : Nat) : St :=
  if byt t i = 80 then ⟨80, byt t (i + 1) - 97, 0, none8, 0⟩
  else if byt t i = 67 ∨ byt t i = 73 then ⟨byt t i, byt t (i + 1) - 97, numM t (i + 2) 4, none8, 0⟩
  else if byt t i = 82 then ⟨82, 0, 0, amongM t (i + 1) (risM t (i + 1)), 0⟩
  else ⟨72, 0, numM t (i + 1) 2, none8, 0⟩

def stE : St := ⟨69, 0, 0, none8, 0⟩
def stJ (n : Int) : St := ⟨74, 0, 0, none8, n⟩
def St.leaving (s : St) (n : Int) : St := { s with leave := n }

/-- What a reading comes to: the place, the first block too many, whether it stands, the steps. -/
structure Rd where
  j : Nat
  deep : Int
  ok : Bool
  code : List St

theorem head_rng {t : ByteArray} {i : Nat} (hi : i < t.size) : i ≤ (headM t i).1 ∧ (headM t i).1 ≤ t.size := by
  have h1 := bucM_le t (i + 1)
  have h2 := bucM_size t (i + 1) (by omega)
  have h5 := digM_le t 2 (i + 1)
  have h6 := digM_size t 2 (i + 1) (by omega)
  have h7 := risM_le t (i + 1)
  have h8 := risM_size t (i + 1) (by omega)
  unfold headM
  split
  · dsimp only; omega
  split
  · split
    · rename_i hb
      have h3 := digM_le t 4 (i + 2)
      have h4 := digM_size t 4 (i + 2) (by omega)
      dsimp only; omega
    · dsimp only; omega
  split
  · split
    · dsimp only; omega
    · dsimp only; omega
  split
  · split
    · dsimp only; omega
    · dsimp only; omega
  · dsimp only; omega

theorem head_lt {t : ByteArray} {i : Nat} (hi : i < t.size) (ho : (headM t i).2.2 = true) : i + 2 ≤ (headM t i).1 := by
  revert ho
  unfold headM
  split
  · dsimp only; simp; omega
  split
  · split
    · dsimp only; simp; omega
    · simp
  split
  · split
    · simp
    · dsimp only; simp; omega
  split
  · split
    · simp
    · dsimp only; simp; omega
  · simp

/-- The block at place j. -/
def blkM (t : ByteArray) (rec : Nat → Nat → Int → Rd) (j dep : Nat) (deep : Int) : Rd :=
  if byt t j = 40 then
    let r := rec (j + 1) (dep + 1) (-1)
    let deep1 : Int := if deep < 0 ∧ 5 ≤ dep then j else deep
    let deep2 : Int := if deep1 < 0 then r.deep else deep1
    if r.ok = true ∧ r.j < t.size then ⟨r.j + 1, deep2, true, r.code⟩ else ⟨r.j, deep2, false, []⟩
  else ⟨j, deep, false, []⟩

/-- One step, and the rest by rec. -/
def bodyM (t : ByteArray) (rec : Nat → Nat → Int → Rd) (i dep : Nat) (deep : Int) : Rd :=
  if i < t.size ∧ byt t i ≠ 41 then
    if (headM t i).2.2 = true then
      if (headM t i).2.1 = 0 then
        let r := rec (headM t i).1 dep deep
        ⟨r.j, r.deep, r.ok, stM t i :: r.code⟩
      else
        let b := blkM t rec (headM t i).1 dep deep
        if b.ok = true then
          if (headM t i).2.1 = 1 then
            let r := rec b.j dep b.deep
            ⟨r.j, r.deep, r.ok, stM t i :: (b.code ++ stE :: r.code)⟩
          else
            let c := blkM t rec b.j dep b.deep
            if c.ok = true then
              let r := rec c.j dep c.deep
              ⟨r.j, r.deep, r.ok, (stM t i).leaving (b.code.length + 1) :: (b.code ++ stJ c.code.length :: (c.code ++ r.code))⟩
            else ⟨c.j, c.deep, false, []⟩
        else ⟨b.j, b.deep, false, []⟩
    else ⟨(headM t i).1, deep, false, []⟩
  else ⟨i, deep, true, []⟩

def scanM (t : ByteArray) : Nat → Nat → Nat → Int → Rd
  | 0 => fun i _ deep => ⟨i, deep, false, []⟩
  | f + 1 => bodyM t (scanM t f)

def Rng (t : ByteArray) (rec : Nat → Nat → Int → Rd) : Prop := ∀ i dep deep, i ≤ t.size → i ≤ (rec i dep deep).j ∧ (rec i dep deep).j ≤ t.size
def Agree (t : ByteArray) (i : Nat) (rec rec' : Nat → Nat → Int → Rd) : Prop := ∀ i' dep deep, i < i' → i' ≤ t.size → rec i' dep deep = rec' i' dep deep

theorem blk_rng {t : ByteArray} {rec : Nat → Nat → Int → Rd} (hR : Rng t rec) {j dep : Nat} {deep : Int} (hj : j ≤ t.size) :
    j ≤ (blkM t rec j dep deep).j ∧ (blkM t rec j dep deep).j ≤ t.size ∧ ((blkM t rec j dep deep).ok = true → j + 2 ≤ (blkM t rec j dep deep).j) := by
  unfold blkM
  split
  · rename_i hb
    have hlt : j < t.size := lt_of_byt (by rw [hb]; decide)
    have := hR (j + 1) (dep + 1) (-1) hlt
    dsimp only
    split
    · dsimp only; omega
    · dsimp only; simp; omega
  · dsimp only; simp; omega

theorem blk_congr {t : ByteArray} {rec rec' : Nat → Nat → Int → Rd} {i j dep : Nat} {deep : Int} (hA : Agree t i rec rec') (hij : i ≤ j) (hj : j ≤ t.size) :
    blkM t rec j dep deep = blkM t rec' j dep deep := by
  unfold blkM
  split
  · rename_i hb
    have hlt : j < t.size := lt_of_byt (by rw [hb]; decide)
    rw [hA (j + 1) (dep + 1) (-1) (by omega) hlt]
  · rfl

theorem body_rng {t : ByteArray} {rec : Nat → Nat → Int → Rd} (hR : Rng t rec) : Rng t (bodyM t rec) := by
  intro i dep deep hi
  unfold bodyM
  split
  · rename_i hc
    have h1 := head_rng hc.1
    split
    · split
      · have := hR (headM t i).1 dep deep h1.2
        dsimp only; omega
      · have hb := blk_rng hR (dep := dep) (deep := deep) h1.2
        dsimp only
        generalize blkM t rec (headM t i).1 dep deep = b at *
        split
        · split
          · have := hR b.j dep b.deep hb.2.1
            dsimp only; omega
          · have hb2 := blk_rng hR (dep := dep) (deep := b.deep) hb.2.1
            generalize blkM t rec b.j dep b.deep = c at *
            split
            · have := hR c.j dep c.deep hb2.2.1
              dsimp only; omega
            · dsimp only; omega
        · dsimp only; omega
    · dsimp only; omega
  · dsimp only; omega

theorem body_congr {t : ByteArray} {rec rec' : Nat → Nat → Int → Rd} {i dep : Nat} {deep : Int} (hR : Rng t rec) (hA : Agree t i rec rec') : bodyM t rec i dep deep = bodyM t rec' i dep deep := by
  unfold bodyM
  split
  · rename_i hc
    have h1 := head_rng hc.1
    split
    · rename_i ho
      have h2 := head_lt hc.1 ho
      split
      · rw [hA (headM t i).1 dep deep (by omega) h1.2]
      · have hb := blk_rng hR (dep := dep) (deep := deep) h1.2
        rw [← blk_congr (dep := dep) (deep := deep) hA h1.1 h1.2]
        dsimp only
        generalize blkM t rec (headM t i).1 dep deep = b at *
        split
        · split
          · rw [hA b.j dep b.deep (by omega) hb.2.1]
          · have hb2 := blk_rng hR (dep := dep) (deep := b.deep) hb.2.1
            rw [← blk_congr (dep := dep) (deep := b.deep) hA (by omega) hb.2.1]
            generalize blkM t rec b.j dep b.deep = c at *
            split
            · rw [hA c.j dep c.deep (by omega) hb2.2.1]
            · rfl
        · rfl
    · rfl
  · rfl

theorem scan_rng (t : ByteArray) : ∀ f, Rng t (scanM t f)
  | 0 => fun i dep deep hi => ⟨Nat.le_refl _, hi⟩
  | f + 1 => body_rng (scan_rng t f)

theorem scan_fuel (t : ByteArray) : ∀ f i dep deep, i ≤ t.size → t.size - i < f → scanM t (f + 1) i dep deep = scanM t f i dep deep
  | 0, i, dep, deep, hi, h => by omega
  | f + 1, i, dep, deep, hi, h => by
    show bodyM t (scanM t (f + 1)) i dep deep = bodyM t (scanM t f) i dep deep
    refine body_congr (scan_rng t (f + 1)) fun i' dep' deep' h1 h2 => ?_
    exact scan_fuel t f i' dep' deep' h2 (by omega)

/-- The reading, with fuel enough. -/
def scanF (t : ByteArray) (i dep : Nat) (deep : Int) : Rd := scanM t (t.size + 1) i dep deep

theorem scan_eq (t : ByteArray) (i dep : Nat) (deep : Int) (hi : i ≤ t.size) : scanF t i dep deep = bodyM t (scanF t) i dep deep := by
  have := scan_fuel t (t.size + 1) i dep deep hi (by omega)
  unfold scanF
  rw [← this]
  rfl
theorem scanF_rng (t : ByteArray) : Rng t (scanF t) := scan_rng t _
end Go.Proofs.Ytbpolcnjojlkjab.Split

/- split's reader in memory; fits, take, readBucket, readNumber, readHundredths. -/
namespace Go.Proofs.Ytbpolcnjojlkjab
open Go.ChangeShapes Go.WideShapes Go.ChangeAt Go.RowKit
open Split (byt dig buc digM bucM riseB riseM risM headM byt_lt byt_ge dig_t dig_f buc_t buc_f numM)
set_option linter.unusedVariables false
set_option linter.unusedSimpArgs false

/-- The reader that lies in block R. -/
def RB (w : World) (R : Nat) (t : ByteArray) (at' : Nat) (bad : Bool) (vs vo : Value) (deep : Int) : Prop :=
  w.heap[R]? = some (.cells #[.string t, .int .i64 at', .bool bad, vs, vo, .int .i64 deep] 59 (0, 0))

theorem grown_trans {a b c : World} {r : Option Nat} (h : a.grownBy b r) (k : b.grownBy c r) : a.grownBy c r :=
  ⟨k.os.trans h.os, k.tape.trans h.tape, k.output.trans h.output, Nat.le_trans h.size k.size, fun i hi hr => (k.block i (Nat.lt_of_lt_of_le hi h.size) hr).trans (h.block i hi hr)⟩
theorem grown_refl (a : World) (r : Option Nat) : a.grownBy a r := ⟨rfl, rfl, rfl, Nat.le_refl _, fun _ _ _ => rfl⟩
theorem grown_drewN {a b : World} {r : Option Nat} (h : a.grownBy b r) (n : Nat) : a.grownBy (b.drewN n) r := ⟨h.os, h.tape, h.output, h.size, h.block⟩
theorem grown_set {a b : World} {R : Nat} (h : a.grownBy b (some R)) (o : Nat) (v : Value) : a.grownBy (b.setCell ⟨R, o, none⟩ v) (some R) :=
  ⟨h.os, h.tape, h.output, by simpa [World.setCell] using h.size, fun i hi hr => (Below.heap_setCell _ _ _ _ (by intro e; apply hr; rw [e])).trans (h.block i hi hr)⟩

section
variable {w : World} {R : Nat} {t : ByteArray} {at' : Nat} {bad : Bool} {vs vo : Value} {deep : Int}
theorem RB.c0 (h : RB w R t at' bad vs vo deep) : w.cell? ⟨R, 0, none⟩ = some (.string t) := by rw [cell_of_row w R 0 _ _ _ h]; rfl
theorem RB.c1 (h : RB w R t at' bad vs vo deep) : w.cell? ⟨R, 1, none⟩ = some (.int .i64 at') := by rw [cell_of_row w R 1 _ _ _ h]; rfl
theorem RB.c2 (h : RB w R t at' bad vs vo deep) : w.cell? ⟨R, 2, none⟩ = some (.bool bad) := by rw [cell_of_row w R 2 _ _ _ h]; rfl
theorem RB.c3 (h : RB w R t at' bad vs vo deep) : w.cell? ⟨R, 3, none⟩ = some vs := by rw [cell_of_row w R 3 _ _ _ h]; rfl
theorem RB.c4 (h : RB w R t at' bad vs vo deep) : w.cell? ⟨R, 4, none⟩ = some vo := by rw [cell_of_row w R 4 _ _ _ h]; rfl
theorem RB.c5 (h : RB w R t at' bad vs vo deep) : w.cell? ⟨R, 5, none⟩ = some (.int .i64 deep) := by rw [cell_of_row w R 5 _ _ _ h]; rfl
theorem RB.fr (h : RB w R t at' bad vs vo deep) (j : Nat) : w.frozen? ⟨R, j, none⟩ = false := frozen_of_row w R j _ _ h
theorem RB.s1 (h : RB w R t at' bad vs vo deep) (x : Nat) : RB (w.setCell ⟨R, 1, none⟩ (.int .i64 x)) R t x bad vs vo deep := by
  unfold RB; rw [heap_setCell_same w R 1 _ _ _ h]; rfl
theorem RB.s2 (h : RB w R t at' bad vs vo deep) (x : Bool) : RB (w.setCell ⟨R, 2, none⟩ (.bool x)) R t at' x vs vo deep := by
  unfold RB; rw [heap_setCell_same w R 2 _ _ _ h]; rfl
theorem RB.s3 (h : RB w R t at' bad vs vo deep) (x : Value) : RB (w.setCell ⟨R, 3, none⟩ x) R t at' bad x vo deep := by
  unfold RB; rw [heap_setCell_same w R 3 _ _ _ h]; rfl
theorem RB.s4 (h : RB w R t at' bad vs vo deep) (x : Value) : RB (w.setCell ⟨R, 4, none⟩ x) R t at' bad vs x deep := by
  unfold RB; rw [heap_setCell_same w R 4 _ _ _ h]; rfl
theorem RB.s5 (h : RB w R t at' bad vs vo deep) (x : Int) : RB (w.setCell ⟨R, 5, none⟩ (.int .i64 x)) R t at' bad vs vo x := by
  unfold RB; rw [heap_setCell_same w R 5 _ _ _ h]; rfl
theorem RB.dr (h : RB w R t at' bad vs vo deep) (n : Nat) : RB (w.drewN n) R t at' bad vs vo deep := h
end

def fitsM (t : ByteArray) (a : Nat) (bad : Bool) (lo hi : Int) : Bool := !bad && (decide (lo ≤ byt t a) && decide (byt t a ≤ hi))

set_option maxHeartbeats 2000000 in
theorem fits_any (R : Nat) (t : ByteArray) (a : Nat) (bad : Bool) (vs vo : Value) (deep lo hi : Int) (w : World) (h : RB w R t a bad vs vo deep) (hs : t.size ≤ 120) (ha : a ≤ 1000) (hhi : hi ≤ 255) :
    Calls Try.prog 75 #[.pointer (some ⟨R, 0, none⟩), .int .u8 lo, .int .u8 hi] w fun e w' => e = .returned (.bool (fitsM t a bad lo hi)) ∧ ∃ n, w' = w.drewN n := by
  have c0 := h.c0
  have c1 := h.c1
  have c2 := h.c2
  clear h
  cases bad
  · by_cases hsz : a < t.size
    · have HB := hide (byt_lt hsz)
      by_cases h1 : lo ≤ byt t a
      · by_cases h2 : byt t a ≤ hi
        · have e1 : fitsM t a false lo hi = true := by simp [fitsM, h1, h2]
          rw [e1]
          rw [unhide HB] at h1 h2
          clear e1
          go_enter Try.func75, Try.ntmps75
          go_wp2_with fail
          go_quiet (fail)
          go_wp2_with fail
          go_ret
          exact ⟨rfl, _, rfl⟩
        · have e1 : fitsM t a false lo hi = false := by simp [fitsM, h2]
          rw [e1]
          rw [unhide HB] at h1 h2
          clear e1
          go_enter Try.func75, Try.ntmps75
          go_wp2_with fail
          go_quiet (fail)
          go_wp2_with fail
          go_ret
          exact ⟨by simp [h2], _, rfl⟩
      · have e1 : fitsM t a false lo hi = false := by simp [fitsM, h1]
        rw [e1]
        rw [unhide HB] at h1
        have h1' : decide (lo ≤ (t[a].toNat : Int)) = false := decide_eq_false h1
        clear e1
        go_enter Try.func75, Try.ntmps75
        go_wp2_with fail
        go_quiet (fail)
        go_wp2_with fail
        go_ret
        exact ⟨rfl, _, rfl⟩
    · have e1 : fitsM t a false lo hi = false := by
        simp only [fitsM, byt_ge hsz]
        simp
        omega
      rw [e1]
      have hz : decide ((a : Int) < (t.size : Int)) = false := decide_eq_false (by omega)
      clear e1
      go_enter Try.func75, Try.ntmps75
      go_wp2_with fail
      go_quiet (fail)
      go_wp2_with fail
      go_ret
      exact ⟨rfl, _, rfl⟩
  · have e1 : fitsM t a true lo hi = false := by simp [fitsM]
    rw [e1]
    clear e1
    go_enter Try.func75, Try.ntmps75
    go_wp2_with fail
    go_quiet (fail)
    go_wp2_with fail
    go_ret
    exact ⟨rfl, _, rfl⟩

def takeV (t : ByteArray) (a : Nat) (bad : Bool) (lo hi : Int) : Int := if fitsM t a bad lo hi then byt t a else lo
def takeA (t : ByteArray) (a : Nat) (bad : Bool) (lo hi : Int) : Nat := if fitsM t a bad lo hi then a + 1 else a
def takeB (t : ByteArray) (a : Nat) (bad : Bool) (lo hi : Int) : Bool := !fitsM t a bad lo hi

theorem takeV_bd (t : ByteArray) (a : Nat) (bad : Bool) (lo hi : Int) (h : lo ≤ hi) : lo ≤ takeV t a bad lo hi ∧ takeV t a bad lo hi ≤ hi := by
  unfold takeV
  split
  · rename_i hf
    simp [fitsM] at hf
    omega
  · omega
theorem takeA_bd (t : ByteArray) (a : Nat) (bad : Bool) (lo hi : Int) : a ≤ takeA t a bad lo hi ∧ takeA t a bad lo hi ≤ a + 1 := by
  unfold takeA
  split <;> omega

set_option maxHeartbeats 2000000 in
theorem take_any (R : Nat) (t : ByteArray) (a : Nat) (bad : Bool) (vs vo : Value) (deep lo hi : Int) (w : World) (h : RB w R t a bad vs vo deep) (hs : t.size ≤ 120) (ha : a ≤ 900) (hhi : hi ≤ 255) :
    Calls Try.prog 74 #[.pointer (some ⟨R, 0, none⟩), .int .u8 lo, .int .u8 hi] w fun e w' => e = .returned (.int .u8 (takeV t a bad lo hi)) ∧ RB w' R t (takeA t a bad lo hi) (takeB t a bad lo hi) vs vo deep ∧ w.grownBy w' (some R) := by
  have H := hide h
  cases hf : fitsM t a bad lo hi
  · have e1 : takeV t a bad lo hi = lo := by simp [takeV, hf]
    have e2 : takeA t a bad lo hi = a := by simp [takeA, hf]
    have e3 : takeB t a bad lo hi = true := by simp [takeB, hf]
    rw [e1, e2, e3]
    clear e1 e2 e3
    have HF := hide hf
    clear hf
    have c2 := h.c2
    have f2 := h.fr 2
    clear h
    go_enter Try.func74, Try.ntmps74
    go_wp2_with fail
    refine (fits_any R t a bad vs vo deep lo hi _ (unhide H) hs (by omega) hhi).mono ?_
    rintro e w1 ⟨rfl, n, rfl⟩
    rw [unhide HF]
    go_wp2_with fail
    go_ret
    exact ⟨rfl, (unhide H).s2 true, grown_drewN (grown_set (grown_refl _ _) 2 _) n⟩
  · have e1 : takeV t a bad lo hi = byt t a := by simp [takeV, hf]
    have e2 : takeA t a bad lo hi = a + 1 := by simp [takeA, hf]
    have e3 : takeB t a bad lo hi = false := by simp [takeB, hf]
    rw [e1, e2, e3]
    clear e1 e2 e3
    have HF := hide hf
    have hbad : bad = false := by simp [fitsM] at hf; exact hf.1
    subst hbad
    have hsz : a < t.size := Split.lt_of_byt (by simp [fitsM] at hf; omega)
    clear hf
    have c0 := h.c0
    have c1 := h.c1
    have f1 := h.fr 1
    clear h
    rw [byt_lt hsz]
    go_enter Try.func74, Try.ntmps74
    go_wp2_with fail
    refine (fits_any R t a false vs vo deep lo hi _ (unhide H) hs (by omega) hhi).mono ?_
    rintro e w1 ⟨rfl, n, rfl⟩
    rw [unhide HF]
    go_wp2_with fail
    go_quiet (fail)
    go_wp2_with fail
    go_ret
    exact ⟨rfl, (unhide H).s1 (a + 1), grown_drewN (grown_set (grown_refl _ _) 1 _) _⟩

set_option maxHeartbeats 1000000 in
theorem readBucket_any (R : Nat) (t : ByteArray) (a : Nat) (bad : Bool) (vs vo : Value) (deep : Int) (w : World) (h : RB w R t a bad vs vo deep) (hs : t.size ≤ 120) (ha : a ≤ 900) :
    Calls Try.prog 62 #[.pointer (some ⟨R, 0, none⟩)] w fun e w' => e = .returned (.int .i64 (takeV t a bad 97 104 - 97)) ∧ RB w' R t (takeA t a bad 97 104) (takeB t a bad 97 104) vs vo deep ∧ w.grownBy w' (some R) := by
  have hb := takeV_bd t a bad 97 104 (by omega)
  go_enter Try.func62, Try.ntmps62
  go_wp2_with fail
  refine (take_any R t a bad vs vo deep 97 104 _ h hs ha (by omega)).mono ?_
  rintro e w1 ⟨rfl, h1, h2⟩
  have H1 := hide h1
  have H2 := hide h2
  clear h1 h2
  generalize hv : takeV t a bad 97 104 = v at *
  have HV := hide hv
  clear hv
  go_wp2_with fail
  go_ret
  exact ⟨by rw [unhide HV]; rfl, unhide H1, unhide H2⟩
end Go.Proofs.Ytbpolcnjojlkjab
