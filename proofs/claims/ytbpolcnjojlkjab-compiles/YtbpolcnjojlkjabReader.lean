/- split's reader in memory; fits, take, readBucket, readNumber, readHundredths. -/
import Derived.Test.YtbpolcnjojlkjabRefHead
import Derived.RegionTactic
import Derived.ChangeAlike
import Derived.WalkSmall
import Derived.Test.YtbpolcnjojlkjabScanM
namespace Go.Proofs.Ytbpolcnjojlkjab
open Go.ChangeShapes Go.WideShapes Go.ChangeAt Go.RowKit
open Split (byt dig buc digM bucM riseB riseM risM headM byt_lt byt_ge dig_t dig_f buc_t buc_f numM)
set_option linter.unusedVariables false
set_option linter.unusedSimpArgs false

/-- The reader that lies in block R. -/
def RB (w : World) (R : Nat) (t : ByteArray) (at' : Nat) (bad : Bool) (vs vo : Value) (deep : Int) : Prop :=
  w.heap[R]? = some (.cells #[.string t, .int .i64 at', .bool bad, vs, vo, .int .i64 deep] 59 (0, 0))

theorem grown_trans {a b c : World} {r : Option Nat} (h : a.grownBy b r) (k : b.grownBy c r) : a.grownBy c r :=
  ⟨k.os.trans h.os, k.tape.trans h.tape, k.output.trans h.output, Nat.le_trans h.size k.size, fun i hi hr => (k.block i (Nat.lt_of_lt_of_le hi h.size) hr).trans (h.block i hi hr)⟩
theorem grown_refl (a : World) (r : Option Nat) : a.grownBy a r := ⟨rfl, rfl, rfl, Nat.le_refl _, fun _ _ _ => rfl⟩
theorem grown_drewN {a b : World} {r : Option Nat} (h : a.grownBy b r) (n : Nat) : a.grownBy (b.drewN n) r := ⟨h.os, h.tape, h.output, h.size, h.block⟩
theorem grown_set {a b : World} {R : Nat} (h : a.grownBy b (some R)) (o : Nat) (v : Value) : a.grownBy (b.setCell ⟨R, o, none⟩ v) (some R) :=
  ⟨h.os, h.tape, h.output, by simpa [World.setCell] using h.size, fun i hi hr => (Below.heap_setCell _ _ _ _ (by intro e; apply hr; rw [e])).trans (h.block i hi hr)⟩

section
variable {w : World} {R : Nat} {t : ByteArray} {at' : Nat} {bad : Bool} {vs vo : Value} {deep : Int}
theorem RB.c0 (h : RB w R t at' bad vs vo deep) : w.cell? ⟨R, 0, none⟩ = some (.string t) := by rw [cell_of_row w R 0 _ _ _ h]; rfl
theorem RB.c1 (h : RB w R t at' bad vs vo deep) : w.cell? ⟨R, 1, none⟩ = some (.int .i64 at') := by rw [cell_of_row w R 1 _ _ _ h]; rfl
theorem RB.c2 (h : RB w R t at' bad vs vo deep) : w.cell? ⟨R, 2, none⟩ = some (.bool bad) := by rw [cell_of_row w R 2 _ _ _ h]; rfl
theorem RB.c3 (h : RB w R t at' bad vs vo deep) : w.cell? ⟨R, 3, none⟩ = some vs := by rw [cell_of_row w R 3 _ _ _ h]; rfl
theorem RB.c4 (h : RB w R t at' bad vs vo deep) : w.cell? ⟨R, 4, none⟩ = some vo := by rw [cell_of_row w R 4 _ _ _ h]; rfl
theorem RB.c5 (h : RB w R t at' bad vs vo deep) : w.cell? ⟨R, 5, none⟩ = some (.int .i64 deep) := by rw [cell_of_row w R 5 _ _ _ h]; rfl
theorem RB.fr (h : RB w R t at' bad vs vo deep) (j : Nat) : w.frozen? ⟨R, j, none⟩ = false := frozen_of_row w R j _ _ h
theorem RB.s1 (h : RB w R t at' bad vs vo deep) (x : Nat) : RB (w.setCell ⟨R, 1, none⟩ (.int .i64 x)) R t x bad vs vo deep := by
  unfold RB; rw [heap_setCell_same w R 1 _ _ _ h]; rfl
theorem RB.s2 (h : RB w R t at' bad vs vo deep) (x : Bool) : RB (w.setCell ⟨R, 2, none⟩ (.bool x)) R t at' x vs vo deep := by
  unfold RB; rw [heap_setCell_same w R 2 _ _ _ h]; rfl
theorem RB.s3 (h : RB w R t at' bad vs vo deep) (x : Value) : RB (w.setCell ⟨R, 3, none⟩ x) R t at' bad x vo deep := by
  unfold RB; rw [heap_setCell_same w R 3 _ _ _ h]; rfl
theorem RB.s4 (h : RB w R t at' bad vs vo deep) (x : Value) : RB (w.setCell ⟨R, 4, none⟩ x) R t at' bad vs x deep := by
  unfold RB; rw [heap_setCell_same w R 4 _ _ _ h]; rfl
theorem RB.s5 (h : RB w R t at' bad vs vo deep) (x : Int) : RB (w.setCell ⟨R, 5, none⟩ (.int .i64 x)) R t at' bad vs vo x := by
  unfold RB; rw [heap_setCell_same w R 5 _ _ _ h]; rfl
theorem RB.dr (h : RB w R t at' bad vs vo deep) (n : Nat) : RB (w.drewN n) R t at' bad vs vo deep := h
end

def fitsM (t : ByteArray) (a : Nat) (bad : Bool) (lo hi : Int) : Bool := !bad && (decide (lo ≤ byt t a) && decide (byt t a ≤ hi))

set_option maxHeartbeats 2000000 in
theorem fits_any (R : Nat) (t : ByteArray) (a : Nat) (bad : Bool) (vs vo : Value) (deep lo hi : Int) (w : World) (h : RB w R t a bad vs vo deep) (hs : t.size ≤ 120) (ha : a ≤ 1000) (hhi : hi ≤ 255) :
    Calls Try.prog 75 #[.pointer (some ⟨R, 0, none⟩), .int .u8 lo, .int .u8 hi] w fun e w' => e = .returned (.bool (fitsM t a bad lo hi)) ∧ ∃ n, w' = w.drewN n := by
  have c0 := h.c0
  have c1 := h.c1
  have c2 := h.c2
  clear h
  cases bad
  · by_cases hsz : a < t.size
    · have HB := hide (byt_lt hsz)
      by_cases h1 : lo ≤ byt t a
      · by_cases h2 : byt t a ≤ hi
        · have e1 : fitsM t a false lo hi = true := by simp [fitsM, h1, h2]
          rw [e1]
          rw [unhide HB] at h1 h2
          clear e1
          go_enter Try.func75, Try.ntmps75
          go_wp2_with fail
          go_quiet (fail)
          go_wp2_with fail
          go_ret
          exact ⟨rfl, _, rfl⟩
        · have e1 : fitsM t a false lo hi = false := by simp [fitsM, h2]
          rw [e1]
          rw [unhide HB] at h1 h2
          clear e1
          go_enter Try.func75, Try.ntmps75
          go_wp2_with fail
          go_quiet (fail)
          go_wp2_with fail
          go_ret
          exact ⟨by simp [h2], _, rfl⟩
      · have e1 : fitsM t a false lo hi = false := by simp [fitsM, h1]
        rw [e1]
        rw [unhide HB] at h1
        have h1' : decide (lo ≤ (t[a].toNat : Int)) = false := decide_eq_false h1
        clear e1
        go_enter Try.func75, Try.ntmps75
        go_wp2_with fail
        go_quiet (fail)
        go_wp2_with fail
        go_ret
        exact ⟨rfl, _, rfl⟩
    · have e1 : fitsM t a false lo hi = false := by
        simp only [fitsM, byt_ge hsz]
        simp
        omega
      rw [e1]
      have hz : decide ((a : Int) < (t.size : Int)) = false := decide_eq_false (by omega)
      clear e1
      go_enter Try.func75, Try.ntmps75
      go_wp2_with fail
      go_quiet (fail)
      go_wp2_with fail
      go_ret
      exact ⟨rfl, _, rfl⟩
  · have e1 : fitsM t a true lo hi = false := by simp [fitsM]
    rw [e1]
    clear e1
    go_enter Try.func75, Try.ntmps75
    go_wp2_with fail
    go_quiet (fail)
    go_wp2_with fail
    go_ret
    exact ⟨rfl, _, rfl⟩

def takeV (t : ByteArray) (a : Nat) (bad : Bool) (lo hi : Int) : Int := if fitsM t a bad lo hi then byt t a else lo
def takeA (t : ByteArray) (a : Nat) (bad : Bool) (lo hi : Int) : Nat := if fitsM t a bad lo hi then a + 1 else a
def takeB (t : ByteArray) (a : Nat) (bad : Bool) (lo hi : Int) : Bool := !fitsM t a bad lo hi

theorem takeV_bd (t : ByteArray) (a : Nat) (bad : Bool) (lo hi : Int) (h : lo ≤ hi) : lo ≤ takeV t a bad lo hi ∧ takeV t a bad lo hi ≤ hi := by
  unfold takeV
  split
  · rename_i hf
    simp [fitsM] at hf
    omega
  · omega
theorem takeA_bd (t : ByteArray) (a : Nat) (bad : Bool) (lo hi : Int) : a ≤ takeA t a bad lo hi ∧ takeA t a bad lo hi ≤ a + 1 := by
  unfold takeA
  split <;> omega

set_option maxHeartbeats 2000000 in
theorem take_any (R : Nat) (t : ByteArray) (a : Nat) (bad : Bool) (vs vo : Value) (deep lo hi : Int) (w : World) (h : RB w R t a bad vs vo deep) (hs : t.size ≤ 120) (ha : a ≤ 900) (hhi : hi ≤ 255) :
    Calls Try.prog 74 #[.pointer (some ⟨R, 0, none⟩), .int .u8 lo, .int .u8 hi] w fun e w' => e = .returned (.int .u8 (takeV t a bad lo hi)) ∧ RB w' R t (takeA t a bad lo hi) (takeB t a bad lo hi) vs vo deep ∧ w.grownBy w' (some R) := by
  have H := hide h
  cases hf : fitsM t a bad lo hi
  · have e1 : takeV t a bad lo hi = lo := by simp [takeV, hf]
    have e2 : takeA t a bad lo hi = a := by simp [takeA, hf]
    have e3 : takeB t a bad lo hi = true := by simp [takeB, hf]
    rw [e1, e2, e3]
    clear e1 e2 e3
    have HF := hide hf
    clear hf
    have c2 := h.c2
    have f2 := h.fr 2
    clear h
    go_enter Try.func74, Try.ntmps74
    go_wp2_with fail
    refine (fits_any R t a bad vs vo deep lo hi _ (unhide H) hs (by omega) hhi).mono ?_
    rintro e w1 ⟨rfl, n, rfl⟩
    rw [unhide HF]
    go_wp2_with fail
    go_ret
    exact ⟨rfl, (unhide H).s2 true, grown_drewN (grown_set (grown_refl _ _) 2 _) n⟩
  · have e1 : takeV t a bad lo hi = byt t a := by simp [takeV, hf]
    have e2 : takeA t a bad lo hi = a + 1 := by simp [takeA, hf]
    have e3 : takeB t a bad lo hi = false := by simp [takeB, hf]
    rw [e1, e2, e3]
    clear e1 e2 e3
    have HF := hide hf
    have hbad : bad = false := by simp [fitsM] at hf; exact hf.1
    subst hbad
    have hsz : a < t.size := Split.lt_of_byt (by simp [fitsM] at hf; omega)
    clear hf
    have c0 := h.c0
    have c1 := h.c1
    have f1 := h.fr 1
    clear h
    rw [byt_lt hsz]
    go_enter Try.func74, Try.ntmps74
    go_wp2_with fail
    refine (fits_any R t a false vs vo deep lo hi _ (unhide H) hs (by omega) hhi).mono ?_
    rintro e w1 ⟨rfl, n, rfl⟩
    rw [unhide HF]
    go_wp2_with fail
    go_quiet (fail)
    go_wp2_with fail
    go_ret
    exact ⟨rfl, (unhide H).s1 (a + 1), grown_drewN (grown_set (grown_refl _ _) 1 _) _⟩

set_option maxHeartbeats 1000000 in
theorem readBucket_any (R : Nat) (t : ByteArray) (a : Nat) (bad : Bool) (vs vo : Value) (deep : Int) (w : World) (h : RB w R t a bad vs vo deep) (hs : t.size ≤ 120) (ha : a ≤ 900) :
    Calls Try.prog 62 #[.pointer (some ⟨R, 0, none⟩)] w fun e w' => e = .returned (.int .i64 (takeV t a bad 97 104 - 97)) ∧ RB w' R t (takeA t a bad 97 104) (takeB t a bad 97 104) vs vo deep ∧ w.grownBy w' (some R) := by
  have hb := takeV_bd t a bad 97 104 (by omega)
  go_enter Try.func62, Try.ntmps62
  go_wp2_with fail
  refine (take_any R t a bad vs vo deep 97 104 _ h hs ha (by omega)).mono ?_
  rintro e w1 ⟨rfl, h1, h2⟩
  have H1 := hide h1
  have H2 := hide h2
  clear h1 h2
  generalize hv : takeV t a bad 97 104 = v at *
  have HV := hide hv
  clear hv
  go_wp2_with fail
  go_ret
  exact ⟨by rw [unhide HV]; rfl, unhide H1, unhide H2⟩
end Go.Proofs.Ytbpolcnjojlkjab
