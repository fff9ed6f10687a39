/- Readers: Reader, Reader2, Reader3, Reader4 -/
import Derived.Test.YtmdjdpofpkgffabRefRead
import Derived.RegionTactic
import Derived.ChangeAlike
import Derived.WalkSmall
import Derived.Test.YtmdjdpofpkgffabTexts
import Derived.Deep.RegionLaw

/- split's reader in memory; fits, take, readBucket, readNumber, readHundredths. -/
namespace Go.Proofs.Ytmdjdpofpkgffab
open Go.ChangeShapes Go.WideShapes Go.ChangeAt Go.RowKit
open Split (byt dig buc digM bucM riseB riseM risM headM byt_lt byt_ge dig_t dig_f buc_t buc_f numM)
set_option linter.unusedVariables false
set_option linter.unusedSimpArgs false

/-- The reader that lies in block R. -/
def RB (w : World) (R : Nat) (t : ByteArray) (at' : Nat) (bad : Bool) (vs vo : Value) (deep : Int) : Prop :=
  w.heap[R]? = some (.cells #[.string t, .int .i64 at', .bool bad, vs, vo, .int .i64 deep] 106 (0, 0))

theorem grown_trans {a b c : World} {r : Option Nat} (h : a.grownBy b r) (k : b.grownBy c r) : a.grownBy c r :=
  ⟨k.os.trans h.os, k.tape.trans h.tape, k.output.trans h.output, Nat.le_trans h.size k.size, fun i hi hr => (k.block i (Nat.lt_of_lt_of_le hi h.size) hr).trans (h.block i hi hr)⟩
theorem grown_refl (a : World) (r : Option Nat) : a.grownBy a r := ⟨rfl, rfl, rfl, Nat.le_refl _, fun _ _ _ => rfl⟩
theorem grown_drewN {a b : World} {r : Option Nat} (h : a.grownBy b r) (n : Nat) : a.grownBy (b.drewN n) r := ⟨h.os, h.tape, h.output, h.size, h.block⟩
theorem grown_set {a b : World} {R : Nat} (h : a.grownBy b (some R)) (o : Nat) (v : Value) : a.grownBy (b.setCell ⟨R, o, none⟩ v) (some R) :=
  ⟨h.os, h.tape, h.output, by simpa [World.setCell] using h.size, fun i hi hr => (Below.heap_setCell _ _ _ _ (by intro e; apply hr; rw [e])).trans (h.block i hi hr)⟩

section
variable {w : World} {R : Nat} {t : ByteArray} {at' : Nat} {bad : Bool} {vs vo : Value} {deep : Int}
theorem RB.c0 (h : RB w R t at' bad vs vo deep) : w.cell? ⟨R, 0, none⟩ = some (.string t) := by rw [cell_of_row w R 0 _ _ _ h]; rfl
theorem RB.c1 (h : RB w R t at' bad vs vo deep) : w.cell? ⟨R, 1, none⟩ = some (.int .i64 at') := by rw [cell_of_row w R 1 _ _ _ h]; rfl
theorem RB.c2 (h : RB w R t at' bad vs vo deep) : w.cell? ⟨R, 2, none⟩ = some (.bool bad) := by rw [cell_of_row w R 2 _ _ _ h]; rfl
theorem RB.c3 (h : RB w R t at' bad vs vo deep) : w.cell? ⟨R, 3, none⟩ = some vs := by rw [cell_of_row w R 3 _ _ _ h]; rfl
theorem RB.c4 (h : RB w R t at' bad vs vo deep) : w.cell? ⟨R, 4, none⟩ = some vo := by rw [cell_of_row w R 4 _ _ _ h]; rfl
theorem RB.c5 (h : RB w R t at' bad vs vo deep) : w.cell? ⟨R, 5, none⟩ = some (.int .i64 deep) := by rw [cell_of_row w R 5 _ _ _ h]; rfl
theorem RB.fr (h : RB w R t at' bad vs vo deep) (j : Nat) : w.frozen? ⟨R, j, none⟩ = false := frozen_of_row w R j _ _ h
theorem RB.s1 (h : RB w R t at' bad vs vo deep) (x : Nat) : RB (w.setCell ⟨R, 1, none⟩ (.int .i64 x)) R t x bad vs vo deep := by
  unfold RB; rw [heap_setCell_same w R 1 _ _ _ h]; rfl
theorem RB.s2 (h : RB w R t at' bad vs vo deep) (x : Bool) : RB (w.setCell ⟨R, 2, none⟩ (.bool x)) R t at' x vs vo deep := by
  unfold RB; rw [heap_setCell_same w R 2 _ _ _ h]; rfl
theorem RB.s3 (h : RB w R t at' bad vs vo deep) (x : Value) : RB (w.setCell ⟨R, 3, none⟩ x) R t at' bad x vo deep := by
  unfold RB; rw [heap_setCell_same w R 3 _ _ _ h]; rfl
theorem RB.s4 (h : RB w R t at' bad vs vo deep) (x : Value) : RB (w.setCell ⟨R, 4, none⟩ x) R t at' bad vs x deep := by
  unfold RB; rw [heap_setCell_same w R 4 _ _ _ h]; rfl
theorem RB.s5 (h : RB w R t at' bad vs vo deep) (x : Int) : RB (w.setCell ⟨R, 5, none⟩ (.int .i64 x)) R t at' bad vs vo x := by
  unfold RB; rw [heap_setCell_same w R 5 _ _ _ h]; rfl
theorem RB.dr (h : RB w R t at' bad vs vo deep) (n : Nat) : RB (w.drewN n) R t at' bad vs vo deep := h
end

def fitsM (t : ByteArray) (a : Nat) (bad : Bool) (lo hi : Int) : Bool := !bad && (decide (lo ≤ byt t a) && decide (byt t a ≤ hi))

set_option maxHeartbeats 2000000 in
theorem fits_any (R : Nat) (t : ByteArray) (a : Nat) (bad : Bool) (vs vo : Value) (deep lo hi : Int) (w : World) (h : RB w R t a bad vs vo deep) (hs : t.size ≤ 120) (ha : a ≤ 1000) (hhi : hi ≤ 255) :
    Calls Try.prog 113 #[.pointer (some ⟨R, 0, none⟩), .int .u8 lo, .int .u8 hi] w fun e w' => e = .returned (.bool (fitsM t a bad lo hi)) ∧ ∃ n, w' = w.drewN n := by
  have c0 := h.c0
  have c1 := h.c1
  have c2 := h.c2
  clear h
  cases bad
  · by_cases hsz : a < t.size
    · have HB := hide (byt_lt hsz)
      by_cases h1 : lo ≤ byt t a
      · by_cases h2 : byt t a ≤ hi
        · have e1 : fitsM t a false lo hi = true := by simp [fitsM, h1, h2]
          rw [e1]
          rw [unhide HB] at h1 h2
          clear e1
          go_enter Try.func113, Try.ntmps113
          go_wp2_with fail
          go_quiet (fail)
          go_wp2_with fail
          go_ret
          exact ⟨rfl, _, rfl⟩
        · have e1 : fitsM t a false lo hi = false := by simp [fitsM, h2]
          rw [e1]
          rw [unhide HB] at h1 h2
          clear e1
          go_enter Try.func113, Try.ntmps113
          go_wp2_with fail
          go_quiet (fail)
          go_wp2_with fail
          go_ret
          exact ⟨by simp [h2], _, rfl⟩
      · have e1 : fitsM t a false lo hi = false := by simp [fitsM, h1]
        rw [e1]
        rw [unhide HB] at h1
        have h1' : decide (lo ≤ (t[a].toNat : Int)) = false := decide_eq_false h1
        clear e1
        go_enter Try.func113, Try.ntmps113
        go_wp2_with fail
        go_quiet (fail)
        go_wp2_with fail
        go_ret
        exact ⟨rfl, _, rfl⟩
    · have e1 : fitsM t a false lo hi = false := by
        simp only [fitsM, byt_ge hsz]
        simp
        omega
      rw [e1]
      have hz : decide ((a : Int) < (t.size : Int)) = false := decide_eq_false (by omega)
      clear e1
      go_enter Try.func113, Try.ntmps113
      go_wp2_with fail
      go_quiet (fail)
      go_wp2_with fail
      go_ret
      exact ⟨rfl, _, rfl⟩
  · have e1 : fitsM t a true lo hi = false := by simp [fitsM]
    rw [e1]
    clear e1
    go_enter Try.func113, Try.ntmps113
    go_wp2_with fail
    go_quiet (fail)
    go_wp2_with fail
    go_ret
    exact ⟨rfl, _, rfl⟩

def takeV (t : ByteArray) (a : Nat) (bad : Bool) (lo hi : Int) : Int := if fitsM t a bad lo hi then byt t a else lo
def takeA (t : ByteArray) (a : Nat) (bad : Bool) (lo hi : Int) : Nat := if fitsM t a bad lo hi then a + 1 else a
def takeB (t : ByteArray) (a : Nat) (bad : Bool) (lo hi : Int) : Bool := !fitsM t a bad lo hi

theorem takeV_bd (t : ByteArray) (a : Nat) (bad : Bool) (lo hi : Int) (h : lo ≤ hi) : lo ≤ takeV t a bad lo hi ∧ takeV t a bad lo hi ≤ hi := by
  unfold takeV
  split
  · rename_i hf
    simp [fitsM] at hf
    omega
  · omega
theorem takeA_bd (t : ByteArray) (a : Nat) (bad : Bool) (lo hi : Int) : a ≤ takeA t a bad lo hi ∧ takeA t a bad lo hi ≤ a + 1 := by
  unfold takeA
  split <;> omega

set_option maxHeartbeats 2000000 in
theorem take_any (R : Nat) (t : ByteArray) (a : Nat) (bad : Bool) (vs vo : Value) (deep lo hi : Int) (w : World) (h : RB w R t a bad vs vo deep) (hs : t.size ≤ 120) (ha : a ≤ 900) (hhi : hi ≤ 255) :
    Calls Try.prog 112 #[.pointer (some ⟨R, 0, none⟩), .int .u8 lo, .int .u8 hi] w fun e w' => e = .returned (.int .u8 (takeV t a bad lo hi)) ∧ RB w' R t (takeA t a bad lo hi) (takeB t a bad lo hi) vs vo deep ∧ w.grownBy w' (some R) := by
  have H := hide h
  cases hf : fitsM t a bad lo hi
  · have e1 : takeV t a bad lo hi = lo := by simp [takeV, hf]
    have e2 : takeA t a bad lo hi = a := by simp [takeA, hf]
    have e3 : takeB t a bad lo hi = true := by simp [takeB, hf]
    rw [e1, e2, e3]
    clear e1 e2 e3
    have HF := hide hf
    clear hf
    have c2 := h.c2
    have f2 := h.fr 2
    clear h
    go_enter Try.func112, Try.ntmps112
    go_wp2_with fail
    refine (fits_any R t a bad vs vo deep lo hi _ (unhide H) hs (by omega) hhi).mono ?_
    rintro e w1 ⟨rfl, n, rfl⟩
    rw [unhide HF]
    go_wp2_with fail
    go_ret
    exact ⟨rfl, (unhide H).s2 true, grown_drewN (grown_set (grown_refl _ _) 2 _) n⟩
  · have e1 : takeV t a bad lo hi = byt t a := by simp [takeV, hf]
    have e2 : takeA t a bad lo hi = a + 1 := by simp [takeA, hf]
    have e3 : takeB t a bad lo hi = false := by simp [takeB, hf]
    rw [e1, e2, e3]
    clear e1 e2 e3
    have HF := hide hf
    have hbad : bad = false := by simp [fitsM] at hf; exact hf.1
    subst hbad
    have hsz : a < t.size := Split.lt_of_byt (by simp [fitsM] at hf; omega)
    clear hf
    have c0 := h.c0
    have c1 := h.c1
    have f1 := h.fr 1
    clear h
    rw [byt_lt hsz]
    go_enter Try.func112, Try.ntmps112
    go_wp2_with fail
    refine (fits_any R t a false vs vo deep lo hi _ (unhide H) hs (by omega) hhi).mono ?_
    rintro e w1 ⟨rfl, n, rfl⟩
    rw [unhide HF]
    go_wp2_with fail
    go_quiet (fail)
    go_wp2_with fail
    go_ret
    exact ⟨rfl, (unhide H).s1 (a + 1), grown_drewN (grown_set (grown_refl _ _) 1 _) _⟩

set_option maxHeartbeats 1000000 in
theorem readBucket_any (R : Nat) (t : ByteArray) (a : Nat) (bad : Bool) (vs vo : Value) (deep : Int) (w : World) (h : RB w R t a bad vs vo deep) (hs : t.size ≤ 120) (ha : a ≤ 900) :
    Calls Try.prog 101 #[.pointer (some ⟨R, 0, none⟩)] w fun e w' => e = .returned (.int .i64 (takeV t a bad 97 104 - 97)) ∧ RB w' R t (takeA t a bad 97 104) (takeB t a bad 97 104) vs vo deep ∧ w.grownBy w' (some R) := by
  have hb := takeV_bd t a bad 97 104 (by omega)
  go_enter Try.func101, Try.ntmps101
  go_wp2_with fail
  refine (take_any R t a bad vs vo deep 97 104 _ h hs ha (by omega)).mono ?_
  rintro e w1 ⟨rfl, h1, h2⟩
  have H1 := hide h1
  have H2 := hide h2
  clear h1 h2
  generalize hv : takeV t a bad 97 104 = v at *
  have HV := hide hv
  clear hv
  go_wp2_with fail
  go_ret
  exact ⟨by rw [unhide HV]; rfl, unhide H1, unhide H2⟩
end Go.Proofs.Ytmdjdpofpkgffab

/- split's readNumber, readHundredths, readRising. -/
namespace Go.Proofs.Ytmdjdpofpkgffab
open Go.ChangeShapes Go.WideShapes Go.ChangeAt Go.RowKit
open Split (byt dig buc digM bucM riseB riseM risM headM byt_lt byt_ge dig_t dig_f buc_t buc_f numM)
set_option linter.unusedVariables false
set_option linter.unusedSimpArgs false

/-- Behind k digits: the place, whether one was missing, the number. -/
structure Nm where
  a : Nat
  b : Bool
  n : Int

def nmM (t : ByteArray) (a : Nat) (bad : Bool) : Nat → Nm
  | 0 => ⟨a, bad, 0⟩
  | k + 1 => ⟨takeA t (nmM t a bad k).a (nmM t a bad k).b 48 57, takeB t (nmM t a bad k).a (nmM t a bad k).b 48 57, 10 * (nmM t a bad k).n + (takeV t (nmM t a bad k).a (nmM t a bad k).b 48 57 - 48)⟩

theorem nmM_bd (t : ByteArray) (a : Nat) (bad : Bool) : ∀ k, a ≤ (nmM t a bad k).a ∧ (nmM t a bad k).a ≤ a + k ∧ 0 ≤ (nmM t a bad k).n ∧ (nmM t a bad k).n < 10 ^ k
  | 0 => by simp [nmM]
  | k + 1 => by
    have h := nmM_bd t a bad k
    have h1 := takeA_bd t (nmM t a bad k).a (nmM t a bad k).b 48 57
    have h2 := takeV_bd t (nmM t a bad k).a (nmM t a bad k).b 48 57 (by omega)
    simp only [nmM]
    have e : (10 : Int) ^ (k + 1) = 10 * 10 ^ k := by rw [Int.pow_succ, Int.mul_comm]
    rw [e]
    generalize (10 : Int) ^ k = p at *
    omega

set_option maxHeartbeats 2000000 in
theorem readNumber_any (R : Nat) (t : ByteArray) (a : Nat) (bad : Bool) (vs vo : Value) (deep : Int) (w : World) (h : RB w R t a bad vs vo deep) (hs : t.size ≤ 120) (ha : a ≤ 800) :
    Calls Try.prog 102 #[.pointer (some ⟨R, 0, none⟩)] w fun e w' => e = .returned (.int .i64 (nmM t a bad 4).n) ∧ RB w' R t (nmM t a bad 4).a (nmM t a bad 4).b vs vo deep ∧ w.grownBy w' (some R) := by
  have H := hide h
  clear h
  go_enter Try.func102, Try.ntmps102
  go_wp2_with fail
  go_loopw [3, 4] (fun nn ii wr => ∃ k : Nat, k ≤ 4 ∧ ii = .int .i64 k ∧ nn = .int .i64 (nmM t a bad k).n ∧ Hid (RB wr R t (nmM t a bad k).a (nmM t a bad k).b vs vo deep) ∧ Hid (w.grownBy wr (some R))) (fun _ ii _ => 4 - (intOf ii).toNat)
  case atStart => exact ⟨0, by omega, rfl, rfl, H, grown_refl _ _⟩
  case round =>
    obtain ⟨k, hk, rfl, rfl, hb, hg⟩ := hrel
    by_cases hlt : k < 4
    · obtain ⟨m, hm⟩ : ∃ m, nmM t a bad k = m := ⟨_, rfl⟩
      have hbd := nmM_bd t a bad k
      have h10 : (10 : Int) ^ k ≤ 1000 := by
        match k, hlt with
        | 0, _ => decide
        | 1, _ => decide
        | 2, _ => decide
        | 3, _ => decide
      have hn : nmM t a bad (k + 1) = ⟨takeA t m.a m.b 48 57, takeB t m.a m.b 48 57, 10 * m.n + (takeV t m.a m.b 48 57 - 48)⟩ := by simp only [nmM, hm]
      have HN := hide hn
      rw [hm] at hb hbd ⊢
      clear hn hm
      have hv := takeV_bd t m.a m.b 48 57 (by omega)
      have hb1 := hbd.2.1
      have hb2 := hbd.2.2.1
      have hb3 : m.n ≤ 1000 := by have := hbd.2.2.2; omega
      clear hbd h10
      go_wp2_with fail
      refine (take_any R t m.a m.b vs vo deep 48 57 _ (unhide hb) hs (by omega) (by omega)).mono ?_
      rintro e w1 ⟨rfl, h1, h2⟩
      have H1 := hide h1
      have H2 := hide h2
      clear h1 h2
      obtain ⟨v, hve⟩ : ∃ v, takeV t m.a m.b 48 57 = v := ⟨_, rfl⟩
      have HV := hide hve
      rw [hve] at hv ⊢
      clear hve
      obtain ⟨x, hx⟩ : ∃ x, m.n = x := ⟨_, rfl⟩
      have HX := hide hx
      rw [hx] at hb2 hb3 ⊢
      clear hx
      go_wp2_with fail
      go_roundw
      case rel =>
        refine ⟨k + 1, by omega, by go_num, ?_, ?_, grown_trans (unhide hg) (unhide H2)⟩
        · rw [unhide HN, unhide HV]
          dsimp only
          rw [unhide HX]
        · rw [unhide HN]; exact unhide H1
      case measure => simp [intOf]; omega
    · have : k = 4 := by omega
      subst this
      go_wp2_with fail
      go_ret
      exact ⟨rfl, unhide hb, unhide hg⟩

/-- The hundredths: the second digit is none but 1 to 9 where the first one is 0. -/
def hunV1 (t : ByteArray) (a : Nat) (bad : Bool) : Int := takeV t a bad 48 57
def hunLo (t : ByteArray) (a : Nat) (bad : Bool) : Int := if hunV1 t a bad = 48 then 49 else 48
def hunM (t : ByteArray) (a : Nat) (bad : Bool) : Nm :=
  ⟨takeA t (takeA t a bad 48 57) (takeB t a bad 48 57) (hunLo t a bad) 57, takeB t (takeA t a bad 48 57) (takeB t a bad 48 57) (hunLo t a bad) 57,
   10 * (hunV1 t a bad - 48) + (takeV t (takeA t a bad 48 57) (takeB t a bad 48 57) (hunLo t a bad) 57 - 48)⟩

set_option maxHeartbeats 2000000 in
theorem readHundredths_any (R : Nat) (t : ByteArray) (a : Nat) (bad : Bool) (vs vo : Value) (deep : Int) (w : World) (h : RB w R t a bad vs vo deep) (hs : t.size ≤ 120) (ha : a ≤ 800) :
    Calls Try.prog 104 #[.pointer (some ⟨R, 0, none⟩)] w fun e w' => e = .returned (.int .i64 (hunM t a bad).n) ∧ RB w' R t (hunM t a bad).a (hunM t a bad).b vs vo deep ∧ w.grownBy w' (some R) := by
  have ha1 := takeA_bd t a bad 48 57
  have hv1 := takeV_bd t a bad 48 57 (by omega)
  obtain ⟨v1, e1⟩ : ∃ v, takeV t a bad 48 57 = v := ⟨_, rfl⟩
  have E1 := hide e1
  rw [e1] at hv1
  clear e1
  by_cases h48 : v1 = 48
  · have hlo : hunLo t a bad = 49 := by simp [hunLo, hunV1, unhide E1, h48]
    have hv2 := takeV_bd t (takeA t a bad 48 57) (takeB t a bad 48 57) 49 57 (by omega)
    obtain ⟨v2, e2⟩ : ∃ v, takeV t (takeA t a bad 48 57) (takeB t a bad 48 57) 49 57 = v := ⟨_, rfl⟩
    rw [e2] at hv2
    have hm : hunM t a bad = ⟨takeA t (takeA t a bad 48 57) (takeB t a bad 48 57) 49 57, takeB t (takeA t a bad 48 57) (takeB t a bad 48 57) 49 57, 10 * (v1 - 48) + (v2 - 48)⟩ := by
      simp only [hunM, hlo, e2, hunV1, unhide E1]
    have HM := hide hm
    have E2 := hide e2
    clear hlo e2 hm
    subst h48
    go_enter Try.func104, Try.ntmps104
    go_wp2_with fail
    refine (take_any R t a bad vs vo deep 48 57 _ h hs (by omega) (by omega)).mono ?_
    rintro e w1 ⟨rfl, h1, g1⟩
    have H1 := hide h1
    have G1 := hide g1
    clear h1 g1
    rw [unhide E1]
    go_wp2_with fail
    refine (take_any R t _ _ vs vo deep 49 57 _ (unhide H1) hs (by omega) (by omega)).mono ?_
    rintro e w2 ⟨rfl, h2, g2⟩
    have H2 := hide h2
    have G2 := hide g2
    clear h2 g2
    rw [unhide E2]
    go_wp2_with fail
    go_ret
    rw [unhide HM]
    exact ⟨ret_int (by first | rfl | (dsimp only; omega)), unhide H2, grown_trans (unhide G1) (unhide G2)⟩
  · have hlo : hunLo t a bad = 48 := by simp [hunLo, hunV1, unhide E1, h48]
    have hv2 := takeV_bd t (takeA t a bad 48 57) (takeB t a bad 48 57) 48 57 (by omega)
    obtain ⟨v2, e2⟩ : ∃ v, takeV t (takeA t a bad 48 57) (takeB t a bad 48 57) 48 57 = v := ⟨_, rfl⟩
    rw [e2] at hv2
    have hm : hunM t a bad = ⟨takeA t (takeA t a bad 48 57) (takeB t a bad 48 57) 48 57, takeB t (takeA t a bad 48 57) (takeB t a bad 48 57) 48 57, 10 * (v1 - 48) + (v2 - 48)⟩ := by
      simp only [hunM, hlo, e2, hunV1, unhide E1]
    have HM := hide hm
    have E2 := hide e2
    clear hlo e2 hm
    have hne : (v1 == 48) = false := beq_eq_false_iff_ne.2 h48
    clear h48
    go_enter Try.func104, Try.ntmps104
    go_wp2_with fail
    refine (take_any R t a bad vs vo deep 48 57 _ h hs (by omega) (by omega)).mono ?_
    rintro e w1 ⟨rfl, h1, g1⟩
    have H1 := hide h1
    have G1 := hide g1
    clear h1 g1
    rw [unhide E1]
    go_wp2_with fail
    refine (take_any R t _ _ vs vo deep 48 57 _ (unhide H1) hs (by omega) (by omega)).mono ?_
    rintro e w2 ⟨rfl, h2, g2⟩
    have H2 := hide h2
    have G2 := hide g2
    clear h2 g2
    rw [unhide E2]
    go_wp2_with fail
    go_ret
    rw [unhide HM]
    exact ⟨ret_int (by first | rfl | (dsimp only; omega)), unhide H2, grown_trans (unhide G1) (unhide G2)⟩

/-- Eight bools in a block of their own. -/
def Bl (w : World) (G : Nat) (m : List Bool) : Prop := m.length = 8 ∧ w.heap[G]? = some (.cells (m.map Value.bool).toArray 108 (0, 0))

theorem Bl.cell {w : World} {G : Nat} {m : List Bool} (h : Bl w G m) (i : Nat) (hi : i < 8) : w.cell? ⟨G, i, none⟩ = some (.bool (m.getD i false)) := by
  rw [cell_of_row w G _ _ _ _ h.2]
  have h1 := h.1
  simp [List.getElem?_eq_getElem (show i < m.length by omega)]
theorem Bl.fr {w : World} {G : Nat} {m : List Bool} (h : Bl w G m) (i : Nat) : w.frozen? ⟨G, i, none⟩ = false := frozen_of_row w G i _ _ h.2
theorem Bl.set {w : World} {G : Nat} {m : List Bool} (h : Bl w G m) (i : Nat) (b : Bool) : Bl (w.setCell ⟨G, i, none⟩ (.bool b)) G (m.set i b) := by
  refine ⟨by simp [h.1], ?_⟩
  rw [heap_setCell_same w G i _ _ _ h.2]
  simp [List.map_set]
theorem Bl.grown {w w' : World} {G : Nat} {m : List Bool} {r : Option Nat} (h : Bl w G m) (hg : w.grownBy w' r) (hr : some G ≠ r) : Bl w' G m :=
  ⟨h.1, (hg.block G (cell_lt h.2) hr).trans h.2⟩
theorem RB.grown {w w' : World} {R : Nat} {t : ByteArray} {a : Nat} {bad : Bool} {vs vo : Value} {deep : Int} {r : Option Nat} (h : RB w R t a bad vs vo deep) (hg : w.grownBy w' r) (hr : some R ≠ r) : RB w' R t a bad vs vo deep :=
  (hg.block R (cell_lt h) hr).trans h

theorem grown_new {a b : World} {r : Option Nat} (h : a.grownBy b r) {p : Addr} (hp : a.heap.size ≤ p.block) (v : Value) : a.grownBy (b.setCell p v) r :=
  ⟨h.os, h.tape, h.output, by simpa [World.setCell] using h.size, fun i hi hr => (Below.heap_setCell _ _ _ _ (by omega)).trans (h.block i hi hr)⟩
theorem Bl.other {w w' : World} {G : Nat} {m : List Bool} (h : Bl w G m) (e : w'.heap[G]? = w.heap[G]?) : Bl w' G m := ⟨h.1, e.trans h.2⟩

/-- k letters from bucket z on: the place behind those that stand, and which they are. -/
def riseL (t : ByteArray) (bad : Bool) : Nat → Nat → Nat → List Bool → Nat × List Bool
  | 0, _, a, m => (a, m)
  | k + 1, z, a, m => if fitsM t a bad (z + 97) (z + 97) then riseL t bad k (z + 1) (a + 1) (m.set z true) else riseL t bad k (z + 1) a m

def ris1 (t : ByteArray) (a : Nat) (bad : Bool) : Int := takeV t a bad 97 103
def ris2 (t : ByteArray) (a : Nat) (bad : Bool) : Int := takeV t (takeA t a bad 97 103) (takeB t a bad 97 103) (ris1 t a bad + 1) 104
def risA (t : ByteArray) (a : Nat) (bad : Bool) : Nat := takeA t (takeA t a bad 97 103) (takeB t a bad 97 103) (ris1 t a bad + 1) 104
def risB (t : ByteArray) (a : Nat) (bad : Bool) : Bool := takeB t (takeA t a bad 97 103) (takeB t a bad 97 103) (ris1 t a bad + 1) 104
def risR (t : ByteArray) (a : Nat) (bad : Bool) : Nat × List Bool :=
  riseL t (risB t a bad) (104 - ris2 t a bad).toNat (ris2 t a bad - 96).toNat (risA t a bad) ((Split.none8.set (ris1 t a bad - 97).toNat true).set (ris2 t a bad - 97).toNat true)

theorem bl_new (w : World) : Bl (w.alloc (.cells #[.bool false, .bool false, .bool false, .bool false, .bool false, .bool false, .bool false, .bool false] 108)) w.heap.size Split.none8 :=
  ⟨rfl, heap_alloc_new _ _⟩

set_option maxHeartbeats 2000000 in
theorem readRising_any (R : Nat) (t : ByteArray) (a : Nat) (bad : Bool) (vs vo : Value) (deep : Int) (w : World) (h : RB w R t a bad vs vo deep) (hs : t.size ≤ 120) (ha : a ≤ 800) :
    Calls Try.prog 103 #[.pointer (some ⟨R, 0, none⟩)] w fun e w' => e = .returned (.agg ((risR t a bad).2.map Value.bool).toArray) ∧ RB w' R t (risR t a bad).1 (risB t a bad) vs vo deep ∧ (risR t a bad).2.length = 8 ∧ w.grownBy w' (some R) := by
  have hRlt : R < w.heap.size := cell_lt h
  have ha1 := takeA_bd t a bad 97 103
  have hv1 := takeV_bd t a bad 97 103 (by omega)
  obtain ⟨v1, e1⟩ : ∃ v, takeV t a bad 97 103 = v := ⟨_, rfl⟩
  rw [e1] at hv1
  obtain ⟨x, rfl⟩ : ∃ x : Nat, v1 = x + 97 := ⟨(v1 - 97).toNat, by omega⟩
  have hv2 := takeV_bd t (takeA t a bad 97 103) (takeB t a bad 97 103) ((x : Int) + 97 + 1) 104 (by omega)
  have ha2 := takeA_bd t (takeA t a bad 97 103) (takeB t a bad 97 103) ((x : Int) + 97 + 1) 104
  obtain ⟨v2, e2⟩ : ∃ v, takeV t (takeA t a bad 97 103) (takeB t a bad 97 103) ((x : Int) + 97 + 1) 104 = v := ⟨_, rfl⟩
  rw [e2] at hv2
  obtain ⟨y, rfl⟩ : ∃ y : Nat, v2 = y + 97 := ⟨(v2 - 97).toNat, by omega⟩
  have E1 := hide e1
  have E2 := hide e2
  clear e1 e2
  have HRB := hide h
  clear h
  go_enter Try.func103, Try.ntmps103
  go_wp2_with fail
  have hg0 : w.grownBy ((w.alloc (.cells #[.bool false, .bool false, .bool false, .bool false, .bool false, .bool false, .bool false, .bool false] 108)).alloc (.cells #[.bool false, .bool false, .bool false, .bool false, .bool false, .bool false, .bool false, .bool false] 108)) (some R) :=
    grown_trans (World.grownBy_alloc _ _ _) (World.grownBy_alloc _ _ _)
  refine (take_any R t a bad vs vo deep 97 103 _ ((unhide HRB).grown (grown_trans (World.grownBy_alloc w _ none) (World.grownBy_alloc _ _ none)) (by simp)) hs (by omega) (by omega)).mono ?_
  rintro e w1 ⟨rfl, h1, g1⟩
  have hB1 : Bl w1 (w.heap.size + 1) Split.none8 := by
    have := (bl_new (w.alloc (.cells #[.bool false, .bool false, .bool false, .bool false, .bool false, .bool false, .bool false, .bool false] 108))).grown g1 (by simp; omega)
    simpa using this
  have hB0 : Bl w1 w.heap.size Split.none8 := by
    exact ((bl_new w).grown (World.grownBy_alloc _ _ none) (by simp)).grown g1 (by simp; omega)
  have hg1 := grown_trans hg0 g1
  have hz1 : w.heap.size + 1 < w1.heap.size := cell_lt hB1.2
  rw [unhide E1]
  have HB0 := hide hB0
  have HB1 := hide hB1
  have H1 := hide h1
  have HG1 := hide hg1
  have c1 := hB1.cell x (by omega)
  have f1 := hB1.fr x
  clear hB0 hB1 h1 g1 hg0 hg1
  go_wp2_with fail
  refine (take_any R t _ _ vs vo deep ((x : Int) + 97 + 1) 104 _ (RB.grown (w' := w1.setCell ⟨w.heap.size + 1, x, none⟩ (.bool true)) (unhide H1) (grown_set (grown_refl _ _) x _) (by simp; omega)) hs (by omega) (by omega)).mono ?_
  rintro e w2 ⟨rfl, h2, g2⟩
  have hB1 : Bl w2 (w.heap.size + 1) (Split.none8.set x true) := ((unhide HB1).set x true).grown g2 (by simp; omega)
  have hB0 : Bl w2 w.heap.size Split.none8 := ((unhide HB0).grown (grown_set (grown_refl _ _) x _) (by simp)).grown g2 (by simp; omega)
  have hg2 : w.grownBy w2 (some R) := grown_trans (grown_new (unhide HG1) (p := ⟨w.heap.size + 1, x, none⟩) (by simp) _) g2
  clear HB0 HB1 H1 HG1 c1 f1
  rw [unhide E2]
  have HB0 := hide hB0
  have HB1 := hide hB1
  have H2 := hide h2
  have HG2 := hide hg2
  have c1 := hB1.cell y (by omega)
  have f1 := hB1.fr y
  have hz2 : w.heap.size + 1 < w2.heap.size := cell_lt hB1.2
  clear hB0 hB1 h2 g2 hg2
  have er : risR t a bad = riseL t (takeB t (takeA t a bad 97 103) (takeB t a bad 97 103) ((x : Int) + 97 + 1) 104) (7 - y) (y + 1) (takeA t (takeA t a bad 97 103) (takeB t a bad 97 103) ((x : Int) + 97 + 1) 104) ((Split.none8.set x true).set y true) := by
    have q1 : ris1 t a bad = (x : Int) + 97 := unhide E1
    have q2 : ris2 t a bad = (y : Int) + 97 := by unfold ris2; rw [q1]; exact unhide E2
    unfold risR risB risA
    rw [q1, q2, show ((104 : Int) - ((y : Int) + 97)).toNat = 7 - y by omega, show ((y : Int) + 97 - 96).toNat = y + 1 by omega, show ((x : Int) + 97 - 97).toNat = x by omega, show ((y : Int) + 97 - 97).toNat = y by omega]
  have eb : risB t a bad = takeB t (takeA t a bad 97 103) (takeB t a bad 97 103) ((x : Int) + 97 + 1) 104 := by
    have q1 : ris1 t a bad = (x : Int) + 97 := unhide E1
    unfold risB; rw [q1]
  have ER := hide er
  have EB := hide eb
  clear er eb
  generalize takeA t (takeA t a bad 97 103) (takeB t a bad 97 103) ((x : Int) + 97 + 1) 104 = A2 at *
  generalize takeB t (takeA t a bad 97 103) (takeB t a bad 97 103) ((x : Int) + 97 + 1) 104 = B2 at *
  clear E2
  go_wp2_with fail
  go_loopw [6] (fun ll wr => ∃ (z a' : Nat) (m : List Bool), z ≤ 8 ∧ a' ≤ 810 + z ∧ ll = .int .u8 ((z : Int) + 97) ∧ Hid (RB wr R t a' B2 vs vo deep) ∧ Hid (Bl wr (w.heap.size + 1) m) ∧ Hid (Bl wr w.heap.size Split.none8) ∧ Hid (risR t a bad = riseL t B2 (8 - z) z a' m) ∧ Hid (w.grownBy wr (some R))) (fun ll _ => (105 - intOf ll).toNat)
  case atStart =>
    refine ⟨y + 1, A2, (Split.none8.set x true).set y true, by omega, by omega, by go_num, ?_, ?_, ?_, ?_, ?_⟩
    · exact RB.grown (w' := w2.setCell ⟨w.heap.size + 1, y, none⟩ (.bool true)) (unhide H2) (grown_set (grown_refl _ _) y _) (by simp; omega)
    · exact (unhide HB1).set y true
    · exact (unhide HB0).grown (grown_set (grown_refl _ _) y _) (by simp)
    · rw [show 8 - (y + 1) = 7 - y by omega]; exact ER
    · exact grown_new (unhide HG2) (p := ⟨w.heap.size + 1, y, none⟩) (by simp) _
  case round =>
    obtain ⟨z, a', m, hz, haz, rfl, hR, hB, hB0, hri, hg⟩ := hrel
    have hml := (unhide hB).1
    have hzr : w.heap.size + 1 < wr.heap.size := cell_lt (unhide hB).2
    clear c1 f1
    by_cases hk0 : z < 8
    · have c1 := (unhide hR).c1
      have f1 := (unhide hR).fr 1
      have cb := (unhide hB).cell z (by omega)
      have fb := (unhide hB).fr z
      obtain ⟨k, hk⟩ : ∃ k, 8 - z = k + 1 := ⟨7 - z, by omega⟩
      have hk' : 8 - (z + 1) = k := by omega
      have HK := hide hk'
      rw [hk] at hri
      clear hk hk'
      cases hf : fitsM t a' B2 ((z : Int) + 97) ((z : Int) + 97)
      · have hri' : Hid (risR t a bad = riseL t B2 k (z + 1) a' m) := by
          have := unhide hri
          simp only [riseL, hf] at this
          exact this
        have HF := hide hf
        clear hf hri
        go_wp2_with fail
        refine (fits_any R t a' B2 vs vo deep _ _ _ (unhide hR) hs (by omega) (by omega)).mono ?_
        rintro e w3 ⟨rfl, n, rfl⟩
        rw [unhide HF]
        go_wp2_with fail
        go_roundw
        case rel =>
          refine ⟨z + 1, a', m, by omega, by omega, by go_num, hR, hB, hB0, ?_, grown_drewN (unhide hg) n⟩
          rw [unhide HK]; exact hri'
        case measure => simp [intOf]; omega
      · have hri' : Hid (risR t a bad = riseL t B2 k (z + 1) (a' + 1) (m.set z true)) := by
          have := unhide hri
          simp only [riseL, hf] at this
          exact this
        have HF := hide hf
        clear hf hri
        go_wp2_with fail
        refine (fits_any R t a' B2 vs vo deep _ _ _ (unhide hR) hs (by omega) (by omega)).mono ?_
        rintro e w3 ⟨rfl, n, rfl⟩
        rw [unhide HF]
        have cb' : (wr.setCell ⟨R, 1, none⟩ (.int .i64 ((a' : Int) + 1))).cell? ⟨w.heap.size + 1, z, none⟩ = some (.bool (m.getD z false)) := by
          rw [World.cell?_of_block (w := wr) (Below.heap_setCell _ _ _ _ (by simp; omega))]; exact cb
        have fb' : (wr.setCell ⟨R, 1, none⟩ (.int .i64 ((a' : Int) + 1))).frozen? ⟨w.heap.size + 1, z, none⟩ = false := by
          rw [World.frozen?_of_block (w := wr) (Below.heap_setCell _ _ _ _ (by simp; omega))]; exact fb
        go_wp2_with fail
        go_roundw
        case rel =>
          have hR1 : RB (wr.setCell ⟨R, 1, none⟩ (.int .i64 ((a' : Int) + 1))) R t (a' + 1) B2 vs vo deep := (unhide hR).s1 (a' + 1)
          have hBm : Bl (wr.setCell ⟨R, 1, none⟩ (.int .i64 ((a' : Int) + 1))) (w.heap.size + 1) m := (unhide hB).grown (grown_set (grown_refl _ _) 1 _) (by simp; omega)
          have hB00 : Bl (wr.setCell ⟨R, 1, none⟩ (.int .i64 ((a' : Int) + 1))) w.heap.size Split.none8 := (unhide hB0).grown (grown_set (grown_refl _ _) 1 _) (by simp; omega)
          refine ⟨z + 1, a' + 1, m.set z true, by omega, by omega, by go_num, ?_, ?_, ?_, ?_, ?_⟩
          · exact hR1.grown (grown_drewN (grown_set (grown_refl _ _) z (.bool true)) n) (r := some (w.heap.size + 1)) (by simp; omega)
          · exact (hBm.set z true).other rfl
          · exact hB00.grown (grown_drewN (grown_set (grown_refl _ _) z (.bool true)) n) (r := some (w.heap.size + 1)) (by simp)
          · rw [unhide HK]; exact hri'
          · exact grown_drewN (grown_new (grown_set (unhide hg) 1 _) (p := ⟨w.heap.size + 1, z, none⟩) (by simp) _) n
        case measure => simp [intOf]; omega
    · have hz8 : z = 8 := by omega
      subst hz8
      have hri' : risR t a bad = (a', m) := unhide hri
      have HR := hide hri'
      clear hri hri'
      have hBB := unhide hB
      match m, hml with
      | [m0, m1, m2, m3, m4, m5, m6, m7], _ =>
        have d0 := hBB.cell 0 (by omega)
        have d1 := hBB.cell 1 (by omega)
        have d2 := hBB.cell 2 (by omega)
        have d3 := hBB.cell 3 (by omega)
        have d4 := hBB.cell 4 (by omega)
        have d5 := hBB.cell 5 (by omega)
        have d6 := hBB.cell 6 (by omega)
        have d7 := hBB.cell 7 (by omega)
        simp at d0 d1 d2 d3 d4 d5 d6 d7
        have r0 := (unhide hB0).cell 0 (by omega)
        have g0 := (unhide hB0).fr 0
        have r1 := (unhide hB0).cell 1 (by omega)
        have g1 := (unhide hB0).fr 1
        have r2 := (unhide hB0).cell 2 (by omega)
        have g2 := (unhide hB0).fr 2
        have r3 := (unhide hB0).cell 3 (by omega)
        have g3 := (unhide hB0).fr 3
        have r4 := (unhide hB0).cell 4 (by omega)
        have g4 := (unhide hB0).fr 4
        have r5 := (unhide hB0).cell 5 (by omega)
        have g5 := (unhide hB0).fr 5
        have r6 := (unhide hB0).cell 6 (by omega)
        have g6 := (unhide hB0).fr 6
        have r7 := (unhide hB0).cell 7 (by omega)
        have g7 := (unhide hB0).fr 7
        simp [Split.none8] at r0 r1 r2 r3 r4 r5 r6 r7
        clear hBB
        go_wp2_with fail
        refine bodyPost_ret (v := .agg #[.bool m0, .bool m1, .bool m2, .bool m3, .bool m4, .bool m5, .bool m6, .bool m7]) (by simp [results, Try.results103, go_sem, r0, r1, r2, r3, r4, r5, r6, r7]) rfl ?_
        rw [unhide HR, unhide EB]
        refine ⟨rfl, ?_, rfl, ?_⟩
        · refine RB.grown (r := some w.heap.size) (unhide hR) ?_ (by simp; omega)
          iterate 8 refine grown_set ?_ _ _
          exact grown_refl _ _
        · iterate 8 refine grown_new ?_ (Nat.le_refl _) _
          exact unhide hg
end Go.Proofs.Ytmdjdpofpkgffab

/- split's reader with its two lists; openBlock, leaveOut. -/
namespace Go.Proofs.Ytmdjdpofpkgffab
open Go.ChangeShapes Go.WideShapes Go.ChangeAt Go.RowKit
open Split (byt dig buc digM bucM riseB riseM risM headM byt_lt byt_ge dig_t dig_f buc_t buc_f numM St)
set_option linter.unusedVariables false
set_option linter.unusedSimpArgs false

theorem infoStep : (Try.prog.info? 110).map (fun i => (i.zero, i.size, i.bytes)) = some (some (.agg #[.int .u8 0, .int .i64 0, .int .i64 0, .bool false, .bool false, .bool false, .bool false, .bool false, .bool false, .bool false, .bool false, .int .i64 0]), 12, 40) := by kernel_rfl

theorem wrap_small {x : Int} (h0 : -1000000 ≤ x) (h1 : x ≤ 1000000) : IntKind.i64.wrap x = x := by
  have e1 : (2 : Int) ^ IntKind.i64.bits = 18446744073709551616 := by decide
  have e2 : (2 : Int) ^ (IntKind.i64.bits - 1) = 9223372036854775808 := by decide
  have e3 : IntKind.i64.signed = true := rfl
  unfold IntKind.wrap
  rw [e1, e2, e3]
  simp only [Bool.true_and, decide_eq_true_eq]
  split <;> omega

theorem grown_undrew {a b : World} {r : Option Nat} (h : a.drew.grownBy b r) : a.grownBy b r := ⟨h.os, h.tape, h.output, h.size, h.block⟩

theorem RB.via {w W w2 : World} {R : Nat} {t : ByteArray} {a : Nat} {bad : Bool} {vs vo : Value} {deep : Int} {r : Option Nat} (h : RB w R t a bad vs vo deep) (hg : W.grownBy w2 r) (hr : some R ≠ r) (e : W.heap[R]? = w.heap[R]?) : RB w2 R t a bad vs vo deep :=
  RB.grown (w := W) (e.trans h) hg hr

/-- append to a row of the call's own, as one step of a region that draws. -/
theorem step_append_own {P : Program} {ops : Array Oper} {o : Oper} {a : Act} {w : World} {K : Act → World → Prop} {Q : Exit → Act → World → Prop} {E : Prop}
    (hg : o.guard = none) (s x : Operand) (t : TypeId) (hop : o.op = Op.call { callee := Callee.builtin Builtin.append, args := #[s, x], argTypes := #[t, t] })
    (base : Nat) (e : TypeId) (i : TypeInfo) (z : Value) (size bytes : Nat) (ht : P.underlying t = some (.slice e)) (hi : P.info? e = some i) (hz : i.zero = some z)
    (hsize : i.size = size) (hby : i.bytes = bytes) (hzs : z.cells.size = size) (hsz : 0 < size)
    (v : Value) (n : Nat) (xs : List Value) (hs : a.eval s = v) (hown : w.ownsRow base e size v n xs)
    (ad : Addr) (m c : Nat) (news : List Value) (hx : a.eval x = .slice (some ad) m c) (hl : news.length = m * size) (hnews : ∀ j u, news[j]? = some u → w.cell? (ad.add j) = some u) (h1 : ∀ u ∈ news, u.oneCell' = true)
    (h63 : n + m ≤ maxLen) (hbytes : (n + m) * bytes ≤ 140737488355328) (hbase : base ≤ w.heap.size)
    (hK : ∀ v' w', w'.ownsRow base e size v' (n + m) (xs ++ news) → w.grownBy w' v.ownBlock → K (a.put o.dst v') w') :
    if Region.wanted o (yielded ops a.tmps) = true then Oper.wp P o a w K Q else E := by
  have hw : Region.wanted o (yielded ops a.tmps) = true := by simp [Region.wanted, hg]
  rw [if_pos hw]
  obtain ⟨v', w', hrun, h2, h3, _⟩ := run_append_own (P := P) w base t o.type e i z size bytes ht hi hz hsize hby hzs hsz v n xs hown ad m c news hl hnews h1 h63 hbytes hbase
  unfold Oper.wp
  simp [execOp, hop, resolve, invoke, builtin, hs, hx, hrun, Result.andThen]
  exact hK _ _ h2 h3

def stC (s : St) : List Value := .int .u8 s.kind :: .int .i64 s.bucket :: .int .i64 s.amount :: (((List.range 8).map fun k => Value.bool (s.among.getD k false)) ++ [.int .i64 s.leave])
def flat (ss : List St) : List Value := ss.flatMap stC
def opC (op : List Nat) : List Value := op.map fun o => Value.int .i64 (o : Nat)

theorem stC_len (s : St) : (stC s).length = 12 := by simp [stC]
theorem flat_len (ss : List St) : (flat ss).length = ss.length * 12 := by
  induction ss with
  | nil => rfl
  | cons s ss ih =>
    show (stC s ++ flat ss).length = _
    rw [List.length_append, ih, stC_len, List.length_cons]
    omega
theorem flat_snoc (ss : List St) (s : St) : flat (ss ++ [s]) = flat ss ++ stC s := by simp [flat]

theorem opC_snoc (op : List Nat) (n : Nat) (h : 0 < n) : opC (op ++ [n - 1]) = opC op ++ [.int .i64 ((n : Int) - 1)] := by
  simp only [opC, List.map_append, List.map_cons, List.map_nil]
  rw [show ((n - 1 : Nat) : Int) = (n : Int) - 1 by omega]

/-- A step that has come to know how many it leaves out. -/
def leaveM (ss : List St) (o : Nat) : List St := ss.modify o fun s => s.leaving ((ss.length : Int) - 1 - o)

theorem flat_modify (n : Int) : ∀ (ss : List St) (o : Nat), o < ss.length → flat (ss.modify o fun s => s.leaving n) = (flat ss).set (o * 12 + 11) (.int .i64 n)
  | [], o, h => by simp at h
  | s :: ss, 0, h => by
    show stC (s.leaving n) ++ flat ss = (stC s ++ flat ss).set (0 * 12 + 11) _
    rw [List.set_append, if_pos (by rw [stC_len]; omega)]
    rfl
  | s :: ss, o + 1, h => by
    show stC s ++ flat (ss.modify o _) = (stC s ++ flat ss).set ((o + 1) * 12 + 11) _
    rw [List.set_append, if_neg (by rw [stC_len]; omega), stC_len, flat_modify n ss o (by simpa using h), show (o + 1) * 12 + 11 - 12 = o * 12 + 11 by omega]

/-- The reader in block R, its steps and its open blocks. -/
def RA (w : World) (R : Nat) (t : ByteArray) (a : Nat) (bad : Bool) (ss : List St) (op : List Nat) (deep : Int) : Prop :=
  ∃ vs vo, RB w R t a bad vs vo deep ∧ w.ownsRow (R + 1) 110 12 vs ss.length (flat ss) ∧ w.ownsRow (R + 1) 3 1 vo op.length (opC op)

theorem own_slice {w : World} {base : Nat} {e : TypeId} {size : Nat} {v : Value} {n : Nat} {xs : List Value} (h : w.ownsRow base e size v n xs) :
    ∃ a cap, v = .slice a n cap ∧ n ≤ cap ∧ (0 < n → ∃ g, a = some ⟨g, 0, none⟩) := by
  rcases h.2 with ⟨rfl, rfl⟩ | ⟨g, cap, cur, rfl, _, _, hc, _⟩
  · exact ⟨none, 0, rfl, Nat.le_refl _, fun h => by omega⟩
  · exact ⟨_, cap, rfl, hc, fun _ => ⟨g, rfl⟩⟩

/-- Two rows of different types lie apart. -/
theorem own_apart {w : World} {base base' : Nat} {e e' : TypeId} {size size' : Nat} {v v' : Value} {n n' : Nat} {xs xs' : List Value} (h : w.ownsRow base e size v n xs) (h' : w.ownsRow base' e' size' v' n' xs') (hne : e ≠ e') :
    v.ownBlock = none ∨ v.ownBlock ≠ v'.ownBlock := by
  rcases h.2 with ⟨rfl, rfl⟩ | ⟨g, cap, cur, rfl, _, hg, _⟩
  · exact .inl rfl
  · rcases h'.2 with ⟨rfl, rfl⟩ | ⟨g', cap', cur', rfl, _, hg', _⟩
    · right; simp [Value.ownBlock]
    · right
      simp only [Value.ownBlock, ne_eq, Option.some.injEq]
      intro e0
      subst e0
      rw [hg] at hg'
      simp at hg'
      exact hne hg'.2

theorem own_base {w : World} {base : Nat} {e : TypeId} {size : Nat} {v : Value} {n : Nat} {xs : List Value} (h : w.ownsRow base e size v n xs) {k : Nat} (hk : k < base) : some k ≠ v.ownBlock := by
  intro e0
  have := (h.lt k e0.symm).1
  omega
theorem own_ne {w : World} {base : Nat} {e : TypeId} {size : Nat} {v : Value} {n : Nat} {xs : List Value} (h : w.ownsRow base e size v n xs) {k : Nat} (hk : k < base) : v.ownBlock = none ∨ v.ownBlock ≠ some k :=
  .inr fun e0 => own_base h hk e0.symm

theorem below_of_grown {w w' : World} {r : Option Nat} {B : Nat} (h : w.grownBy w' r) (hB : B ≤ w.heap.size) (hr : ∀ k, r = some k → B ≤ k) : Below B w w' := (Below.refl _ _).grown h hB hr

section
variable {w : World} {R : Nat} {t : ByteArray} {a : Nat} {bad : Bool} {ss : List St} {op : List Nat} {deep : Int}
/-- What turns the reader's own block alone turns no list. -/
theorem own_keepR {w' : World} {e : TypeId} {size : Nat} {v : Value} {n : Nat} {xs : List Value} (h : w.ownsRow (R + 1) e size v n xs) (hg : w.grownBy w' (some R)) : w'.ownsRow (R + 1) e size v n xs :=
  h.kept hg (own_ne h (by omega))
end

def openA (t : ByteArray) (a : Nat) (bad : Bool) : Nat := if fitsM t a bad 40 40 then a + 1 else a
def openB (t : ByteArray) (a : Nat) (bad : Bool) : Bool := !fitsM t a bad 40 40
def openO (t : ByteArray) (a : Nat) (bad : Bool) (n : Nat) (op : List Nat) : List Nat := if fitsM t a bad 40 40 then op ++ [n - 1] else op
def openD (t : ByteArray) (a : Nat) (bad : Bool) (n : Nat) (deep : Int) : Int := if fitsM t a bad 40 40 ∧ 5 ≤ n ∧ deep < 0 then a else deep

set_option maxHeartbeats 4000000 in
theorem openBlock_any (R : Nat) (t : ByteArray) (a : Nat) (bad : Bool) (ss : List St) (op : List Nat) (deep : Int) (w : World) (h : RA w R t a bad ss op deep) (hs : t.size ≤ 120) (ha : a ≤ 800)
    (hss : 0 < ss.length) (hsl : ss.length ≤ 1000) (hol : op.length ≤ 1000) :
    Calls Try.prog 105 #[.pointer (some ⟨R, 0, none⟩)] w fun e w' => e = .returned (.tuple #[]) ∧ RA w' R t (openA t a bad) (openB t a bad) ss (openO t a bad ss.length op) (openD t a bad op.length deep) ∧ Below R w w' := by
  obtain ⟨vs, vo, hRB, hSo, hOo⟩ := h
  have hRlt : R < w.heap.size := cell_lt hRB
  have c1 := hRB.c1
  have HRB := hide hRB
  have HSo := hide hSo
  have HOo := hide hOo
  clear hRB hSo hOo
  cases hf : fitsM t a bad 40 40
  · have e1 : openA t a bad = a := by simp [openA, hf]
    have e2 : openB t a bad = true := by simp [openB, hf]
    have e3 : openO t a bad ss.length op = op := by simp [openO, hf]
    have e4 : openD t a bad op.length deep = deep := by simp [openD, hf]
    rw [e1, e2, e3, e4]
    have t1 : takeA t a bad 40 40 = a := by simp [takeA, hf]
    have t2 : takeB t a bad 40 40 = true := by simp [takeB, hf]
    have T := hide (And.intro t1 t2)
    clear e1 e2 e3 e4 t1 t2 hf
    go_enter Try.func105, Try.ntmps105
    go_wp2_with fail
    refine (take_any R t a bad vs vo deep 40 40 _ (unhide HRB) hs (by omega) (by omega)).mono ?_
    rintro e w1 ⟨rfl, h1, g1⟩
    rw [(unhide T).1, (unhide T).2] at h1
    have H1 := hide h1
    have G1 := hide g1
    have c2 := h1.c2
    clear h1 g1 c1
    go_wp2_with fail
    refine bodyPost_ret (v := .tuple #[]) (by simp [results, Try.results105, go_sem]) rfl ?_
    refine ⟨rfl, ⟨vs, vo, unhide H1, own_keepR (unhide HSo) (unhide G1), own_keepR (unhide HOo) (unhide G1)⟩, below_of_grown (unhide G1) (by omega) (fun k hk => by simp at hk; omega)⟩
  · have e1 : openA t a bad = a + 1 := by simp [openA, hf]
    have e2 : openB t a bad = false := by simp [openB, hf]
    have e3 : openO t a bad ss.length op = op ++ [ss.length - 1] := by simp [openO, hf]
    have e4 : openD t a bad op.length deep = if 5 ≤ op.length ∧ deep < 0 then (a : Int) else deep := by simp [openD, hf]
    rw [e1, e2, e3, e4]
    have t1 : takeA t a bad 40 40 = a + 1 := by simp [takeA, hf]
    have t2 : takeB t a bad 40 40 = false := by simp [takeB, hf]
    have T := hide (And.intro t1 t2)
    clear e1 e2 e3 e4 t1 t2 hf
    obtain ⟨ao, ocap, rfl, hoc, hoa⟩ := own_slice (unhide HOo)
    obtain ⟨sa, scap, rfl, hsc, hsa⟩ := own_slice (unhide HSo)
    obtain ⟨i0, hi, hz0, hz1, hz2⟩ := info_parts infoInt
    go_enter Try.func105, Try.ntmps105
    go_wp2_with fail
    refine (take_any R t a bad _ _ deep 40 40 _ (unhide HRB) hs (by omega) (by omega)).mono ?_
    rintro e w1 ⟨rfl, h1, g1⟩
    rw [(unhide T).1, (unhide T).2] at h1
    have H1 := hide h1
    have HB1 := hide (below_of_grown (B := R) g1 (by omega) (fun k hk => by simp at hk; omega))
    have hSo1 := own_keepR (unhide HSo) g1
    have hOo1 := own_keepR (unhide HOo) g1
    have HS1 := hide hSo1
    have HO1 := hide hOo1
    have hz1' : R < w1.heap.size := cell_lt h1
    have c2 := h1.c2
    have c3 := h1.c3
    have c4 := h1.c4
    have f4 := h1.fr 4
    have hwr : IntKind.i64.wrap ((ss.length : Int) - 1) = (ss.length : Int) - 1 := wrap_small (by omega) (by omega)
    clear h1 g1 hSo1 hOo1 c1 HSo HOo HRB hoa hsa
    go_wp2_with fail
    go_region_law (refine step_append_own rfl (.tmp 17) (.tmp 24) 22 rfl (R + 1) 3 i0 (.int .i64 0) 1 8 Try.underlying22 hi hz0 hz1 hz2 rfl (by decide) (.slice ao op.length ocap) op.length (opC op) (by simp [Act.eval, Act.put]) (by exact World.ownsRow.alloc (World.ownsRow.drew (unhide HO1)) _) ⟨w1.heap.size, 0, none⟩ 1 1 [.int .i64 ((ss.length : Int) - 1)] (by simp [Act.eval, Act.put]) rfl (by intro j u hj; match j, hj with | 0, hj => simp at hj; subst hj; simp [Addr.add]) (by intro u hu; simp at hu; subst hu; rfl) (by unfold maxLen; omega) (by omega) (by simp; omega) ?_; intro v' w2 hown hgrow; have hR2 := RB.via (unhide H1) hgrow (own_base (unhide HO1) (Nat.lt_succ_self _)) (by exact Go.heap_alloc_old _ _ hz1'); have f4' := hR2.fr 4; have c4' := hR2.c4; obtain ⟨a2, cap2, rfl, hle2, _⟩ := own_slice hown)
    all_goals
      have hS2 := World.ownsRow.kept (World.ownsRow.alloc (unhide HS1) _) (grown_undrew hgrow) (own_apart (unhide HS1) (unhide HO1) (by decide))
      have hB2 := (unhide HB1).trans (((Below.refl _ w1).alloc (by omega) _).trans (below_of_grown (B := R) (grown_undrew hgrow) (by simp; omega) (fun k hk => by have := (unhide HO1).lt k hk; omega)))
      have HS2 := hide hS2
      have HB2 := hide hB2
      have HR2 := hide hR2
      have HOWN := hide hown
      have c5' := hR2.c5
      have f5' := hR2.fr 5
      clear hS2 hB2 hR2 hown hgrow HS1 HO1 H1 HB1 hi hz0 hz1 hz2 c2 c3 c4 f4 hwr
      by_cases h5 : 5 ≤ op.length
      · by_cases hdp : deep < 0
        · go_wp2_with fail
          go_end0
          refine ⟨rfl, ⟨_, _, ((unhide HR2).s4 _).s5 a, ?_, ?_⟩, ?_⟩
          · exact own_keepR (unhide HS2) (grown_set (grown_set (grown_refl _ _) 4 _) 5 _)
          · refine own_keepR ?_ (grown_set (grown_set (grown_refl _ _) 4 _) 5 _)
            rw [opC_snoc _ _ hss]
            simpa using unhide HOWN
          · exact ((unhide HB2).setCell (p := ⟨R, 4, none⟩) (Nat.le_refl _) _).setCell (p := ⟨R, 5, none⟩) (Nat.le_refl _) _
        · go_wp2_with fail
          go_end0
          refine ⟨rfl, ⟨_, _, (unhide HR2).s4 _, ?_, ?_⟩, ?_⟩
          · exact own_keepR (unhide HS2) (grown_set (grown_refl _ _) 4 _)
          · refine own_keepR ?_ (grown_set (grown_refl _ _) 4 _)
            rw [opC_snoc _ _ hss]
            simpa using unhide HOWN
          · exact (unhide HB2).setCell (p := ⟨R, 4, none⟩) (Nat.le_refl _) _
      · go_wp2_with fail
        go_end0
        refine ⟨rfl, ⟨_, _, (unhide HR2).s4 _, ?_, ?_⟩, ?_⟩
        · exact own_keepR (unhide HS2) (grown_set (grown_refl _ _) 4 _)
        · refine own_keepR ?_ (grown_set (grown_refl _ _) 4 _)
          rw [opC_snoc _ _ hss]
          simpa using unhide HOWN
        · exact (unhide HB2).setCell (p := ⟨R, 4, none⟩) (Nat.le_refl _) _

set_option maxHeartbeats 4000000 in
theorem leaveOut_any (R : Nat) (t : ByteArray) (a : Nat) (bad : Bool) (ss : List St) (op : List Nat) (deep : Int) (o : Nat) (w : World) (h : RA w R t a bad ss op deep) (ho : o < ss.length) (hsl : ss.length ≤ 1000) :
    Calls Try.prog 111 #[.pointer (some ⟨R, 0, none⟩), .int .i64 o] w fun e w' => e = .returned (.tuple #[]) ∧ RA w' R t a bad (leaveM ss o) op deep ∧ Below R w w' := by
  obtain ⟨vs, vo, hRB, hSo, hOo⟩ := h
  have hRlt : R < w.heap.size := cell_lt hRB
  obtain ⟨sa, scap, rfl, hsc, hsa⟩ := own_slice hSo
  obtain ⟨g, rfl⟩ := hsa (by omega)
  have hgR : R + 1 ≤ g := (hSo.lt g rfl).1
  have c3 := hRB.c3
  have hcell : ∃ u, w.cell? ⟨g, o * 12 + 11, none⟩ = some u := by
    rw [hSo.cellAt _ (by omega)]
    exact ⟨_, List.getElem?_eq_getElem (by rw [flat_len]; omega)⟩
  obtain ⟨u, hcell⟩ := hcell
  have hfr := hSo.frozenAt (o * 12 + 11)
  have HRB := hide hRB
  have HSo := hide hSo
  have HOo := hide hOo
  clear hRB hSo hOo hsa
  go_enter Try.func111, Try.ntmps111
  go_wp2_with fail
  go_region
  go_end0
  have hst := (unhide HSo).stored (o * 12 + 11) (.int .i64 ((ss.length : Int) - 1 - o))
  have hap := own_apart (unhide HOo) (unhide HSo) (by decide)
  refine ⟨rfl, ⟨.slice (some ⟨g, 0, none⟩) ss.length scap, vo, ?_, ?_, ?_⟩, ?_⟩
  · exact (unhide HRB).grown (grown_drewN hst.2 1) (by simp; omega)
  · have := hst.1
    rw [← flat_modify _ _ _ ho] at this
    have hl : (leaveM ss o).length = ss.length := by simp [leaveM]
    rw [hl]
    exact this
  · exact (unhide HOo).kept (grown_drewN hst.2 1) hap
  · exact below_of_grown (grown_drewN hst.2 1) (by omega) (fun k hk => by simp at hk; omega)
end Go.Proofs.Ytmdjdpofpkgffab

/- split's closeBlock. -/
namespace Go.Proofs.Ytmdjdpofpkgffab
open Go.ChangeShapes Go.WideShapes Go.ChangeAt Go.RowKit
open Split (byt dig buc digM bucM riseB riseM risM headM byt_lt byt_ge dig_t dig_f buc_t buc_f numM St stE stJ)
set_option linter.unusedVariables false
set_option linter.unusedSimpArgs false
set_option maxRecDepth 4000

theorem flat_kind : ∀ (ss : List St) (o : Nat) (h : o < ss.length), (flat ss)[o * 12]? = some (.int .u8 (ss[o]).kind)
  | [], o, h => by simp at h
  | s :: ss, 0, h => by
    show (stC s ++ flat ss)[0 * 12]? = _
    rw [List.getElem?_append_left (by rw [stC_len]; omega)]
    rfl
  | s :: ss, o + 1, h => by
    show (stC s ++ flat ss)[(o + 1) * 12]? = _
    rw [List.getElem?_append_right (by rw [stC_len]; omega), stC_len, show (o + 1) * 12 - 12 = o * 12 by omega, flat_kind ss o (by simpa using h)]
    rfl

theorem close_none (R : Nat) (t : ByteArray) (a : Nat) (bad : Bool) (ss : List St) (deep : Int) (w : World) (h : RA w R t a bad ss [] deep) :
    Calls Try.prog 99 #[.pointer (some ⟨R, 0, none⟩)] w fun e w' => e = .returned (.tuple #[]) ∧ RA w' R t a true ss [] deep ∧ Below R w w' := by
  obtain ⟨vs, vo, hRB, hSo, hOo⟩ := h
  have hRlt : R < w.heap.size := cell_lt hRB
  obtain ⟨oa, ocap, rfl, hoc, _⟩ := own_slice hOo
  have c4 := hRB.c4
  have c2 := hRB.c2
  have f2 := hRB.fr 2
  have HRB := hide hRB
  have HSo := hide hSo
  have HOo := hide hOo
  clear hRB hSo hOo
  go_enter Try.func99, Try.ntmps99
  go_wp2_with fail
  refine bodyPost_ret (v := .tuple #[]) (by simp [results, Try.results99, go_sem]) rfl ?_
  refine ⟨rfl, ⟨vs, _, (unhide HRB).s2 true, own_keepR (unhide HSo) (grown_set (grown_refl _ _) 2 _), own_keepR (unhide HOo) (grown_set (grown_refl _ _) 2 _)⟩, (Below.refl _ _).setCell (p := ⟨R, 2, none⟩) (Nat.le_refl _) _⟩

/-- What closeBlock finds: the lists' heads and the cells that it reads. -/
theorem close_view {w : World} {R : Nat} {t : ByteArray} {a : Nat} {bad : Bool} {ss : List St} {op : List Nat} {o : Nat} {deep : Int} (h : RA w R t a bad ss (op ++ [o]) deep) (ho : o < ss.length) :
    ∃ gs scap go ocap, RB w R t a bad (.slice (some ⟨gs, 0, none⟩) ss.length scap) (.slice (some ⟨go, 0, none⟩) (op.length + 1) ocap) deep ∧
      w.ownsRow (R + 1) 110 12 (.slice (some ⟨gs, 0, none⟩) ss.length scap) ss.length (flat ss) ∧
      w.ownsRow (R + 1) 3 1 (.slice (some ⟨go, 0, none⟩) op.length ocap) op.length (opC op) ∧
      R + 1 ≤ gs ∧ R + 1 ≤ go ∧ op.length + 1 ≤ ocap ∧ ss.length ≤ scap ∧
      w.cell? ⟨go, op.length, none⟩ = some (.int .i64 (o : Nat)) ∧ w.cell? ⟨gs, o * 12, none⟩ = some (.int .u8 (ss[o]).kind) := by
  obtain ⟨vs, vo, hRB, hSo, hOo⟩ := h
  obtain ⟨sa, scap, rfl, hsc, hsa⟩ := own_slice hSo
  obtain ⟨gs, rfl⟩ := hsa (by omega)
  obtain ⟨oa, ocap, rfl, hoc, hoa⟩ := own_slice hOo
  obtain ⟨go, rfl⟩ := hoa (by simp)
  have hl : (op ++ [o]).length = op.length + 1 := by simp
  have hop : opC (op ++ [o]) = opC op ++ [.int .i64 (o : Nat)] := by simp [opC]
  rw [hl] at hOo hRB hoc
  rw [hop] at hOo
  refine ⟨gs, scap, go, ocap, hRB, hSo, ownsRow_pop (by simp [opC]) hOo, (hSo.lt gs rfl).1, (hOo.lt go rfl).1, hoc, hsc, ?_, ?_⟩
  · rw [hOo.cellAt _ (by omega), List.getElem?_append_right (by simp [opC])]
    simp [opC]
  · rw [hSo.cellAt _ (by omega), flat_kind ss o ho]

set_option maxHeartbeats 4000000 in
theorem close_J (R : Nat) (t : ByteArray) (a : Nat) (bad : Bool) (ss : List St) (op : List Nat) (o : Nat) (deep : Int) (w : World) (h : RA w R t a bad ss (op ++ [o]) deep) (ha : a ≤ 800) (ho : o < ss.length) (hsl : ss.length ≤ 1000) (hol : op.length ≤ 1000) (hk : (ss[o]).kind = 74) :
    Calls Try.prog 99 #[.pointer (some ⟨R, 0, none⟩)] w fun e w' => e = .returned (.tuple #[]) ∧ RA w' R t (a + 1) bad (leaveM ss o) op deep ∧ Below R w w' := by
  obtain ⟨gs, scap, go, ocap, hRB, hSo, hOo, hgs, hgo, hoc, hsc, hco, hcs⟩ := close_view h ho
  rw [hk] at hcs
  clear h hk
  have hRlt : R < w.heap.size := cell_lt hRB
  have c1 := hRB.c1
  have c3 := hRB.c3
  have c4 := hRB.c4
  have f1 := hRB.fr 1
  have f4 := hRB.fr 4
  have HRB := hide hRB
  have HSo := hide hSo
  have HOo := hide hOo
  clear hRB hSo hOo
  go_enter Try.func99, Try.ntmps99
  go_wp2_with fail
  refine (leaveOut_any R t (a + 1) bad ss op deep o _ ⟨_, _, ((unhide HRB).s1 (a + 1)).s4 _, own_keepR (unhide HSo) (grown_set (grown_set (grown_refl _ _) 1 _) 4 _), own_keepR (unhide HOo) (grown_set (grown_set (grown_refl _ _) 1 _) 4 _)⟩ ho hsl).mono ?_
  rintro e w1 ⟨rfl, h1, b1⟩
  have H1 := hide h1
  have B1 := hide b1
  clear h1 b1
  go_wp2_with fail
  go_end0
  exact ⟨rfl, unhide H1, (((Below.refl _ _).setCell (p := ⟨R, 1, none⟩) (Nat.le_refl _) _).setCell (p := ⟨R, 4, none⟩) (Nat.le_refl _) _).trans (unhide B1)⟩

theorem alloc_at {W : World} {o o' : Obj} {n : Nat} (hn : W.heap.size = n) (ho : o = o') : (W.alloc o).heap[n]? = some o' := by
  subst hn
  subst ho
  exact heap_alloc_new _ _

theorem stC_one (s : St) : ∀ u ∈ stC s, u.oneCell' = true := by
  intro u hu
  simp [stC] at hu
  rcases hu with rfl | rfl | rfl | ⟨k, _, rfl⟩ | rfl <;> rfl

/-- The cells of a new step, in a block of its own. -/
theorem news_cells {W : World} {g : Nat} {s : St} (h : W.heap[g]? = some (.cells (stC s).toArray 110 (0, 0))) : ∀ j u, (stC s)[j]? = some u → W.cell? ((⟨g, 0, none⟩ : Addr).add j) = some u := by
  intro j u hj
  rw [add_plain, Nat.zero_add, cell_of_row W g j _ _ _ h]
  simpa using hj

/-- A step is appended, and the list laid into the reader again. -/
theorem RA_append {W0 w1 : World} {R : Nat} {t : ByteArray} {a : Nat} {bad : Bool} {ss : List St} {op : List Nat} {deep : Int} {vs vo v' : Value} {s : St} {o : Obj}
    (hRB : RB W0 R t a bad vs vo deep) (hS : W0.ownsRow (R + 1) 110 12 vs ss.length (flat ss)) (hO : W0.ownsRow (R + 1) 3 1 vo op.length (opC op))
    (hown : w1.ownsRow (R + 1) 110 12 v' (ss.length + 1) (flat ss ++ stC s)) (hgrow : (W0.alloc o).grownBy w1 vs.ownBlock) :
    RA (w1.setCell ⟨R, 3, none⟩ v') R t a bad (ss ++ [s]) op deep ∧ Below R W0 (w1.setCell ⟨R, 3, none⟩ v') := by
  have hRlt : R < W0.heap.size := cell_lt hRB
  have hR1 : RB w1 R t a bad vs vo deep := RB.via hRB hgrow (own_base hS (Nat.lt_succ_self _)) (Go.heap_alloc_old _ _ hRlt)
  have hO1 := (World.ownsRow.alloc hO o).kept hgrow (own_apart hO hS (by decide))
  refine ⟨⟨v', vo, hR1.s3 v', ?_, own_keepR hO1 (grown_set (grown_refl _ _) 3 _)⟩, ?_⟩
  · rw [flat_snoc, List.length_append]
    exact own_keepR hown (grown_set (grown_refl _ _) 3 _)
  · have hb : Below R W0 w1 := ((Below.refl _ _).alloc (by omega) _).trans (below_of_grown hgrow (by simp; omega) (fun k hk => by have := (hS.lt k hk).1; omega))
    exact hb.setCell (p := ⟨R, 3, none⟩) (Nat.le_refl _) _

set_option maxHeartbeats 4000000 in
theorem close_H (R : Nat) (t : ByteArray) (a : Nat) (bad : Bool) (ss : List St) (op : List Nat) (o : Nat) (deep : Int) (w : World) (h : RA w R t a bad ss (op ++ [o]) deep) (ha : a ≤ 800) (ho : o < ss.length) (hsl : ss.length ≤ 1000) (hol : op.length ≤ 1000) (hk : (ss[o]).kind = 72) :
    Calls Try.prog 99 #[.pointer (some ⟨R, 0, none⟩)] w fun e w' => e = .returned (.tuple #[]) ∧ RA w' R t (a + 1) bad (ss ++ [stE]) op deep ∧ Below R w w' := by
  obtain ⟨gs, scap, go, ocap, hRB, hSo, hOo, hgs, hgo, hoc, hsc, hco, hcs⟩ := close_view h ho
  rw [hk] at hcs
  clear h hk
  obtain ⟨i0, hi, hz0, hz1, hz2⟩ := info_parts infoStep
  have hRlt : R < w.heap.size := cell_lt hRB
  have c1 := hRB.c1
  have c3 := hRB.c3
  have c4 := hRB.c4
  have f1 := hRB.fr 1
  have f4 := hRB.fr 4
  have HRB := hide hRB
  have HSo := hide hSo
  have HOo := hide hOo
  clear hRB hSo hOo
  go_enter Try.func99, Try.ntmps99
  go_wp2_with (at_builtin; refine wpList_append_own _ rfl (.tmp 52) (.tmp 54) 63 rfl (R + 1) 110 i0 _ 12 40 Try.underlying63 hi hz0 hz1 hz2 rfl (by decide) _ ss.length (flat ss) rfl (by exact World.ownsRow.alloc (own_keepR (unhide HSo) (grown_set (grown_set (grown_refl _ _) 1 _) 4 _)) _) ⟨w.heap.size, 0, none⟩ 1 1 (stC stE) rfl rfl (news_cells (alloc_at (by simp [World.setCell]) rfl)) (stC_one _) (by unfold maxLen; omega) (by omega) (by simp; omega) ?_; intro v' w1 hown hgrow _; have hR1 := RB.via (((unhide HRB).s1 (a + 1)).s4 (.slice (some ⟨go, 0, none⟩) op.length ocap)) hgrow (own_base (unhide HSo) (Nat.lt_succ_self _)) (by exact Go.heap_alloc_old _ _ (by simpa [World.setCell] using hRlt)); have c3' := hR1.c3; have f3' := hR1.fr 3; obtain ⟨a2, cap2, rfl, hle2, _⟩ := own_slice hown)
  go_end0
  have := RA_append (((unhide HRB).s1 (a + 1)).s4 (.slice (some ⟨go, 0, none⟩) op.length ocap)) (own_keepR (unhide HSo) (grown_set (grown_set (grown_refl _ _) 1 _) 4 _)) (own_keepR (unhide HOo) (grown_set (grown_set (grown_refl _ _) 1 _) 4 _)) hown hgrow
  exact ⟨rfl, this.1, (((Below.refl _ _).setCell (p := ⟨R, 1, none⟩) (Nat.le_refl _) _).setCell (p := ⟨R, 4, none⟩) (Nat.le_refl _) _).trans this.2⟩

/-- Behind the first block of I: J stands, I leaves it out, and the second block opens. -/
def closeI (ss : List St) (o : Nat) : List St := leaveM (ss ++ [stJ 0]) o

set_option maxHeartbeats 4000000 in
theorem close_I (R : Nat) (t : ByteArray) (a : Nat) (bad : Bool) (ss : List St) (op : List Nat) (o : Nat) (deep : Int) (w : World) (h : RA w R t a bad ss (op ++ [o]) deep) (hs : t.size ≤ 120) (ha : a ≤ 700) (ho : o < ss.length) (hsl : ss.length ≤ 900) (hol : op.length ≤ 900) (hk : (ss[o]).kind = 73) :
    Calls Try.prog 99 #[.pointer (some ⟨R, 0, none⟩)] w fun e w' => e = .returned (.tuple #[]) ∧ RA w' R t (openA t (a + 1) bad) (openB t (a + 1) bad) (closeI ss o) (openO t (a + 1) bad (ss.length + 1) op) (openD t (a + 1) bad op.length deep) ∧ Below R w w' := by
  obtain ⟨gs, scap, go, ocap, hRB, hSo, hOo, hgs, hgo, hoc, hsc, hco, hcs⟩ := close_view h ho
  rw [hk] at hcs
  clear h hk
  obtain ⟨i0, hi, hz0, hz1, hz2⟩ := info_parts infoStep
  have hRlt : R < w.heap.size := cell_lt hRB
  have c1 := hRB.c1
  have c3 := hRB.c3
  have c4 := hRB.c4
  have f1 := hRB.fr 1
  have f4 := hRB.fr 4
  have HRB := hide hRB
  have HSo := hide hSo
  have HOo := hide hOo
  clear hRB hSo hOo
  go_enter Try.func99, Try.ntmps99
  go_wp2_with (at_builtin; refine wpList_append_own _ rfl (.tmp 64) (.tmp 66) 63 rfl (R + 1) 110 i0 _ 12 40 Try.underlying63 hi hz0 hz1 hz2 rfl (by decide) _ ss.length (flat ss) rfl (by exact World.ownsRow.alloc (own_keepR (unhide HSo) (grown_set (grown_set (grown_refl _ _) 1 _) 4 _)) _) ⟨w.heap.size, 0, none⟩ 1 1 (stC (stJ 0)) rfl rfl (news_cells (alloc_at (by simp [World.setCell]) rfl)) (stC_one _) (by unfold maxLen; omega) (by omega) (by simp; omega) ?_; intro v' w1 hown hgrow _; have hR1 := RB.via (((unhide HRB).s1 (a + 1)).s4 (.slice (some ⟨go, 0, none⟩) op.length ocap)) hgrow (own_base (unhide HSo) (Nat.lt_succ_self _)) (by exact Go.heap_alloc_old _ _ (by simpa [World.setCell] using hRlt)); have c3' := hR1.c3; have f3' := hR1.fr 3; obtain ⟨a2, cap2, rfl, hle2, _⟩ := own_slice hown)
  have hA := RA_append (((unhide HRB).s1 (a + 1)).s4 (.slice (some ⟨go, 0, none⟩) op.length ocap)) (own_keepR (unhide HSo) (grown_set (grown_set (grown_refl _ _) 1 _) 4 _)) (own_keepR (unhide HOo) (grown_set (grown_set (grown_refl _ _) 1 _) 4 _)) hown hgrow
  have HA := hide hA
  clear hA hown hgrow hR1 c3' f3' c1 c3 c4 f1 f4 hi hz0 hz1 hz2
  refine (leaveOut_any R t (a + 1) bad (ss ++ [stJ 0]) op deep o _ (unhide HA).1 (by simp; omega) (by simp; omega)).mono ?_
  rintro e w2 ⟨rfl, h2, b2⟩
  have H2 := hide h2
  have B2 := hide b2
  clear h2 b2
  go_wp2_with fail
  refine (openBlock_any R t (a + 1) bad (closeI ss o) op deep _ (unhide H2) hs (by omega) (by simp [closeI, leaveM]) (by simp [closeI, leaveM]; omega) (by omega)).mono ?_
  rintro e w3 ⟨rfl, h3, b3⟩
  have hl : (closeI ss o).length = ss.length + 1 := by simp [closeI, leaveM]
  rw [hl] at h3
  have H3 := hide h3
  have B3 := hide b3
  clear h3 b3 hl
  go_wp2_with fail
  go_end0
  exact ⟨rfl, unhide H3, ((((Below.refl _ _).setCell (p := ⟨R, 1, none⟩) (Nat.le_refl _) _).setCell (p := ⟨R, 4, none⟩) (Nat.le_refl _) _).trans (unhide HA).2).trans ((unhide B2).trans (unhide B3))⟩
end Go.Proofs.Ytmdjdpofpkgffab
