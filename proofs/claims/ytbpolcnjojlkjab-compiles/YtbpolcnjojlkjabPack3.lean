/- Reader2 -/
import Derived.Test.YtbpolcnjojlkjabPack2

/- split's readNumber, readHundredths, readRising. -/
namespace Go.Proofs.Ytbpolcnjojlkjab
open Go.ChangeShapes Go.WideShapes Go.ChangeAt Go.RowKit
open Split (byt dig buc digM bucM riseB riseM risM headM byt_lt byt_ge dig_t dig_f buc_t buc_f numM)
set_option linter.unusedVariables false
set_option linter.unusedSimpArgs false

/-- Behind k digits: the place, whether one was missing, the number. -/
structure Nm where
  a : Nat
  b : Bool
  n : Int

def nmM (t : ByteArray) (a : Nat) (bad : Bool) : Nat → Nm
  | 0 => ⟨a, bad, 0⟩
  | k + 1 => ⟨takeA t (nmM t a bad k).a (nmM t a bad k).b 48 57, takeB t (nmM t a bad k).a (nmM t a bad k).b 48 57, 10 * (nmM t a bad k).n + (takeV t (nmM t a bad k).a (nmM t a bad k).b 48 57 - 48)⟩

theorem nmM_bd (t : ByteArray) (a : Nat) (bad : Bool) : ∀ k, a ≤ (nmM t a bad k).a ∧ (nmM t a bad k).a ≤ a + k ∧ 0 ≤ (nmM t a bad k).n ∧ (nmM t a bad k).n < 10 ^ k
  | 0 => by simp [nmM]
  | k + 1 => by
    have h := nmM_bd t a bad k
    have h1 := takeA_bd t (nmM t a bad k).a (nmM t a bad k).b 48 57
    have h2 := takeV_bd t (nmM t a bad k).a (nmM t a bad k).b 48 57 (by omega)
    simp only [nmM]
    have e : (10 : Int) ^ (k + 1) = 10 * 10 ^ k := by rw [Int.pow_succ, Int.mul_comm]
    rw [e]
    generalize (10 : Int) ^ k = p at *
    omega

set_option maxHeartbeats 2000000 in
theorem readNumber_any (R : Nat) (t : ByteArray) (a : Nat) (bad : Bool) (vs vo : Value) (deep : Int) (w : World) (h : RB w R t a bad vs vo deep) (hs : t.size ≤ 120) (ha : a ≤ 800) :
    Calls Try.prog 63 #[.pointer (some ⟨R, 0, none⟩)] w fun e w' => e = .returned (.int .i64 (nmM t a bad 4).n) ∧ RB w' R t (nmM t a bad 4).a (nmM t a bad 4).b vs vo deep ∧ w.grownBy w' (some R) := by
  have H := hide h
  clear h
  go_enter Try.func63, Try.ntmps63
  go_wp2_with fail
  go_loopw [3, 4] (fun nn ii wr => ∃ k : Nat, k ≤ 4 ∧ ii = .int .i64 k ∧ nn = .int .i64 (nmM t a bad k).n ∧ Hid (RB wr R t (nmM t a bad k).a (nmM t a bad k).b vs vo deep) ∧ Hid (w.grownBy wr (some R))) (fun _ ii _ => 4 - (intOf ii).toNat)
  case atStart => exact ⟨0, by omega, rfl, rfl, H, grown_refl _ _⟩
  case round =>
    obtain ⟨k, hk, rfl, rfl, hb, hg⟩ := hrel
    by_cases hlt : k < 4
    · obtain ⟨m, hm⟩ : ∃ m, nmM t a bad k = m := ⟨_, rfl⟩
      have hbd := nmM_bd t a bad k
      have h10 : (10 : Int) ^ k ≤ 1000 := by
        match k, hlt with
        | 0, _ => decide
        | 1, _ => decide
        | 2, _ => decide
        | 3, _ => decide
      have hn : nmM t a bad (k + 1) = ⟨takeA t m.a m.b 48 57, takeB t m.a m.b 48 57, 10 * m.n + (takeV t m.a m.b 48 57 - 48)⟩ := by simp only [nmM, hm]
      have HN := hide hn
      rw [hm] at hb hbd ⊢
      clear hn hm
      have hv := takeV_bd t m.a m.b 48 57 (by omega)
      have hb1 := hbd.2.1
      have hb2 := hbd.2.2.1
      have hb3 : m.n ≤ 1000 := by have := hbd.2.2.2; omega
      clear hbd h10
      go_wp2_with fail
      refine (take_any R t m.a m.b vs vo deep 48 57 _ (unhide hb) hs (by omega) (by omega)).mono ?_
      rintro e w1 ⟨rfl, h1, h2⟩
      have H1 := hide h1
      have H2 := hide h2
      clear h1 h2
      obtain ⟨v, hve⟩ : ∃ v, takeV t m.a m.b 48 57 = v := ⟨_, rfl⟩
      have HV := hide hve
      rw [hve] at hv ⊢
      clear hve
      obtain ⟨x, hx⟩ : ∃ x, m.n = x := ⟨_, rfl⟩
      have HX := hide hx
      rw [hx] at hb2 hb3 ⊢
      clear hx
      go_wp2_with fail
      go_roundw
      case rel =>
        refine ⟨k + 1, by omega, by go_num, ?_, ?_, grown_trans (unhide hg) (unhide H2)⟩
        · rw [unhide HN, unhide HV]
          dsimp only
          rw [unhide HX]
        · rw [unhide HN]; exact unhide H1
      case measure => simp [intOf]; omega
    · have : k = 4 := by omega
      subst this
      go_wp2_with fail
      go_ret
      exact ⟨rfl, unhide hb, unhide hg⟩

/-- The hundredths: the second digit is none but 1 to 9 where the first one is 0. -/
def hunV1 (t : ByteArray) (a : Nat) (bad : Bool) : Int := takeV t a bad 48 57
def hunLo (t : ByteArray) (a : Nat) (bad : Bool) : Int := if hunV1 t a bad = 48 then 49 else 48
def hunM (t : ByteArray) (a : Nat) (bad : Bool) : Nm :=
  ⟨takeA t (takeA t a bad 48 57) (takeB t a bad 48 57) (hunLo t a bad) 57, takeB t (takeA t a bad 48 57) (takeB t a bad 48 57) (hunLo t a bad) 57,
   10 * (hunV1 t a bad - 48) + (takeV t (takeA t a bad 48 57) (takeB t a bad 48 57) (hunLo t a bad) 57 - 48)⟩

set_option maxHeartbeats 2000000 in
theorem readHundredths_any (R : Nat) (t : ByteArray) (a : Nat) (bad : Bool) (vs vo : Value) (deep : Int) (w : World) (h : RB w R t a bad vs vo deep) (hs : t.size ≤ 120) (ha : a ≤ 800) :
    Calls Try.prog 65 #[.pointer (some ⟨R, 0, none⟩)] w fun e w' => e = .returned (.int .i64 (hunM t a bad).n) ∧ RB w' R t (hunM t a bad).a (hunM t a bad).b vs vo deep ∧ w.grownBy w' (some R) := by
  have ha1 := takeA_bd t a bad 48 57
  have hv1 := takeV_bd t a bad 48 57 (by omega)
  obtain ⟨v1, e1⟩ : ∃ v, takeV t a bad 48 57 = v := ⟨_, rfl⟩
  have E1 := hide e1
  rw [e1] at hv1
  clear e1
  by_cases h48 : v1 = 48
  · have hlo : hunLo t a bad = 49 := by simp [hunLo, hunV1, unhide E1, h48]
    have hv2 := takeV_bd t (takeA t a bad 48 57) (takeB t a bad 48 57) 49 57 (by omega)
    obtain ⟨v2, e2⟩ : ∃ v, takeV t (takeA t a bad 48 57) (takeB t a bad 48 57) 49 57 = v := ⟨_, rfl⟩
    rw [e2] at hv2
    have hm : hunM t a bad = ⟨takeA t (takeA t a bad 48 57) (takeB t a bad 48 57) 49 57, takeB t (takeA t a bad 48 57) (takeB t a bad 48 57) 49 57, 10 * (v1 - 48) + (v2 - 48)⟩ := by
      simp only [hunM, hlo, e2, hunV1, unhide E1]
    have HM := hide hm
    have E2 := hide e2
    clear hlo e2 hm
    subst h48
    go_enter Try.func65, Try.ntmps65
    go_wp2_with fail
    refine (take_any R t a bad vs vo deep 48 57 _ h hs (by omega) (by omega)).mono ?_
    rintro e w1 ⟨rfl, h1, g1⟩
    have H1 := hide h1
    have G1 := hide g1
    clear h1 g1
    rw [unhide E1]
    go_wp2_with fail
    refine (take_any R t _ _ vs vo deep 49 57 _ (unhide H1) hs (by omega) (by omega)).mono ?_
    rintro e w2 ⟨rfl, h2, g2⟩
    have H2 := hide h2
    have G2 := hide g2
    clear h2 g2
    rw [unhide E2]
    go_wp2_with fail
    go_ret
    rw [unhide HM]
    exact ⟨ret_int (by first | rfl | (dsimp only; omega)), unhide H2, grown_trans (unhide G1) (unhide G2)⟩
  · have hlo : hunLo t a bad = 48 := by simp [hunLo, hunV1, unhide E1, h48]
    have hv2 := takeV_bd t (takeA t a bad 48 57) (takeB t a bad 48 57) 48 57 (by omega)
    obtain ⟨v2, e2⟩ : ∃ v, takeV t (takeA t a bad 48 57) (takeB t a bad 48 57) 48 57 = v := ⟨_, rfl⟩
    rw [e2] at hv2
    have hm : hunM t a bad = ⟨takeA t (takeA t a bad 48 57) (takeB t a bad 48 57) 48 57, takeB t (takeA t a bad 48 57) (takeB t a bad 48 57) 48 57, 10 * (v1 - 48) + (v2 - 48)⟩ := by
      simp only [hunM, hlo, e2, hunV1, unhide E1]
    have HM := hide hm
    have E2 := hide e2
    clear hlo e2 hm
    have hne : (v1 == 48) = false := beq_eq_false_iff_ne.2 h48
    clear h48
    go_enter Try.func65, Try.ntmps65
    go_wp2_with fail
    refine (take_any R t a bad vs vo deep 48 57 _ h hs (by omega) (by omega)).mono ?_
    rintro e w1 ⟨rfl, h1, g1⟩
    have H1 := hide h1
    have G1 := hide g1
    clear h1 g1
    rw [unhide E1]
    go_wp2_with fail
    refine (take_any R t _ _ vs vo deep 48 57 _ (unhide H1) hs (by omega) (by omega)).mono ?_
    rintro e w2 ⟨rfl, h2, g2⟩
    have H2 := hide h2
    have G2 := hide g2
    clear h2 g2
    rw [unhide E2]
    go_wp2_with fail
    go_ret
    rw [unhide HM]
    exact ⟨ret_int (by first | rfl | (dsimp only; omega)), unhide H2, grown_trans (unhide G1) (unhide G2)⟩

/-- Eight bools in a block of their own. -/
def Bl (w : World) (G : Nat) (m : List Bool) : Prop := m.length = 8 ∧ w.heap[G]? = some (.cells (m.map Value.bool).toArray 61 (0, 0))

theorem Bl.cell {w : World} {G : Nat} {m : List Bool} (h : Bl w G m) (i : Nat) (hi : i < 8) : w.cell? ⟨G, i, none⟩ = some (.bool (m.getD i false)) := by
  rw [cell_of_row w G _ _ _ _ h.2]
  have h1 := h.1
  simp [List.getElem?_eq_getElem (show i < m.length by omega)]
theorem Bl.fr {w : World} {G : Nat} {m : List Bool} (h : Bl w G m) (i : Nat) : w.frozen? ⟨G, i, none⟩ = false := frozen_of_row w G i _ _ h.2
theorem Bl.set {w : World} {G : Nat} {m : List Bool} (h : Bl w G m) (i : Nat) (b : Bool) : Bl (w.setCell ⟨G, i, none⟩ (.bool b)) G (m.set i b) := by
  refine ⟨by simp [h.1], ?_⟩
  rw [heap_setCell_same w G i _ _ _ h.2]
  simp [List.map_set]
theorem Bl.grown {w w' : World} {G : Nat} {m : List Bool} {r : Option Nat} (h : Bl w G m) (hg : w.grownBy w' r) (hr : some G ≠ r) : Bl w' G m :=
  ⟨h.1, (hg.block G (cell_lt h.2) hr).trans h.2⟩
theorem RB.grown {w w' : World} {R : Nat} {t : ByteArray} {a : Nat} {bad : Bool} {vs vo : Value} {deep : Int} {r : Option Nat} (h : RB w R t a bad vs vo deep) (hg : w.grownBy w' r) (hr : some R ≠ r) : RB w' R t a bad vs vo deep :=
  (hg.block R (cell_lt h) hr).trans h

theorem grown_new {a b : World} {r : Option Nat} (h : a.grownBy b r) {p : Addr} (hp : a.heap.size ≤ p.block) (v : Value) : a.grownBy (b.setCell p v) r :=
  ⟨h.os, h.tape, h.output, by simpa [World.setCell] using h.size, fun i hi hr => (Below.heap_setCell _ _ _ _ (by omega)).trans (h.block i hi hr)⟩
theorem Bl.other {w w' : World} {G : Nat} {m : List Bool} (h : Bl w G m) (e : w'.heap[G]? = w.heap[G]?) : Bl w' G m := ⟨h.1, e.trans h.2⟩

/-- k letters from bucket z on: the place behind those that stand, and which they are. -/
def riseL (t : ByteArray) (bad : Bool) : Nat → Nat → Nat → List Bool → Nat × List Bool
  | 0, _, a, m => (a, m)
  | k + 1, z, a, m => if fitsM t a bad (z + 97) (z + 97) then riseL t bad k (z + 1) (a + 1) (m.set z true) else riseL t bad k (z + 1) a m

def ris1 (t : ByteArray) (a : Nat) (bad : Bool) : Int := takeV t a bad 97 103
def ris2 (t : ByteArray) (a : Nat) (bad : Bool) : Int := takeV t (takeA t a bad 97 103) (takeB t a bad 97 103) (ris1 t a bad + 1) 104
def risA (t : ByteArray) (a : Nat) (bad : Bool) : Nat := takeA t (takeA t a bad 97 103) (takeB t a bad 97 103) (ris1 t a bad + 1) 104
def risB (t : ByteArray) (a : Nat) (bad : Bool) : Bool := takeB t (takeA t a bad 97 103) (takeB t a bad 97 103) (ris1 t a bad + 1) 104
def risR (t : ByteArray) (a : Nat) (bad : Bool) : Nat × List Bool :=
  riseL t (risB t a bad) (104 - ris2 t a bad).toNat (ris2 t a bad - 96).toNat (risA t a bad) ((Split.none8.set (ris1 t a bad - 97).toNat true).set (ris2 t a bad - 97).toNat true)

theorem bl_new (w : World) : Bl (w.alloc (.cells #[.bool false, .bool false, .bool false, .bool false, .bool false, .bool false, .bool false, .bool false] 61)) w.heap.size Split.none8 :=
  ⟨rfl, heap_alloc_new _ _⟩

set_option maxHeartbeats 2000000 in
theorem readRising_any (R : Nat) (t : ByteArray) (a : Nat) (bad : Bool) (vs vo : Value) (deep : Int) (w : World) (h : RB w R t a bad vs vo deep) (hs : t.size ≤ 120) (ha : a ≤ 800) :
    Calls Try.prog 64 #[.pointer (some ⟨R, 0, none⟩)] w fun e w' => e = .returned (.agg ((risR t a bad).2.map Value.bool).toArray) ∧ RB w' R t (risR t a bad).1 (risB t a bad) vs vo deep ∧ (risR t a bad).2.length = 8 ∧ w.grownBy w' (some R) := by
  have hRlt : R < w.heap.size := cell_lt h
  have ha1 := takeA_bd t a bad 97 103
  have hv1 := takeV_bd t a bad 97 103 (by omega)
  obtain ⟨v1, e1⟩ : ∃ v, takeV t a bad 97 103 = v := ⟨_, rfl⟩
  rw [e1] at hv1
  obtain ⟨x, rfl⟩ : ∃ x : Nat, v1 = x + 97 := ⟨(v1 - 97).toNat, by omega⟩
  have hv2 := takeV_bd t (takeA t a bad 97 103) (takeB t a bad 97 103) ((x : Int) + 97 + 1) 104 (by omega)
  have ha2 := takeA_bd t (takeA t a bad 97 103) (takeB t a bad 97 103) ((x : Int) + 97 + 1) 104
  obtain ⟨v2, e2⟩ : ∃ v, takeV t (takeA t a bad 97 103) (takeB t a bad 97 103) ((x : Int) + 97 + 1) 104 = v := ⟨_, rfl⟩
  rw [e2] at hv2
  obtain ⟨y, rfl⟩ : ∃ y : Nat, v2 = y + 97 := ⟨(v2 - 97).toNat, by omega⟩
  have E1 := hide e1
  have E2 := hide e2
  clear e1 e2
  have HRB := hide h
  clear h
  go_enter Try.func64, Try.ntmps64
  go_wp2_with fail
  have hg0 : w.grownBy ((w.alloc (.cells #[.bool false, .bool false, .bool false, .bool false, .bool false, .bool false, .bool false, .bool false] 61)).alloc (.cells #[.bool false, .bool false, .bool false, .bool false, .bool false, .bool false, .bool false, .bool false] 61)) (some R) :=
    grown_trans (World.grownBy_alloc _ _ _) (World.grownBy_alloc _ _ _)
  refine (take_any R t a bad vs vo deep 97 103 _ ((unhide HRB).grown (grown_trans (World.grownBy_alloc w _ none) (World.grownBy_alloc _ _ none)) (by simp)) hs (by omega) (by omega)).mono ?_
  rintro e w1 ⟨rfl, h1, g1⟩
  have hB1 : Bl w1 (w.heap.size + 1) Split.none8 := by
    have := (bl_new (w.alloc (.cells #[.bool false, .bool false, .bool false, .bool false, .bool false, .bool false, .bool false, .bool false] 61))).grown g1 (by simp; omega)
    simpa using this
  have hB0 : Bl w1 w.heap.size Split.none8 := by
    exact ((bl_new w).grown (World.grownBy_alloc _ _ none) (by simp)).grown g1 (by simp; omega)
  have hg1 := grown_trans hg0 g1
  have hz1 : w.heap.size + 1 < w1.heap.size := cell_lt hB1.2
  rw [unhide E1]
  have HB0 := hide hB0
  have HB1 := hide hB1
  have H1 := hide h1
  have HG1 := hide hg1
  have c1 := hB1.cell x (by omega)
  have f1 := hB1.fr x
  clear hB0 hB1 h1 g1 hg0 hg1
  go_wp2_with fail
  refine (take_any R t _ _ vs vo deep ((x : Int) + 97 + 1) 104 _ (RB.grown (w' := w1.setCell ⟨w.heap.size + 1, x, none⟩ (.bool true)) (unhide H1) (grown_set (grown_refl _ _) x _) (by simp; omega)) hs (by omega) (by omega)).mono ?_
  rintro e w2 ⟨rfl, h2, g2⟩
  have hB1 : Bl w2 (w.heap.size + 1) (Split.none8.set x true) := ((unhide HB1).set x true).grown g2 (by simp; omega)
  have hB0 : Bl w2 w.heap.size Split.none8 := ((unhide HB0).grown (grown_set (grown_refl _ _) x _) (by simp)).grown g2 (by simp; omega)
  have hg2 : w.grownBy w2 (some R) := grown_trans (grown_new (unhide HG1) (p := ⟨w.heap.size + 1, x, none⟩) (by simp) _) g2
  clear HB0 HB1 H1 HG1 c1 f1
  rw [unhide E2]
  have HB0 := hide hB0
  have HB1 := hide hB1
  have H2 := hide h2
  have HG2 := hide hg2
  have c1 := hB1.cell y (by omega)
  have f1 := hB1.fr y
  have hz2 : w.heap.size + 1 < w2.heap.size := cell_lt hB1.2
  clear hB0 hB1 h2 g2 hg2
  have er : risR t a bad = riseL t (takeB t (takeA t a bad 97 103) (takeB t a bad 97 103) ((x : Int) + 97 + 1) 104) (7 - y) (y + 1) (takeA t (takeA t a bad 97 103) (takeB t a bad 97 103) ((x : Int) + 97 + 1) 104) ((Split.none8.set x true).set y true) := by
    have q1 : ris1 t a bad = (x : Int) + 97 := unhide E1
    have q2 : ris2 t a bad = (y : Int) + 97 := by unfold ris2; rw [q1]; exact unhide E2
    unfold risR risB risA
    rw [q1, q2, show ((104 : Int) - ((y : Int) + 97)).toNat = 7 - y by omega, show ((y : Int) + 97 - 96).toNat = y + 1 by omega, show ((x : Int) + 97 - 97).toNat = x by omega, show ((y : Int) + 97 - 97).toNat = y by omega]
  have eb : risB t a bad = takeB t (takeA t a bad 97 103) (takeB t a bad 97 103) ((x : Int) + 97 + 1) 104 := by
    have q1 : ris1 t a bad = (x : Int) + 97 := unhide E1
    unfold risB; rw [q1]
  have ER := hide er
  have EB := hide eb
  clear er eb
  generalize takeA t (takeA t a bad 97 103) (takeB t a bad 97 103) ((x : Int) + 97 + 1) 104 = A2 at *
  generalize takeB t (takeA t a bad 97 103) (takeB t a bad 97 103) ((x : Int) + 97 + 1) 104 = B2 at *
  clear E2
  go_wp2_with fail
  go_loopw [6] (fun ll wr => ∃ (z a' : Nat) (m : List Bool), z ≤ 8 ∧ a' ≤ 810 + z ∧ ll = .int .u8 ((z : Int) + 97) ∧ Hid (RB wr R t a' B2 vs vo deep) ∧ Hid (Bl wr (w.heap.size + 1) m) ∧ Hid (Bl wr w.heap.size Split.none8) ∧ Hid (risR t a bad = riseL t B2 (8 - z) z a' m) ∧ Hid (w.grownBy wr (some R))) (fun ll _ => (105 - intOf ll).toNat)
  case atStart =>
    refine ⟨y + 1, A2, (Split.none8.set x true).set y true, by omega, by omega, by go_num, ?_, ?_, ?_, ?_, ?_⟩
    · exact RB.grown (w' := w2.setCell ⟨w.heap.size + 1, y, none⟩ (.bool true)) (unhide H2) (grown_set (grown_refl _ _) y _) (by simp; omega)
    · exact (unhide HB1).set y true
    · exact (unhide HB0).grown (grown_set (grown_refl _ _) y _) (by simp)
    · rw [show 8 - (y + 1) = 7 - y by omega]; exact ER
    · exact grown_new (unhide HG2) (p := ⟨w.heap.size + 1, y, none⟩) (by simp) _
  case round =>
    obtain ⟨z, a', m, hz, haz, rfl, hR, hB, hB0, hri, hg⟩ := hrel
    have hml := (unhide hB).1
    have hzr : w.heap.size + 1 < wr.heap.size := cell_lt (unhide hB).2
    clear c1 f1
    by_cases hk0 : z < 8
    · have c1 := (unhide hR).c1
      have f1 := (unhide hR).fr 1
      have cb := (unhide hB).cell z (by omega)
      have fb := (unhide hB).fr z
      obtain ⟨k, hk⟩ : ∃ k, 8 - z = k + 1 := ⟨7 - z, by omega⟩
      have hk' : 8 - (z + 1) = k := by omega
      have HK := hide hk'
      rw [hk] at hri
      clear hk hk'
      cases hf : fitsM t a' B2 ((z : Int) + 97) ((z : Int) + 97)
      · have hri' : Hid (risR t a bad = riseL t B2 k (z + 1) a' m) := by
          have := unhide hri
          simp only [riseL, hf] at this
          exact this
        have HF := hide hf
        clear hf hri
        go_wp2_with fail
        refine (fits_any R t a' B2 vs vo deep _ _ _ (unhide hR) hs (by omega) (by omega)).mono ?_
        rintro e w3 ⟨rfl, n, rfl⟩
        rw [unhide HF]
        go_wp2_with fail
        go_roundw
        case rel =>
          refine ⟨z + 1, a', m, by omega, by omega, by go_num, hR, hB, hB0, ?_, grown_drewN (unhide hg) n⟩
          rw [unhide HK]; exact hri'
        case measure => simp [intOf]; omega
      · have hri' : Hid (risR t a bad = riseL t B2 k (z + 1) (a' + 1) (m.set z true)) := by
          have := unhide hri
          simp only [riseL, hf] at this
          exact this
        have HF := hide hf
        clear hf hri
        go_wp2_with fail
        refine (fits_any R t a' B2 vs vo deep _ _ _ (unhide hR) hs (by omega) (by omega)).mono ?_
        rintro e w3 ⟨rfl, n, rfl⟩
        rw [unhide HF]
        have cb' : (wr.setCell ⟨R, 1, none⟩ (.int .i64 ((a' : Int) + 1))).cell? ⟨w.heap.size + 1, z, none⟩ = some (.bool (m.getD z false)) := by
          rw [World.cell?_of_block (w := wr) (Below.heap_setCell _ _ _ _ (by simp; omega))]; exact cb
        have fb' : (wr.setCell ⟨R, 1, none⟩ (.int .i64 ((a' : Int) + 1))).frozen? ⟨w.heap.size + 1, z, none⟩ = false := by
          rw [World.frozen?_of_block (w := wr) (Below.heap_setCell _ _ _ _ (by simp; omega))]; exact fb
        go_wp2_with fail
        go_roundw
        case rel =>
          have hR1 : RB (wr.setCell ⟨R, 1, none⟩ (.int .i64 ((a' : Int) + 1))) R t (a' + 1) B2 vs vo deep := (unhide hR).s1 (a' + 1)
          have hBm : Bl (wr.setCell ⟨R, 1, none⟩ (.int .i64 ((a' : Int) + 1))) (w.heap.size + 1) m := (unhide hB).grown (grown_set (grown_refl _ _) 1 _) (by simp; omega)
          have hB00 : Bl (wr.setCell ⟨R, 1, none⟩ (.int .i64 ((a' : Int) + 1))) w.heap.size Split.none8 := (unhide hB0).grown (grown_set (grown_refl _ _) 1 _) (by simp; omega)
          refine ⟨z + 1, a' + 1, m.set z true, by omega, by omega, by go_num, ?_, ?_, ?_, ?_, ?_⟩
          · exact hR1.grown (grown_drewN (grown_set (grown_refl _ _) z (.bool true)) n) (r := some (w.heap.size + 1)) (by simp; omega)
          · exact (hBm.set z true).other rfl
          · exact hB00.grown (grown_drewN (grown_set (grown_refl _ _) z (.bool true)) n) (r := some (w.heap.size + 1)) (by simp)
          · rw [unhide HK]; exact hri'
          · exact grown_drewN (grown_new (grown_set (unhide hg) 1 _) (p := ⟨w.heap.size + 1, z, none⟩) (by simp) _) n
        case measure => simp [intOf]; omega
    · have hz8 : z = 8 := by omega
      subst hz8
      have hri' : risR t a bad = (a', m) := unhide hri
      have HR := hide hri'
      clear hri hri'
      have hBB := unhide hB
      match m, hml with
      | [m0, m1, m2, m3, m4, m5, m6, m7], _ =>
        have d0 := hBB.cell 0 (by omega)
        have d1 := hBB.cell 1 (by omega)
        have d2 := hBB.cell 2 (by omega)
        have d3 := hBB.cell 3 (by omega)
        have d4 := hBB.cell 4 (by omega)
        have d5 := hBB.cell 5 (by omega)
        have d6 := hBB.cell 6 (by omega)
        have d7 := hBB.cell 7 (by omega)
        simp at d0 d1 d2 d3 d4 d5 d6 d7
        have r0 := (unhide hB0).cell 0 (by omega)
        have g0 := (unhide hB0).fr 0
        have r1 := (unhide hB0).cell 1 (by omega)
        have g1 := (unhide hB0).fr 1
        have r2 := (unhide hB0).cell 2 (by omega)
        have g2 := (unhide hB0).fr 2
        have r3 := (unhide hB0).cell 3 (by omega)
        have g3 := (unhide hB0).fr 3
        have r4 := (unhide hB0).cell 4 (by omega)
        have g4 := (unhide hB0).fr 4
        have r5 := (unhide hB0).cell 5 (by omega)
        have g5 := (unhide hB0).fr 5
        have r6 := (unhide hB0).cell 6 (by omega)
        have g6 := (unhide hB0).fr 6
        have r7 := (unhide hB0).cell 7 (by omega)
        have g7 := (unhide hB0).fr 7
        simp [Split.none8] at r0 r1 r2 r3 r4 r5 r6 r7
        clear hBB
        go_wp2_with fail
        refine bodyPost_ret (v := .agg #[.bool m0, .bool m1, .bool m2, .bool m3, .bool m4, .bool m5, .bool m6, .bool m7]) (by simp [results, Try.results64, go_sem, r0, r1, r2, r3, r4, r5, r6, r7]) rfl ?_
        rw [unhide HR, unhide EB]
        refine ⟨rfl, ?_, rfl, ?_⟩
        · refine RB.grown (r := some w.heap.size) (unhide hR) ?_ (by simp; omega)
          iterate 8 refine grown_set ?_ _ _
          exact grown_refl _ _
        · iterate 8 refine grown_new ?_ (Nat.le_refl _) _
          exact unhide hg
end Go.Proofs.Ytbpolcnjojlkjab
