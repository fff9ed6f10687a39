/- BackWalk: Back: the walk. -/
import Derived.Test.YtmdjdpofpkgffabBackLaw
namespace Go.Proofs.Ytmdjdpofpkgffab
open Go.ChangeShapes Go.WideShapes Go.ChangeAt Go.RowKit
open Split
set_option linter.unusedVariables false
set_option linter.unusedSimpArgs false

theorem given_zero {p : Pg} (h : p.Ok) : givenE p.owed 0 = 0 := by
  rw [given_page h 0, if_pos (by decide)]

/-- A list that lies apart from the book. -/
theorem Ints.stays {w w' : World} {P : Nat} {a : Option Addr} {n : Nat} {L : List Int} (h : Ints w a n L) (ha : ∀ p, a = some p → p.block ≠ P) (f : Fr (· = P) w w') : Ints w' a n L := f.ints h ha

theorem op_six {w : World} {O : Nat} {kind a bb : Int} {s t : ByteArray} {v : Value} (h : w.heap[O]? = some (.cells #[.int .i64 kind, .int .i64 a, .int .i64 bb, .string s, .string t, v] 46 (0, 0))) :
    w.cell? ⟨O, 0, none⟩ = some (.int .i64 kind) ∧ w.cell? ⟨O, 1, none⟩ = some (.int .i64 a) ∧ w.cell? ⟨O, 2, none⟩ = some (.int .i64 bb) ∧ w.cell? ⟨O, 3, none⟩ = some (.string s) ∧ w.cell? ⟨O, 4, none⟩ = some (.string t) ∧ w.cell? ⟨O, 5, none⟩ = some v := by
  refine ⟨?_, ?_, ?_, ?_, ?_, ?_⟩
  · rw [cell_of_row w O 0 _ _ _ h]; rfl
  · rw [cell_of_row w O 1 _ _ _ h]; rfl
  · rw [cell_of_row w O 2 _ _ _ h]; rfl
  · rw [cell_of_row w O 3 _ _ _ h]; rfl
  · rw [cell_of_row w O 4 _ _ _ h]; rfl
  · rw [cell_of_row w O 5 _ _ _ h]; rfl

set_option maxRecDepth 100000 in
set_option maxHeartbeats 4000000 in
theorem back_any (P : Nat) (b : Bk) (kind a bb : Int) (s t : ByteArray) (v : Value) (z : Int) (w : World) (h : SBk w P b) (hk : b.Ok) (hs : s.size ≤ 1000000000000000) (hkd : 3 ≤ kind ∧ kind ≤ 5) :
    Calls Try.prog 26 #[.pointer (some ⟨P, 0, none⟩), .agg #[.int .i64 kind, .int .i64 a, .int .i64 bb, .string s, .string t, v], .int .i64 z] w fun e w' => e = .returned (.bool true) ∧ (∃ b', SBk w' P b' ∧ b'.Ok) ∧ Fr (· = P) w w' := by
  obtain ⟨w0, hw0⟩ : ∃ w0, w.alloc (.cells #[.int .i64 kind, .int .i64 a, .int .i64 bb, .string s, .string t, v] 46) = w0 := ⟨_, rfl⟩
  have hb0 : Below w.heap.size w w0 := by rw [← hw0]; exact (Below.refl _ _).alloc (Nat.le_refl _) _
  have HS0 := hide (SRow.below h hb0 (SRow.lt h))
  have HF0 : Hid (Fr (· = P) w w0) := Fr.of_below hb0
  have HK := hide hk
  have hP0 : P < w.heap.size := SRow.lt h
  have orow : w0.heap[w.heap.size]? = some (.cells #[.int .i64 kind, .int .i64 a, .int .i64 bb, .string s, .string t, v] 46 (0, 0)) := by rw [← hw0]; exact heap_alloc_new _ _
  have OROW := hide orow
  have HW0 := hide hw0
  have hO0 : w.heap.size < w0.heap.size := cell_lt orow
  clear h hb0 hk hw0 orow
  go_enter Try.func26, Try.ntmps26
  go_wp2_with fail
  rw [unhide HW0]
  refine (sowed_any P b _ (unhide HS0) (unhide HK)).mono ?_
  rintro e w1 ⟨g1, rfl, hg1, _, i1, b1⟩
  have I1 := hide i1
  have S1 := hide (SRow.below (unhide HS0) b1 (SRow.lt (unhide HS0)))
  have F1 : Hid (Fr (· = P) w0 w1) := Fr.of_below b1
  clear i1 b1
  go_wp2_with fail
  refine (copied_any _ 8 8 b.now.owed _ (unhide I1) (by omega)).mono ?_
  rintro e w2 ⟨rfl, i2, b2, _⟩
  have hP1 : P < w1.heap.size := SRow.lt (unhide S1)
  have I2 := hide i2
  have S2 := hide (SRow.below (unhide S1) b2 hP1)
  have F2 : Hid (Fr (· = P) w0 w2) := (unhide F1).trans (Fr.of_below (S := (· = P)) b2) fun i hi => .inl hi
  clear i2 b2 I1 S1 F1
  have hl2 : ∀ p, (some ⟨w1.heap.size, 0, none⟩ : Option Addr) = some p → p.block ≠ P := fun p hp => by simp only [Option.some.injEq] at hp; subst hp; simp only; omega
  have HL2 := hide hl2
  clear hl2
  go_wp2_with fail
  refine (probe_any P b z _ (unhide S2) (unhide HK)).mono ?_
  rintro e w3 ⟨a3, n3, c3, b3, rfl, ⟨i3, s3, f3⟩, ha3, hk3, hn3⟩
  have I3 := hide i3
  have A3 := hide ha3
  have S3 := hide s3
  have K3 := hide hk3
  have N3 := hide hn3
  have J3 := hide ((unhide I2).stays (unhide HL2) f3)
  have F3 := hide ((unhide F2).trans f3 fun i hi => .inl hi)
  clear i3 s3 f3 ha3 hk3 hn3 I2 S2 F2
  have hO3 : w.heap.size < w3.heap.size := Nat.lt_of_lt_of_le hO0 (unhide F3).size
  obtain ⟨w4, hw4⟩ : ∃ w4, w3.alloc (.cells #[.slice a3 n3 c3, .int .i64 (payR b.now z), .bool true] 53) = w4 := ⟨_, rfl⟩
  have hb4 : Below w3.heap.size w3 w4 := by rw [← hw4]; exact (Below.refl _ _).alloc (Nat.le_refl _) _
  have J4 := hide ((unhide J3).below hb4)
  have P4 := hide ((unhide I3).below hb4)
  have S4 := hide (SRow.below (unhide S3) hb4 (SRow.lt (unhide S3)))
  have HF4 : Hid (Fr (· = P) w w4) := ((unhide HF0).trans (unhide F3) fun i hi => .inl hi).trans (Fr.of_below (S := (· = P)) hb4) fun i hi => .inl hi
  have hprow : w4.heap[w3.heap.size]? = some (.cells #[.slice a3 n3 c3, .int .i64 (payR b.now z), .bool true] 53 (0, 0)) := by rw [← hw4]; exact heap_alloc_new _ _
  have HPR := hide hprow
  have hp4 : w3.heap.size < w4.heap.size := cell_lt hprow
  have OR4 := hide ((hb4.block _ hO3).trans (((unhide F3).block _ hO0 (by omega)).trans (unhide OROW)))
  have hO4 : w.heap.size < w4.heap.size := by omega
  have hPw3 : P < w3.heap.size := SRow.lt (unhide S3)
  have hn38 : n3 ≤ 8 := by rw [← (unhide I3).1]; exact payL_len b.now z
  obtain ⟨oc0, oc1, oc2, oc3, oc4, oc5⟩ := op_six (((unhide F3).block _ hO0 (by omega)).trans (unhide OROW))
  have HW4 := hide hw4
  clear hw4 hb4 hprow J3 I3 S3 F3
  generalize hcr : payR b.now z = cr at *
  generalize hcl : payL b.now z = cl at *
  have HC := hide (And.intro hcr hcl)
  clear hcr hcl
  by_cases hd : actE kind a s b.now = 0
  · have HD : Hid ((actE kind a s b.now == 0) = true) := by simpa [Hid] using hd
    obtain ⟨pt, hpt⟩ := step_ok (b := b3) (a := a) (s := s) hkd (by rw [unhide N3]; exact hd)
    have HU := hide (und_turn b3 pt)
    rw [← hpt] at HU
    have HOK4 := hide (stepB_ok (unhide K3) kind a s)
    clear hpt hd
    go_wp2_with fail
    rw [unhide HW4]
    refine (act_any P b3 kind a bb s t v _ (unhide S4) (unhide K3) hs hkd).mono ?_
    rintro e w5a ⟨rfl, s5a, f5a⟩
    rw [unhide N3, unhide HD]
    have S5A := hide s5a
    have F5A := hide f5a
    clear s5a f5a oc0 oc1 oc2 oc3 oc4 oc5
    go_wp2_with fail
    refine (sundo_any P _ _ (unhide S5A)).mono ?_
    rintro e w5 ⟨rfl, s5, f5⟩
    rw [(unhide HU).1]
    have S5 := hide s5
    have F5 := hide ((unhide F5A).trans f5 fun i hi => .inl hi)
    have K5 := hide (undB_ok (unhide HOK4))
    have N5 := hide ((unhide HU).2.trans (unhide N3))
    have J5 := hide ((unhide J4).stays (unhide HL2) (unhide F5))
    have P5 := hide ((unhide P4).stays (unhide A3) (unhide F5))
    generalize undB (stepB kind a s b3) = b5 at *
    clear s5 f5 S5A F5A J4 P4 S4 HU HOK4
    go_wp2_with (go_at_call 13; refine (num_any _ _).mono ?_; rintro e w' ⟨rfl, hw⟩; have hw := hw.symm; subst hw)
    refine (sowed_any P b5 _ (unhide S5) (unhide K5)).mono ?_
    rintro e w6 ⟨g6, rfl, hg6, _, i6, bl6⟩
    have hP5 : P < w5.heap.size := SRow.lt (unhide S5)
    have S6 := hide (SRow.below (unhide S5) bl6 hP5)
    have fr6 : Fr (· = P) w5 w6 := Fr.of_below bl6
    rw [unhide N5] at i6
    have I6 := hide i6
    have J6 := hide ((unhide J5).stays (unhide HL2) fr6)
    have P6 := hide ((unhide P5).stays (unhide A3) fr6)
    have F6 := hide ((unhide F5).trans fr6 fun i hi => .inl hi)
    have hl6 : Hid (∀ p, (some ⟨g6, 0, none⟩ : Option Addr) = some p → p.block ≠ P) := fun p hp => by simp only [Option.some.injEq] at hp; subst hp; simp only; omega
    clear i6 bl6 fr6 J5 P5 F5 S5
    go_wp2_with fail
    refine (probe_any P b5 z _ (unhide S6) (unhide K5)).mono ?_
    rintro e w7 ⟨a7, n7, c7, b7, rfl, ⟨i7, s7, f7⟩, ha7, hk7, hn7⟩
    rw [unhide N5, (unhide HC).2] at i7
    rw [unhide N5, (unhide HC).1]
    rw [unhide N5] at hn7
    have I7 := hide i7
    have A7 := hide ha7
    have S7 := hide s7
    have K7 := hide hk7
    have N7 := hide hn7
    have J7 := hide ((unhide J6).stays (unhide HL2) f7)
    have P7 := hide ((unhide P6).stays (unhide A3) f7)
    have M7 := hide ((unhide I6).stays (unhide hl6) f7)
    have F7 := hide ((unhide F6).trans f7 fun i hi => .inl hi)
    clear i7 s7 f7 ha7 hk7 hn7 J6 P6 I6 F6 S6
    obtain ⟨w8, hw8⟩ : ∃ w8, w7.alloc (.cells #[.slice a7 n7 c7, .int .i64 cr, .bool true] 53) = w8 := ⟨_, rfl⟩
    have hb8 : Below w7.heap.size w7 w8 := by rw [← hw8]; exact (Below.refl _ _).alloc (Nat.le_refl _) _
    have J8 := hide ((unhide J7).below hb8)
    have M8 := hide ((unhide M7).below hb8)
    have P8 := hide ((unhide P7).below hb8)
    have I8 := hide ((unhide I7).below hb8)
    have S8 := hide (SRow.below (unhide S7) hb8 (SRow.lt (unhide S7)))
    have F8 : Hid (Fr (· = P) w4 w8) := (unhide F7).trans (Fr.of_below (S := (· = P)) hb8) fun i hi => .inl hi
    have HW8 := hide hw8
    have hqrow : w8.heap[w7.heap.size]? = some (.cells #[.slice a7 n7 c7, .int .i64 cr, .bool true] 53 (0, 0)) := by rw [← hw8]; exact heap_alloc_new _ _
    have HQR := hide hqrow
    clear hw8 hb8 hqrow J7 M7 P7 I7 S7 F7
    go_wp2_with fail
    rw [unhide HW8]
    refine (same_any _ _ _ b.now.owed _ _ _ b.now.owed _ (unhide J8) (unhide M8) (by omega)).mono ?_
    rintro e w9 ⟨rfl, n9, hw9⟩
    have hb9 : Below w8.heap.size w8 w9 := by rw [hw9]; exact below_drewN (Below.refl _ _) _
    have M9 := hide ((unhide M8).below hb9)
    have P9 := hide ((unhide P8).below hb9)
    have I9 := hide ((unhide I8).below hb9)
    have S9 := hide (SRow.below (unhide S8) hb9 (SRow.lt (unhide S8)))
    have F9 : Hid (Fr (· = P) w4 w9) := (unhide F8).trans (Fr.of_below (S := (· = P)) hb9) fun i hi => .inl hi
    have HQ9 := hide ((hb9.block _ (cell_lt (unhide HQR))).trans (unhide HQR))
    clear hw9 hb9 J8 M8 P8 I8 S8 F8
    rw [decide_eq_true (rfl : b.now.owed = b.now.owed)]
    go_wp2_with fail
    refine (sound_any _ _ b.now.owed _ (unhide M9) (given_zero (unhide HK).now)).mono ?_
    rintro e w10 ⟨rfl, hw10⟩
    have hw10 := hw10.symm
    subst hw10
    have hpr9 := ((unhide F9).block w3.heap.size hp4 (by omega)).trans (unhide HPR)
    have pc0 := cell_of_row w9 w3.heap.size 0 _ _ _ hpr9
    have pc1 := cell_of_row w9 w3.heap.size 1 _ _ _ hpr9
    have pc2 := cell_of_row w9 w3.heap.size 2 _ _ _ hpr9
    have qc0 := cell_of_row w9 w7.heap.size 0 _ _ _ (unhide HQ9)
    have qc1 := cell_of_row w9 w7.heap.size 1 _ _ _ (unhide HQ9)
    have qc2 := cell_of_row w9 w7.heap.size 2 _ _ _ (unhide HQ9)
    simp at pc0 pc1 pc2 qc0 qc1 qc2
    clear hpr9
    go_wp2_with fail
    refine (alike_any _ _ _ _ _ _ cl cr _ (unhide P9) (unhide I9) hn38).mono ?_
    rintro e w11 ⟨rfl, b11⟩
    have S11 := hide (SRow.below (unhide S9) b11 (SRow.lt (unhide S9)))
    have F11 : Hid (Fr (· = P) w4 w11) := (unhide F9).trans (Fr.of_below (S := (· = P)) b11) fun i hi => .inl hi
    clear b11 P9 I9 S9 F9 pc0 pc1 pc2 qc0 qc1 qc2
    obtain ⟨od0, od1, od2, od3, od4, od5⟩ := op_six (((unhide F11).block _ hO4 (by omega)).trans (unhide OR4))
    go_wp2_with fail
    refine (act_any P b7 kind a bb s t v _ (unhide S11) (unhide K7) hs hkd).mono ?_
    rintro e w12 ⟨rfl, s12, f12⟩
    rw [unhide N7, unhide HD]
    have S12 := hide s12
    have F12 := hide ((unhide HF4).trans ((unhide F11).trans f12 fun i hi => .inl hi) fun i hi => .inl hi)
    clear s12 f12
    go_wp2
    go_ret
    exact ⟨rfl, ⟨_, unhide S12, stepB_ok (unhide K7) kind a s⟩, unhide F12⟩
  · have HD : Hid ((actE kind a s b.now == 0) = false) := by simpa [Hid] using hd
    have hst := step_no (b := b3) (a := a) (s := s) hkd (by rw [unhide N3]; exact hd)
    clear hd
    go_wp2_with fail
    rw [unhide HW4]
    refine (act_any P b3 kind a bb s t v _ (unhide S4) (unhide K3) hs hkd).mono ?_
    rintro e w5 ⟨rfl, s5, f5⟩
    rw [unhide N3, unhide HD]
    rw [hst] at s5
    have S5 := hide s5
    have F5 := hide f5
    have K5 := K3
    have N5 := N3
    have J5 := hide ((unhide J4).stays (unhide HL2) f5)
    have P5 := hide ((unhide P4).stays (unhide A3) f5)
    clear s5 f5 J4 P4 S4 hst oc0 oc1 oc2 oc3 oc4 oc5
    go_wp2_with fail
    refine (sowed_any P b3 _ (unhide S5) (unhide K5)).mono ?_
    rintro e w6 ⟨g6, rfl, hg6, _, i6, bl6⟩
    have hP5 : P < w5.heap.size := SRow.lt (unhide S5)
    have S6 := hide (SRow.below (unhide S5) bl6 hP5)
    have fr6 : Fr (· = P) w5 w6 := Fr.of_below bl6
    rw [unhide N5] at i6
    have I6 := hide i6
    have J6 := hide ((unhide J5).stays (unhide HL2) fr6)
    have P6 := hide ((unhide P5).stays (unhide A3) fr6)
    have F6 := hide ((unhide F5).trans fr6 fun i hi => .inl hi)
    have hl6 : Hid (∀ p, (some ⟨g6, 0, none⟩ : Option Addr) = some p → p.block ≠ P) := fun p hp => by simp only [Option.some.injEq] at hp; subst hp; simp only; omega
    clear i6 bl6 fr6 J5 P5 F5 S5
    go_wp2_with fail
    refine (probe_any P b3 z _ (unhide S6) (unhide K5)).mono ?_
    rintro e w7 ⟨a7, n7, c7, b7, rfl, ⟨i7, s7, f7⟩, ha7, hk7, hn7⟩
    rw [unhide N5, (unhide HC).2] at i7
    rw [unhide N5, (unhide HC).1]
    rw [unhide N5] at hn7
    have I7 := hide i7
    have A7 := hide ha7
    have S7 := hide s7
    have K7 := hide hk7
    have N7 := hide hn7
    have J7 := hide ((unhide J6).stays (unhide HL2) f7)
    have P7 := hide ((unhide P6).stays (unhide A3) f7)
    have M7 := hide ((unhide I6).stays (unhide hl6) f7)
    have F7 := hide ((unhide F6).trans f7 fun i hi => .inl hi)
    clear i7 s7 f7 ha7 hk7 hn7 J6 P6 I6 F6 S6
    obtain ⟨w8, hw8⟩ : ∃ w8, w7.alloc (.cells #[.slice a7 n7 c7, .int .i64 cr, .bool true] 53) = w8 := ⟨_, rfl⟩
    have hb8 : Below w7.heap.size w7 w8 := by rw [← hw8]; exact (Below.refl _ _).alloc (Nat.le_refl _) _
    have J8 := hide ((unhide J7).below hb8)
    have M8 := hide ((unhide M7).below hb8)
    have P8 := hide ((unhide P7).below hb8)
    have I8 := hide ((unhide I7).below hb8)
    have S8 := hide (SRow.below (unhide S7) hb8 (SRow.lt (unhide S7)))
    have F8 : Hid (Fr (· = P) w4 w8) := (unhide F7).trans (Fr.of_below (S := (· = P)) hb8) fun i hi => .inl hi
    have HW8 := hide hw8
    have hqrow : w8.heap[w7.heap.size]? = some (.cells #[.slice a7 n7 c7, .int .i64 cr, .bool true] 53 (0, 0)) := by rw [← hw8]; exact heap_alloc_new _ _
    have HQR := hide hqrow
    clear hw8 hb8 hqrow J7 M7 P7 I7 S7 F7
    go_wp2_with fail
    rw [unhide HW8]
    refine (same_any _ _ _ b.now.owed _ _ _ b.now.owed _ (unhide J8) (unhide M8) (by omega)).mono ?_
    rintro e w9 ⟨rfl, n9, hw9⟩
    have hb9 : Below w8.heap.size w8 w9 := by rw [hw9]; exact below_drewN (Below.refl _ _) _
    have M9 := hide ((unhide M8).below hb9)
    have P9 := hide ((unhide P8).below hb9)
    have I9 := hide ((unhide I8).below hb9)
    have S9 := hide (SRow.below (unhide S8) hb9 (SRow.lt (unhide S8)))
    have F9 : Hid (Fr (· = P) w4 w9) := (unhide F8).trans (Fr.of_below (S := (· = P)) hb9) fun i hi => .inl hi
    have HQ9 := hide ((hb9.block _ (cell_lt (unhide HQR))).trans (unhide HQR))
    clear hw9 hb9 J8 M8 P8 I8 S8 F8
    rw [decide_eq_true (rfl : b.now.owed = b.now.owed)]
    go_wp2_with fail
    refine (sound_any _ _ b.now.owed _ (unhide M9) (given_zero (unhide HK).now)).mono ?_
    rintro e w10 ⟨rfl, hw10⟩
    have hw10 := hw10.symm
    subst hw10
    have hpr9 := ((unhide F9).block w3.heap.size hp4 (by omega)).trans (unhide HPR)
    have pc0 := cell_of_row w9 w3.heap.size 0 _ _ _ hpr9
    have pc1 := cell_of_row w9 w3.heap.size 1 _ _ _ hpr9
    have pc2 := cell_of_row w9 w3.heap.size 2 _ _ _ hpr9
    have qc0 := cell_of_row w9 w7.heap.size 0 _ _ _ (unhide HQ9)
    have qc1 := cell_of_row w9 w7.heap.size 1 _ _ _ (unhide HQ9)
    have qc2 := cell_of_row w9 w7.heap.size 2 _ _ _ (unhide HQ9)
    simp at pc0 pc1 pc2 qc0 qc1 qc2
    clear hpr9
    go_wp2_with fail
    refine (alike_any _ _ _ _ _ _ cl cr _ (unhide P9) (unhide I9) hn38).mono ?_
    rintro e w11 ⟨rfl, b11⟩
    have S11 := hide (SRow.below (unhide S9) b11 (SRow.lt (unhide S9)))
    have F11 : Hid (Fr (· = P) w4 w11) := (unhide F9).trans (Fr.of_below (S := (· = P)) b11) fun i hi => .inl hi
    clear b11 P9 I9 S9 F9 pc0 pc1 pc2 qc0 qc1 qc2
    obtain ⟨od0, od1, od2, od3, od4, od5⟩ := op_six (((unhide F11).block _ hO4 (by omega)).trans (unhide OR4))
    go_wp2_with fail
    refine (act_any P b7 kind a bb s t v _ (unhide S11) (unhide K7) hs hkd).mono ?_
    rintro e w12 ⟨rfl, s12, f12⟩
    rw [unhide N7, unhide HD]
    have S12 := hide s12
    have F12 := hide ((unhide HF4).trans ((unhide F11).trans f12 fun i hi => .inl hi) fun i hi => .inl hi)
    clear s12 f12
    go_wp2
    go_ret
    exact ⟨rfl, ⟨_, unhide S12, stepB_ok (unhide K7) kind a s⟩, unhide F12⟩

set_option maxRecDepth 100000 in
set_option maxHeartbeats 4000000 in
theorem back_walk (a : Option Addr) (len cap : Nat) (os : List OpM) (z : Int) (w : World) (h : Ops w a len os) (hlen : len * 80 ≤ 140737488351232) (hzw : (Lit.int .i64 z).wf = true) :
    Calls Try.prog 8 #[.slice a len cap, .int .i64 z] w fun e w' => e = .returned (.bool true) ∧ Below w.heap.size w w' := by
  have HO := hide h
  clear h hzw
  go_enter Try.func8, Try.ntmps8
  go_wp2_with fail
  refine (snew_any _).mono ?_
  rintro e w1 ⟨rfl, s1, b1⟩
  have S1 := hide s1
  have B1 := hide b1
  clear s1 b1
  go_wp2_with fail
  go_loopw [6] (fun i wr => ∃ (q : Nat) (b : Bk), q ≤ len ∧ i = .int .i64 q ∧ Hid (SBk wr w.heap.size b) ∧ Hid b.Ok ∧ Hid (Below w.heap.size w wr)) (fun i _ => len - (intOf i).toNat)
  case atStart => exact ⟨0, _, by omega, rfl, S1, bk0_ok, B1⟩
  case round =>
    clear S1 B1
    obtain ⟨q, b, hql, rfl, hS, hK, hB⟩ := hrel
    by_cases hlt : q < len
    · have hO := unhide HO
      obtain ⟨o, ho⟩ : ∃ o, os[q]? = some o := ⟨_, List.getElem?_eq_getElem (by rw [hO.cnt]; exact hlt)⟩
      have hot : o.s.size ≤ 1000000000000000 := hO.txt o (List.mem_of_getElem? ho)
      obtain ⟨g, off, rfl, hmem⟩ := hO.mem (by omega)
      have hat := hmem q o ho
      have hgl : g < w.heap.size := hat.lt
      obtain ⟨c0, c1, c2, c3, c4, c5⟩ := hat.below (unhide hB) hgl
      obtain ⟨kind, oa, ob, os', ot, va', vn', vc'⟩ := o
      simp only at c0 c1 c2 c3 c4 c5 hot
      clear hO hmem hat ho
      have hq60 : (q : Int) < 1152921504606846976 := by omega
      have hql' : (q : Int) < (len : Int) := by omega
      obtain ⟨w3, hw3⟩ : ∃ w3, wr.alloc (.cells #[.int .i64 kind, .int .i64 oa, .int .i64 ob, .string os', .string ot, .slice va' vn' vc'] 46) = w3 := ⟨_, rfl⟩
      have hb3 : Below wr.heap.size wr w3 := by rw [← hw3]; exact (Below.refl _ _).alloc (Nat.le_refl _) _
      have S3 := hide (SRow.below (unhide hS) hb3 (SRow.lt (unhide hS)))
      have B3 := hide (below_step (unhide hB) hb3)
      have HW3 := hide hw3
      clear hw3 hb3
      by_cases k35 : 3 ≤ kind ∧ kind ≤ 5
      · have BK := hide (back_any w.heap.size b kind oa ob os' ot (.slice va' vn' vc') z w3 (unhide S3) (unhide hK) hot k35)
        obtain ⟨ka, kb⟩ := k35
        go_wp2_with fail
        rw [unhide HW3]
        refine (unhide BK).mono ?_
        rintro e w4 ⟨rfl, ⟨b4, s4, k4⟩, f4⟩
        have S4 := hide s4
        have K4 := hide k4
        have B4 := hide ((unhide B3).trans (f4.below (unhide B3).size (fun i hi => by rw [hi]; exact Nat.le_refl _)))
        clear s4 k4 f4 BK hq60 c0 c1 c2 c3 c4 c5
        go_wp2
        go_roundw
        case rel => exact ⟨q + 1, _, by omega, by go_num, S4, K4, B4⟩
        case measure => simp [intOf]; omega
      · by_cases hlow : kind < 3
        · have d2 : decide (3 ≤ kind) = false := by simpa using hlow
          clear k35 hlow
          go_wp2
          rw [unhide HW3]
          go_roundw
          case rel => exact ⟨q + 1, _, by omega, by go_num, S3, hK, B3⟩
          case measure => simp [intOf]; omega
        · have d2 : decide (3 ≤ kind) = true := by simp; omega
          have d3 : decide (kind ≤ 5) = false := by simp; omega
          clear k35 hlow
          go_wp2
          rw [unhide HW3]
          go_roundw
          case rel => exact ⟨q + 1, _, by omega, by go_num, S3, hK, B3⟩
          case measure => simp [intOf]; omega
    · have hq' : q = len := by omega
      subst hq'
      clear hlt hql hlen
      go_wp2_with fail
      refine (sowed_any w.heap.size b _ (unhide hS) (unhide hK)).mono ?_
      rintro e w2 ⟨g2, rfl, hg2, _, i2, b2⟩
      have hPr := SRow.lt (unhide hS)
      have I2 := hide i2
      have S2 := hide (SRow.below (unhide hS) b2 hPr)
      have B2 := hide (below_step (unhide hB) b2)
      clear i2 b2
      go_wp2_with fail
      refine (sound_any _ _ b.now.owed _ (unhide I2) (given_zero (unhide hK).now)).mono ?_
      rintro e w3 ⟨rfl, hw3⟩
      have hw3 := hw3.symm
      subst hw3
      have hpe := payE_page (unhide hK).now z
      cases hz : amt z
      · have hE : payE b.now z = 5 := by rw [hpe, hz]; rfl
        have hz' := amt_f.1 hz
        have HPY := hide (spay_any w.heap.size b z w2 (unhide S2) (unhide hK))
        rw [hE] at HPY
        generalize payR b.now z = cr at *
        generalize payL b.now z = cl at *
        clear hpe hE hz
        go_wp2_with fail
        refine (unhide HPY).mono ?_
        rintro e w4 ⟨a4, n4, c4, rfl, i4, ha4, s4, f4⟩
        have B4 := hide ((unhide B2).trans (f4.below (unhide B2).size (fun i hi => by rw [hi]; exact Nat.le_refl _)))
        clear i4 ha4 s4 f4 HPY
        rcases hz' with hz' | hz'
        · go_wp2
          go_ret
          exact ⟨rfl, unhide B4⟩
        · go_wp2
          go_ret
          exact ⟨rfl, unhide B4⟩
      · have hE : payE b.now z = 0 := by rw [hpe, hz]; rfl
        have hz' := amt_t.1 hz
        have HPY := hide (spay_any w.heap.size b z w2 (unhide S2) (unhide hK))
        have HPP := hide (pay_parts (unhide hK).now hE)
        rw [hE] at HPY
        generalize payR b.now z = cr at *
        generalize payL b.now z = cl at *
        clear hpe hE hz
        go_wp2_with fail
        refine (unhide HPY).mono ?_
        rintro e w4 ⟨a4, n4, c4, rfl, i4, ha4, s4, f4⟩
        have hn4 : n4 = 8 := by rw [← i4.1]; exact (unhide HPP).1
        subst hn4
        have I4 := hide i4
        have J4 := hide (f4.ints (unhide I2) (by rintro p hp e; simp only [Option.some.injEq] at hp; subst hp; simp only at e; omega))
        have B4 := hide ((unhide B2).trans (f4.below (unhide B2).size (fun i hi => by rw [hi]; exact Nat.le_refl _)))
        have hz0 := hz'.1
        have hz1 := hz'.2
        clear i4 ha4 s4 f4 HPY hz'
        go_wp2_with (go_at_call 13; refine (num_any _ _).mono ?_; rintro e w' ⟨rfl, hw⟩; have hw := hw.symm; subst hw)
        have hb5 : Below w4.heap.size w4 (w4.alloc (.cells #[.slice a4 8 c4, .int .i64 cr, .bool true] 53)) := (Below.refl _ _).alloc (Nat.le_refl _) _
        have hp := unhide HPP
        refine (whole_true _ _ cl cr _ _ b.now.owed z _ ((unhide I4).below hb5) ((unhide J4).below hb5) (fun i => (hp.2.1 i).1) (fun i => (hp.2.1 i).2) hp.2.2.1 hp.2.2.2.1 hz1).mono ?_
        rintro e w6 ⟨rfl, b6⟩
        have B6 := hide (below_step (below_step (unhide B4) hb5) b6)
        clear hb5 hp b6
        go_wp2
        go_ret
        exact ⟨rfl, unhide B6⟩
end Go.Proofs.Ytmdjdpofpkgffab
