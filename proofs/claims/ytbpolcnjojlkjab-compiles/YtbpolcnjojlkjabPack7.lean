/- RefHead2 -/
import Derived.Test.YtbpolcnjojlkjabPack1
import Derived.Laws.DeepStrings4
import Derived.Lib.Strings

/- splitref's head, by its contract. -/
namespace Go.Proofs.Ytbpolcnjojlkjab
open Go.ChangeShapes Go.WideShapes Go.ChangeAt Go.RowKit
open Split (byt dig buc digM bucM riseB riseM risM headM byt_lt byt_ge dig_t dig_f buc_t buc_f)
set_option linter.unusedVariables false
set_option linter.unusedSimpArgs false

theorem ret3_iib {a b c d : Int} {x y : Bool} (h : a = c) (k : b = d) (l : x = y) : Ending.returned (.tuple #[.int .i64 a, .int .i64 b, .bool x]) = .returned (.tuple #[.int .i64 c, .int .i64 d, .bool y]) := by rw [h, k, l]

def HeadPost (t : ByteArray) (i : Nat) (w : World) (e : Ending) (w' : World) : Prop :=
  e = .returned (.tuple #[.int .i64 ((headM t i).1 : Nat), .int .i64 ((headM t i).2.1 : Nat), .bool (headM t i).2.2]) ∧ ∃ n, w' = w.drewN n

set_option maxHeartbeats 1000000 in
theorem head_P (t : ByteArray) (i : Nat) (w : World) (hs : t.size ≤ 120) (hi : i < t.size) (hc : byt t i = 80) :
    Calls Try.prog 30 #[.string t, .int .i64 i] w (HeadPost t i w) := by
  have hm : headM t i = (bucM t (i + 1), 0, decide (bucM t (i + 1) = i + 2)) := by simp [headM, hc]
  have HM := hide hm
  have hbk := Split.bucM_le t (i + 1)
  obtain ⟨j, hj⟩ : ∃ j, j = bucM t (i + 1) := ⟨_, rfl⟩
  rw [← hj] at hbk
  have HJ := hide hj
  rw [byt_lt hi] at hc
  clear hm hj
  go_enter Try.func30, Try.ntmps30
  go_wp2_with fail
  refine (bucket_any t (i + 1) _ hs (by omega)).mono ?_
  rintro e w1 ⟨rfl, rfl⟩
  rw [← unhide HJ]
  go_wp2_with fail
  go_ret3
  unfold HeadPost
  rw [unhide HM, ← unhide HJ]
  refine ⟨ret3_iib rfl rfl ?_, 0, rfl⟩
  rw [Bool.eq_iff_iff]; simp; omega

set_option maxHeartbeats 1000000 in
theorem head_X (t : ByteArray) (i : Nat) (w : World) (hs : t.size ≤ 120) (hi : i < t.size) (h1 : byt t i ≠ 80) (h2 : byt t i ≠ 67) (h3 : byt t i ≠ 73) (h4 : byt t i ≠ 82) (h5 : byt t i ≠ 72) :
    Calls Try.prog 30 #[.string t, .int .i64 i] w (HeadPost t i w) := by
  have hm : headM t i = (i, 0, false) := by simp [headM, h1, h2, h3, h4, h5]
  have HM := hide hm
  rw [byt_lt hi] at h1 h2 h3 h4 h5
  have k1 : ((t[i].toNat : Int) == 80) = false := beq_eq_false_iff_ne.2 h1
  have k2 : ((t[i].toNat : Int) == 67) = false := beq_eq_false_iff_ne.2 h2
  have k3 : ((t[i].toNat : Int) == 73) = false := beq_eq_false_iff_ne.2 h3
  have k4 : ((t[i].toNat : Int) == 82) = false := beq_eq_false_iff_ne.2 h4
  have k5 : ((t[i].toNat : Int) == 72) = false := beq_eq_false_iff_ne.2 h5
  clear hm h1 h2 h3 h4 h5
  go_enter Try.func30, Try.ntmps30
  go_wp2_with fail
  go_ret3
  unfold HeadPost
  rw [unhide HM]
  exact ⟨ret3_iib rfl rfl rfl, 0, rfl⟩

set_option maxHeartbeats 1000000 in
theorem head_CI (t : ByteArray) (i : Nat) (w : World) (hs : t.size ≤ 120) (hi : i < t.size) (c : Int) (hc : byt t i = c) (hcc : c = 67 ∨ c = 73) :
    Calls Try.prog 30 #[.string t, .int .i64 i] w (HeadPost t i w) := by
  have hbk := Split.bucM_le t (i + 1)
  obtain ⟨j, hj⟩ : ∃ j, j = bucM t (i + 1) := ⟨_, rfl⟩
  rw [← hj] at hbk
  have HJ := hide hj
  clear hj
  by_cases hj2 : j = i + 2
  · subst hj2
    obtain ⟨k, hk⟩ : ∃ k, k = digM t (i + 2) 4 := ⟨_, rfl⟩
    have hkl := Split.digM_le t 4 (i + 2)
    rw [← hk] at hkl
    have HK := hide hk
    clear hk
    have hne : (((i + 2 : Nat) : Int) != (i : Int) + 2) = false := by simp
    rcases hcc with rfl | rfl
    · have hm : headM t i = (k, 0, decide (k = i + 6)) := by simp [headM, hc, ← unhide HJ, ← unhide HK]
      have HM := hide hm
      rw [byt_lt hi] at hc
      clear hm
      go_enter Try.func30, Try.ntmps30
      go_wp2_with fail
      refine (bucket_any t (i + 1) _ hs (by omega)).mono ?_
      rintro e w1 ⟨rfl, rfl⟩
      rw [← unhide HJ]
      go_wp2_with fail
      refine (digits_any t (i + 2) 4 _ hs (by omega) (by omega)).mono ?_
      rintro e w2 ⟨rfl, rfl⟩
      rw [← unhide HK]
      go_wp2_with fail
      go_ret3
      unfold HeadPost
      rw [unhide HM]
      refine ⟨ret3_iib rfl rfl ?_, 0, rfl⟩
      rw [Bool.eq_iff_iff]; simp; omega
    · have hm : headM t i = (k, 2, decide (k = i + 6)) := by simp [headM, hc, ← unhide HJ, ← unhide HK]
      have HM := hide hm
      rw [byt_lt hi] at hc
      clear hm
      go_enter Try.func30, Try.ntmps30
      go_wp2_with fail
      refine (bucket_any t (i + 1) _ hs (by omega)).mono ?_
      rintro e w1 ⟨rfl, rfl⟩
      rw [← unhide HJ]
      go_wp2_with fail
      refine (digits_any t (i + 2) 4 _ hs (by omega) (by omega)).mono ?_
      rintro e w2 ⟨rfl, rfl⟩
      rw [← unhide HK]
      go_wp2_with fail
      go_ret3
      unfold HeadPost
      rw [unhide HM]
      refine ⟨ret3_iib rfl rfl ?_, 0, rfl⟩
      rw [Bool.eq_iff_iff]; simp; omega
  · have hj1 : j = i + 1 := by omega
    subst hj1
    have hne : (((i + 1 : Nat) : Int) != (i : Int) + 2) = true := by rw [bne_iff_ne]; omega
    rcases hcc with rfl | rfl
    all_goals
      have hm : headM t i = (i + 1, 0, false) := by simp [headM, hc, ← unhide HJ]
      have HM := hide hm
      rw [byt_lt hi] at hc
      clear hm
      go_enter Try.func30, Try.ntmps30
      go_wp2_with fail
      refine (bucket_any t (i + 1) _ hs (by omega)).mono ?_
      rintro e w1 ⟨rfl, rfl⟩
      rw [← unhide HJ]
      go_wp2_with fail
      go_ret3
      unfold HeadPost
      rw [unhide HM]
      exact ⟨ret3_iib rfl rfl rfl, 0, rfl⟩

set_option maxHeartbeats 1000000 in
theorem head_R (t : ByteArray) (i : Nat) (w : World) (hs : t.size ≤ 120) (hi : i < t.size) (hc : byt t i = 82) :
    Calls Try.prog 30 #[.string t, .int .i64 i] w (HeadPost t i w) := by
  by_cases hh : byt t (i + 1) = 104
  · have hi1 : i + 1 < t.size := Split.lt_of_byt (by rw [hh]; decide)
    have hm : headM t i = (i + 1, 0, false) := by simp [headM, hc, hh]
    have HM := hide hm
    rw [byt_lt hi] at hc
    rw [byt_lt hi1] at hh
    clear hm
    go_enter Try.func30, Try.ntmps30
    go_wp2_with fail
    go_ret3
    unfold HeadPost
    rw [unhide HM]
    exact ⟨ret3_iib (by omega) rfl rfl, 0, rfl⟩
  · obtain ⟨j, hj⟩ : ∃ j, j = risM t (i + 1) := ⟨_, rfl⟩
    have hjs := Split.risM_size t (i + 1) (by omega)
    have hjl := Split.risM_le t (i + 1)
    rw [← hj] at hjs hjl
    have HJ := hide hj
    clear hj
    have hm : headM t i = (j, 0, decide (i + 3 ≤ j)) := by simp [headM, hc, hh, ← unhide HJ]
    have HM := hide hm
    rw [byt_lt hi] at hc
    clear hm
    by_cases hi1 : i + 1 < t.size
    · rw [byt_lt hi1] at hh
      have hne : ((t[i + 1].toNat : Int) == 104) = false := beq_eq_false_iff_ne.2 hh
      clear hh
      go_enter Try.func30, Try.ntmps30
      go_wp2_with fail
      refine (rising_any t (i + 1) _ hs (by omega)).mono ?_
      rintro e w1 ⟨rfl, n, rfl⟩
      rw [← unhide HJ]
      go_wp2_with fail
      go_ret3
      unfold HeadPost
      rw [unhide HM]
      refine ⟨ret3_iib rfl rfl ?_, _, rfl⟩
      rw [Bool.eq_iff_iff]; simp; omega
    · go_enter Try.func30, Try.ntmps30
      go_wp2_with fail
      refine (rising_any t (i + 1) _ hs (by omega)).mono ?_
      rintro e w1 ⟨rfl, n, rfl⟩
      rw [← unhide HJ]
      go_wp2_with fail
      go_ret3
      unfold HeadPost
      rw [unhide HM]
      refine ⟨ret3_iib rfl rfl ?_, _, rfl⟩
      rw [Bool.eq_iff_iff]; simp; omega

theorem slice2 (t : ByteArray) (i : Nat) (h : i + 3 ≤ t.size) (W : World) : (Instr.slice 9 (.string t) (some (.int .i64 ((i : Int) + 1))) (some (.int .i64 ((i : Int) + 3))) none).run Try.prog W = .ok (.string (t.extract (i + 1) (i + 3))) W := by
  rw [run_slice_string_if _ _ _ _ _ _ _ Try.underlying9, if_pos (by omega), if_pos (by omega)]
  rw [show ((i : Int) + 1).toNat = i + 1 by omega, show ((i : Int) + 3).toNat = i + 3 by omega]

theorem byt_data {t : ByteArray} {i : Nat} (h : i < t.size) : t[i] = t.data.toList[i]'(by simpa using h) := rfl

theorem ext_two (t : ByteArray) (i : Nat) (h : i + 3 ≤ t.size) : ((t.extract (i + 1) (i + 3)).toList == [48, 48]) = decide (byt t (i + 1) = 48 ∧ byt t (i + 2) = 48) := by
  have hl : t.data.toList.length = t.size := by simp
  rw [Lib.toList_data, Lib.extract_data, show i + 3 - (i + 1) = 2 by omega]
  rw [List.drop_eq_getElem_cons (by omega), List.drop_eq_getElem_cons (by omega)]
  rw [byt_lt (show i + 1 < t.size by omega), byt_lt (show i + 2 < t.size by omega), byt_data, byt_data]
  simp only [List.take_succ_cons, List.take_zero]
  generalize t.data.toList[i + 1] = x
  generalize t.data.toList[i + 1 + 1] = y
  rw [Bool.eq_iff_iff]
  simp only [beq_iff_eq, List.cons.injEq, and_true, decide_eq_true_eq]
  constructor
  · rintro ⟨rfl, rfl⟩; decide
  · rintro ⟨h1, h2⟩
    refine ⟨UInt8.toNat_inj.1 ?_, UInt8.toNat_inj.1 ?_⟩
    · have : x.toNat = 48 := by omega
      rw [this]; rfl
    · have : y.toNat = 48 := by omega
      rw [this]; rfl

set_option maxRecDepth 100000 in
set_option maxHeartbeats 1000000 in
theorem head_H (t : ByteArray) (i : Nat) (w : World) (hs : t.size ≤ 120) (hi : i < t.size) (hc : byt t i = 72) :
    Calls Try.prog 30 #[.string t, .int .i64 i] w (HeadPost t i w) := by
  obtain ⟨j, hj⟩ : ∃ j, j = digM t (i + 1) 2 := ⟨_, rfl⟩
  have hjs := Split.digM_size t 2 (i + 1) (by omega)
  have hjl := Split.digM_le t 2 (i + 1)
  rw [← hj] at hjs hjl
  have HJ := hide hj
  clear hj
  by_cases hj3 : j = i + 3
  · subst hj3
    have hsl := slice2 t i hjs
    generalize hu : t.extract (i + 1) (i + 3) = u at hsl
    have HU := hide hu
    clear hu
    by_cases h00 : byt t (i + 1) = 48 ∧ byt t (i + 2) = 48
    · have hm : headM t i = (i + 2, 1, false) := by simp [headM, hc, h00, ← unhide HJ]
      have HM := hide hm
      have heq : (u.toList == [48, 48]) = true := by rw [← unhide HU, ext_two t i hjs, h00.1, h00.2]; rfl
      rw [byt_lt hi] at hc
      clear hm h00
      go_enter Try.func30, Try.ntmps30
      go_wp2_with fail
      refine (digits_any t (i + 1) 2 _ hs (by omega) (by omega)).mono ?_
      rintro e w1 ⟨rfl, rfl⟩
      rw [← unhide HJ]
      go_wp2_with fail
      go_ret3
      unfold HeadPost
      rw [unhide HM]
      exact ⟨ret3_iib rfl rfl rfl, 0, rfl⟩
    · have hm : headM t i = (i + 3, 1, true) := by simp [headM, hc, h00, ← unhide HJ]
      have HM := hide hm
      have heq : (u.toList == [48, 48]) = false := by rw [← unhide HU, ext_two t i hjs]; exact decide_eq_false h00
      rw [byt_lt hi] at hc
      clear hm h00
      go_enter Try.func30, Try.ntmps30
      go_wp2_with fail
      refine (digits_any t (i + 1) 2 _ hs (by omega) (by omega)).mono ?_
      rintro e w1 ⟨rfl, rfl⟩
      rw [← unhide HJ]
      go_wp2_with fail
      go_ret3
      unfold HeadPost
      rw [unhide HM]
      exact ⟨ret3_iib rfl rfl (by simp), 0, rfl⟩
  · have hm : headM t i = (j, 1, false) := by simp [headM, hc, ← unhide HJ, hj3]
    have HM := hide hm
    have hne : ((j : Int) == (i : Int) + 3) = false := beq_eq_false_iff_ne.2 (by omega)
    rw [byt_lt hi] at hc
    clear hm
    go_enter Try.func30, Try.ntmps30
    go_wp2_with fail
    refine (digits_any t (i + 1) 2 _ hs (by omega) (by omega)).mono ?_
    rintro e w1 ⟨rfl, rfl⟩
    rw [← unhide HJ]
    go_wp2_with fail
    go_ret3
    unfold HeadPost
    rw [unhide HM]
    exact ⟨ret3_iib rfl rfl rfl, 0, rfl⟩

theorem head_any (t : ByteArray) (i : Nat) (w : World) (hs : t.size ≤ 120) (hi : i < t.size) :
    Calls Try.prog 30 #[.string t, .int .i64 i] w (HeadPost t i w) := by
  by_cases h1 : byt t i = 80
  · exact head_P t i w hs hi h1
  by_cases h2 : byt t i = 67
  · exact head_CI t i w hs hi 67 h2 (.inl rfl)
  by_cases h3 : byt t i = 73
  · exact head_CI t i w hs hi 73 h3 (.inr rfl)
  by_cases h4 : byt t i = 82
  · exact head_R t i w hs hi h4
  by_cases h5 : byt t i = 72
  · exact head_H t i w hs hi h5
  exact head_X t i w hs hi h1 h2 h3 h4 h5
end Go.Proofs.Ytbpolcnjojlkjab
