/- splitref's walk and step. -/
import Derived.Test.YtbpolcnjojlkjabRefRate
import Derived.Test.YtbpolcnjojlkjabSemF
namespace Go.Proofs.Ytbpolcnjojlkjab
open Go.ChangeShapes Go.WideShapes Go.ChangeAt Go.RowKit
open Split (Pu payM Keeps propM byt byt_lt headM St doM holdM backM numM amongM none8 risM digM bucM)
set_option linter.unusedVariables false
set_option linter.unusedSimpArgs false

def WalkOk (t : ByteArray) (i : Nat) : Prop := ∀ (T L Q : Nat) (p : Pu) (M : Int) (o0 : List Int) (w : World), RSt w T L Q p → Keeps M o0 p →
  Calls Try.prog 25 #[.pointer (some ⟨T, 0, none⟩), .string t, .int .i64 i] w fun e w' => e = .returned (.int .i64 (endJ t i : Nat)) ∧ RSt w' T L Q (semF t i p) ∧ On T L Q w w'
def StepOk (t : ByteArray) (i : Nat) : Prop := ∀ (T L Q : Nat) (p : Pu) (M : Int) (o0 : List Int) (w : World), RSt w T L Q p → Keeps M o0 p →
  Calls Try.prog 35 #[.pointer (some ⟨T, 0, none⟩), .string t, .int .i64 i] w fun e w' => e = .returned (.int .i64 (nxM t i : Nat)) ∧ RSt w' T L Q (stpM t (semF t) i p) ∧ On T L Q w w'

set_option maxHeartbeats 4000000 in
theorem walk_of (t : ByteArray) (i : Nat) (hs : t.size ≤ 120) (hi : i ≤ t.size) (hok : okJ t i = true) (hst : ∀ k, i ≤ k → k < t.size → byt t k ≠ 41 → okJ t k = true → StepOk t k) : WalkOk t i := by
  intro T L Q p M o0 w h hk
  have H := hide h
  have HK := hide hk
  have HST := hide hst
  have HOK := hide hok
  clear h hk hst hok
  go_enter Try.func25, Try.ntmps25
  go_wp2_with fail
  go_loopw [2] (fun ii wr => ∃ (k : Nat) (q : Pu), i ≤ k ∧ k ≤ t.size ∧ ii = .int .i64 k ∧ Hid (okJ t k = true) ∧ Hid (RSt wr T L Q q) ∧ Hid (Keeps M o0 q) ∧ Hid (semF t i p = semF t k q) ∧ Hid (endJ t i = endJ t k) ∧ Hid (On T L Q w wr)) (fun ii _ => t.size - (intOf ii).toNat)
  case atStart => exact ⟨i, p, Nat.le_refl _, hi, rfl, HOK, H, HK, rfl, rfl, On.refl _ _ _ _⟩
  case round =>
    obtain ⟨k, q, hik, hks, rfl, hokk, hq, hkq, hsem, hend, hg⟩ := hrel
    clear H HK HOK
    by_cases hsz : k < t.size
    · by_cases h41 : byt t k = 41
      · have hst := semF_stop (t := t) (i := k) (p := q) (by simp [h41])
        have hfin : Hid (semF t i p = q) := (unhide hsem).trans hst
        have hen : Hid (endJ t i = k) := by
          rcases scan_cases hks (unhide hokk) with ⟨_, _, h3⟩ | ⟨h1, _⟩ | ⟨h1, _⟩ | ⟨h1, _⟩
          · exact (unhide hend).trans h3
          · exact absurd h41 h1.2
          · exact absurd h41 h1.2
          · exact absurd h41 h1.2
        rw [byt_lt hsz] at h41
        have hne : ((t[k].toNat : Int) != 41) = false := by simp [h41]
        clear h41 hst
        go_wp2_with fail
        go_ret
        rw [unhide hfin, unhide hen]
        exact ⟨rfl, unhide hq, unhide hg⟩
      · obtain ⟨p1, p2, p3, p4, _⟩ := step_places hks (unhide hokk) ⟨hsz, h41⟩
        have hsf := semF_step (p := q) hks (unhide hokk) ⟨hsz, h41⟩
        have hkp := stp_keeps hks (unhide hokk) ⟨hsz, h41⟩ (unhide hkq)
        have HSF := hide ((unhide hsem).trans hsf)
        have HKP := hide hkp
        have HE := hide ((unhide hend).trans p4)
        have HO := hide p3
        have HS := hide (unhide HST k hik hsz h41 (unhide hokk))
        rw [byt_lt hsz] at h41
        have hne : ((t[k].toNat : Int) != 41) = true := by rw [bne_iff_ne]; exact h41
        clear h41 hsf hkp p3 p4
        go_wp2_with fail
        refine (unhide HS T L Q q M o0 _ (unhide hq) (unhide hkq)).mono ?_
        rintro e w2 ⟨rfl, h2, g2⟩
        have H2 := hide h2
        have G2 := hide ((unhide hg).trans g2)
        clear h2 g2
        go_wp2_with fail
        go_roundw
        case rel => exact ⟨nxM t k, stpM t (semF t) k q, by omega, p2, rfl, HO, H2, HKP, HSF, HE, G2⟩
        case measure => simp [intOf]; omega
    · have hst := semF_stop (t := t) (i := k) (p := q) (by simp [hsz])
      have hfin : Hid (semF t i p = q) := (unhide hsem).trans hst
      have hen : Hid (endJ t i = k) := by
        rcases scan_cases hks (unhide hokk) with ⟨_, _, h3⟩ | ⟨h1, _⟩ | ⟨h1, _⟩ | ⟨h1, _⟩
        · exact (unhide hend).trans h3
        · exact absurd h1.1 hsz
        · exact absurd h1.1 hsz
        · exact absurd h1.1 hsz
      clear hst
      go_wp2_with fail
      go_ret
      rw [unhide hfin, unhide hen]
      exact ⟨rfl, unhide hq, unhide hg⟩

/-- What a bucket's byte says. -/
theorem buc_of {t : ByteArray} {i : Nat} (h : bucM t (i + 1) = i + 2) : ∃ (b : Nat) (hlt : i + 1 < t.size), b < 8 ∧ (t[i + 1].toNat : Int) = b + 97 ∧ byt t (i + 1) = b + 97 := by
  have hx : Split.buc (byt t (i + 1)) = true := by
    cases hx : Split.buc (byt t (i + 1))
    · rw [Split.bucM_f hx] at h; omega
    · rfl
  rw [Split.buc_t] at hx
  have hlt : i + 1 < t.size := Split.lt_of_byt (by omega)
  refine ⟨(byt t (i + 1) - 97).toNat, hlt, by omega, ?_, by omega⟩
  rw [← byt_lt hlt]; omega

set_option maxHeartbeats 4000000 in
theorem step_P (t : ByteArray) (i : Nat) (hs : t.size ≤ 120) (hi : i < t.size) (h80 : byt t i = 80) (ho : (headM t i).2.2 = true) : StepOk t i := by
  intro T L Q p M o0 w h hk
  have hh : headM t i = (bucM t (i + 1), 0, decide (bucM t (i + 1) = i + 2)) := by simp [headM, h80]
  have hb2 : bucM t (i + 1) = i + 2 := by rw [hh] at ho; simpa using ho
  obtain ⟨b, hlt, hb8, hbt, hbb⟩ := buc_of hb2
  have hnx : nxM t i = i + 2 := by simp [nxM, hh, hb2]
  have hst : stpM t (semF t) i p = payM p b 1000000000 := by
    have e : Split.stM t i = ⟨80, byt t (i + 1) - 97, 0, none8, 0⟩ := by simp [Split.stM, h80]
    have e2 : ((b : Int) + 97 - 97).toNat = b := by omega
    simp only [stpM, hh, e, if_true, doM, hbb, e2]
  rw [hnx, hst]
  have hhd : headM t i = (i + 2, 0, true) := by rw [hh, hb2]; simp
  have HHD := hide hhd
  rw [byt_lt hi] at h80
  have H := hide h
  have HK := hide hk
  clear h hk hh hb2 hnx hst hbb ho hhd
  go_enter Try.func35, Try.ntmps35
  go_wp2_with fail
  refine (head_any t i _ hs hi).mono ?_
  rintro e w1 ⟨rfl, n1, rfl⟩
  rw [unhide HHD]
  go_wp2_with fail
  refine (upto_any T L Q p M o0 b 1000000000 _ (by exact (unhide H).drewN n1) (unhide HK) hb8 (by omega)).mono ?_
  rintro e w2 ⟨rfl, h2, g2⟩
  have H2 := hide h2
  have G2 := hide (((On.refl T L Q w).drewN n1).trans g2)
  clear h2 g2
  go_wp2_with fail
  go_ret
  exact ⟨by first | rfl | exact ret_int (by omega), unhide H2, unhide G2⟩
end Go.Proofs.Ytbpolcnjojlkjab
