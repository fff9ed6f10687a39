/- splitref's Verify, of code that is admitted. -/
import Derived.Test.YtbpolcnjojlkjabRefHeld
namespace Go.Proofs.Ytbpolcnjojlkjab
open Go.ChangeShapes Go.WideShapes Go.ChangeAt Go.RowKit
set_option linter.unusedVariables false
set_option linter.unusedSimpArgs false

set_option maxRecDepth 100000 in
set_option maxHeartbeats 4000000 in
theorem rverify_adm (c : ByteArray) (n : Nat) (w : World) (hA : Adm c n) : Calls Try.prog 8 #[.string c] w fun e w' => e = .returned (.tuple #[.int .i64 0, .int .i64 0]) ∧ Below w.heap.size w w' := by
  have hn := hA.n120
  have hs := hA.size
  have hdiv : (c.size : Int).tdiv 5 = n := by
    rw [Int.tdiv_eq_ediv_of_nonneg (by omega)]
    omega
  have hmul : (c.size : Int) = (n : Int) * 5 := by omega
  have HA := hide hA
  have HS := hide hs
  have hc600 : c.size ≤ 600 := by omega
  have hne : ((c.size : Int) != (n : Int) * 5) = false := by simp; omega
  have HMUL := hide hmul
  clear hA hs hmul
  go_enter Try.func8, Try.ntmps8
  go_wp2_with fail
  go_loopw [5, 6, 7] (fun ii _ _ wr => ∃ i : Nat, i ≤ n ∧ ii = .int .i64 i ∧ Hid (Below w.heap.size w wr)) (fun ii _ _ _ => n - (intOf ii).toNat)
  case atStart => exact ⟨0, by omega, rfl, Below.refl _ _⟩
  case round =>
    obtain ⟨i, hin, rfl, hb⟩ := hrel
    by_cases hlt : i < n
    · have hsz : i * 5 + 5 ≤ c.size := by have := unhide HS; omega
      have hat := fun w' => at_any c i w' hc600 hsz
      have hok := (unhide HA).ok i hlt
      unfold decOk at hok
      rw [decide_eq_true hsz, Bool.true_and] at hok
      have hkn := fun w' => known_any (kOf c i) (aOf c i) (bOf c i) (nOf c i) ((n : Int) - 1 - i) w'
      rw [hok] at hkn
      generalize kOf c i = k at *
      generalize aOf c i = a at *
      generalize bOf c i = b at *
      generalize nOf c i = m at *
      have HAT := hide hat
      have HKN := hide hkn
      clear hat hkn hok
      go_wp2_with fail
      refine (unhide HAT _).mono ?_
      rintro e w2 ⟨rfl, hb2⟩
      have B2 := hide (below_step (unhide hb) hb2)
      clear hb2
      go_wp2_with fail
      refine (unhide HKN _).mono ?_
      rintro e w3 ⟨rfl, hb3⟩
      have B3 := hide (below_step (below_step (unhide B2) ((Below.refl _ _).alloc (Nat.le_refl _) _)) hb3)
      clear hb3 B2
      go_wp2_with fail
      go_roundw
      case rel => exact ⟨i + 1, by omega, by go_num, B3⟩
      case measure => simp [intOf]; omega
    · have hien : i = n := by omega
      subst hien
      go_wp2_with fail
      refine (held_adm c i _ (unhide HA)).mono ?_
      rintro e w2 ⟨rfl, hb2⟩
      have B2 := hide (below_step (unhide hb) hb2)
      clear hb2
      go_wp2_with fail
      go_ret2
      exact ⟨rfl, unhide B2⟩
end Go.Proofs.Ytbpolcnjojlkjab
