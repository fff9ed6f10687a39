/- split's purse: payInProportion. -/
import Derived.Test.YtbpolcnjojlkjabProp
namespace Go.Proofs.Ytbpolcnjojlkjab
open Go.ChangeShapes Go.WideShapes Go.ChangeAt Go.RowKit
open Split (Pu lea paySum payM Keeps holdM backM amTo Pf propTo argTo leftM propM)
set_option linter.unusedVariables false
set_option linter.unusedSimpArgs false

theorem fl_new (w : World) : Fl (w.alloc (.cells #[.int .i64 0, .int .i64 0, .int .i64 0, .int .i64 0, .int .i64 0, .int .i64 0, .int .i64 0, .int .i64 0] 99)) w.heap.size (List.replicate 8 0) := ⟨rfl, heap_alloc_new _ _⟩

set_option maxHeartbeats 4000000 in
theorem payInProportion_any (P : Nat) (p : Pu) (M : Int) (o0 : List Int) (m0 m1 m2 m3 m4 m5 m6 m7 : Bool) (w : World) (h : PA w P p) (hk : Keeps M o0 p) :
    Calls Try.prog 57 #[.pointer (some ⟨P, 0, none⟩), .agg #[.bool m0, .bool m1, .bool m2, .bool m3, .bool m4, .bool m5, .bool m6, .bool m7]] w fun e w' => e = .returned (.tuple #[]) ∧ PA w' P (propM p [m0, m1, m2, m3, m4, m5, m6, m7]) ∧ w.grownBy w' (some P) := by
  have hPlt := h.lt
  have hmb := Split.amTo_bd hk [m0, m1, m2, m3, m4, m5, m6, m7] 8
  have hpb := hk.paid_le 0
  have hp0 := hk.pa 0
  have hh0 := hk.h0
  have ch : w.cell? ⟨P, 0, none⟩ = some (.int .i64 p.hand) := by
    obtain ⟨vh, hP, _⟩ := h
    exact hP.hand_cell
  have hA0 := h.grown (World.grownBy_alloc w (.cells #[.bool m0, .bool m1, .bool m2, .bool m3, .bool m4, .bool m5, .bool m6, .bool m7] 61) none) (by simp) (by simp)
  have hB0 := bl_box w m0 m1 m2 m3 m4 m5 m6 m7
  have hoa := owedAmong_any P p M o0 m0 m1 m2 m3 m4 m5 m6 m7 _ hA0 hk
  have hpm : propM p [m0, m1, m2, m3, m4, m5, m6, m7] = if p.hand < amTo p [m0, m1, m2, m3, m4, m5, m6, m7] 8 then leftM 8 (propTo p [m0, m1, m2, m3, m4, m5, m6, m7] p.hand (amTo p [m0, m1, m2, m3, m4, m5, m6, m7] 8) 8).p (propTo p [m0, m1, m2, m3, m4, m5, m6, m7] p.hand (amTo p [m0, m1, m2, m3, m4, m5, m6, m7] 8) 8).f else (propTo p [m0, m1, m2, m3, m4, m5, m6, m7] p.hand (amTo p [m0, m1, m2, m3, m4, m5, m6, m7] 8) 8).p := rfl
  have hkeep := Split.prop_keeps hk [m0, m1, m2, m3, m4, m5, m6, m7] p.hand (amTo p [m0, m1, m2, m3, m4, m5, m6, m7] 8) hh0
  rw [hpm]
  clear hpm
  obtain ⟨m, hme⟩ : ∃ m, p.hand = m := ⟨_, rfl⟩
  obtain ⟨t, hte⟩ : ∃ t, amTo p [m0, m1, m2, m3, m4, m5, m6, m7] 8 = t := ⟨_, rfl⟩
  rw [hme] at ch hh0 hkeep hpb
  rw [hte] at hmb hoa hkeep
  rw [hme, hte]
  have hm9 : m ≤ 1000000000 := by omega
  have HOA := hide hoa
  have HA0 := hide hA0
  have HB0 := hide hB0
  have HKP := hide hkeep
  clear hoa hA0 hB0 hkeep hme hte hpb hp0 hk h
  have c0 : w.heap.size < (w.alloc (.cells #[.bool m0, .bool m1, .bool m2, .bool m3, .bool m4, .bool m5, .bool m6, .bool m7] 61)).heap.size := by simp
  go_enter Try.func57, Try.ntmps57
  go_wp2_with fail
  refine (unhide HOA).mono ?_
  rintro e w1 ⟨rfl, g1⟩
  have hA1 := (unhide HA0).grown g1 (by simp) (by simp)
  have hB1 := (unhide HB0).grown g1 (by simp)
  have hG1 : w.grownBy w1 (some P) := grown_trans (World.grownBy_alloc _ _ _) ⟨g1.os, g1.tape, g1.output, g1.size, fun i hi _ => g1.block i hi (by simp)⟩
  have hz1 : w.heap.size < w1.heap.size := cell_lt hB1.2
  have HA1 := hide (hA1.grown (World.grownBy_alloc w1 (.cells #[.int .i64 0, .int .i64 0, .int .i64 0, .int .i64 0, .int .i64 0, .int .i64 0, .int .i64 0, .int .i64 0] 99) none) (by simp) (by simp))
  have HB1 := hide (hB1.grown (World.grownBy_alloc w1 (.cells #[.int .i64 0, .int .i64 0, .int .i64 0, .int .i64 0, .int .i64 0, .int .i64 0, .int .i64 0, .int .i64 0] 99) none) (by simp))
  have HF1 := hide (fl_new w1)
  have HG1 := hide (grown_trans hG1 (World.grownBy_alloc w1 (.cells #[.int .i64 0, .int .i64 0, .int .i64 0, .int .i64 0, .int .i64 0, .int .i64 0, .int .i64 0, .int .i64 0] 99) (some P)))
  clear g1 hA1 hB1 hG1 HA0 HB0 HOA c0 ch
  obtain ⟨am, hame⟩ : ∃ am, [m0, m1, m2, m3, m4, m5, m6, m7] = am := ⟨_, rfl⟩
  rw [hame] at HB1 HKP
  have HAM := hide hame
  clear hame
  go_wp2_with fail
  go_loopw [7] (fun ii wr => ∃ k : Nat, k ≤ 8 ∧ ii = .int .i64 k ∧ Hid (PA wr P (propTo p am m t k).p) ∧ Hid (Fl wr w1.heap.size (propTo p am m t k).f) ∧ Hid (Bl wr w.heap.size am) ∧ Hid (w.grownBy wr (some P))) (fun ii _ => 8 - (intOf ii).toNat)
  case atStart => exact ⟨0, by omega, rfl, HA1, HF1, HB1, HG1⟩
  case round =>
    obtain ⟨k, hk8, rfl, hq, hf, hb, hg⟩ := hrel
    clear HA1 HB1 HF1 HG1
    have hPw : P < wr.heap.size := (unhide hq).lt
    have hFw : w1.heap.size < wr.heap.size := cell_lt (unhide hf).2
    by_cases hlt : k < 8
    · have cb := (unhide hb).cell k hlt
      have hkk := unhide HKP k (by omega)
      have hn : propTo p am m t (k + 1) = (if am.getD k false then
        if t ≤ m then ⟨payM (propTo p am m t k).p k 1000000000, (propTo p am m t k).f⟩
        else ⟨payM (propTo p am m t k).p k (m * (propTo p am m t k).p.owed.getD k 0 / t), (propTo p am m t k).f.set k (m * (propTo p am m t k).p.owed.getD k 0 % t)⟩
      else propTo p am m t k) := rfl
      obtain ⟨s, hse⟩ : ∃ s, propTo p am m t k = s := ⟨_, rfl⟩
      rw [hse] at hq hf hkk hn
      have HK := hide hkk
      have HN := hide hn
      clear hse hn hkk
      cases ham : am.getD k false
      · rw [ham] at cb
        have hnx : Hid (propTo p am m t (k + 1) = s) := by
          show propTo p am m t (k + 1) = s
          rw [unhide HN, ham]; simp
        clear ham HN
        go_wp2_with fail
        go_roundw
        case rel => exact ⟨k + 1, by omega, by go_num, by rw [unhide hnx]; exact hq, by rw [unhide hnx]; exact hf, hb, hg⟩
        case measure => simp [intOf]; omega
      · rw [ham] at cb
        by_cases htm : t ≤ m
        · have hnx : Hid (propTo p am m t (k + 1) = ⟨payM s.p k 1000000000, s.f⟩) := by
            show propTo p am m t (k + 1) = _
            rw [unhide HN, ham, if_pos htm]; simp
          clear ham HN
          go_wp2_with fail
          refine (pay_any P s.p M o0 k _ (unhide hq) (unhide HK).1 hlt).mono ?_
          rintro e w2 ⟨rfl, h2, g2⟩
          have H2 := hide h2
          have F2 := hide ((unhide hf).grown g2 (by simp; omega))
          have B2 := hide ((unhide hb).grown g2 (by simp; omega))
          have G2 := hide (grown_trans (unhide hg) g2)
          clear h2 g2
          go_wp2_with fail
          go_roundw
          case rel => exact ⟨k + 1, by omega, by go_num, by rw [unhide hnx]; exact H2, by rw [unhide hnx]; exact F2, B2, G2⟩
          case measure => simp [intOf]; omega
        · have hnx : Hid (propTo p am m t (k + 1) = ⟨payM s.p k (m * s.p.owed.getD k 0 / t), s.f.set k (m * s.p.owed.getD k 0 % t)⟩) := by
            show propTo p am m t (k + 1) = _
            rw [unhide HN, ham, if_neg htm]; simp
          clear ham HN
          have co : wr.cell? ⟨P, 2 + k, none⟩ = some (.int .i64 (s.p.owed.getD k 0)) := by
            obtain ⟨vh, hP, _⟩ := unhide hq
            exact hP.owed_cell k hlt
          have ho1 := (unhide HK).1.ow k
          have ho2 := (unhide HK).1.owed_le k
          obtain ⟨o, hoe⟩ : ∃ o, s.p.owed.getD k 0 = o := ⟨_, rfl⟩
          rw [hoe] at co ho1 ho2 hnx
          clear hoe
          have hp1 : 0 ≤ m * o := Int.mul_nonneg hh0 ho1
          have hp2 : m * o ≤ m * 1000000000 := Int.mul_le_mul_of_nonneg_left ho2 hh0
          obtain ⟨pr, hpr⟩ : ∃ pr, m * o = pr := ⟨_, rfl⟩
          have hdv : 0 ≤ m * o / t ∧ m * o / t ≤ 1000000000 := by
            refine ⟨Int.ediv_nonneg hp1 (by omega), ?_⟩
            have : m * o ≤ 1000000000 * t := by
              have q1 : m * o ≤ t * o := Int.mul_le_mul_of_nonneg_right (by omega) ho1
              have q2 : t * o ≤ t * 1000000000 := Int.mul_le_mul_of_nonneg_left ho2 (by omega)
              rw [Int.mul_comm 1000000000 t]
              omega
            exact Int.ediv_le_of_le_mul (by omega) this
          have hmd : 0 ≤ m * o % t ∧ m * o % t ≤ 10000000000 := by
            have q1 := Int.emod_nonneg (m * o) (show t ≠ 0 by omega)
            have q2 := Int.emod_lt_of_pos (m * o) (show 0 < t by omega)
            omega
          have hw1 : wrap64 (m * o) = pr := by rw [← hpr]; exact IntWalk.wrap64_in _ (by omega)
          rw [hpr] at hp1 hp2 hdv hmd hnx
          have hw2 : wrap64 (pr.tdiv t) = pr / t := by rw [Int.tdiv_eq_ediv_of_nonneg hp1]; exact IntWalk.wrap64_in _ (by omega)
          have hw3 : pr.tmod t = pr % t := Int.tmod_eq_emod_of_nonneg hp1
          have HW := hide (And.intro hw1 (And.intro hw2 hw3))
          clear hw1 hw2 hw3
          have ht0 : (t == 0) = false := beq_eq_false_iff_ne.2 (by omega)
          have HPR := hide hpr
          clear hpr
          have cf := (unhide hf).cell k hlt
          have ff := (unhide hf).fr k
          go_wp2_with fail
          rw [(unhide HW).1, (unhide HW).2.1, (unhide HW).2.2]
          obtain ⟨dq, hdq⟩ : ∃ dq, pr / t = dq := ⟨_, rfl⟩
          obtain ⟨dr, hdr⟩ : ∃ dr, pr % t = dr := ⟨_, rfl⟩
          rw [hdq] at hdv hnx ⊢
          rw [hdr] at hmd hnx ⊢
          clear hdq hdr
          refine (payAtMost_any P s.p M o0 k dq _ ((unhide hq).setOther (unhide hf).2 (by decide) (by omega) k _) (unhide HK).1 hlt (by omega) (by omega)).mono ?_
          rintro e w2 ⟨rfl, h2, g2⟩
          have H2 := hide h2
          have F2 := hide (((unhide hf).set k dr).grown g2 (by simp; omega))
          have B2 := hide (((unhide hb).grown (grown_set (grown_refl _ _) k (.int .i64 dr)) (r := some w1.heap.size) (by simp; omega)).grown g2 (by simp; omega))
          have G2 := hide (grown_trans (grown_new (unhide hg) (p := ⟨w1.heap.size, k, none⟩) (by simp; omega) (.int .i64 dr)) g2)
          clear h2 g2
          go_wp2_with fail
          go_roundw
          case rel => exact ⟨k + 1, by omega, by go_num, by rw [unhide hnx]; exact H2, by rw [unhide hnx]; exact F2, B2, G2⟩
          case measure => simp [intOf]; omega
    · have : k = 8 := by omega
      subst this
      have hkk := unhide HKP 8 (by omega)
      obtain ⟨s, hse⟩ : ∃ s, propTo p am m t 8 = s := ⟨_, rfl⟩
      rw [hse] at hq hf hkk
      have HSE := hide hse
      clear hse
      by_cases hmt : m < t
      · have hf8 := (unhide hf).1
        obtain ⟨f0, f1, f2, f3, f4, f5, f6, f7, hfe⟩ : ∃ f0 f1 f2 f3 f4 f5 f6 f7, s.f = [f0, f1, f2, f3, f4, f5, f6, f7] := by
          generalize s.f = f at hf8
          match f, hf8 with
          | [f0, f1, f2, f3, f4, f5, f6, f7], _ => exact ⟨f0, f1, f2, f3, f4, f5, f6, f7, rfl⟩
        have hff := unhide hf
        rw [hfe] at hff
        have c0 := hff.cell 0 (by omega)
        have c1 := hff.cell 1 (by omega)
        have c2 := hff.cell 2 (by omega)
        have c3 := hff.cell 3 (by omega)
        have c4 := hff.cell 4 (by omega)
        have c5 := hff.cell 5 (by omega)
        have c6 := hff.cell 6 (by omega)
        have c7 := hff.cell 7 (by omega)
        simp at c0 c1 c2 c3 c4 c5 c6 c7
        have HFE := hide hfe
        have HKK := hide hkk
        clear hff hfe hkk
        go_wp2_with fail
        refine (payLeftOver_any P s.p M o0 f0 f1 f2 f3 f4 f5 f6 f7 _ (unhide hq) (unhide HKK).1).mono ?_
        rintro e w2 ⟨rfl, h2, g2⟩
        have H2 := hide h2
        have G2 := hide (grown_trans (unhide hg) g2)
        clear h2 g2
        go_wp2_with fail
        go_end0
        rw [unhide HAM, unhide HSE, unhide HFE]
        first
        | rw [if_pos hmt]
          exact ⟨rfl, unhide H2, unhide G2⟩
        | exact ⟨rfl, unhide H2, unhide G2⟩
      · go_wp2_with fail
        go_end0
        rw [unhide HAM, unhide HSE]
        first
        | rw [if_neg hmt]
          exact ⟨rfl, unhide hq, unhide hg⟩
        | exact ⟨rfl, unhide hq, unhide hg⟩
end Go.Proofs.Ytbpolcnjojlkjab
