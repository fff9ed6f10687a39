/- splitref's step, the others. -/
import Derived.Test.YtbpolcnjojlkjabRefWalk
namespace Go.Proofs.Ytbpolcnjojlkjab
open Go.ChangeShapes Go.WideShapes Go.ChangeAt Go.RowKit
open Split (Pu payM Keeps propM byt byt_lt headM St doM holdM backM numM amongM none8 risM digM bucM)
set_option linter.unusedVariables false
set_option linter.unusedSimpArgs false


theorem wrapN (n : Nat) (h : n ≤ 1000) (x : Int) (e : x = n) : IntKind.i64.wrap x = (n : Int) := by rw [IntKind.wrap_i64]; omega
theorem wrapB (n : Nat) (h : n ≤ 255) (x : Int) (e : x = n) : IntKind.u8.wrap x = (n : Int) := by simp [IntKind.wrap, IntKind.bits, IntKind.signed]; omega

theorem capped {t : ByteArray} {i : Nat} (h : byt t i = 67 ∨ byt t i = 73) (hi : i < t.size) (ho : (headM t i).2.2 = true) :
    headM t i = (i + 6, if byt t i = 73 then 2 else 0, true) ∧ bucM t (i + 1) = i + 2 ∧ digM t (i + 2) 4 = i + 2 + 4 ∧ i + 2 + 4 ≤ t.size ∧ Split.stM t i = ⟨byt t i, byt t (i + 1) - 97, numM t (i + 2) 4, none8, 0⟩ ∧ 0 ≤ numM t (i + 2) 4 := by
  have n80 : byt t i ≠ 80 := by omega
  have hst : Split.stM t i = ⟨byt t i, byt t (i + 1) - 97, numM t (i + 2) 4, none8, 0⟩ := by simp only [Split.stM, if_neg n80, if_pos h]
  have h0 := (st_ok ho).a0
  rw [hst] at h0
  have hh : headM t i = if bucM t (i + 1) = i + 2 then (digM t (i + 2) 4, if byt t i = 73 then 2 else 0, decide (digM t (i + 2) 4 = i + 6)) else (bucM t (i + 1), 0, false) := by
    simp only [headM, if_neg n80, if_pos h]
  by_cases hb : bucM t (i + 1) = i + 2
  · rw [if_pos hb] at hh
    have hd : digM t (i + 2) 4 = i + 6 := by rw [hh] at ho; simpa using ho
    have hz := Split.digM_size t 4 (i + 2) (by have := Split.bucM_size t (i + 1) (by omega); omega)
    refine ⟨?_, hb, by omega, by omega, hst, h0⟩
    rw [hh, hd]; simp
  · rw [if_neg hb] at hh
    rw [hh] at ho
    exact absurd ho (by simp)

set_option maxHeartbeats 4000000 in
theorem step_C (t : ByteArray) (i : Nat) (hs : t.size ≤ 120) (hi : i < t.size) (h67 : byt t i = 67) (ho : (headM t i).2.2 = true) : StepOk t i := by
  intro T L Q p M o0 w h hk
  obtain ⟨hhd, hb2, hd4, hsz, hstm, hn0⟩ := capped (.inl h67) hi ho
  obtain ⟨b, hlt, hb8, hbt, hbb⟩ := buc_of hb2
  have n73 : byt t i ≠ 73 := by omega
  rw [if_neg n73] at hhd
  have hnx : nxM t i = i + 6 := by simp [nxM, hhd]
  have hst : stpM t (semF t) i p = payM p b (numM t (i + 2) 4) := by
    have e2 : ((b : Int) + 97 - 97).toNat = b := by omega
    simp only [stpM, hhd, hstm, if_true, doM, hbb, e2, h67]
    simp
  rw [hnx, hst]
  have HHD := hide hhd
  have HN := hide (number_any t (i + 2) 4 · hs hsz (by omega) hd4)
  obtain ⟨v, hv⟩ : ∃ v, numM t (i + 2) 4 = v := ⟨_, rfl⟩
  rw [hv] at HN hn0 ⊢
  rw [byt_lt hi] at h67
  have H := hide h
  have HK := hide hk
  clear h hk hb2 hnx hst hbb ho hhd hstm hv n73 hd4
  have hw1 := wrapN (i + 1) (by omega) ((i : Int) + 1) (by omega)
  have hw2 := wrapN (i + 2) (by omega) ((i : Int) + 2) (by omega)
  have hw3 := wrapB b (by omega) ((b : Int) + 97 - 97) (by omega)
  have hw4 := wrapN b (by omega) (b : Int) rfl
  have hw5 := wrapB b (by omega) (b : Int) rfl
  go_enter Try.func35, Try.ntmps35
  go_wp2_with fail
  refine (head_any t i _ hs hi).mono ?_
  rintro e w1 ⟨rfl, n1, rfl⟩
  rw [unhide HHD]
  go_wp2_with fail
  go_region_with (first
    | (go_at_call 48; refine (unhide HN _).mono ?_; rintro e w2 ⟨rfl, rfl⟩)
    | (go_at_call 33; refine (upto_any T L Q p M o0 b v _ (by exact (unhide H).drewN _) (unhide HK) hb8 hn0).mono ?_; rintro e w2 ⟨rfl, h2, g2⟩; have H2 := hide h2; have G2 := hide (((On.refl T L Q w).drewN _).trans g2); clear h2 g2))
  all_goals (go_wp2_with fail; go_ret; exact ⟨by first | rfl | exact ret_int (by omega), unhide H2, unhide G2⟩)

theorem RSt.any {w : World} {T L Q : Nat} {p : Pu} (h : RSt w T L Q p) (q : Pu) (h1 : q.hand = p.hand) (h2 : q.owed = p.owed) (h3 : q.paid = p.paid) : RSt w T L Q q := by
  obtain ⟨a, b, c, d⟩ := p
  obtain ⟨a', b', c', d'⟩ := q
  dsimp only at h1 h2 h3
  subst h1; subst h2; subst h3
  exact ⟨h.lo, h.lp, h.n1, h.n2, h.n3, h.row, h.rl, h.rq⟩

set_option maxRecDepth 100000 in
set_option maxHeartbeats 4000000 in
theorem step_H (t : ByteArray) (i : Nat) (hs : t.size ≤ 120) (hi : i < t.size) (h72 : byt t i = 72) (hok : okJ t i = true) (hwk : WalkOk t (i + 4)) : StepOk t i := by
  intro T L Q p M o0 w h hk
  obtain ⟨p1, p2, p3, p4, ho, p6, p7, hcase⟩ := step_places (by omega) hok ⟨hi, by omega⟩
  have e80 : byt t i ≠ 80 := by omega
  have e67 : ¬ (byt t i = 67 ∨ byt t i = 73) := by omega
  have e82 : byt t i ≠ 82 := by omega
  have hstm : Split.stM t i = ⟨72, 0, numM t (i + 1) 2, none8, 0⟩ := by simp only [Split.stM, if_neg e80, if_neg e67, if_neg e82]
  have hh : headM t i = if digM t (i + 1) 2 = i + 3 ∧ byt t (i + 1) = 48 ∧ byt t (i + 2) = 48 then (i + 2, 1, false) else (digM t (i + 1) 2, 1, decide (digM t (i + 1) 2 = i + 3)) := by
    simp only [headM, if_neg e80, if_neg e67, if_neg e82, if_pos h72]
  have hd : digM t (i + 1) 2 = i + 3 := by
    rw [hh] at ho
    split at ho
    · exact absurd ho (by simp)
    · simpa using ho
  have hhd : headM t i = (i + 3, 1, true) := by
    rw [hh] at ho ⊢
    split at ho
    · exact absurd ho (by simp)
    · rename_i hx; rw [if_neg hx, hd]; simp
  have hB : BlkAt t (i + 3) := by
    rcases hcase with hn | ⟨hn, hB⟩ | ⟨hn, hB, hB2⟩
    · rw [hhd] at hn; simp at hn
    · rw [hhd] at hB; exact hB
    · rw [hhd] at hB; exact hB
  have hj4 := hB.jlt
  have hel := hB.elt
  have heg := hB.ege
  have hsz : i + 1 + 2 ≤ t.size := by omega
  have hso := st_ok ho
  have hn0 := hso.a0
  have hn1 := hso.h (by rw [hstm])
  rw [hstm] at hn0 hn1
  dsimp only at hn0 hn1
  have hnx : nxM t i = endJ t (i + 4) + 1 := by simp [nxM, hhd]
  have hst : stpM t (semF t) i p = backM (semF t (i + 4) (holdM p (numM t (i + 1) 2))) := by simp [stpM, hhd, hstm]
  rw [hnx, hst]
  have hpb := Split.part_bd p.hand (numM t (i + 1) 2) hk.h0 hn0 hn1
  have hkh := Split.good_hold hk _ hn0 hn1
  have HN := hide (number_any t (i + 1) 2 · hs hsz (by omega) (by omega))
  have hq : Hid ((semF t (i + 4) (holdM p (numM t (i + 1) 2))).held = p.held ++ [p.hand - p.hand * numM t (i + 1) 2 / 100]) := by
    show (semF t (i + 4) (holdM p (numM t (i + 1) 2))).held = _
    unfold semF
    rw [sem_held t _ _ _ (by omega) hB.ok]
    rfl
  have HK2 : Hid (Keeps M o0 (semF t (i + 4) (holdM p (numM t (i + 1) 2)))) := sem_keeps _ _ _ (by omega) hB.ok hkh
  have HKH := hide hkh
  obtain ⟨v, hv⟩ : ∃ v, numM t (i + 1) 2 = v := ⟨_, rfl⟩
  rw [hv] at HN hn0 hn1 hpb hq HKH HK2 ⊢
  obtain ⟨en, hen⟩ : ∃ en, endJ t (i + 4) = en := ⟨_, rfl⟩
  have hel' : en < t.size := by rw [← hen]; exact hel
  have HE := hide hen
  rw [hen]
  have hh0 := hk.h0
  have hpl := hk.paid_le 0
  have hp0 := hk.pa 0
  have hm9 : p.hand ≤ 1000000000 := by omega
  have hml : p.hand * v ≤ 1000000000 * 100 := Int.mul_le_mul hm9 hn1 hn0 (by omega)
  have hml0 : 0 ≤ p.hand * v := Int.mul_nonneg hh0 hn0
  have hrs : Hid (∀ w, RSt w T L Q p → w.cell? ⟨T, 0, none⟩ = some (.int .i64 p.hand) ∧ w.frozen? ⟨T, 0, none⟩ = false ∧ ∀ pt, pt = p.hand * v / 100 → RSt (w.setCell ⟨T, 0, none⟩ (.int .i64 pt)) T L Q (holdM p v)) := by
    intro w h
    refine ⟨h.ch, h.f0 0, ?_⟩
    intro pt hpt
    subst hpt
    exact (h.hand (p.hand * v / 100)).any _ rfl rfl rfl
  obtain ⟨hdn, hhe⟩ : ∃ hdn, p.hand = hdn := ⟨_, rfl⟩
  rw [hhe] at hh0 hm9 hml hml0 hpb hq hrs
  have HHD := hide hhd
  have HW := hide hwk
  rw [byt_lt hi] at h72
  have H := hide h
  clear h hk hkh hh hnx hst ho hhd hstm hv hd hcase hso hwk p1 p2 p3 p4 p6 p7 hB hpl hp0 hen hel heg e80 e67 e82 hhe
  obtain ⟨pt, hpt⟩ : ∃ pt, hdn * v / 100 = pt := ⟨_, rfl⟩
  rw [hpt] at hpb hq hrs
  obtain ⟨q, hqe⟩ : ∃ q, semF t (i + 4) (holdM p v) = q := ⟨_, rfl⟩
  rw [hqe] at HK2 hq ⊢
  have HQE := hide hqe
  clear hqe
  go_enter Try.func35, Try.ntmps35
  go_wp2_with fail
  refine (head_any t i _ hs hi).mono ?_
  rintro e w1 ⟨rfl, n1, hw1⟩
  rw [unhide HHD]
  have hR1 : RSt w1 T L Q p := by rw [hw1]; exact (unhide H).drewN n1
  have G1 : Hid (On T L Q w w1) := by rw [hw1]; exact (On.refl T L Q w).drewN n1
  obtain ⟨c0, f0, hrs1⟩ := unhide hrs w1 hR1
  have H1 : Hid (RSt (w1.setCell ⟨T, 0, none⟩ (.int .i64 pt)) T L Q (holdM p v)) := hrs1 pt rfl
  clear hrs hrs1 hR1 hw1
  have HPT := hide hpt
  have hw1 : IntKind.i64.wrap (hdn * v) = hdn * v := by rw [IntKind.wrap_i64]; omega
  have hw2 := wrapN (i + 1) (by omega) ((i : Int) + 1) (by omega)
  clear hpt
  go_wp2_with fail
  go_quiet ((go_at_call 48; exact Calls.quiet_of_same (unhide HN _)))
  rw [unhide HPT]
  clear hw1 hw2
  go_wp2_with fail
  try go_region
  go_wp2_with fail
  rw [show ((i : Int) + 3 + 1) = ((i + 4 : Nat) : Int) by omega]
  refine (unhide HW T L Q (holdM p v) M o0 _ (by exact (unhide H1).other rfl rfl rfl) (unhide HKH)).mono ?_
  rintro e w2 ⟨rfl, h2, g2⟩
  rw [unhide HE]
  rw [unhide HQE] at h2
  have c2 := h2.ch
  have f2 := h2.f0 0
  have hq0 := (unhide HK2).h0
  have hql := (unhide HK2).paid_le 0
  have hqp := (unhide HK2).pa 0
  have hq9 : q.hand ≤ 1000000000 := by omega
  have hfin : Hid (RSt (w2.setCell ⟨T, 0, none⟩ (.int .i64 (q.hand + (hdn - pt)))) T L Q (backM q)) := by
    have hb : backM q = ⟨q.hand + (hdn - pt), p.held, q.owed, q.paid⟩ := by
      have := unhide hq
      simp [backM, this]
    rw [hb]
    exact (h2.hand (q.hand + (hdn - pt))).any _ rfl rfl rfl
  have G2 := hide (((unhide G1).trans (((On.refl T L Q w1).drewN nq).set (x := ⟨T, 0, none⟩) (.int .i64 pt) (.inl rfl))).trans ⟨g2.os, g2.tape, g2.output, g2.size, g2.block⟩)
  have G3 := hide ((unhide G2).set (x := ⟨T, 0, none⟩) (.int .i64 (q.hand + (hdn - pt))) (.inl rfl))
  obtain ⟨qh, hqh⟩ : ∃ qh, q.hand = qh := ⟨_, rfl⟩
  rw [hqh] at c2 hq0 hq9 hfin G3
  clear hql hqp hqh h2 g2 hq G2 H1 c0 f0 HKH HK2
  go_wp2_with fail
  try go_region
  go_wp2_with fail
  go_ret
  exact ⟨by first | rfl | exact ret_int (by omega), (unhide hfin).other rfl rfl rfl, unhide G3⟩
end Go.Proofs.Ytbpolcnjojlkjab
