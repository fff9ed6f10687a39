/- RefShares: RefWalk, RefStep, RefStep2, RefStep3, RefShare -/
import Derived.Test.YtmdjdpofpkgffabRefPays
import Derived.Test.YtmdjdpofpkgffabSems
import Derived.Test.YtmdjdpofpkgffabShared

/- splitref's walk and step. -/
namespace Go.Proofs.Ytmdjdpofpkgffab
open Go.ChangeShapes Go.WideShapes Go.ChangeAt Go.RowKit
open Split (Pu payM Keeps propM byt byt_lt headM St doM holdM backM numM amongM none8 risM digM bucM)
set_option linter.unusedVariables false
set_option linter.unusedSimpArgs false

def WalkOk (t : ByteArray) (i : Nat) : Prop := ∀ (T L Q : Nat) (p : Pu) (M : Int) (o0 : List Int) (w : World), RSt w T L Q p → Keeps M o0 p →
  Calls Try.prog 45 #[.pointer (some ⟨T, 0, none⟩), .string t, .int .i64 i] w fun e w' => e = .returned (.int .i64 (endJ t i : Nat)) ∧ RSt w' T L Q (semF t i p) ∧ On T L Q w w'
def StepOk (t : ByteArray) (i : Nat) : Prop := ∀ (T L Q : Nat) (p : Pu) (M : Int) (o0 : List Int) (w : World), RSt w T L Q p → Keeps M o0 p →
  Calls Try.prog 69 #[.pointer (some ⟨T, 0, none⟩), .string t, .int .i64 i] w fun e w' => e = .returned (.int .i64 (nxM t i : Nat)) ∧ RSt w' T L Q (stpM t (semF t) i p) ∧ On T L Q w w'

set_option maxHeartbeats 4000000 in
theorem walk_of (t : ByteArray) (i : Nat) (hs : t.size ≤ 120) (hi : i ≤ t.size) (hok : okJ t i = true) (hst : ∀ k, i ≤ k → k < t.size → byt t k ≠ 41 → okJ t k = true → StepOk t k) : WalkOk t i := by
  intro T L Q p M o0 w h hk
  have H := hide h
  have HK := hide hk
  have HST := hide hst
  have HOK := hide hok
  clear h hk hst hok
  go_enter Try.func45, Try.ntmps45
  go_wp2_with fail
  go_loopw [2] (fun ii wr => ∃ (k : Nat) (q : Pu), i ≤ k ∧ k ≤ t.size ∧ ii = .int .i64 k ∧ Hid (okJ t k = true) ∧ Hid (RSt wr T L Q q) ∧ Hid (Keeps M o0 q) ∧ Hid (semF t i p = semF t k q) ∧ Hid (endJ t i = endJ t k) ∧ Hid (On T L Q w wr)) (fun ii _ => t.size - (intOf ii).toNat)
  case atStart => exact ⟨i, p, Nat.le_refl _, hi, rfl, HOK, H, HK, rfl, rfl, On.refl _ _ _ _⟩
  case round =>
    obtain ⟨k, q, hik, hks, rfl, hokk, hq, hkq, hsem, hend, hg⟩ := hrel
    clear H HK HOK
    by_cases hsz : k < t.size
    · by_cases h41 : byt t k = 41
      · have hst := semF_stop (t := t) (i := k) (p := q) (by simp [h41])
        have hfin : Hid (semF t i p = q) := (unhide hsem).trans hst
        have hen : Hid (endJ t i = k) := by
          rcases scan_cases hks (unhide hokk) with ⟨_, _, h3⟩ | ⟨h1, _⟩ | ⟨h1, _⟩ | ⟨h1, _⟩
          · exact (unhide hend).trans h3
          · exact absurd h41 h1.2
          · exact absurd h41 h1.2
          · exact absurd h41 h1.2
        rw [byt_lt hsz] at h41
        have hne : ((t[k].toNat : Int) != 41) = false := by simp [h41]
        clear h41 hst
        go_wp2_with fail
        go_ret
        rw [unhide hfin, unhide hen]
        exact ⟨rfl, unhide hq, unhide hg⟩
      · obtain ⟨p1, p2, p3, p4, _⟩ := step_places hks (unhide hokk) ⟨hsz, h41⟩
        have hsf := semF_step (p := q) hks (unhide hokk) ⟨hsz, h41⟩
        have hkp := stp_keeps hks (unhide hokk) ⟨hsz, h41⟩ (unhide hkq)
        have HSF := hide ((unhide hsem).trans hsf)
        have HKP := hide hkp
        have HE := hide ((unhide hend).trans p4)
        have HO := hide p3
        have HS := hide (unhide HST k hik hsz h41 (unhide hokk))
        rw [byt_lt hsz] at h41
        have hne : ((t[k].toNat : Int) != 41) = true := by rw [bne_iff_ne]; exact h41
        clear h41 hsf hkp p3 p4
        go_wp2_with fail
        refine (unhide HS T L Q q M o0 _ (unhide hq) (unhide hkq)).mono ?_
        rintro e w2 ⟨rfl, h2, g2⟩
        have H2 := hide h2
        have G2 := hide ((unhide hg).trans g2)
        clear h2 g2
        go_wp2_with fail
        go_roundw
        case rel => exact ⟨nxM t k, stpM t (semF t) k q, by omega, p2, rfl, HO, H2, HKP, HSF, HE, G2⟩
        case measure => simp [intOf]; omega
    · have hst := semF_stop (t := t) (i := k) (p := q) (by simp [hsz])
      have hfin : Hid (semF t i p = q) := (unhide hsem).trans hst
      have hen : Hid (endJ t i = k) := by
        rcases scan_cases hks (unhide hokk) with ⟨_, _, h3⟩ | ⟨h1, _⟩ | ⟨h1, _⟩ | ⟨h1, _⟩
        · exact (unhide hend).trans h3
        · exact absurd h1.1 hsz
        · exact absurd h1.1 hsz
        · exact absurd h1.1 hsz
      clear hst
      go_wp2_with fail
      go_ret
      rw [unhide hfin, unhide hen]
      exact ⟨rfl, unhide hq, unhide hg⟩

/-- What a bucket's byte says. -/
theorem buc_of {t : ByteArray} {i : Nat} (h : bucM t (i + 1) = i + 2) : ∃ (b : Nat) (hlt : i + 1 < t.size), b < 8 ∧ (t[i + 1].toNat : Int) = b + 97 ∧ byt t (i + 1) = b + 97 := by
  have hx : Split.buc (byt t (i + 1)) = true := by
    cases hx : Split.buc (byt t (i + 1))
    · rw [Split.bucM_f hx] at h; omega
    · rfl
  rw [Split.buc_t] at hx
  have hlt : i + 1 < t.size := Split.lt_of_byt (by omega)
  refine ⟨(byt t (i + 1) - 97).toNat, hlt, by omega, ?_, by omega⟩
  rw [← byt_lt hlt]; omega

set_option maxHeartbeats 4000000 in
theorem step_P (t : ByteArray) (i : Nat) (hs : t.size ≤ 120) (hi : i < t.size) (h80 : byt t i = 80) (ho : (headM t i).2.2 = true) : StepOk t i := by
  intro T L Q p M o0 w h hk
  have hh : headM t i = (bucM t (i + 1), 0, decide (bucM t (i + 1) = i + 2)) := by simp [headM, h80]
  have hb2 : bucM t (i + 1) = i + 2 := by rw [hh] at ho; simpa using ho
  obtain ⟨b, hlt, hb8, hbt, hbb⟩ := buc_of hb2
  have hnx : nxM t i = i + 2 := by simp [nxM, hh, hb2]
  have hst : stpM t (semF t) i p = payM p b 1000000000 := by
    have e : Split.stM t i = ⟨80, byt t (i + 1) - 97, 0, none8, 0⟩ := by simp [Split.stM, h80]
    have e2 : ((b : Int) + 97 - 97).toNat = b := by omega
    simp only [stpM, hh, e, if_true, doM, hbb, e2]
  rw [hnx, hst]
  have hhd : headM t i = (i + 2, 0, true) := by rw [hh, hb2]; simp
  have HHD := hide hhd
  rw [byt_lt hi] at h80
  have H := hide h
  have HK := hide hk
  clear h hk hh hb2 hnx hst hbb ho hhd
  go_enter Try.func69, Try.ntmps69
  go_wp2_with fail
  refine (head_any t i _ hs hi).mono ?_
  rintro e w1 ⟨rfl, n1, rfl⟩
  rw [unhide HHD]
  go_wp2_with fail
  refine (upto_any T L Q p M o0 b 1000000000 _ (by exact (unhide H).drewN n1) (unhide HK) hb8 (by omega)).mono ?_
  rintro e w2 ⟨rfl, h2, g2⟩
  have H2 := hide h2
  have G2 := hide (((On.refl T L Q w).drewN n1).trans g2)
  clear h2 g2
  go_wp2_with fail
  go_ret
  exact ⟨by first | rfl | exact ret_int (by omega), unhide H2, unhide G2⟩
end Go.Proofs.Ytmdjdpofpkgffab

/- splitref's step, the others. -/
namespace Go.Proofs.Ytmdjdpofpkgffab
open Go.ChangeShapes Go.WideShapes Go.ChangeAt Go.RowKit
open Split (Pu payM Keeps propM byt byt_lt headM St doM holdM backM numM amongM none8 risM digM bucM)
set_option linter.unusedVariables false
set_option linter.unusedSimpArgs false


theorem wrapN (n : Nat) (h : n ≤ 1000) (x : Int) (e : x = n) : IntKind.i64.wrap x = (n : Int) := by rw [IntKind.wrap_i64]; omega
theorem wrapB (n : Nat) (h : n ≤ 255) (x : Int) (e : x = n) : IntKind.u8.wrap x = (n : Int) := by simp [IntKind.wrap, IntKind.bits, IntKind.signed]; omega

theorem capped {t : ByteArray} {i : Nat} (h : byt t i = 67 ∨ byt t i = 73) (hi : i < t.size) (ho : (headM t i).2.2 = true) :
    headM t i = (i + 6, if byt t i = 73 then 2 else 0, true) ∧ bucM t (i + 1) = i + 2 ∧ digM t (i + 2) 4 = i + 2 + 4 ∧ i + 2 + 4 ≤ t.size ∧ Split.stM t i = ⟨byt t i, byt t (i + 1) - 97, numM t (i + 2) 4, none8, 0⟩ ∧ 0 ≤ numM t (i + 2) 4 := by
  have n80 : byt t i ≠ 80 := by omega
  have hst : Split.stM t i = ⟨byt t i, byt t (i + 1) - 97, numM t (i + 2) 4, none8, 0⟩ := by simp only [Split.stM, if_neg n80, if_pos h]
  have h0 := (st_ok ho).a0
  rw [hst] at h0
  have hh : headM t i = if bucM t (i + 1) = i + 2 then (digM t (i + 2) 4, if byt t i = 73 then 2 else 0, decide (digM t (i + 2) 4 = i + 6)) else (bucM t (i + 1), 0, false) := by
    simp only [headM, if_neg n80, if_pos h]
  by_cases hb : bucM t (i + 1) = i + 2
  · rw [if_pos hb] at hh
    have hd : digM t (i + 2) 4 = i + 6 := by rw [hh] at ho; simpa using ho
    have hz := Split.digM_size t 4 (i + 2) (by have := Split.bucM_size t (i + 1) (by omega); omega)
    refine ⟨?_, hb, by omega, by omega, hst, h0⟩
    rw [hh, hd]; simp
  · rw [if_neg hb] at hh
    rw [hh] at ho
    exact absurd ho (by simp)

set_option maxHeartbeats 4000000 in
theorem step_C (t : ByteArray) (i : Nat) (hs : t.size ≤ 120) (hi : i < t.size) (h67 : byt t i = 67) (ho : (headM t i).2.2 = true) : StepOk t i := by
  intro T L Q p M o0 w h hk
  obtain ⟨hhd, hb2, hd4, hsz, hstm, hn0⟩ := capped (.inl h67) hi ho
  obtain ⟨b, hlt, hb8, hbt, hbb⟩ := buc_of hb2
  have n73 : byt t i ≠ 73 := by omega
  rw [if_neg n73] at hhd
  have hnx : nxM t i = i + 6 := by simp [nxM, hhd]
  have hst : stpM t (semF t) i p = payM p b (numM t (i + 2) 4) := by
    have e2 : ((b : Int) + 97 - 97).toNat = b := by omega
    simp only [stpM, hhd, hstm, if_true, doM, hbb, e2, h67]
    simp
  rw [hnx, hst]
  have HHD := hide hhd
  have HN := hide (number_any t (i + 2) 4 · hs hsz (by omega) hd4)
  obtain ⟨v, hv⟩ : ∃ v, numM t (i + 2) 4 = v := ⟨_, rfl⟩
  rw [hv] at HN hn0 ⊢
  rw [byt_lt hi] at h67
  have H := hide h
  have HK := hide hk
  clear h hk hb2 hnx hst hbb ho hhd hstm hv n73 hd4
  have hw1 := wrapN (i + 1) (by omega) ((i : Int) + 1) (by omega)
  have hw2 := wrapN (i + 2) (by omega) ((i : Int) + 2) (by omega)
  have hw3 := wrapB b (by omega) ((b : Int) + 97 - 97) (by omega)
  have hw4 := wrapN b (by omega) (b : Int) rfl
  have hw5 := wrapB b (by omega) (b : Int) rfl
  go_enter Try.func69, Try.ntmps69
  go_wp2_with fail
  refine (head_any t i _ hs hi).mono ?_
  rintro e w1 ⟨rfl, n1, rfl⟩
  rw [unhide HHD]
  go_wp2_with fail
  go_region_with (first
    | (go_at_call 88; refine (unhide HN _).mono ?_; rintro e w2 ⟨rfl, rfl⟩)
    | (go_at_call 67; refine (upto_any T L Q p M o0 b v _ (by exact (unhide H).drewN _) (unhide HK) hb8 hn0).mono ?_; rintro e w2 ⟨rfl, h2, g2⟩; have H2 := hide h2; have G2 := hide (((On.refl T L Q w).drewN _).trans g2); clear h2 g2))
  all_goals (go_wp2_with fail; go_ret; exact ⟨by first | rfl | exact ret_int (by omega), unhide H2, unhide G2⟩)

theorem RSt.any {w : World} {T L Q : Nat} {p : Pu} (h : RSt w T L Q p) (q : Pu) (h1 : q.hand = p.hand) (h2 : q.owed = p.owed) (h3 : q.paid = p.paid) : RSt w T L Q q := by
  obtain ⟨a, b, c, d⟩ := p
  obtain ⟨a', b', c', d'⟩ := q
  dsimp only at h1 h2 h3
  subst h1; subst h2; subst h3
  exact ⟨h.lo, h.lp, h.n1, h.n2, h.n3, h.row, h.rl, h.rq⟩

set_option maxRecDepth 100000 in
set_option maxHeartbeats 4000000 in
theorem step_H (t : ByteArray) (i : Nat) (hs : t.size ≤ 120) (hi : i < t.size) (h72 : byt t i = 72) (hok : okJ t i = true) (hwk : WalkOk t (i + 4)) : StepOk t i := by
  intro T L Q p M o0 w h hk
  obtain ⟨p1, p2, p3, p4, ho, p6, p7, hcase⟩ := step_places (by omega) hok ⟨hi, by omega⟩
  have e80 : byt t i ≠ 80 := by omega
  have e67 : ¬ (byt t i = 67 ∨ byt t i = 73) := by omega
  have e82 : byt t i ≠ 82 := by omega
  have hstm : Split.stM t i = ⟨72, 0, numM t (i + 1) 2, none8, 0⟩ := by simp only [Split.stM, if_neg e80, if_neg e67, if_neg e82]
  have hh : headM t i = if digM t (i + 1) 2 = i + 3 ∧ byt t (i + 1) = 48 ∧ byt t (i + 2) = 48 then (i + 2, 1, false) else (digM t (i + 1) 2, 1, decide (digM t (i + 1) 2 = i + 3)) := by
    simp only [headM, if_neg e80, if_neg e67, if_neg e82, if_pos h72]
  have hd : digM t (i + 1) 2 = i + 3 := by
    rw [hh] at ho
    split at ho
    · exact absurd ho (by simp)
    · simpa using ho
  have hhd : headM t i = (i + 3, 1, true) := by
    rw [hh] at ho ⊢
    split at ho
    · exact absurd ho (by simp)
    · rename_i hx; rw [if_neg hx, hd]; simp
  have hB : BlkAt t (i + 3) := by
    rcases hcase with hn | ⟨hn, hB⟩ | ⟨hn, hB, hB2⟩
    · rw [hhd] at hn; simp at hn
    · rw [hhd] at hB; exact hB
    · rw [hhd] at hB; exact hB
  have hj4 := hB.jlt
  have hel := hB.elt
  have heg := hB.ege
  have hsz : i + 1 + 2 ≤ t.size := by omega
  have hso := st_ok ho
  have hn0 := hso.a0
  have hn1 := hso.h (by rw [hstm])
  rw [hstm] at hn0 hn1
  dsimp only at hn0 hn1
  have hnx : nxM t i = endJ t (i + 4) + 1 := by simp [nxM, hhd]
  have hst : stpM t (semF t) i p = backM (semF t (i + 4) (holdM p (numM t (i + 1) 2))) := by simp [stpM, hhd, hstm]
  rw [hnx, hst]
  have hpb := Split.part_bd p.hand (numM t (i + 1) 2) hk.h0 hn0 hn1
  have hkh := Split.good_hold hk _ hn0 hn1
  have HN := hide (number_any t (i + 1) 2 · hs hsz (by omega) (by omega))
  have hq : Hid ((semF t (i + 4) (holdM p (numM t (i + 1) 2))).held = p.held ++ [p.hand - p.hand * numM t (i + 1) 2 / 100]) := by
    show (semF t (i + 4) (holdM p (numM t (i + 1) 2))).held = _
    unfold semF
    rw [sem_held t _ _ _ (by omega) hB.ok]
    rfl
  have HK2 : Hid (Keeps M o0 (semF t (i + 4) (holdM p (numM t (i + 1) 2)))) := sem_keeps _ _ _ (by omega) hB.ok hkh
  have HKH := hide hkh
  obtain ⟨v, hv⟩ : ∃ v, numM t (i + 1) 2 = v := ⟨_, rfl⟩
  rw [hv] at HN hn0 hn1 hpb hq HKH HK2 ⊢
  obtain ⟨en, hen⟩ : ∃ en, endJ t (i + 4) = en := ⟨_, rfl⟩
  have hel' : en < t.size := by rw [← hen]; exact hel
  have HE := hide hen
  rw [hen]
  have hh0 := hk.h0
  have hpl := hk.paid_le 0
  have hp0 := hk.pa 0
  have hm9 : p.hand ≤ 1000000000 := by omega
  have hml : p.hand * v ≤ 1000000000 * 100 := Int.mul_le_mul hm9 hn1 hn0 (by omega)
  have hml0 : 0 ≤ p.hand * v := Int.mul_nonneg hh0 hn0
  have hrs : Hid (∀ w, RSt w T L Q p → w.cell? ⟨T, 0, none⟩ = some (.int .i64 p.hand) ∧ w.frozen? ⟨T, 0, none⟩ = false ∧ ∀ pt, pt = p.hand * v / 100 → RSt (w.setCell ⟨T, 0, none⟩ (.int .i64 pt)) T L Q (holdM p v)) := by
    intro w h
    refine ⟨h.ch, h.f0 0, ?_⟩
    intro pt hpt
    subst hpt
    exact (h.hand (p.hand * v / 100)).any _ rfl rfl rfl
  obtain ⟨hdn, hhe⟩ : ∃ hdn, p.hand = hdn := ⟨_, rfl⟩
  rw [hhe] at hh0 hm9 hml hml0 hpb hq hrs
  have HHD := hide hhd
  have HW := hide hwk
  rw [byt_lt hi] at h72
  have H := hide h
  clear h hk hkh hh hnx hst ho hhd hstm hv hd hcase hso hwk p1 p2 p3 p4 p6 p7 hB hpl hp0 hen hel heg e80 e67 e82 hhe
  obtain ⟨pt, hpt⟩ : ∃ pt, hdn * v / 100 = pt := ⟨_, rfl⟩
  rw [hpt] at hpb hq hrs
  obtain ⟨q, hqe⟩ : ∃ q, semF t (i + 4) (holdM p v) = q := ⟨_, rfl⟩
  rw [hqe] at HK2 hq ⊢
  have HQE := hide hqe
  clear hqe
  go_enter Try.func69, Try.ntmps69
  go_wp2_with fail
  refine (head_any t i _ hs hi).mono ?_
  rintro e w1 ⟨rfl, n1, hw1⟩
  rw [unhide HHD]
  have hR1 : RSt w1 T L Q p := by rw [hw1]; exact (unhide H).drewN n1
  have G1 : Hid (On T L Q w w1) := by rw [hw1]; exact (On.refl T L Q w).drewN n1
  obtain ⟨c0, f0, hrs1⟩ := unhide hrs w1 hR1
  have H1 : Hid (RSt (w1.setCell ⟨T, 0, none⟩ (.int .i64 pt)) T L Q (holdM p v)) := hrs1 pt rfl
  clear hrs hrs1 hR1 hw1
  have HPT := hide hpt
  have hw1 : IntKind.i64.wrap (hdn * v) = hdn * v := by rw [IntKind.wrap_i64]; omega
  have hw2 := wrapN (i + 1) (by omega) ((i : Int) + 1) (by omega)
  clear hpt
  go_wp2_with fail
  go_quiet ((go_at_call 88; exact Calls.quiet_of_same (unhide HN _)))
  rw [unhide HPT]
  clear hw1 hw2
  go_wp2_with fail
  try go_region
  go_wp2_with fail
  rw [show ((i : Int) + 3 + 1) = ((i + 4 : Nat) : Int) by omega]
  refine (unhide HW T L Q (holdM p v) M o0 _ (by exact (unhide H1).other rfl rfl rfl) (unhide HKH)).mono ?_
  rintro e w2 ⟨rfl, h2, g2⟩
  rw [unhide HE]
  rw [unhide HQE] at h2
  have c2 := h2.ch
  have f2 := h2.f0 0
  have hq0 := (unhide HK2).h0
  have hql := (unhide HK2).paid_le 0
  have hqp := (unhide HK2).pa 0
  have hq9 : q.hand ≤ 1000000000 := by omega
  have hfin : Hid (RSt (w2.setCell ⟨T, 0, none⟩ (.int .i64 (q.hand + (hdn - pt)))) T L Q (backM q)) := by
    have hb : backM q = ⟨q.hand + (hdn - pt), p.held, q.owed, q.paid⟩ := by
      have := unhide hq
      simp [backM, this]
    rw [hb]
    exact (h2.hand (q.hand + (hdn - pt))).any _ rfl rfl rfl
  have G2 := hide (((unhide G1).trans (((On.refl T L Q w1).drewN nq).set (x := ⟨T, 0, none⟩) (.int .i64 pt) (.inl rfl))).trans ⟨g2.os, g2.tape, g2.output, g2.size, g2.block⟩)
  have G3 := hide ((unhide G2).set (x := ⟨T, 0, none⟩) (.int .i64 (q.hand + (hdn - pt))) (.inl rfl))
  obtain ⟨qh, hqh⟩ : ∃ qh, q.hand = qh := ⟨_, rfl⟩
  rw [hqh] at c2 hq0 hq9 hfin G3
  clear hql hqp hqh h2 g2 hq G2 H1 c0 f0 HKH HK2
  go_wp2_with fail
  try go_region
  go_wp2_with fail
  go_ret
  exact ⟨by first | rfl | exact ret_int (by omega), (unhide hfin).other rfl rfl rfl, unhide G3⟩
end Go.Proofs.Ytmdjdpofpkgffab

/- splitref's step: I. -/
namespace Go.Proofs.Ytmdjdpofpkgffab
open Go.ChangeShapes Go.WideShapes Go.ChangeAt Go.RowKit
open Split (Pu payM Keeps propM byt byt_lt headM St doM holdM backM numM amongM none8 risM digM bucM)
set_option linter.unusedVariables false
set_option linter.unusedSimpArgs false

set_option maxRecDepth 100000 in
set_option maxHeartbeats 4000000 in
theorem step_I (t : ByteArray) (i : Nat) (hs : t.size ≤ 120) (hi : i < t.size) (h73 : byt t i = 73) (hok : okJ t i = true) (hwk : ∀ k, i < k → k ≤ t.size → okJ t k = true → WalkOk t k) : StepOk t i := by
  intro T L Q p M o0 w h hk
  obtain ⟨p1, p2, p3, p4, ho, p6, p7, hcase⟩ := step_places (by omega) hok ⟨hi, by omega⟩
  obtain ⟨hhd, hb2, hd4, hsz, hstm, hn0⟩ := capped (.inr h73) hi ho
  obtain ⟨b, hlt, hb8, hbt, hbb⟩ := buc_of hb2
  rw [if_pos h73] at hhd
  have hBB : BlkAt t (i + 6) ∧ BlkAt t (endJ t (i + 7) + 1) := by
    rcases hcase with hn | ⟨hn, hB⟩ | ⟨hn, hB, hB2⟩
    · rw [hhd] at hn; simp at hn
    · rw [hhd] at hn; simp at hn
    · rw [hhd] at hB hB2; exact ⟨hB, hB2⟩
  obtain ⟨hB, hB2⟩ := hBB
  have q1 := hB.jlt
  have q2 : endJ t (i + 7) < t.size := hB.elt
  have q3 : i + 7 ≤ endJ t (i + 7) := hB.ege
  have r1 := hB2.jlt
  have r2 := hB2.elt
  have r3 := hB2.ege
  have hnx : nxM t i = endJ t (endJ t (i + 7) + 1 + 1) + 1 := by simp [nxM, hhd]
  have hst : stpM t (semF t) i p = if p.owed.getD b 0 ≤ numM t (i + 2) 4 then semF t (endJ t (i + 7) + 1 + 1) p else semF t (i + 7) p := by
    have e2 : ((b : Int) + 97 - 97).toNat = b := by omega
    simp [stpM, hhd, hstm, hbb, e2]
  have HW1 := hide (hwk (i + 7) (by omega) (by omega) hB.ok)
  have HW2 := hide (hwk (endJ t (i + 7) + 1 + 1) (by omega) (by omega) hB2.ok)
  have HP1 := hide (past_any t (i + 6) · hs (by omega))
  have HP2 := hide (past_any t (endJ t (i + 7) + 1) · hs (by omega))
  have HN := hide (number_any t (i + 2) 4 · hs hsz (by omega) hd4)
  have hE1 : (Split.scanF t (i + 6 + 1) 0 (-1)).j = endJ t (i + 7) := rfl
  have hE2 : (Split.scanF t (endJ t (i + 7) + 1 + 1) 0 (-1)).j = endJ t (endJ t (i + 7) + 1 + 1) := rfl
  rw [hE1] at HP1
  rw [hE2] at HP2
  rw [hnx, hst]
  obtain ⟨v, hv⟩ : ∃ v, numM t (i + 2) 4 = v := ⟨_, rfl⟩
  rw [hv] at HN ⊢
  obtain ⟨a, ha⟩ : ∃ a, endJ t (i + 7) + 1 = a := ⟨_, rfl⟩
  rw [ha] at HP1 HP2 HW2 r1 r2 r3 ⊢
  obtain ⟨en, hen⟩ : ∃ en, endJ t (a + 1) + 1 = en := ⟨_, rfl⟩
  have hen9 : en ≤ t.size := by omega
  rw [hen] at HP2 ⊢
  obtain ⟨fin, hfin⟩ : ∃ fin, (if p.owed.getD b 0 ≤ v then semF t (a + 1) p else semF t (i + 7) p) = fin := ⟨_, rfl⟩
  rw [hfin]
  have HFIN := hide hfin
  clear hfin
  have HHD := hide hhd
  rw [byt_lt hi] at h73
  have H := hide h
  have HK := hide hk
  clear h hk hb2 hnx hst hbb ho hhd hstm hv hd4 hcase p1 p2 p3 p4 p6 p7 hB hB2 hE1 hE2 hen hwk q2 q3 r2 r3 ha hn0
  go_enter Try.func69, Try.ntmps69
  go_wp2_with fail
  refine (head_any t i _ hs hi).mono ?_
  rintro e w1 ⟨rfl, n1, hw1⟩
  rw [unhide HHD]
  have HR1 : Hid (RSt w1 T L Q p) := by rw [hw1]; exact (unhide H).drewN n1
  have G1 : Hid (On T L Q w w1) := by rw [hw1]; exact (On.refl T L Q w).drewN n1
  clear hw1
  go_wp2_with fail
  refine (unhide HP1 _).mono ?_
  rintro e w2 ⟨rfl, n2, hw2⟩
  have HR2 : Hid (RSt w2 T L Q p) := by rw [hw2]; exact (unhide HR1).drewN n2
  have G2 : Hid (On T L Q w w2) := by rw [hw2]; exact (unhide G1).drewN n2
  clear hw2 HR1 G1
  go_wp2_with fail
  refine (unhide HP2 _).mono ?_
  rintro e w3 ⟨rfl, n3, hw3⟩
  have HR3 : Hid (RSt w3 T L Q p) := by rw [hw3]; exact (unhide HR2).drewN n3
  have G3 : Hid (On T L Q w w3) := by rw [hw3]; exact (unhide G2).drewN n3
  clear hw3 HR2 G2
  have cl := (unhide HR3).cl
  have co := (unhide HR3).co b hb8
  obtain ⟨x, hx⟩ : ∃ x, p.owed.getD b 0 = x := ⟨_, rfl⟩
  rw [hx] at co
  have HX := hide hx
  clear hx
  have hb8' : (b : Int) < 8 := by omega
  go_wp2_with fail
  have hw1 := wrapN (i + 1) (by omega) ((i : Int) + 1) (by omega)
  have hw2 := wrapN (i + 2) (by omega) ((i : Int) + 2) (by omega)
  have hw4 := wrapN b (by omega) (b : Int) rfl
  have hw5 := wrapB b (by omega) (b : Int) rfl
  go_quiet ((go_at_call 88; exact Calls.quiet_of_same (unhide HN _)))
  have HR4 : Hid (RSt (w3.drewN nq) T L Q p) := (unhide HR3).drewN nq
  have G4 : Hid (On T L Q w (w3.drewN nq)) := (unhide G3).drewN nq
  obtain ⟨W, hW⟩ : ∃ W, w3.drewN nq = W := ⟨_, rfl⟩
  rw [hW] at HR4 G4 ⊢
  clear hW HR3 G3 hw1 hw2 hw4 hw5 cl co
  by_cases hxv : v < x
  · have hsel : Hid (semF t (i + 7) p = fin) := by
      have := unhide HFIN
      rw [unhide HX, if_neg (by omega)] at this
      exact this
    have hne : decide (v < x) = true := by simp [hxv]
    clear HFIN
    go_wp2_with fail
    rw [show ((i : Int) + 6 + 1) = ((i + 7 : Nat) : Int) by omega]
    refine (unhide HW1 T L Q p M o0 _ (unhide HR4) (unhide HK)).mono ?_
    rintro e w5 ⟨rfl, h5, g5⟩
    rw [unhide hsel] at h5
    have H5 := hide h5
    have G5 := hide ((unhide G4).trans g5)
    clear h5 g5
    go_wp2_with fail
    go_ret
    exact ⟨rfl, unhide H5, unhide G5⟩
  · have hsel : Hid (semF t (a + 1) p = fin) := by
      have := unhide HFIN
      rw [unhide HX, if_pos (by omega)] at this
      exact this
    have hne : decide (v < x) = false := by simp; omega
    clear HFIN
    go_wp2_with fail
    rw [show ((a : Int) + 1) = ((a + 1 : Nat) : Int) by omega]
    refine (unhide HW2 T L Q p M o0 _ (unhide HR4) (unhide HK)).mono ?_
    rintro e w5 ⟨rfl, h5, g5⟩
    rw [unhide hsel] at h5
    have H5 := hide h5
    have G5 := hide ((unhide G4).trans g5)
    clear h5 g5
    go_wp2_with fail
    go_ret
    exact ⟨rfl, unhide H5, unhide G5⟩

theorem rise_bucs (t : ByteArray) : ∀ f j k, j ≤ k → k < Split.riseM t f j → Split.buc (byt t k) = true
  | 0, j, k, h1, h2 => by simp [Split.riseM] at h2; omega
  | f + 1, j, k, h1, h2 => by
    unfold Split.riseM at h2
    split at h2
    · rename_i hd
      by_cases e : j = k
      · subst e
        simp [Split.riseB] at hd
        exact hd.1
      · exact rise_bucs t f (j + 1) k (by omega) h2
    · omega
theorem ris_bucs (t : ByteArray) (i k : Nat) (h1 : i ≤ k) (h2 : k < risM t i) : Split.buc (byt t k) = true := by
  unfold risM at h2
  split at h2
  · rename_i hd
    by_cases e : i = k
    · subst e; exact hd
    · exact rise_bucs t _ _ k (by omega) h2
  · omega
theorem infoBool : (Try.prog.info? 4).map (fun i => (i.zero, i.size, i.bytes)) = some (some (.bool false), 1, 1) := by kernel_rfl
def madeB : Array Value := madeCells #[.bool false] 8
theorem mkB (W : World) : (Instr.makeSlice 116 (.int .i64 8) (.int .i64 8)).run Try.prog W = .ok (.slice (some ⟨W.heap.size, 0, none⟩) 8 8) (W.alloc (.cells madeB 4)) :=
  run_make_row' (P := Try.prog) 116 4 (.bool false) 1 Try.underlying116 infoBool rfl .i64 .i64 8 (by omega) (by omega) W
theorem madeB_eq : madeB = (none8.map Value.bool).toArray := by
  apply Array.toList_inj.1
  unfold madeB
  rw [toList_madeCells_one]
  simp [none8]
theorem Bs.fr {w : World} {G : Nat} {f : List Bool} (h : Bs w G f) (i : Nat) : w.frozen? ⟨G, i, none⟩ = false := frozen_of_row w G i _ _ h.2
theorem Bs.set {w : World} {G : Nat} {f : List Bool} (h : Bs w G f) (i : Nat) (b : Bool) : Bs (w.setCell ⟨G, i, none⟩ (.bool b)) G (f.set i b) := by
  refine ⟨by simp [h.1], ?_⟩
  rw [heap_setCell_same w G i _ _ _ h.2]
  simp
end Go.Proofs.Ytmdjdpofpkgffab

/- splitref's step: R; every walk. -/
namespace Go.Proofs.Ytmdjdpofpkgffab
open Go.ChangeShapes Go.WideShapes Go.ChangeAt Go.RowKit
open Split (Pu payM Keeps propM byt byt_lt headM St doM holdM backM numM amongM none8 risM digM bucM)
set_option linter.unusedVariables false
set_option linter.unusedSimpArgs false

set_option maxHeartbeats 4000000 in
theorem step_R (t : ByteArray) (i : Nat) (hs : t.size ≤ 120) (hi : i < t.size) (h82 : byt t i = 82) (ho : (headM t i).2.2 = true) : StepOk t i := by
  intro T L Q p M o0 w h hk
  have e80 : byt t i ≠ 80 := by omega
  have e67 : ¬ (byt t i = 67 ∨ byt t i = 73) := by omega
  have hh : headM t i = if byt t (i + 1) = 104 then (i + 1, 0, false) else (risM t (i + 1), 0, decide (i + 3 ≤ risM t (i + 1))) := by
    simp only [headM, if_neg e80, if_neg e67, if_pos h82]
  have hhd : headM t i = (risM t (i + 1), 0, true) ∧ i + 3 ≤ risM t (i + 1) := by
    rw [hh] at ho ⊢
    split at ho
    · exact absurd ho (by simp)
    · rename_i hx
      rw [if_neg hx]
      exact ⟨by simpa using ho, by simpa using ho⟩
  obtain ⟨hhd, hj3⟩ := hhd
  have hjs := Split.risM_size t (i + 1) (by omega)
  have hnx : nxM t i = risM t (i + 1) := by simp [nxM, hhd]
  have hst : stpM t (semF t) i p = propM p (amongM t (i + 1) (risM t (i + 1))) := by
    simp [stpM, hhd, Split.stM, h82, doM]
  have hbu := ris_bucs t (i + 1)
  rw [hnx, hst]
  obtain ⟨j, hj⟩ : ∃ j, risM t (i + 1) = j := ⟨_, rfl⟩
  rw [hj] at hhd hj3 hjs hbu ⊢
  have HBU := hide hbu
  have HHD := hide hhd
  rw [byt_lt hi] at h82
  have H := hide h
  have HK := hide hk
  clear h hk hh hnx hst ho hhd hj hbu e80 e67
  have hmk := mkB
  go_enter Try.func69, Try.ntmps69
  go_wp2_with fail
  refine (head_any t i _ hs hi).mono ?_
  rintro e w1 ⟨rfl, n1, hw1⟩
  rw [unhide HHD]
  have HR1 : Hid (RSt w1 T L Q p) := by rw [hw1]; exact (unhide H).drewN n1
  have G1 : Hid (On T L Q w w1) := by rw [hw1]; exact (On.refl T L Q w).drewN n1
  clear hw1
  go_wp2_with fail
  clear hmk
  have hB0 : Hid (Bs (w1.alloc (.cells madeB 4)) w1.heap.size (amongM t (i + 1) (i + 1))) := by
    show Bs _ _ _
    rw [among_zero]
    exact ⟨by simp [none8], by rw [← madeB_eq]; exact heap_alloc_new _ _⟩
  have hTw := (unhide HR1).lt
  have hT0 : w.heap.size ≤ w1.heap.size := (unhide G1).size
  obtain ⟨S, hS⟩ : ∃ S, w1.heap.size = S := ⟨_, rfl⟩
  rw [hS] at hB0 hTw hT0 ⊢
  have HS := hide hS
  clear hS
  go_loopw [11] (fun kk wr => ∃ k : Nat, i + 1 ≤ k ∧ k ≤ j ∧ kk = .int .i64 k ∧ Hid (RSt wr T L Q p) ∧ Hid (Bs wr S (amongM t (i + 1) k)) ∧ Hid (On T L Q w wr)) (fun kk _ => j - (intOf kk).toNat)
  case atStart => exact ⟨i + 1, by omega, by omega, by first | rfl | (simp; done), (unhide HR1).alloc _, hB0, (unhide G1).alloc _⟩
  case round =>
    obtain ⟨k, hk1, hkj, rfl, hq, hb, hg⟩ := hrel
    clear hB0
    have hSw : S < wr.heap.size := cell_lt (unhide hb).2
    by_cases hlt : k < j
    · have hbk := unhide HBU k hk1 hlt
      rw [Split.buc_t] at hbk
      have hks : k < t.size := by omega
      obtain ⟨z, hz⟩ : ∃ z : Nat, byt t k = (z : Int) + 97 := ⟨(byt t k - 97).toNat, by omega⟩
      have hz8 : z < 8 := by omega
      have hsn := among_snoc t (i + 1) k z hk1 hz8 hz
      have HSN := hide hsn
      rw [byt_lt hks] at hz
      have cz := (unhide hb).cell z hz8
      have fz := (unhide hb).fr z
      obtain ⟨bb, hbb⟩ : ∃ bb, (amongM t (i + 1) k).getD z false = bb := ⟨_, rfl⟩
      rw [hbb] at cz
      clear hsn hbk hbb
      have hz8' : (z : Int) < 8 := by omega
      go_wp2_with fail
      try go_region
      go_wp2_with fail
      go_roundw
      case rel => exact ⟨k + 1, by omega, by omega, by go_num, ((unhide hq).off (x := ⟨S, z, none⟩) _ (by simp; omega) (by simp; omega) (by simp; omega)).other rfl rfl rfl, by rw [unhide HSN]; exact ((unhide hb).set z true).other rfl, (unhide hg).set (x := ⟨S, z, none⟩) (.bool true) (.inr (.inr (.inr hT0)))⟩
      case measure => simp [intOf]; omega
    · have hkj' : k = j := by omega
      subst hkj'
      go_wp2_with fail
      refine (rate_any T L Q S p (amongM t (i + 1) k) M o0 _ (unhide hq) (unhide HK) (unhide hb) (by omega) (by omega) (by omega)).mono ?_
      rintro e w2 ⟨rfl, h2, g2⟩
      have H2 := hide h2
      have G2 := hide ((unhide hg).trans g2)
      clear h2 g2
      go_wp2_with fail
      go_ret
      exact ⟨rfl, unhide H2, unhide G2⟩

theorem walk_all (t : ByteArray) (hs : t.size ≤ 120) : ∀ (m i : Nat), t.size - i ≤ m → i ≤ t.size → okJ t i = true → WalkOk t i
  | 0, i, hm, hi, hok => walk_of t i hs hi hok (fun k h1 h2 _ _ => by omega)
  | m + 1, i, hm, hi, hok => by
    refine walk_of t i hs hi hok (fun k h1 h2 h41 hokk => ?_)
    have ho := (step_places (by omega) hokk ⟨h2, h41⟩).2.2.2.2.1
    have ih : ∀ k', k < k' → k' ≤ t.size → okJ t k' = true → WalkOk t k' := fun k' a b c => walk_all t hs m k' (by omega) b c
    by_cases h80 : byt t k = 80
    · exact step_P t k hs h2 h80 ho
    by_cases h67 : byt t k = 67
    · exact step_C t k hs h2 h67 ho
    by_cases h73 : byt t k = 73
    · exact step_I t k hs h2 h73 hokk ih
    by_cases h82 : byt t k = 82
    · exact step_R t k hs h2 h82 ho
    by_cases h72 : byt t k = 72
    · have hpl := step_places (by omega) hokk ⟨h2, h41⟩
      have e67 : ¬ (byt t k = 67 ∨ byt t k = 73) := by omega
      have hh : headM t k = if digM t (k + 1) 2 = k + 3 ∧ byt t (k + 1) = 48 ∧ byt t (k + 2) = 48 then (k + 2, 1, false) else (digM t (k + 1) 2, 1, decide (digM t (k + 1) 2 = k + 3)) := by
        simp only [headM, if_neg h80, if_neg e67, if_neg h82, if_pos h72]
      have hhd : headM t k = (k + 3, 1, true) := by
        rw [hh] at ho ⊢
        split at ho
        · exact absurd ho (by simp)
        · rename_i hx
          have hd : digM t (k + 1) 2 = k + 3 := by simpa using ho
          rw [if_neg hx, hd]; simp
      have hB : BlkAt t (k + 3) := by
        rcases hpl.2.2.2.2.2.2.2 with hn | ⟨hn, hB⟩ | ⟨hn, hB, hB2⟩
        · rw [hhd] at hn; simp at hn
        · rw [hhd] at hB; exact hB
        · rw [hhd] at hB; exact hB
      have hj := hB.jlt
      exact step_H t k hs h2 h72 hokk (ih (k + 4) (by omega) (by omega) hB.ok)
    · exfalso
      have e67 : ¬ (byt t k = 67 ∨ byt t k = 73) := by omega
      have : headM t k = (k, 0, false) := by simp only [headM, if_neg h80, if_neg e67, if_neg h82, if_neg h72]
      rw [this] at ho
      simp at ho
end Go.Proofs.Ytmdjdpofpkgffab

/- splitref's Begin and Share. -/
namespace Go.Proofs.Ytmdjdpofpkgffab
open Go.ChangeShapes Go.WideShapes Go.ChangeAt Go.RowKit
open Split (Pu payM Keeps)
set_option linter.unusedVariables false
set_option linter.unusedSimpArgs false

theorem fillZ_none (zs : List Int) : fillZ zs 8 0 = List.replicate 8 0 := by
  simp [fillZ]
  decide

theorem begun (w : World) (m : Int) (L Q : Nat) (h : L = w.heap.size ∧ Q = w.heap.size + 1 ∨ L = w.heap.size + 1 ∧ Q = w.heap.size) :
    RSt (((w.alloc (.cells made8 3)).alloc (.cells made8 3)).alloc (.cells #[.int .i64 m, .slice (some ⟨L, 0, none⟩) 8 8, .slice (some ⟨Q, 0, none⟩) 8 8] 79)).drew (w.heap.size + 1 + 1) L Q ⟨m, [], List.replicate 8 0, List.replicate 8 0⟩ ∧
    Below w.heap.size w (((w.alloc (.cells made8 3)).alloc (.cells made8 3)).alloc (.cells #[.int .i64 m, .slice (some ⟨L, 0, none⟩) 8 8, .slice (some ⟨Q, 0, none⟩) 8 8] 79)).drew := by
  have hs1 : (w.alloc (.cells made8 3)).heap.size = w.heap.size + 1 := by simp
  have hs2 : ((w.alloc (.cells made8 3)).alloc (.cells made8 3)).heap.size = w.heap.size + 1 + 1 := by simp
  refine ⟨?_, ?_⟩
  · have g0 : ∀ o : Obj, (((w.alloc (.cells made8 3)).alloc (.cells made8 3)).alloc o).heap[w.heap.size]? = some (.cells made8 3 (0, 0)) := by
      intro o
      rw [Below.heap_alloc _ _ _ (by omega), Below.heap_alloc _ _ _ (by omega)]
      exact heap_alloc_new _ _
    have g1 : ∀ o : Obj, (((w.alloc (.cells made8 3)).alloc (.cells made8 3)).alloc o).heap[w.heap.size + 1]? = some (.cells made8 3 (0, 0)) := by
      intro o
      rw [Below.heap_alloc _ _ _ (by omega), ← hs1]
      exact heap_alloc_new _ _
    have g2 : ∀ o : Obj, (((w.alloc (.cells made8 3)).alloc (.cells made8 3)).alloc o).heap[w.heap.size + 1 + 1]? = some o := by
      intro o
      rw [← hs2]
      exact heap_alloc_new _ _
    have e8 := made8_eq
    refine ⟨by simp, by simp, by omega, by omega, by omega, g2 _, ?_, ?_⟩
    · rcases h with ⟨rfl, rfl⟩ | ⟨rfl, rfl⟩
      · rw [← e8]; exact g0 _
      · rw [← e8]; exact g1 _
    · rcases h with ⟨rfl, rfl⟩ | ⟨rfl, rfl⟩
      · rw [← e8]; exact g1 _
      · rw [← e8]; exact g0 _
  · exact ((((Below.refl _ _).alloc (Nat.le_refl _) _).alloc (by omega) _).alloc (by omega) _).drew

set_option maxHeartbeats 4000000 in
theorem begin_any (a : Option Addr) (cap : Nat) (zs : List Int) (m : Int) (w : World) (h : Ints w a 8 zs) :
    Calls Try.prog 43 #[.slice a 8 cap, .int .i64 m] w fun e w' => ∃ T L Q : Nat, e = .returned (.pointer (some ⟨T, 0, none⟩)) ∧ w.heap.size ≤ T ∧ w.heap.size ≤ L ∧ w.heap.size ≤ Q ∧ RSt w' T L Q (pu0 zs m) ∧ Below w.heap.size w w' := by
  obtain ⟨hlen, hc⟩ := h
  obtain ⟨b, off, rfl, hcs⟩ := hc (by omega)
  clear hc
  have hbl : b < w.heap.size := by
    have := hcs 0 (by omega)
    by_cases hx : b < w.heap.size
    · exact hx
    · simp [World.cell?, hx] at this
  have HC := hide hcs
  clear hcs
  have HL := hide hlen
  clear hlen
  have HMK := hide (begun w m)
  have hmk := mk8
  go_enter Try.func43, Try.ntmps43
  go_wp2_with fail
  go_region
  · have hnew := unhide HMK w.heap.size (w.heap.size + 1) (by omega)
    generalize hW : (((w.alloc (.cells made8 3)).alloc (.cells made8 3)).alloc (.cells #[.int .i64 m, .slice (some ⟨w.heap.size, 0, none⟩) 8 8, .slice (some ⟨(w.heap.size + 1), 0, none⟩) 8 8] 79)).drew = W at hnew ⊢
    have HN := hide hnew.1
    have HB := hide hnew.2
    have hT : Hid (w.heap.size ≤ w.heap.size + 1 + 1 ∧ w.heap.size ≤ w.heap.size ∧ w.heap.size ≤ (w.heap.size + 1)) := by
      show _ ∧ _ ∧ _
      omega
    clear hnew hW HMK hmk
    generalize hTe : w.heap.size + 1 + 1 = T at HN hT ⊢
    clear hTe
    generalize hLe : w.heap.size + 1 = Q at HN hT ⊢
    clear hLe
    go_wp2_with fail
    go_loopw [6] (fun i wr => ∃ k : Nat, k ≤ 8 ∧ i = .int .i64 k ∧ Hid (RSt wr T w.heap.size Q ⟨m, [], fillZ zs 8 k, List.replicate 8 0⟩) ∧ Hid (Below w.heap.size w wr)) (fun i _ => 8 - (intOf i).toNat)
    case atStart => exact ⟨0, Nat.zero_le _, rfl, by rw [fillZ_none]; exact HN, HB⟩
    case round =>
      obtain ⟨k, hk, rfl, hp, hb⟩ := hrel
      clear HN HB
      by_cases hlt : k < 8
      · have hck' : wr.cell? ⟨b, off + k, none⟩ = some (.int .i64 (zs.getD k 0)) := ((unhide hb).cell (p := ⟨b, off + k, none⟩) hbl).trans (unhide HC k hlt)
        obtain ⟨q, hq⟩ : ∃ q, q = zs.getD k 0 := ⟨_, rfl⟩
        rw [← hq] at hck'
        have HQ := hide hq
        have hfr := (unhide hp).fl k
        have hcl := (unhide hp).cl
        have hco := (unhide hp).co k hlt
        generalize (fillZ zs 8 k).getD k 0 = old at hco
        clear hq
        go_wp2_with fail
        go_region
        all_goals go_wp2_with fail
        go_roundw
        case rel =>
          refine ⟨k + 1, by omega, by go_num, ?_, ?_⟩
          · rw [← fillZ_set' zs 8 k hlt, ← unhide HQ]
            exact ((unhide hp).owe k q).other rfl rfl rfl
          · exact ((unhide hb).setCell (p := ⟨w.heap.size, k, none⟩) (unhide hT).2.1 _).drew
        case measure => simp [intOf]; omega
      · go_wp2_with fail
        go_ret
        have hk8 : k = 8 := by omega
        subst hk8
        have := unhide hp
        rw [fillZ_all _ _ (unhide HL)] at this
        exact ⟨T, w.heap.size, Q, rfl, (unhide hT).1, (unhide hT).2.1, (unhide hT).2.2, this, unhide hb⟩
  · have hnew := unhide HMK (w.heap.size + 1) w.heap.size (by omega)
    generalize hW : (((w.alloc (.cells made8 3)).alloc (.cells made8 3)).alloc (.cells #[.int .i64 m, .slice (some ⟨(w.heap.size + 1), 0, none⟩) 8 8, .slice (some ⟨w.heap.size, 0, none⟩) 8 8] 79)).drew = W at hnew ⊢
    have HN := hide hnew.1
    have HB := hide hnew.2
    have hT : Hid (w.heap.size ≤ w.heap.size + 1 + 1 ∧ w.heap.size ≤ (w.heap.size + 1) ∧ w.heap.size ≤ w.heap.size) := by
      show _ ∧ _ ∧ _
      omega
    clear hnew hW HMK hmk
    generalize hTe : w.heap.size + 1 + 1 = T at HN hT ⊢
    clear hTe
    generalize hLe : w.heap.size + 1 = L at HN hT ⊢
    clear hLe
    go_wp2_with fail
    go_loopw [6] (fun i wr => ∃ k : Nat, k ≤ 8 ∧ i = .int .i64 k ∧ Hid (RSt wr T L w.heap.size ⟨m, [], fillZ zs 8 k, List.replicate 8 0⟩) ∧ Hid (Below w.heap.size w wr)) (fun i _ => 8 - (intOf i).toNat)
    case atStart => exact ⟨0, Nat.zero_le _, rfl, by rw [fillZ_none]; exact HN, HB⟩
    case round =>
      obtain ⟨k, hk, rfl, hp, hb⟩ := hrel
      clear HN HB
      by_cases hlt : k < 8
      · have hck' : wr.cell? ⟨b, off + k, none⟩ = some (.int .i64 (zs.getD k 0)) := ((unhide hb).cell (p := ⟨b, off + k, none⟩) hbl).trans (unhide HC k hlt)
        obtain ⟨q, hq⟩ : ∃ q, q = zs.getD k 0 := ⟨_, rfl⟩
        rw [← hq] at hck'
        have HQ := hide hq
        have hfr := (unhide hp).fl k
        have hcl := (unhide hp).cl
        have hco := (unhide hp).co k hlt
        generalize (fillZ zs 8 k).getD k 0 = old at hco
        clear hq
        go_wp2_with fail
        go_region
        all_goals go_wp2_with fail
        go_roundw
        case rel =>
          refine ⟨k + 1, by omega, by go_num, ?_, ?_⟩
          · rw [← fillZ_set' zs 8 k hlt, ← unhide HQ]
            exact ((unhide hp).owe k q).other rfl rfl rfl
          · exact ((unhide hb).setCell (p := ⟨L, k, none⟩) (unhide hT).2.1 _).drew
        case measure => simp [intOf]; omega
      · go_wp2_with fail
        go_ret
        have hk8 : k = 8 := by omega
        subst hk8
        have := unhide hp
        rw [fillZ_all _ _ (unhide HL)] at this
        exact ⟨T, L, w.heap.size, rfl, (unhide hT).1, (unhide hT).2.1, (unhide hT).2.2, this, unhide hb⟩

theorem shr_sem {t : ByteArray} {zs : List Int} {m : Int} (hc : checkE t = 0) : shrM t zs m = semF t 0 (pu0 zs m) := by
  obtain ⟨h1, h2, h3, h4, h5, h6⟩ := policy_code t hc
  have e : (rsE t).ss = codeJ t 0 := h2
  unfold shrM semF
  rw [e, exec_sem t h5]

theorem RSt.paid_ints {w : World} {T L Q : Nat} {p : Pu} (h : RSt w T L Q p) : Ints w (some ⟨Q, 0, none⟩) 8 p.paid := by
  refine ⟨h.lp, fun _ => ⟨Q, 0, rfl, fun i hi => ?_⟩⟩
  rw [Nat.zero_add]
  exact h.cp i hi

set_option maxHeartbeats 4000000 in
theorem rshare_any (t : ByteArray) (zs : List Int) (m : Int) (ht : t.size ≤ 1000000000000000) (a : Option Addr) (len cap : Nat) (w : World) (h : Ints w a len zs) (hr : len * 8 ≤ 140737488351232) :
    Calls Try.prog 16 #[.string t, .slice a len cap, .int .i64 m] w fun e w' => ∃ (a' : Option Addr) (n c : Nat), e = .returned (.tuple #[.slice a' n c, .int .i64 (shR t zs m), .int .i64 (shE t zs m), .int .i64 (shP t zs m)]) ∧ Ints w' a' n (shL t zs m) ∧ (∀ b, a' = some b → w.heap.size ≤ b.block) ∧ Below w.heap.size w w' := by
  have HPS := hide (rcheck_any t · ht)
  by_cases hc : checkE t = 0
  · by_cases hg : givenE zs m = 0
    · have e1 : shE t zs m = 0 := by simp [shE, hc, hg]
      have e2 : shP t zs m = 0 := by simp [shP, hc, hg]
      have e3 : shL t zs m = (semF t 0 (pu0 zs m)).paid := by simp [shL, e1, shr_sem hc]
      have e4 : shR t zs m = (semF t 0 (pu0 zs m)).hand := by simp [shR, e1, shr_sem hc]
      rw [e1, e2, e3, e4]
      clear e1 e2 e3 e4
      obtain ⟨hz8, _, _, _⟩ := given_ok hg
      have h8 : len = 8 := by rw [← h.1, hz8]
      subst h8
      have hkp := keeps0 hg
      obtain ⟨hs, _, _, _, hok, _⟩ := policy_code t hc
      have HW := hide (walk_all t hs t.size 0 (by omega) (by omega) hok)
      have HKP := hide hkp
      rw [hc] at HPS
      have HG := hide hg
      have HI := hide h
      clear hkp hg h hc hz8 hr hok
      generalize hcp : checkP t = cp at HPS
      clear hcp
      obtain ⟨q, hqe⟩ : ∃ q, semF t 0 (pu0 zs m) = q := ⟨_, rfl⟩
      rw [hqe]
      have HQE := hide hqe
      clear hqe
      go_enter Try.func16, Try.ntmps16
      go_wp2_with fail
      refine (unhide HPS _).mono ?_
      rintro e w1 ⟨rfl, n1, hw1⟩
      have HB1 : Hid (Below w.heap.size w w1) := by
        show Below _ _ _
        rw [hw1]
        exact below_drewN (Below.refl _ _) _
      have hsz : w1.heap.size = w.heap.size := by rw [hw1]; rfl
      have HSZ := hide hsz
      have hI1 := hide ((unhide HI).below (unhide HB1))
      clear hw1 hsz
      go_wp2_with fail
      refine (given_any _ _ _ zs m _ (unhide hI1) (by omega)).mono ?_
      rintro e w2 ⟨rfl, hw⟩
      have hw := hw.symm
      subst hw
      rw [unhide HG]
      generalize hgp : givenP zs m = gp
      clear hgp
      go_wp2_with fail
      refine (begin_any _ _ zs m _ (unhide hI1)).mono ?_
      rintro e w3 ⟨T, L, Q, rfl, hT, hL, hQ, hp, hb3⟩
      have HP := hide hp
      have HB3 := hide hb3
      clear hp hb3
      go_wp2_with fail
      refine (unhide HW T L Q (pu0 zs m) m zs _ (unhide HP) (unhide HKP)).mono ?_
      rintro e w4 ⟨rfl, hp4, hb4⟩
      rw [unhide HQE] at hp4
      have HB4 := hide (below_step (unhide HB1) (show Below w1.heap.size w1 w4 from (unhide HB3).trans (hb4.below (unhide HB3).size hT hL hQ)))
      have HI4 := hide hp4.paid_ints
      have c1 := hp4.ch
      have c2 := hp4.cq
      have HQ9 : Hid (w.heap.size ≤ Q) := by
        show _ ≤ _
        have := unhide HSZ
        omega
      clear hp4 hb4
      go_wp2_with fail
      go_quiet (fail)
      go_wp2_with fail
      refine bodyPost_ret (v := .tuple #[.slice (some ⟨Q, 0, none⟩) 8 8, .int .i64 q.hand, .int .i64 0, .int .i64 0]) (by simp [results, Try.results16, go_sem]) rfl ?_
      refine ⟨_, _, _, rfl, (unhide HI4).below (below_drewN (Below.refl _ _) _), fun b hb => ?_, below_drewN (unhide HB4) _⟩
      simp at hb
      subst hb
      exact unhide HQ9
    · have e1 : shE t zs m = givenE zs m := by simp [shE, hc]
      have e2 : shP t zs m = givenP zs m := by simp [shP, hc, hg]
      have e3 : shL t zs m = [] := by simp [shL, e1, hg]
      have e4 : shR t zs m = 0 := by simp [shR, e1, hg]
      rw [e1, e2, e3, e4]
      clear e1 e2 e3 e4
      rw [hc] at HPS
      have hgb : (givenE zs m != 0) = true := by simpa using hg
      have HI := hide h
      clear h hc hg
      generalize hcp : checkP t = cp at HPS
      clear hcp
      go_enter Try.func16, Try.ntmps16
      go_wp2_with fail
      refine (unhide HPS _).mono ?_
      rintro e w1 ⟨rfl, n1, hw1⟩
      have HB1 : Hid (Below w.heap.size w w1) := by
        show Below _ _ _
        rw [hw1]
        exact below_drewN (Below.refl _ _) _
      have hI1 := hide ((unhide HI).below (unhide HB1))
      clear hw1 HPS
      go_wp2_with fail
      refine (given_any _ _ _ zs m _ (unhide hI1) hr).mono ?_
      rintro e w2 ⟨rfl, hw⟩
      have hw := hw.symm
      subst hw
      generalize hge : givenE zs m = ge at *
      generalize hgp : givenP zs m = gp at *
      have HG := hide (And.intro hge hgp)
      clear hge hgp
      go_wp2_with fail
      refine bodyPost_ret (v := .tuple #[.slice none 0 0, .int .i64 0, .int .i64 ge, .int .i64 gp]) (by simp [results, Try.results16, go_sem]) rfl ?_
      exact ⟨none, 0, 0, by rw [(unhide HG).1, (unhide HG).2], ⟨rfl, fun h => by omega⟩, fun b hb => by simp at hb, unhide HB1⟩
  · have e1 : shE t zs m = checkE t := by simp [shE, hc]
    have e2 : shP t zs m = checkP t := by simp [shP, hc]
    have e3 : shL t zs m = [] := by simp [shL, e1, hc]
    have e4 : shR t zs m = 0 := by simp [shR, e1, hc]
    rw [e1, e2, e3, e4]
    clear e1 e2 e3 e4
    have hcb : (checkE t != 0) = true := by simpa using hc
    clear hc
    generalize hge : checkE t = ge at *
    generalize hgp : checkP t = gp at *
    clear hge hgp
    go_enter Try.func16, Try.ntmps16
    go_wp2_with fail
    refine (unhide HPS _).mono ?_
    rintro e w1 ⟨rfl, n1, hw1⟩
    have HB1 : Hid (Below w.heap.size w w1) := by
      show Below _ _ _
      rw [hw1]
      exact below_drewN (Below.refl _ _) _
    clear HPS hw1
    go_wp2_with fail
    refine bodyPost_ret (v := .tuple #[.slice none 0 0, .int .i64 0, .int .i64 ge, .int .i64 gp]) (by simp [results, Try.results16, go_sem]) rfl ?_
    exact ⟨none, 0, 0, rfl, ⟨rfl, fun h => by omega⟩, fun b hb => by simp at hb, unhide HB1⟩
end Go.Proofs.Ytmdjdpofpkgffab
