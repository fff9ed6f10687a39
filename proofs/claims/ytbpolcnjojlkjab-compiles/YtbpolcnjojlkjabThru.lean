/- split's goThrough. -/
import Derived.Test.YtbpolcnjojlkjabProp2
import Derived.Test.YtbpolcnjojlkjabExecM
import Derived.Test.YtbpolcnjojlkjabReader4
import Derived.Deep.LoopGhost
namespace Go.Proofs.Ytbpolcnjojlkjab
open Go.ChangeShapes Go.WideShapes Go.ChangeAt Go.RowKit
open Split (Pu lea paySum payM Keeps holdM backM amTo Pf propTo argTo leftM propM St SOk doM skipM execM)
set_option linter.unusedVariables false
set_option linter.unusedSimpArgs false

theorem flat_get : ∀ (ss : List St) (o j : Nat) (h : o < ss.length), j < 12 → (flat ss)[o * 12 + j]? = (stC (ss[o]))[j]?
  | [], o, j, h, _ => by simp at h
  | s :: ss, 0, j, h, hj => by
    show (stC s ++ flat ss)[0 * 12 + j]? = _
    rw [List.getElem?_append_left (by rw [stC_len]; omega), Nat.zero_mul, Nat.zero_add]
    rfl
  | s :: ss, o + 1, j, h, hj => by
    show (stC s ++ flat ss)[(o + 1) * 12 + j]? = _
    rw [List.getElem?_append_right (by rw [stC_len]; omega), stC_len, show (o + 1) * 12 + j - 12 = o * 12 + j by omega, flat_get ss o j (by simpa using h) hj]
    rfl

/-- The twelve cells of a step. -/
theorem step_cells {w : World} {base gs n cap o : Nat} {ss : List St} {k b a l : Int} {m0 m1 m2 m3 m4 m5 m6 m7 : Bool} (h : w.ownsRow base 63 12 (.slice (some ⟨gs, 0, none⟩) n cap) n (flat ss)) (hn : ss.length = n) (ho : o < ss.length) (hs : ss[o] = ⟨k, b, a, [m0, m1, m2, m3, m4, m5, m6, m7], l⟩) :
    w.cell? ⟨gs, o * 12, none⟩ = some (.int .u8 k) ∧ w.cell? ⟨gs, o * 12 + 1, none⟩ = some (.int .i64 b) ∧ w.cell? ⟨gs, o * 12 + 2, none⟩ = some (.int .i64 a) ∧ w.cell? ⟨gs, o * 12 + 3, none⟩ = some (.bool m0) ∧ w.cell? ⟨gs, o * 12 + 4, none⟩ = some (.bool m1) ∧ w.cell? ⟨gs, o * 12 + 5, none⟩ = some (.bool m2) ∧ w.cell? ⟨gs, o * 12 + 6, none⟩ = some (.bool m3) ∧ w.cell? ⟨gs, o * 12 + 7, none⟩ = some (.bool m4) ∧ w.cell? ⟨gs, o * 12 + 8, none⟩ = some (.bool m5) ∧ w.cell? ⟨gs, o * 12 + 9, none⟩ = some (.bool m6) ∧ w.cell? ⟨gs, o * 12 + 10, none⟩ = some (.bool m7) ∧ w.cell? ⟨gs, o * 12 + 11, none⟩ = some (.int .i64 l) := by
  have key : ∀ j, j < 12 → w.cell? ⟨gs, o * 12 + j, none⟩ = (stC ⟨k, b, a, [m0, m1, m2, m3, m4, m5, m6, m7], l⟩)[j]? := by
    intro j hj
    rw [h.cellAt _ (by omega), flat_get ss o j ho hj, hs]
  refine ⟨key 0 (by omega), key 1 (by omega), key 2 (by omega), key 3 (by omega), key 4 (by omega), key 5 (by omega), key 6 (by omega), key 7 (by omega), key 8 (by omega), key 9 (by omega), key 10 (by omega), key 11 (by omega)⟩

theorem exec_next (ss : List St) (f pc : Nat) (p : Pu) (h : pc < ss.length) : execM ss (f + 1) pc p = execM ss f (pc + 1 + skipM (ss[pc]) p) (doM (ss[pc]) p) := by
  simp only [execM, List.getElem?_eq_getElem h]
theorem exec_stop (ss : List St) (f pc : Nat) (p : Pu) (h : ¬ pc < ss.length) : execM ss f pc p = p := by
  cases f with
  | zero => rfl
  | succ f => simp only [execM, List.getElem?_eq_none (show ss.length ≤ pc by omega)]

set_option maxHeartbeats 8000000 in
theorem goThrough_any (P : Nat) (p0 : Pu) (M : Int) (o0 : List Int) (ss : List St) (base gs cap : Nat) (w : World) (h : PA w P p0) (hk : Keeps M o0 p0) (hh : p0.held = [])
    (hS : w.ownsRow base 63 12 (.slice (some ⟨gs, 0, none⟩) ss.length cap) ss.length (flat ss)) (hgs : gs < P) (hok : ∀ s ∈ ss, SOk s) (hl : ss.length ≤ 200) :
    Calls Try.prog 40 #[.pointer (some ⟨P, 0, none⟩), .slice (some ⟨gs, 0, none⟩) ss.length cap] w fun e w' => e = .returned (.tuple #[]) ∧ PA w' P (execM ss ss.length 0 p0) ∧ Below P w w' := by
  have HPA := hide h
  have HK := hide hk
  have HS := hide hS
  have HOK := hide hok
  have hcap : ss.length ≤ cap := by
    obtain ⟨a, c, e, hc, _⟩ := own_slice hS
    simp at e
    omega
  have HH := hide hh
  clear h hk hS hok hh
  go_enter Try.func40, Try.ntmps40
  go_wp2_with fail
  go_loopg [4, 5] ss.length (fun f at' _ wr => ∃ (pc : Nat) (p : Pu), pc ≤ 2000 ∧ ss.length - pc ≤ f ∧ at' = .int .i64 pc ∧ Hid (PA wr P p) ∧ Hid (Keeps M o0 p) ∧ Hid (p.held.length ≤ pc) ∧ Hid (execM ss ss.length 0 p0 = execM ss f pc p) ∧ Hid (Below P w wr))
  case atStart => exact ⟨0, p0, by omega, by omega, rfl, HPA, HK, by rw [unhide HH]; exact Nat.le_refl _, rfl, Below.refl _ _⟩
  case round =>
    obtain ⟨pc, p, hpc, hf, rfl, hp, hkp, hhl, hex, hb⟩ := hrel
    clear HPA HK HH
    have hPw : P < wr.heap.size := (unhide hp).lt
    by_cases hlt : pc < ss.length
    · obtain ⟨f', hf'⟩ : ∃ f', gk = f' + 1 := ⟨gk - 1, by omega⟩
      have hex' : Hid (execM ss ss.length 0 p0 = execM ss f' (pc + 1 + skipM (ss[pc]) p) (doM (ss[pc]) p)) := by
        have := unhide hex
        rw [hf', exec_next ss f' pc p hlt] at this
        exact this
      have hm : Hid (f' < gk ∧ ss.length - (pc + 1) ≤ f') := ⟨by omega, by omega⟩
      clear hf' hex hf
      have hso := unhide HOK _ (List.getElem_mem hlt)
      have hkd := Split.do_keeps (unhide hkp) hso
      have hhd := Split.do_held (ss[pc]) p
      obtain ⟨⟨kind, bucket, amount, among, leave⟩, hse⟩ : ∃ s, ss[pc] = s := ⟨_, rfl⟩
      rw [hse] at hex' hso hkd hhd
      obtain ⟨⟨b, hb8, hbe⟩, ha0, ha1, hah, ham, ⟨l, hl1, hle⟩⟩ := hso
      dsimp only at hbe ha0 ha1 hah ham hle
      subst hbe
      subst hle
      obtain ⟨m0, m1, m2, m3, m4, m5, m6, m7, hame⟩ : ∃ m0 m1 m2 m3 m4 m5 m6 m7, among = [m0, m1, m2, m3, m4, m5, m6, m7] := by
        match among, ham with
        | [m0, m1, m2, m3, m4, m5, m6, m7], _ => exact ⟨m0, m1, m2, m3, m4, m5, m6, m7, rfl⟩
      subst hame
      have hcells := step_cells (unhide HS) rfl hlt hse
      obtain ⟨d0, d1, d2, d3, d4, d5, d6, d7, d8, d9, d10, d11⟩ := hcells
      rw [← (unhide hb).cell (p := ⟨gs, _, none⟩) hgs] at d0 d1 d2 d3 d4 d5 d6 d7 d8 d9 d10 d11
      have hpn := hide ((unhide hp).grown (World.grownBy_alloc wr (.cells #[.int .u8 kind, .int .i64 (b : Nat), .int .i64 amount, .bool m0, .bool m1, .bool m2, .bool m3, .bool m4, .bool m5, .bool m6, .bool m7, .int .i64 (l : Nat)] 63) none) (by simp) (by simp))
      have hbn := hide ((unhide hb).alloc (by omega) (.cells #[.int .u8 kind, .int .i64 (b : Nat), .int .i64 amount, .bool m0, .bool m1, .bool m2, .bool m3, .bool m4, .bool m5, .bool m6, .bool m7, .int .i64 (l : Nat)] 63))
      have HKD := hide hkd
      have HHD := hide hhd
      clear hkd hhd ham hse
      by_cases k80 : kind = 80
      · subst k80
        have e1 : doM ⟨80, (b : Nat), amount, [m0, m1, m2, m3, m4, m5, m6, m7], (l : Nat)⟩ p = payM p b 1000000000 := by simp [doM]
        have e2 : skipM ⟨80, (b : Nat), amount, [m0, m1, m2, m3, m4, m5, m6, m7], (l : Nat)⟩ p = 0 := by simp [skipM]
        rw [e1] at hex' HKD HHD
        rw [e2] at hex'
        clear e1 e2
        go_wp2_with fail
        refine (pay_any P p M o0 b _ (unhide hpn) (unhide hkp) hb8).mono ?_
        rintro e w2 ⟨rfl, h2, g2⟩
        have H2 := hide h2
        have B2 := hide ((unhide hbn).trans (below_of_grown (B := P) g2 (by simp; omega) (fun k hk => by simp at hk; omega)))
        clear h2 g2
        go_wp2_with fail
        go_roundg f'
        case measure => exact (unhide hm).1
        case rel => exact ⟨pc + 1, payM p b 1000000000, by omega, (unhide hm).2, by go_num, H2, HKD, by have := unhide HHD; have := unhide hhl; show _ ≤ _; omega, hex', B2⟩
      by_cases k67 : kind = 67
      · subst k67
        have e1 : doM ⟨67, (b : Nat), amount, [m0, m1, m2, m3, m4, m5, m6, m7], (l : Nat)⟩ p = payM p b amount := by simp [doM]
        have e2 : skipM ⟨67, (b : Nat), amount, [m0, m1, m2, m3, m4, m5, m6, m7], (l : Nat)⟩ p = 0 := by simp [skipM]
        rw [e1] at hex' HKD HHD
        rw [e2] at hex'
        clear e1 e2
        go_wp2_with fail
        refine (payAtMost_any P p M o0 b amount _ (unhide hpn) (unhide hkp) hb8 ha0 (by omega)).mono ?_
        rintro e w2 ⟨rfl, h2, g2⟩
        have H2 := hide h2
        have B2 := hide ((unhide hbn).trans (below_of_grown (B := P) g2 (by simp; omega) (fun k hk => by simp at hk; omega)))
        clear h2 g2
        go_wp2_with fail
        go_roundg f'
        case measure => exact (unhide hm).1
        case rel => exact ⟨pc + 1, payM p b amount, by omega, (unhide hm).2, by go_num, H2, HKD, by have := unhide HHD; have := unhide hhl; show _ ≤ _; omega, hex', B2⟩
      by_cases k82 : kind = 82
      · subst k82
        have e1 : doM ⟨82, (b : Nat), amount, [m0, m1, m2, m3, m4, m5, m6, m7], (l : Nat)⟩ p = propM p [m0, m1, m2, m3, m4, m5, m6, m7] := by simp [doM]
        have e2 : skipM ⟨82, (b : Nat), amount, [m0, m1, m2, m3, m4, m5, m6, m7], (l : Nat)⟩ p = 0 := by simp [skipM]
        rw [e1] at hex' HKD HHD
        rw [e2] at hex'
        clear e1 e2
        go_wp2_with fail
        refine (payInProportion_any P p M o0 m0 m1 m2 m3 m4 m5 m6 m7 _ (unhide hpn) (unhide hkp)).mono ?_
        rintro e w2 ⟨rfl, h2, g2⟩
        have H2 := hide h2
        have B2 := hide ((unhide hbn).trans (below_of_grown (B := P) g2 (by simp; omega) (fun k hk => by simp at hk; omega)))
        clear h2 g2
        go_wp2_with fail
        go_roundg f'
        case measure => exact (unhide hm).1
        case rel => exact ⟨pc + 1, propM p [m0, m1, m2, m3, m4, m5, m6, m7], by omega, (unhide hm).2, by go_num, H2, HKD, by have := unhide HHD; have := unhide hhl; show _ ≤ _; omega, hex', B2⟩
      by_cases k72 : kind = 72
      · subst k72
        have h100 : amount ≤ 100 := hah rfl
        clear hah
        have e1 : doM ⟨72, (b : Nat), amount, [m0, m1, m2, m3, m4, m5, m6, m7], (l : Nat)⟩ p = holdM p amount := by simp [doM]
        have e2 : skipM ⟨72, (b : Nat), amount, [m0, m1, m2, m3, m4, m5, m6, m7], (l : Nat)⟩ p = 0 := by simp [skipM]
        rw [e1] at hex' HKD HHD
        rw [e2] at hex'
        clear e1 e2
        go_wp2_with fail
        refine (hold_any P p M o0 amount _ (unhide hpn) (unhide hkp) ha0 h100 (by have := unhide hhl; omega)).mono ?_
        rintro e w2 ⟨rfl, h2, g2⟩
        have H2 := hide h2
        have B2 := hide ((unhide hbn).trans g2)
        clear h2 g2
        go_wp2_with fail
        go_roundg f'
        case measure => exact (unhide hm).1
        case rel => exact ⟨pc + 1, holdM p amount, by omega, (unhide hm).2, by go_num, H2, HKD, by have := unhide HHD; have := unhide hhl; show _ ≤ _; omega, hex', B2⟩
      by_cases k69 : kind = 69
      · subst k69
        have e1 : doM ⟨69, (b : Nat), amount, [m0, m1, m2, m3, m4, m5, m6, m7], (l : Nat)⟩ p = backM p := by simp [doM]
        have e2 : skipM ⟨69, (b : Nat), amount, [m0, m1, m2, m3, m4, m5, m6, m7], (l : Nat)⟩ p = 0 := by simp [skipM]
        rw [e1] at hex' HKD HHD
        rw [e2] at hex'
        clear e1 e2
        go_wp2_with fail
        refine (takeBack_any P p M o0 _ (unhide hpn) (unhide hkp) (by have := unhide hhl; omega)).mono ?_
        rintro e w2 ⟨rfl, h2, g2⟩
        have H2 := hide h2
        have B2 := hide ((unhide hbn).trans g2)
        clear h2 g2
        go_wp2_with fail
        go_roundg f'
        case measure => exact (unhide hm).1
        case rel => exact ⟨pc + 1, backM p, by omega, (unhide hm).2, by go_num, H2, HKD, by have := unhide HHD; have := unhide hhl; show _ ≤ _; omega, hex', B2⟩
      by_cases k74 : kind = 74
      · subst k74
        have e1 : doM ⟨74, (b : Nat), amount, [m0, m1, m2, m3, m4, m5, m6, m7], (l : Nat)⟩ p = p := by simp [doM]
        have e2 : skipM ⟨74, (b : Nat), amount, [m0, m1, m2, m3, m4, m5, m6, m7], (l : Nat)⟩ p = l := by simp [skipM]
        rw [e1] at hex' HKD HHD
        rw [e2] at hex'
        clear e1 e2
        go_wp2_with fail
        go_roundg f'
        case measure => exact (unhide hm).1
        case rel => exact ⟨pc + 1 + l, p, by omega, by have := (unhide hm).2; omega, by go_num, hpn, HKD, by have := unhide hhl; show _ ≤ _; omega, hex', hbn⟩
      have co : wr.cell? ⟨P, 2 + b, none⟩ = some (.int .i64 (p.owed.getD b 0)) := by
        obtain ⟨vh, hP, _⟩ := unhide hp
        exact hP.owed_cell b hb8
      obtain ⟨x, hx⟩ : ∃ x, p.owed.getD b 0 = x := ⟨_, rfl⟩
      rw [hx] at co
      have HX := hide hx
      clear hx
      by_cases k73 : kind = 73
      · subst k73
        have e1 : doM ⟨73, (b : Nat), amount, [m0, m1, m2, m3, m4, m5, m6, m7], (l : Nat)⟩ p = p := by simp [doM]
        rw [e1] at hex' HKD HHD
        clear e1
        by_cases hle : x ≤ amount
        · have e2 : skipM ⟨73, (b : Nat), amount, [m0, m1, m2, m3, m4, m5, m6, m7], (l : Nat)⟩ p = l := by
            have := unhide HX
            simp only [skipM, Int.toNat_natCast, this]
            simp [hle]
          rw [e2] at hex'
          clear e2
          go_wp2_with fail
          go_quiet (fail)
          go_wp2_with fail
          go_roundg f'
          case measure => exact (unhide hm).1
          case rel => exact ⟨pc + 1 + l, p, by omega, by have := (unhide hm).2; omega, by go_num, (unhide hpn).drewN _, HKD, by have := unhide hhl; show _ ≤ _; omega, hex', below_drewN (unhide hbn) _⟩
        · have e2 : skipM ⟨73, (b : Nat), amount, [m0, m1, m2, m3, m4, m5, m6, m7], (l : Nat)⟩ p = 0 := by
            have := unhide HX
            simp only [skipM, Int.toNat_natCast, this]
            simp [hle]
          rw [e2] at hex'
          clear e2
          go_wp2_with fail
          go_quiet (fail)
          go_wp2_with fail
          go_roundg f'
          case measure => exact (unhide hm).1
          case rel => exact ⟨pc + 1, p, by omega, (unhide hm).2, by go_num, (unhide hpn).drewN _, HKD, by have := unhide hhl; show _ ≤ _; omega, hex', below_drewN (unhide hbn) _⟩
      · have e1 : doM ⟨kind, (b : Nat), amount, [m0, m1, m2, m3, m4, m5, m6, m7], (l : Nat)⟩ p = p := by simp [doM, k80, k67, k82, k72, k69]
        have e2 : skipM ⟨kind, (b : Nat), amount, [m0, m1, m2, m3, m4, m5, m6, m7], (l : Nat)⟩ p = 0 := by simp [skipM, k74, k73]
        rw [e1] at hex' HKD HHD
        rw [e2] at hex'
        have q1 : (kind == 80) = false := beq_eq_false_iff_ne.2 k80
        have q2 : (kind == 67) = false := beq_eq_false_iff_ne.2 k67
        have q3 : (kind == 82) = false := beq_eq_false_iff_ne.2 k82
        have q4 : (kind == 72) = false := beq_eq_false_iff_ne.2 k72
        have q5 : (kind == 69) = false := beq_eq_false_iff_ne.2 k69
        have q6 : (kind == 74) = false := beq_eq_false_iff_ne.2 k74
        have q7 : (kind == 73) = false := beq_eq_false_iff_ne.2 k73
        clear e1 e2 k80 k67 k82 k72 k69 k74 k73 hah
        go_wp2_with fail
        go_roundg f'
        case measure => exact (unhide hm).1
        case rel => exact ⟨pc + 1, p, by omega, (unhide hm).2, by go_num, hpn, HKD, by have := unhide hhl; show _ ≤ _; omega, hex', hbn⟩
    · have hfin : Hid (execM ss ss.length 0 p0 = p) := (unhide hex).trans (exec_stop ss gk pc p hlt)
      go_wp2_with fail
      go_end0
      rw [unhide hfin]
      exact ⟨rfl, unhide hp, unhide hb⟩
end Go.Proofs.Ytbpolcnjojlkjab
