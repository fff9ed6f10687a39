/- BitAnd, RefActR, HeldR, RefStep3 -/
import Derived.Test.YtbpolcnjojlkjabPack4
import Derived.Test.YtbpolcnjojlkjabPack28
import Derived.Test.YtbpolcnjojlkjabPack8
import Derived.Test.YtbpolcnjojlkjabPack27

/- A bit of a number, by and. -/
namespace Go.Proofs.Ytbpolcnjojlkjab
open Go.ChangeShapes Go.WideShapes Go.ChangeAt Go.RowKit
set_option linter.unusedVariables false
set_option linter.unusedSimpArgs false

theorem and_lit (z : Int) (i : Nat) (hi : i < 8) : bits .and .i64 z (2 ^ i) = (((z % 18446744073709551616).toNat / 2 ^ i % 2 * 2 ^ i : Nat) : Int) := by
  have e : ∀ x : Nat, x &&& 2 ^ i = x / 2 ^ i % 2 * 2 ^ i := fun x => by
    have hb : x / 2 ^ i % 2 = (x.testBit i).toNat := by
      rw [Nat.testBit_eq_decide_div_mod_eq]
      have h := Nat.mod_two_eq_zero_or_one (x / 2 ^ i)
      rcases h with h | h <;> simp [h]
    apply Nat.eq_of_testBit_eq
    intro j
    rw [Nat.testBit_and, Nat.testBit_two_pow, hb]
    cases hx : x.testBit i
    · by_cases hij : i = j
      · subst hij; simp [hx]
      · simp [hij]
    · by_cases hij : i = j
      · subst hij; simp [hx, Nat.testBit_two_pow]
      · simp [hij, Nat.testBit_two_pow]
  have h1 : (BitVec.ofInt 64 z).toNat = (z % 18446744073709551616).toNat := by rw [BitVec.toNat_ofInt]; rfl
  have h2 : (BitVec.ofInt 64 (2 ^ i)).toNat = 2 ^ i := by
    match i, hi with
    | 0, _ => rfl
    | 1, _ => rfl
    | 2, _ => rfl
    | 3, _ => rfl
    | 4, _ => rfl
    | 5, _ => rfl
    | 6, _ => rfl
    | 7, _ => rfl
  show IntKind.i64.wrap ((BitVec.ofInt 64 z &&& BitVec.ofInt 64 (2 ^ i)).toNat : Int) = _
  rw [BitVec.toNat_and, h2, e, h1]
  refine wrap_small ?_ ?_
  · omega
  · have h3 : 2 ^ i ≤ 2 ^ 7 := Nat.pow_le_pow_right (by omega) (by omega)
    have h4 : (z % 18446744073709551616).toNat / 2 ^ i % 2 * 2 ^ i ≤ 1 * 2 ^ i := Nat.mul_le_mul_right _ (by omega)
    omega

theorem wrap_pow (i : Nat) (hi : i < 8) : wrap64 (2 ^ i) = 2 ^ i := by
  match i, hi with
  | 0, _ => exact IntWalk.wrap64_in (2 ^ 0) (by decide)
  | 1, _ => exact IntWalk.wrap64_in (2 ^ 1) (by decide)
  | 2, _ => exact IntWalk.wrap64_in (2 ^ 2) (by decide)
  | 3, _ => exact IntWalk.wrap64_in (2 ^ 3) (by decide)
  | 4, _ => exact IntWalk.wrap64_in (2 ^ 4) (by decide)
  | 5, _ => exact IntWalk.wrap64_in (2 ^ 5) (by decide)
  | 6, _ => exact IntWalk.wrap64_in (2 ^ 6) (by decide)
  | 7, _ => exact IntWalk.wrap64_in (2 ^ 7) (by decide)

theorem bit_key (z : Int) (i : Nat) (hi : i < 8) : (((z % 18446744073709551616).toNat / 2 ^ i % 2 : Nat) : Int) = z / 2 ^ i % 2 := by
  match i, hi with
  | 0, _ =>
    show (((z % 18446744073709551616).toNat / 1 % 2 : Nat) : Int) = z / 1 % 2
    omega
  | 1, _ =>
    show (((z % 18446744073709551616).toNat / 2 % 2 : Nat) : Int) = z / 2 % 2
    omega
  | 2, _ =>
    show (((z % 18446744073709551616).toNat / 4 % 2 : Nat) : Int) = z / 4 % 2
    omega
  | 3, _ =>
    show (((z % 18446744073709551616).toNat / 8 % 2 : Nat) : Int) = z / 8 % 2
    omega
  | 4, _ =>
    show (((z % 18446744073709551616).toNat / 16 % 2 : Nat) : Int) = z / 16 % 2
    omega
  | 5, _ =>
    show (((z % 18446744073709551616).toNat / 32 % 2 : Nat) : Int) = z / 32 % 2
    omega
  | 6, _ =>
    show (((z % 18446744073709551616).toNat / 64 % 2 : Nat) : Int) = z / 64 % 2
    omega
  | 7, _ =>
    show (((z % 18446744073709551616).toNat / 128 % 2 : Nat) : Int) = z / 128 % 2
    omega

theorem and_bit (z : Int) (i : Nat) (hi : i < 8) : (bits .and .i64 z (wrap64 (2 ^ i)) != 0) = bitM z i := by
  rw [wrap_pow i hi, and_lit z i hi]
  unfold bitM
  rw [← bit_key z i hi]
  have hp : 0 < 2 ^ i := Nat.two_pow_pos i
  rcases Nat.mod_two_eq_zero_or_one ((z % 18446744073709551616).toNat / 2 ^ i) with h | h
  · rw [h]; simp
  · rw [h, Nat.one_mul]
    have : ((2 ^ i : Nat) : Int) ≠ 0 := by omega
    exact bne_iff_ne.2 this

theorem bits_get (z : Int) (k : Nat) (hk : k < 8) : (bitsM z).getD k false = bitM z k := by
  simp only [bitsM, List.getD_eq_getElem?_getD, List.getElem?_map]
  rw [List.getElem?_range hk]
  rfl
end Go.Proofs.Ytbpolcnjojlkjab

/- splitref's act: the instruction R, and all of them. -/
namespace Go.Proofs.Ytbpolcnjojlkjab
open Go.ChangeShapes Go.WideShapes Go.ChangeAt Go.RowKit
open Split (St SOk Pu Keeps payM propM holdM backM doM skipM none8)
set_option linter.unusedVariables false
set_option linter.unusedSimpArgs false

set_option maxRecDepth 100000 in
set_option maxHeartbeats 4000000 in
theorem act_R (a b m : Int) (ha : 0 ≤ a) (ha8 : a ≤ 255) (hb0 : 0 ≤ b) (hb255 : b ≤ 255) : ActOk 82 a b m := by
  intro B T L Q sb i va vl vc p M o0 w hi h hk hl _
  have e1 : decS 82 a b m = ⟨82, 0, 0, bitsM a, 0⟩ := rfl
  have e2 : doM ⟨82, 0, 0, bitsM a, 0⟩ p = propM p (bitsM a) := by simp [doM]
  have e3 : skipM ⟨82, 0, 0, bitsM a, 0⟩ p = 0 := by simp [skipM]
  unfold ActPost
  rw [e1, e2, e3]
  have HM := hide h
  have HK := hide hk
  have hwy := fun w' => ways_any 82 a b m i w' (by omega) (by omega) (by omega) (by omega) (by omega)
  rw [show wayA 82 a i = i + 1 from by simp [wayA], show wayB 82 a b i = i + 1 from by simp [wayB]] at hwy
  have HWY := hide hwy
  clear h hk hwy e1 e2 e3
  go_enter Try.func24, Try.ntmps24
  go_wp2_with fail
  refine (unhide HWY _).mono ?_
  rintro e w2 ⟨rfl, hb2⟩
  obtain ⟨hM2, hB2, hrow⟩ := box_ways (unhide HM) hb2
  rw [heap_alloc_new] at hrow
  have hl2 : w.heap.size < w2.heap.size := cell_lt hrow
  have c0 := cell_of_row w2 w.heap.size 0 _ _ _ hrow
  have c1 := cell_of_row w2 w.heap.size 1 _ _ _ hrow
  have c2 := cell_of_row w2 w.heap.size 2 _ _ _ hrow
  have c3 := cell_of_row w2 w.heap.size 3 _ _ _ hrow
  simp at c0 c1 c2 c3
  have M2 := hide hM2
  have B2 := hide hB2
  have HROW := hide hrow
  clear hb2 hM2 hB2 hrow HWY c2 c3
  have hmk := mkB
  go_wp2_with fail
  clear hmk c0 c1
  have hB0 : Hid (Bs (w2.alloc (.cells madeB 4)) w2.heap.size (bfill a 0)) := by
    show Bs _ _ _
    rw [bfill_zero]
    exact ⟨by simp [none8], by rw [← madeB_eq]; exact heap_alloc_new _ _⟩
  have hbl0 : Hid (Below w2.heap.size w2 (w2.alloc (.cells madeB 4))) := (Below.refl _ _).alloc (Nat.le_refl _) _
  have hTw := (unhide M2).st.lt
  go_loopw [13] (fun kk wr => ∃ k : Nat, k ≤ 8 ∧ kk = .int .i64 k ∧ Hid (Bs wr w2.heap.size (bfill a k)) ∧ Hid (Below w2.heap.size w2 wr)) (fun kk _ => 8 - (intOf kk).toNat)
  case atStart => exact ⟨0, by omega, rfl, hB0, hbl0⟩
  case round =>
    obtain ⟨k, hk8, rfl, hb, hg⟩ := hrel
    clear hB0 hbl0
    have hSw : w2.heap.size < wr.heap.size := cell_lt (unhide hb).2
    have hrow := ((unhide hg).block w.heap.size hl2).trans (unhide HROW)
    have c1 := cell_of_row wr w.heap.size 1 _ _ _ hrow
    have hlr : w.heap.size < wr.heap.size := cell_lt hrow
    simp at c1
    clear hrow
    by_cases hlt : k < 8
    · have cz := (unhide hb).cell k hlt
      have fz := (unhide hb).fr k
      have hbit := and_bit a k hlt
      obtain ⟨v, hv⟩ : ∃ v, bits BinOp.and IntKind.i64 a (wrap64 (2 ^ k)) = v := ⟨_, rfl⟩
      rw [hv] at hbit
      have hst : Hid (Bs (wr.setCell ⟨w2.heap.size, k, none⟩ (.bool (bitM a k))) w2.heap.size (bfill a (k + 1))) := by
        show Bs _ _ _
        rw [← bfill_set a k hlt]
        exact (unhide hb).set k _
      have hgt : Hid (Below w2.heap.size w2 (wr.setCell ⟨w2.heap.size, k, none⟩ (.bool (bitM a k)))) := (unhide hg).setCell (p := ⟨w2.heap.size, k, none⟩) (Nat.le_refl _) _
      obtain ⟨bb, hbb⟩ : ∃ bb, (bfill a k).getD k false = bb := ⟨_, rfl⟩
      rw [hbb] at cz
      obtain ⟨bm, hbm⟩ : ∃ bm, bitM a k = bm := ⟨_, rfl⟩
      rw [hbm] at hbit hst hgt
      clear hbb hbm
      go_wp2_with fail
      go_region
      go_wp2_with fail
      go_roundw
      case rel => exact ⟨k + 1, by omega, by go_num, (unhide hst).other rfl, Below.drew (unhide hgt)⟩
      case measure => simp [intOf]; omega
    · have hk8' : k = 8 := by omega
      subst hk8'
      rw [bfill_all] at hb
      go_wp2_with fail
      refine (rate_any T L Q w2.heap.size p (bitsM a) M o0 _ ((unhide M2).below (unhide hg)).st (unhide HK) (unhide hb) (by omega) (by omega) (by omega)).mono ?_
      rintro e w3 ⟨rfl, h3, g3⟩
      have M3 : Hid (Mach w3 B T L Q sb (.slice va vl vc) (propM p (bitsM a))) := ((unhide M2).below (unhide hg)).on g3 h3 (Split.propM_held _ _)
      have B3 := hide (((unhide B2).trans ((unhide hg).mono (unhide M2).bb)).trans (((unhide M2).below (unhide hg)).onB g3))
      clear h3 g3
      go_wp2_with fail
      go_ret2
      exact ⟨_, by first | rfl | simp, unhide M3, unhide B3⟩

/-- Every instruction that holds. -/
theorem act_all {k a b m left : Int} (h : decB k a b left = true) (ha : 0 ≤ a) (ha' : a ≤ 255) (hb : 0 ≤ b) (hb' : b ≤ 255) (hm : 0 ≤ m) (hm' : m ≤ 65535) : ActOk k a b m := by
  unfold decB at h
  by_cases h80 : k = 80
  · subst h80
    simp at h
    exact act_P a b m ha h hb hb'
  rw [if_neg h80] at h
  by_cases h67 : k = 67
  · subst h67
    simp at h
    exact act_C a b m ha h hb hb' hm hm'
  rw [if_neg h67] at h
  by_cases h82 : k = 82
  · subst h82
    exact act_R a b m ha ha' hb hb'
  rw [if_neg h82] at h
  by_cases h72 : k = 72
  · subst h72
    simp at h
    exact act_H a b m h.1 h.2 hb hb'
  rw [if_neg h72] at h
  by_cases h69 : k = 69
  · subst h69
    exact act_E a b m ha ha' hb hb'
  rw [if_neg h69] at h
  by_cases h74 : k = 74
  · subst h74
    exact act_J a b m ha ha' hb hb'
  rw [if_neg h74] at h
  by_cases h73 : k = 73
  · subst h73
    simp at h
    exact act_I a b m ha h.1 hb hb' hm hm'
  · rw [if_neg h73] at h
    simp at h
end Go.Proofs.Ytbpolcnjojlkjab

/- Plain: what is held, step by step of a run. -/
namespace Go.Proofs.Ytbpolcnjojlkjab.Split
set_option linter.unusedVariables false
set_option linter.unusedSimpArgs false

section
variable {ss : List St} {n : Nat} (hn : ss.length = n) (hin : ∀ (i : Nat) (h : i < ss.length), InCode n i ss[i])
include hn hin

/-- The look goes on to a place that has come to be. -/
theorem run_to : ∀ (d i : Nat) (h : List Int) (x : Int), i + d ≤ n → h.length = n + 1 → heldGo ss (n - i) i h = -1 → h.getD (i + d) 0 = x → 0 ≤ x → ∃ h' : List Int, h'.length = n + 1 ∧ heldGo ss (n - (i + d)) (i + d) h' = -1 ∧ h'.getD (i + d) 0 = x
  | 0, i, h, x, hi, hl, hg, hx, h0 => ⟨h, hl, hg, hx⟩
  | d + 1, i, h, x, hi, hl, hg, hx, h0 => by
    have hil : i < ss.length := by omega
    have hst := sticky hn hin
    obtain ⟨f, hf⟩ : ∃ f, n - i = f + 1 := ⟨n - i - 1, by omega⟩
    have hf2 : n - (i + 1) = f := by omega
    rw [hf] at hg
    unfold heldGo at hg
    rw [List.getElem?_eq_getElem hil] at hg
    dsimp only at hg
    rw [show i + (d + 1) = (i + 1) + d by omega] at hx hi ⊢
    by_cases h1 : h.getD i 0 = -1
    · rw [if_pos h1] at hg
      exact run_to d (i + 1) h x hi hl (by rw [hf2]; exact hg) hx h0
    · rw [if_neg h1] at hg
      by_cases hc : h.getD i 0 = -2 ∨ h.getD i 0 + growM ss[i].kind < 0 ∨ 5 < h.getD i 0 + growM ss[i].kind
      · rw [if_pos hc] at hg; omega
      · rw [if_neg hc] at hg
        have hk := on_keep (s := ss[i]) (h.getD i 0 + growM ss[i].kind) hl (show i < n by omega) (hin i hil) (j := i + 1 + d) (by omega)
        rcases hk with hk | hk
        · exact run_to d (i + 1) (onM h i ss[i] (h.getD i 0 + growM ss[i].kind)) x hi ((on_len _ _ _ _).trans hl) (by rw [hf2]; exact hg) (hk.trans hx) h0
        · exact absurd hg (hst f (i + 1) _ (i + 1 + d) (by omega) (by rw [on_len]; exact hl) (by omega) (by omega) hk)
end

/-- A run that has come to a place holds what the place's height says. -/
def Well (ss : List St) (pc : Nat) (p : Pu) : Prop := pc ≤ ss.length ∧ ∃ h : List Int, h.length = ss.length + 1 ∧ heldGo ss (ss.length - pc) pc h = -1 ∧ h.getD pc 0 = p.held.length

theorem well_start {ss : List St} {p : Pu} (hM : heldM ss = -1) (hp : p.held = []) : Well ss 0 p :=
  ⟨Nat.zero_le _, hInit ss.length, by simp [hInit], hM, by simp [hInit, hp]⟩

theorem well_step {ss : List St} {pc : Nat} {p : Pu} (hin : ∀ (i : Nat) (h : i < ss.length), InCode ss.length i ss[i]) (hW : Well ss pc p) (hlt : pc < ss.length) :
    p.held.length ≤ 6 ∧ (ss[pc].kind = 69 → p.held ≠ []) ∧ Well ss (pc + 1 + skipM ss[pc] p) (doM ss[pc] p) := by
  obtain ⟨_, h, hl, hg, hx⟩ := hW
  obtain ⟨f, hf⟩ : ∃ f, ss.length - pc = f + 1 := ⟨ss.length - pc - 1, by omega⟩
  have hf2 : ss.length - (pc + 1) = f := by omega
  rw [hf] at hg
  unfold heldGo at hg
  rw [List.getElem?_eq_getElem hlt] at hg
  dsimp only at hg
  rw [if_neg (by omega)] at hg
  by_cases hc : h.getD pc 0 = -2 ∨ h.getD pc 0 + growM ss[pc].kind < 0 ∨ 5 < h.getD pc 0 + growM ss[pc].kind
  · rw [if_pos hc] at hg; omega
  · rw [if_neg hc] at hg
    have hgr : -1 ≤ growM ss[pc].kind := by unfold growM; split; omega; split <;> omega
    have hd := do_len ss[pc] p (by omega)
    refine ⟨by omega, fun h69 he => ?_, ?_⟩
    · have : growM ss[pc].kind = -1 := by rw [h69]; rfl
      have hz : (p.held.length : Int) = 0 := by rw [he]; rfl
      omega
    · have hsk : pc + 1 + skipM ss[pc] p ≤ ss.length := by
        have := hin pc hlt
        unfold InCode at this
        unfold skipM
        split
        · rename_i hk; exact this (.inl hk)
        split
        · rename_i hk
          have := this (.inr hk)
          split <;> omega
        · omega
      have ha := on_at (s := ss[pc]) (h.getD pc 0 + growM ss[pc].kind) p hl hlt (hin pc hlt)
      have ha' : (onM h pc ss[pc] (h.getD pc 0 + growM ss[pc].kind)).getD (pc + 1 + skipM ss[pc] p) 0 = h.getD pc 0 + growM ss[pc].kind := by
        rcases ha with ha | ha
        · exact ha
        · exact absurd hg (sticky rfl hin f (pc + 1) _ _ (by omega) (by rw [on_len]; exact hl) (by omega) hsk ha)
      obtain ⟨h', l', g', x'⟩ := run_to rfl hin (skipM ss[pc] p) (pc + 1) (onM h pc ss[pc] (h.getD pc 0 + growM ss[pc].kind)) _ hsk ((on_len _ _ _ _).trans hl) (by rw [hf2]; exact hg) ha' (by omega)
      exact ⟨hsk, h', l', g', by rw [x', hx, hd]⟩
end Go.Proofs.Ytbpolcnjojlkjab.Split

/- splitref's step: R; every walk. -/
namespace Go.Proofs.Ytbpolcnjojlkjab
open Go.ChangeShapes Go.WideShapes Go.ChangeAt Go.RowKit
open Split (Pu payM Keeps propM byt byt_lt headM St doM holdM backM numM amongM none8 risM digM bucM)
set_option linter.unusedVariables false
set_option linter.unusedSimpArgs false

set_option maxHeartbeats 4000000 in
theorem step_R (t : ByteArray) (i : Nat) (hs : t.size ≤ 120) (hi : i < t.size) (h82 : byt t i = 82) (ho : (headM t i).2.2 = true) : StepOk t i := by
  intro T L Q p M o0 w h hk
  have e80 : byt t i ≠ 80 := by omega
  have e67 : ¬ (byt t i = 67 ∨ byt t i = 73) := by omega
  have hh : headM t i = if byt t (i + 1) = 104 then (i + 1, 0, false) else (risM t (i + 1), 0, decide (i + 3 ≤ risM t (i + 1))) := by
    simp only [headM, if_neg e80, if_neg e67, if_pos h82]
  have hhd : headM t i = (risM t (i + 1), 0, true) ∧ i + 3 ≤ risM t (i + 1) := by
    rw [hh] at ho ⊢
    split at ho
    · exact absurd ho (by simp)
    · rename_i hx
      rw [if_neg hx]
      exact ⟨by simpa using ho, by simpa using ho⟩
  obtain ⟨hhd, hj3⟩ := hhd
  have hjs := Split.risM_size t (i + 1) (by omega)
  have hnx : nxM t i = risM t (i + 1) := by simp [nxM, hhd]
  have hst : stpM t (semF t) i p = propM p (amongM t (i + 1) (risM t (i + 1))) := by
    simp [stpM, hhd, Split.stM, h82, doM]
  have hbu := ris_bucs t (i + 1)
  rw [hnx, hst]
  obtain ⟨j, hj⟩ : ∃ j, risM t (i + 1) = j := ⟨_, rfl⟩
  rw [hj] at hhd hj3 hjs hbu ⊢
  have HBU := hide hbu
  have HHD := hide hhd
  rw [byt_lt hi] at h82
  have H := hide h
  have HK := hide hk
  clear h hk hh hnx hst ho hhd hj hbu e80 e67
  have hmk := mkB
  go_enter Try.func35, Try.ntmps35
  go_wp2_with fail
  refine (head_any t i _ hs hi).mono ?_
  rintro e w1 ⟨rfl, n1, hw1⟩
  rw [unhide HHD]
  have HR1 : Hid (RSt w1 T L Q p) := by rw [hw1]; exact (unhide H).drewN n1
  have G1 : Hid (On T L Q w w1) := by rw [hw1]; exact (On.refl T L Q w).drewN n1
  clear hw1
  go_wp2_with fail
  clear hmk
  have hB0 : Hid (Bs (w1.alloc (.cells madeB 4)) w1.heap.size (amongM t (i + 1) (i + 1))) := by
    show Bs _ _ _
    rw [among_zero]
    exact ⟨by simp [none8], by rw [← madeB_eq]; exact heap_alloc_new _ _⟩
  have hTw := (unhide HR1).lt
  have hT0 : w.heap.size ≤ w1.heap.size := (unhide G1).size
  obtain ⟨S, hS⟩ : ∃ S, w1.heap.size = S := ⟨_, rfl⟩
  rw [hS] at hB0 hTw hT0 ⊢
  have HS := hide hS
  clear hS
  go_loopw [11] (fun kk wr => ∃ k : Nat, i + 1 ≤ k ∧ k ≤ j ∧ kk = .int .i64 k ∧ Hid (RSt wr T L Q p) ∧ Hid (Bs wr S (amongM t (i + 1) k)) ∧ Hid (On T L Q w wr)) (fun kk _ => j - (intOf kk).toNat)
  case atStart => exact ⟨i + 1, by omega, by omega, by first | rfl | (simp; done), (unhide HR1).alloc _, hB0, (unhide G1).alloc _⟩
  case round =>
    obtain ⟨k, hk1, hkj, rfl, hq, hb, hg⟩ := hrel
    clear hB0
    have hSw : S < wr.heap.size := cell_lt (unhide hb).2
    by_cases hlt : k < j
    · have hbk := unhide HBU k hk1 hlt
      rw [Split.buc_t] at hbk
      have hks : k < t.size := by omega
      obtain ⟨z, hz⟩ : ∃ z : Nat, byt t k = (z : Int) + 97 := ⟨(byt t k - 97).toNat, by omega⟩
      have hz8 : z < 8 := by omega
      have hsn := among_snoc t (i + 1) k z hk1 hz8 hz
      have HSN := hide hsn
      rw [byt_lt hks] at hz
      have cz := (unhide hb).cell z hz8
      have fz := (unhide hb).fr z
      obtain ⟨bb, hbb⟩ : ∃ bb, (amongM t (i + 1) k).getD z false = bb := ⟨_, rfl⟩
      rw [hbb] at cz
      clear hsn hbk hbb
      have hz8' : (z : Int) < 8 := by omega
      go_wp2_with fail
      try go_region
      go_wp2_with fail
      go_roundw
      case rel => exact ⟨k + 1, by omega, by omega, by go_num, ((unhide hq).off (x := ⟨S, z, none⟩) _ (by simp; omega) (by simp; omega) (by simp; omega)).other rfl rfl rfl, by rw [unhide HSN]; exact ((unhide hb).set z true).other rfl, (unhide hg).set (x := ⟨S, z, none⟩) (.bool true) (.inr (.inr (.inr hT0)))⟩
      case measure => simp [intOf]; omega
    · have hkj' : k = j := by omega
      subst hkj'
      go_wp2_with fail
      refine (rate_any T L Q S p (amongM t (i + 1) k) M o0 _ (unhide hq) (unhide HK) (unhide hb) (by omega) (by omega) (by omega)).mono ?_
      rintro e w2 ⟨rfl, h2, g2⟩
      have H2 := hide h2
      have G2 := hide ((unhide hg).trans g2)
      clear h2 g2
      go_wp2_with fail
      go_ret
      exact ⟨rfl, unhide H2, unhide G2⟩

theorem walk_all (t : ByteArray) (hs : t.size ≤ 120) : ∀ (m i : Nat), t.size - i ≤ m → i ≤ t.size → okJ t i = true → WalkOk t i
  | 0, i, hm, hi, hok => walk_of t i hs hi hok (fun k h1 h2 _ _ => by omega)
  | m + 1, i, hm, hi, hok => by
    refine walk_of t i hs hi hok (fun k h1 h2 h41 hokk => ?_)
    have ho := (step_places (by omega) hokk ⟨h2, h41⟩).2.2.2.2.1
    have ih : ∀ k', k < k' → k' ≤ t.size → okJ t k' = true → WalkOk t k' := fun k' a b c => walk_all t hs m k' (by omega) b c
    by_cases h80 : byt t k = 80
    · exact step_P t k hs h2 h80 ho
    by_cases h67 : byt t k = 67
    · exact step_C t k hs h2 h67 ho
    by_cases h73 : byt t k = 73
    · exact step_I t k hs h2 h73 hokk ih
    by_cases h82 : byt t k = 82
    · exact step_R t k hs h2 h82 ho
    by_cases h72 : byt t k = 72
    · have hpl := step_places (by omega) hokk ⟨h2, h41⟩
      have e67 : ¬ (byt t k = 67 ∨ byt t k = 73) := by omega
      have hh : headM t k = if digM t (k + 1) 2 = k + 3 ∧ byt t (k + 1) = 48 ∧ byt t (k + 2) = 48 then (k + 2, 1, false) else (digM t (k + 1) 2, 1, decide (digM t (k + 1) 2 = k + 3)) := by
        simp only [headM, if_neg h80, if_neg e67, if_neg h82, if_pos h72]
      have hhd : headM t k = (k + 3, 1, true) := by
        rw [hh] at ho ⊢
        split at ho
        · exact absurd ho (by simp)
        · rename_i hx
          have hd : digM t (k + 1) 2 = k + 3 := by simpa using ho
          rw [if_neg hx, hd]; simp
      have hB : BlkAt t (k + 3) := by
        rcases hpl.2.2.2.2.2.2.2 with hn | ⟨hn, hB⟩ | ⟨hn, hB, hB2⟩
        · rw [hhd] at hn; simp at hn
        · rw [hhd] at hB; exact hB
        · rw [hhd] at hB; exact hB
      have hj := hB.jlt
      exact step_H t k hs h2 h72 hokk (ih (k + 4) (by omega) (by omega) hB.ok)
    · exfalso
      have e67 : ¬ (byt t k = 67 ∨ byt t k = 73) := by omega
      have : headM t k = (k, 0, false) := by simp only [headM, if_neg h80, if_neg e67, if_neg h82, if_neg h72]
      rw [this] at ho
      simp at ho
end Go.Proofs.Ytbpolcnjojlkjab
