/- Sems: CodeOk, Sem, SemF -/
import Derived.Test.YtmdjdpofpkgffabPaysM
import Derived.Test.YtmdjdpofpkgffabAgree
import Derived.Test.YtmdjdpofpkgffabRatesM

/- Plain: the steps of a policy are as they should be. -/
namespace Go.Proofs.Ytmdjdpofpkgffab
open Split
set_option linter.unusedVariables false
set_option linter.unusedSimpArgs false

theorem num_bd (t : ByteArray) (i : Nat) : ∀ n, digM t i n = i + n → 0 ≤ numM t i n ∧ numM t i n < 10 ^ n
  | 0, _ => by simp [numM]
  | n + 1, h => by
    have hd : digM t i n = i + n := by
      by_cases hx : digM t i n = i + n
      · exact hx
      · have := digM_stop t n i hx
        have := digM_le t n i
        omega
    have ih := num_bd t i n hd
    have hn := digM_next t n i hd
    have hdig : dig (byt t (i + n)) = true := by
      cases hx : dig (byt t (i + n))
      · rw [hx] at hn; simp at hn; omega
      · rfl
    rw [dig_t] at hdig
    simp only [numM]
    have e : (10 : Int) ^ (n + 1) = 10 * 10 ^ n := by rw [Int.pow_succ, Int.mul_comm]
    rw [e]
    generalize (10 : Int) ^ n = p at *
    omega

theorem st_ok {t : ByteArray} {i : Nat} (ho : (headM t i).2.2 = true) : SOk (Split.stM t i) := by
  have hb : bucM t (i + 1) = i + 2 → ∃ b : Nat, b < 8 ∧ byt t (i + 1) - 97 = b := by
    intro h
    have : buc (byt t (i + 1)) = true := by
      cases hx : buc (byt t (i + 1))
      · rw [bucM_f hx] at h; omega
      · rfl
    rw [buc_t] at this
    exact ⟨(byt t (i + 1) - 97).toNat, by omega, by omega⟩
  have hz : ∃ l : Nat, l ≤ 1000 ∧ (0 : Int) = l := ⟨0, by omega, rfl⟩
  have hz8 : ∃ b : Nat, b < 8 ∧ (0 : Int) = b := ⟨0, by omega, rfl⟩
  unfold headM at ho
  by_cases h80 : byt t i = 80
  · rw [if_pos h80] at ho
    have e : Split.stM t i = ⟨80, byt t (i + 1) - 97, 0, none8, 0⟩ := by simp [Split.stM, h80]
    rw [e]
    exact ⟨hb (by simpa using ho), by simp, by simp, by simp, rfl, hz⟩
  rw [if_neg h80] at ho
  by_cases h67 : byt t i = 67 ∨ byt t i = 73
  · rw [if_pos h67] at ho
    have e : Split.stM t i = ⟨byt t i, byt t (i + 1) - 97, numM t (i + 2) 4, none8, 0⟩ := by simp only [Split.stM, if_neg h80, if_pos h67]
    rw [e]
    by_cases hb2 : bucM t (i + 1) = i + 2
    · rw [if_pos hb2] at ho
      have hd : digM t (i + 2) 4 = i + 2 + 4 := by simpa using ho
      have hn := num_bd t (i + 2) 4 hd
      refine ⟨hb hb2, hn.1, ?_, ?_, rfl, hz⟩
      · dsimp only; omega
      · intro hk
        dsimp only at hk
        omega
    · rw [if_neg hb2] at ho
      simp at ho
  rw [if_neg h67] at ho
  by_cases h82 : byt t i = 82
  · have e : Split.stM t i = ⟨82, 0, 0, amongM t (i + 1) (risM t (i + 1)), 0⟩ := by simp only [Split.stM, if_neg h80, if_neg h67, if_pos h82]
    rw [e]
    exact ⟨hz8, by simp, by simp, by simp, by simp [amongM], hz⟩
  rw [if_neg h82] at ho
  have e : Split.stM t i = ⟨72, 0, numM t (i + 1) 2, none8, 0⟩ := by simp only [Split.stM, if_neg h80, if_neg h67, if_neg h82]
  rw [e]
  by_cases h72 : byt t i = 72
  · rw [if_pos h72] at ho
    split at ho
    · simp at ho
    · have hd : digM t (i + 1) 2 = i + 1 + 2 := by simpa using ho
      have hn := num_bd t (i + 1) 2 hd
      exact ⟨hz8, hn.1, by dsimp only; omega, fun _ => by dsimp only; omega, rfl, hz⟩
  · rw [if_neg h72] at ho
    simp at ho

theorem sok_leaving {s : St} (h : SOk s) (n : Int) (h0 : 0 ≤ n) (hn : n ≤ 1000) : SOk (s.leaving n) := ⟨h.b, h.a0, h.a1, h.h, h.am, ⟨n.toNat, by omega, by show n = _; omega⟩⟩
theorem sok_E : SOk stE := ⟨⟨0, by omega, rfl⟩, by simp [stE], by simp [stE], by simp [stE], rfl, ⟨0, by omega, rfl⟩⟩
theorem sok_J (n : Nat) (hn : n ≤ 1000) : SOk (stJ n) := ⟨⟨0, by omega, rfl⟩, by simp [stJ], by simp [stJ], by simp [stJ], rfl, ⟨n, hn, rfl⟩⟩

/-- All steps are as they should be, and no more than bytes. -/
def CodeOk (i : Nat) (s : Rd) : Prop := s.ok = true → (∀ x ∈ s.code, SOk x) ∧ i + s.code.length ≤ s.j

theorem blk_code {t : ByteArray} {j dep : Nat} {deep : Int} (ih : byt t j = 40 → ∀ dep deep, CodeOk (j + 1) (scanF t (j + 1) dep deep)) : CodeOk (j + 2) (blkM t (scanF t) j dep deep) := by
  unfold blkM
  by_cases h : byt t j = 40
  · rw [if_pos h]
    have hi := ih h (dep + 1) (-1)
    dsimp only
    split
    · rename_i hc
      intro _
      have := hi hc.1
      exact ⟨this.1, by dsimp only; omega⟩
    · intro q; simp at q
  · rw [if_neg h]
    intro q; simp at q

theorem code_step (t : ByteArray) (hs : t.size ≤ 120) (i : Nat) (hi : i ≤ t.size) (ih : ∀ i', i < i' → i' ≤ t.size → ∀ dep deep, CodeOk i' (scanF t i' dep deep)) : ∀ dep deep, CodeOk i (scanF t i dep deep) := by
  intro dep deep
  rw [scan_eq t i dep deep hi]
  unfold bodyM
  split
  · rename_i hc
    have hr := head_rng hc.1
    split
    · rename_i ho
      have hl := head_lt hc.1 ho
      have hst := st_ok ho
      split
      · have h1 := ih (headM t i).1 (by omega) hr.2 dep deep
        intro hok
        have := h1 hok
        refine ⟨fun x hx => ?_, by dsimp only; simp; omega⟩
        rcases List.mem_cons.1 hx with rfl | hx
        · exact hst
        · exact this.1 x hx
      · have hb := blk_code (t := t) (j := (headM t i).1) (dep := dep) (deep := deep) (fun h40 => ih _ (by omega) (lt_of_byt (by rw [h40]; decide)))
        have hbr := blk_rng (scanF_rng t) (dep := dep) (deep := deep) hr.2
        dsimp only
        generalize blkM t (scanF t) (headM t i).1 dep deep = b at *
        split
        · rename_i hbo
          have hbc := hb hbo
          split
          · have h1 := ih b.j (by omega) hbr.2.1 dep b.deep
            have hrr := scanF_rng t b.j dep b.deep hbr.2.1
            intro hok
            have := h1 hok
            refine ⟨fun x hx => ?_, by dsimp only; simp; omega⟩
            rcases List.mem_cons.1 hx with rfl | hx
            · exact hst
            · rcases List.mem_append.1 hx with hx | hx
              · exact hbc.1 x hx
              · rcases List.mem_cons.1 hx with rfl | hx
                · exact sok_E
                · exact this.1 x hx
          · have hc2 := blk_code (t := t) (j := b.j) (dep := dep) (deep := b.deep) (fun h40 => ih _ (by omega) (lt_of_byt (by rw [h40]; decide)))
            have hcr := blk_rng (scanF_rng t) (dep := dep) (deep := b.deep) hbr.2.1
            generalize blkM t (scanF t) b.j dep b.deep = c at *
            split
            · rename_i hco
              have hcc := hc2 hco
              have h1 := ih c.j (by omega) hcr.2.1 dep c.deep
              have hrr := scanF_rng t c.j dep c.deep hcr.2.1
              intro hok
              have := h1 hok
              refine ⟨fun x hx => ?_, by dsimp only; simp; omega⟩
              rcases List.mem_cons.1 hx with rfl | hx
              · exact sok_leaving hst _ (by omega) (by omega)
              · rcases List.mem_append.1 hx with hx | hx
                · exact hbc.1 x hx
                · rcases List.mem_cons.1 hx with rfl | hx
                  · exact sok_J _ (by omega)
                  · rcases List.mem_append.1 hx with hx | hx
                    · exact hcc.1 x hx
                    · exact this.1 x hx
            · intro q; simp at q
        · intro q; simp at q
    · intro q; simp at q
  · intro _
    exact ⟨fun x hx => by simp at hx, Nat.le_refl _⟩

theorem code_any (t : ByteArray) (hs : t.size ≤ 120) : ∀ (m i : Nat), t.size - i ≤ m → i ≤ t.size → ∀ dep deep, CodeOk i (scanF t i dep deep)
  | 0, i, hm, hi => code_step t hs i hi fun i' h1 h2 => by omega
  | m + 1, i, hm, hi => code_step t hs i hi fun i' h1 h2 => code_any t hs m i' (by omega) h2

/-- Of a policy. -/
theorem policy_code (t : ByteArray) (h : checkE t = 0) : t.size ≤ 120 ∧ (rsE t).ss = (scanF t 0 0 (-1)).code ∧ (∀ x ∈ (rsE t).ss, SOk x) ∧ (rsE t).ss.length ≤ 120 ∧ (scanF t 0 0 (-1)).ok = true ∧ ¬ (scanF t 0 0 (-1)).j < t.size := by
  unfold checkE at h
  by_cases hl : 120 < t.size
  · rw [if_pos hl] at h; simp at h
  · rw [if_neg hl] at h
    by_cases hc : (scanF t 0 0 (-1)).ok = true ∧ ¬ (scanF t 0 0 (-1)).j < t.size
    · have he := (rs_end t).1 hc
      have hco := code_any t (by omega) t.size 0 (by omega) (Nat.zero_le _) 0 (-1) hc.1
      have hr := scanF_rng t 0 0 (-1) (Nat.zero_le _)
      rw [he]
      exact ⟨by omega, rfl, hco.1, by dsimp only; omega, hc.1, hc.2⟩
    · rw [if_neg hc] at h; simp at h
end Go.Proofs.Ytmdjdpofpkgffab

/- Plain: what a policy pays, by its text; split's flat steps pay that. -/
namespace Go.Proofs.Ytmdjdpofpkgffab
open Split
set_option linter.unusedVariables false
set_option linter.unusedSimpArgs false

/-- Place, standing and steps of a reading hang on no depth. -/
def Dq (t : ByteArray) (i : Nat) : Prop := ∀ dep deep dep' deep', Eq3 (scanF t i dep deep) (scanF t i dep' deep')

theorem blk_dq {t : ByteArray} {j dep dep' : Nat} {deep deep' : Int} (ih : byt t j = 40 → Dq t (j + 1)) : Eq3 (blkM t (scanF t) j dep deep) (blkM t (scanF t) j dep' deep') := by
  unfold blkM
  by_cases h : byt t j = 40
  · rw [if_pos h, if_pos h]
    obtain ⟨e1, e2, e3⟩ := ih h (dep + 1) (-1) (dep' + 1) (-1)
    dsimp only
    rw [e1, e2, e3]
    split <;> exact ⟨rfl, rfl, rfl⟩
  · rw [if_neg h, if_neg h]
    exact ⟨rfl, rfl, rfl⟩

theorem dq_step (t : ByteArray) (i : Nat) (hi : i ≤ t.size) (ih : ∀ i', i < i' → i' ≤ t.size → Dq t i') : Dq t i := by
  intro dep deep dep' deep'
  rw [scan_eq t i dep deep hi, scan_eq t i dep' deep' hi]
  unfold bodyM
  split
  · rename_i hc
    have hr := head_rng hc.1
    split
    · rename_i ho
      have hl := head_lt hc.1 ho
      split
      · obtain ⟨e1, e2, e3⟩ := ih (headM t i).1 (by omega) hr.2 dep deep dep' deep'
        exact ⟨e1, e2, by dsimp only; rw [e3]⟩
      · have hb : Eq3 (blkM t (scanF t) (headM t i).1 dep deep) (blkM t (scanF t) (headM t i).1 dep' deep') := blk_dq (fun h40 => ih _ (by omega) (lt_of_byt (by rw [h40]; decide)))
        have hbr := blk_rng (scanF_rng t) (dep := dep) (deep := deep) hr.2
        dsimp only
        generalize blkM t (scanF t) (headM t i).1 dep deep = b at *
        generalize blkM t (scanF t) (headM t i).1 dep' deep' = b' at *
        obtain ⟨e1, e2, e3⟩ := hb
        rw [← e2]
        by_cases hbo : b.ok = true
        · rw [if_pos hbo, if_pos hbo]
          split
          · obtain ⟨f1, f2, f3⟩ := ih b.j (by omega) hbr.2.1 dep b.deep dep' b'.deep
            rw [← e1, ← e3]
            exact ⟨f1, f2, by dsimp only; rw [f3]⟩
          · rw [← e1]
            have hc2 : Eq3 (blkM t (scanF t) b.j dep b.deep) (blkM t (scanF t) b.j dep' b'.deep) := blk_dq (fun h40 => ih _ (by omega) (lt_of_byt (by rw [h40]; decide)))
            have hcr := blk_rng (scanF_rng t) (dep := dep) (deep := b.deep) hbr.2.1
            generalize blkM t (scanF t) b.j dep b.deep = c at *
            generalize blkM t (scanF t) b.j dep' b'.deep = c' at *
            obtain ⟨g1, g2, g3⟩ := hc2
            rw [← g2]
            by_cases hco : c.ok = true
            · rw [if_pos hco, if_pos hco]
              obtain ⟨f1, f2, f3⟩ := ih c.j (by omega) hcr.2.1 dep c.deep dep' c'.deep
              rw [← g1, ← g3, ← e3]
              exact ⟨f1, f2, by dsimp only; rw [f3]⟩
            · rw [if_neg hco, if_neg hco]
              exact ⟨g1, rfl, rfl⟩
        · rw [if_neg hbo, if_neg hbo]
          exact ⟨e1, rfl, rfl⟩
    · exact ⟨rfl, rfl, rfl⟩
  · exact ⟨rfl, rfl, rfl⟩
theorem dq_all (t : ByteArray) : ∀ (m i : Nat), t.size - i ≤ m → i ≤ t.size → Dq t i
  | 0, i, hm, hi => dq_step t i hi fun i' h1 h2 => by omega
  | m + 1, i, hm, hi => dq_step t i hi fun i' h1 h2 => dq_all t m i' (by omega) h2
theorem dq_any (t : ByteArray) (i : Nat) (hi : i ≤ t.size) : Dq t i := dq_all t t.size i (by omega) hi

def endJ (t : ByteArray) (i : Nat) : Nat := (scanF t i 0 (-1)).j
def okJ (t : ByteArray) (i : Nat) : Bool := (scanF t i 0 (-1)).ok
def codeJ (t : ByteArray) (i : Nat) : List St := (scanF t i 0 (-1)).code

/-- A block at place j, that stands. -/
structure BlkAt (t : ByteArray) (j : Nat) : Prop where
  br : byt t j = 40
  jlt : j < t.size
  ok : okJ t (j + 1) = true
  elt : endJ t (j + 1) < t.size
  ege : j + 1 ≤ endJ t (j + 1)

theorem blk_at {t : ByteArray} {j dep : Nat} {deep : Int} (h : (blkM t (scanF t) j dep deep).ok = true) :
    BlkAt t j ∧ (blkM t (scanF t) j dep deep).j = endJ t (j + 1) + 1 ∧ (blkM t (scanF t) j dep deep).code = codeJ t (j + 1) := by
  unfold blkM at *
  by_cases h40 : byt t j = 40
  · have hlt : j < t.size := lt_of_byt (by rw [h40]; decide)
    rw [if_pos h40] at h ⊢
    dsimp only at h ⊢
    obtain ⟨e1, e2, e3⟩ := dq_any t (j + 1) hlt (dep + 1) (-1) 0 (-1)
    have hr := scanF_rng t (j + 1) 0 (-1) hlt
    by_cases hc : (scanF t (j + 1) (dep + 1) (-1)).ok = true ∧ (scanF t (j + 1) (dep + 1) (-1)).j < t.size
    · rw [if_pos hc]
      dsimp only
      rw [e1, e3]
      rw [e1, e2] at hc
      exact ⟨⟨h40, hlt, hc.1, hc.2, hr.1⟩, rfl, rfl⟩
    · rw [if_neg hc] at h; simp at h
  · rw [if_neg h40] at h; simp at h

/-- What stands at the head of a policy. -/
theorem scan_cases {t : ByteArray} {i : Nat} (hi : i ≤ t.size) (hok : okJ t i = true) :
    (¬ (i < t.size ∧ byt t i ≠ 41) ∧ codeJ t i = [] ∧ endJ t i = i) ∨
    ((i < t.size ∧ byt t i ≠ 41) ∧ (headM t i).2.2 = true ∧ (headM t i).2.1 = 0 ∧ okJ t (headM t i).1 = true ∧ codeJ t i = Split.stM t i :: codeJ t (headM t i).1 ∧ endJ t i = endJ t (headM t i).1) ∨
    ((i < t.size ∧ byt t i ≠ 41) ∧ (headM t i).2.2 = true ∧ (headM t i).2.1 = 1 ∧ BlkAt t (headM t i).1 ∧ okJ t (endJ t ((headM t i).1 + 1) + 1) = true ∧
      codeJ t i = Split.stM t i :: (codeJ t ((headM t i).1 + 1) ++ stE :: codeJ t (endJ t ((headM t i).1 + 1) + 1)) ∧ endJ t i = endJ t (endJ t ((headM t i).1 + 1) + 1)) ∨
    ((i < t.size ∧ byt t i ≠ 41) ∧ (headM t i).2.2 = true ∧ (headM t i).2.1 = 2 ∧ BlkAt t (headM t i).1 ∧ BlkAt t (endJ t ((headM t i).1 + 1) + 1) ∧
      okJ t (endJ t (endJ t ((headM t i).1 + 1) + 1 + 1) + 1) = true ∧
      codeJ t i = (Split.stM t i).leaving ((codeJ t ((headM t i).1 + 1)).length + 1) :: (codeJ t ((headM t i).1 + 1) ++ stJ (codeJ t (endJ t ((headM t i).1 + 1) + 1 + 1)).length :: (codeJ t (endJ t ((headM t i).1 + 1) + 1 + 1) ++ codeJ t (endJ t (endJ t ((headM t i).1 + 1) + 1 + 1) + 1))) ∧
      endJ t i = endJ t (endJ t (endJ t ((headM t i).1 + 1) + 1 + 1) + 1)) := by
  unfold okJ at hok
  have hE : endJ t i = (bodyM t (scanF t) i 0 (-1)).j := by unfold endJ; rw [scan_eq t i 0 (-1) hi]
  have hC : codeJ t i = (bodyM t (scanF t) i 0 (-1)).code := by unfold codeJ; rw [scan_eq t i 0 (-1) hi]
  rw [scan_eq t i 0 (-1) hi] at hok
  rw [hE, hC]
  clear hE hC
  unfold bodyM at *
  by_cases hc : i < t.size ∧ byt t i ≠ 41
  · rw [if_pos hc] at hok ⊢
    have hr := head_rng hc.1
    by_cases ho : (headM t i).2.2 = true
    · rw [if_pos ho] at hok ⊢
      have hl := head_lt hc.1 ho
      by_cases hn : (headM t i).2.1 = 0
      · rw [if_pos hn] at hok ⊢
        exact .inr (.inl ⟨hc, ho, hn, hok, rfl, rfl⟩)
      · rw [if_neg hn] at hok ⊢
        dsimp only at hok ⊢
        have hb := blk_at (t := t) (j := (headM t i).1) (dep := 0) (deep := -1)
        generalize blkM t (scanF t) (headM t i).1 0 (-1) = b at *
        by_cases hbo : b.ok = true
        · obtain ⟨hB, e1, e2⟩ := hb hbo
          rw [if_pos hbo] at hok ⊢
          have hjs : b.j ≤ t.size := by have := hB.elt; omega
          rcases head_kind hn ho with ⟨h1, _⟩ | ⟨h2, _⟩
          · rw [if_pos h1] at hok ⊢
            dsimp only at hok ⊢
            obtain ⟨g1, g2, g3⟩ := dq_any t b.j hjs 0 b.deep 0 (-1)
            rw [g2] at hok
            rw [g1, g3, e2]
            rw [e1] at hok ⊢
            exact .inr (.inr (.inl ⟨hc, ho, h1, hB, hok, rfl, rfl⟩))
          · rw [if_neg (by omega)] at hok ⊢
            have hc2 := blk_at (t := t) (j := b.j) (dep := 0) (deep := b.deep)
            generalize blkM t (scanF t) b.j 0 b.deep = c at *
            by_cases hco : c.ok = true
            · obtain ⟨hB2, f1, f2⟩ := hc2 hco
              rw [if_pos hco] at hok ⊢
              dsimp only at hok ⊢
              have hcs : c.j ≤ t.size := by have := hB2.elt; omega
              obtain ⟨g1, g2, g3⟩ := dq_any t c.j hcs 0 c.deep 0 (-1)
              rw [g2] at hok
              rw [g1, g3, e2, f2]
              rw [f1] at hok ⊢
              rw [e1] at hok hB2 ⊢
              exact .inr (.inr (.inr ⟨hc, ho, h2, hB, hB2, hok, rfl, rfl⟩))
            · rw [if_neg hco] at hok; simp at hok
        · rw [if_neg hbo] at hok; simp at hok
    · rw [if_neg ho] at hok; simp at hok
  · rw [if_neg hc]
    exact .inl ⟨hc, rfl, rfl⟩

/-- What a policy at place i pays. -/
def semM (t : ByteArray) : Nat → Nat → Pu → Pu
  | 0, _, p => p
  | f + 1, i, p =>
    if i < t.size ∧ byt t i ≠ 41 then
      if (headM t i).2.1 = 0 then semM t f (headM t i).1 (doM (Split.stM t i) p)
      else if (headM t i).2.1 = 1 then
        semM t f (endJ t ((headM t i).1 + 1) + 1) (backM (semM t f ((headM t i).1 + 1) (holdM p (Split.stM t i).amount)))
      else
        semM t f (endJ t (endJ t ((headM t i).1 + 1) + 1 + 1) + 1)
          (if p.owed.getD (Split.stM t i).bucket.toNat 0 ≤ (Split.stM t i).amount then semM t f (endJ t ((headM t i).1 + 1) + 1 + 1) p else semM t f ((headM t i).1 + 1) p)
    else p

/-- From place pc the steps come to place pc'. -/
def ExGoes (ss : List St) (pc : Nat) (p : Pu) (pc' : Nat) (p' : Pu) : Prop := ∃ k, ∀ g, execM ss (k + g) pc p = execM ss g pc' p'
theorem ExGoes.refl (ss : List St) (pc : Nat) (p : Pu) : ExGoes ss pc p pc p := ⟨0, fun g => by rw [Nat.zero_add]⟩
theorem ExGoes.trans {ss : List St} {a b c : Nat} {p q r : Pu} (h : ExGoes ss a p b q) (k : ExGoes ss b q c r) : ExGoes ss a p c r := by
  obtain ⟨m, hm⟩ := h
  obtain ⟨n, hn⟩ := k
  exact ⟨m + n, fun g => by rw [Nat.add_assoc, hm, hn]⟩
theorem ExGoes.at {ss : List St} {a b a' b' : Nat} {p q : Pu} (h : ExGoes ss a p b q) (ha : a = a') (hb : b = b') : ExGoes ss a' p b' q := by
  subst ha; subst hb; exact h
theorem ex_step (pre : List St) (s : St) (post : List St) (p : Pu) : ExGoes (pre ++ s :: post) pre.length p (pre.length + 1 + skipM s p) (doM s p) :=
  ⟨1, fun g => by rw [Nat.add_comm 1 g]; simp [execM]⟩

theorem head_plain {t : ByteArray} {i : Nat} (hn : (headM t i).2.1 = 0) (ho : (headM t i).2.2 = true) : (Split.stM t i).kind = 80 ∨ (Split.stM t i).kind = 67 ∨ (Split.stM t i).kind = 82 := by
  unfold headM at *
  by_cases h80 : byt t i = 80
  · left; simp [Split.stM, h80]
  rw [if_neg h80] at hn ho
  by_cases h67 : byt t i = 67 ∨ byt t i = 73
  · rw [if_pos h67] at hn ho
    by_cases hb : bucM t (i + 1) = i + 2
    · rw [if_pos hb] at hn ho
      dsimp only at hn
      have h73 : byt t i ≠ 73 := by
        intro h; rw [if_pos h] at hn; simp at hn
      have h67' : byt t i = 67 := by omega
      right; left
      simp [Split.stM, h80, h67']
    · rw [if_neg hb] at ho; simp at ho
  rw [if_neg h67] at hn ho
  by_cases h82 : byt t i = 82
  · right; right
    have h67' : byt t i ≠ 67 := fun h => h67 (.inl h)
    have h73' : byt t i ≠ 73 := fun h => h67 (.inr h)
    simp [Split.stM, h82]
  rw [if_neg h82] at hn ho
  by_cases h72 : byt t i = 72
  · rw [if_pos h72] at hn ho
    split at hn <;> simp at hn
  · rw [if_neg h72] at ho; simp at ho

theorem skip_plain {s : St} (p : Pu) (h : s.kind = 80 ∨ s.kind = 67 ∨ s.kind = 82) : skipM s p = 0 := by
  unfold skipM
  rw [if_neg (by omega), if_neg (by omega)]

theorem end_rng {t : ByteArray} {i : Nat} (hi : i ≤ t.size) : i ≤ endJ t i ∧ endJ t i ≤ t.size := scanF_rng t i 0 (-1) hi

theorem sem_exec (t : ByteArray) : ∀ (m i : Nat), t.size - i ≤ m → i ≤ t.size → okJ t i = true → ∀ f, t.size - i < f → ∀ (pre post : List St) (p : Pu),
    ExGoes (pre ++ (codeJ t i ++ post)) pre.length p (pre.length + (codeJ t i).length) (semM t f i p) := by
  intro m
  induction m with
  | zero =>
    intro i hm hi hok f hf pre post p
    rcases scan_cases hi hok with ⟨h1, h2, h3⟩ | ⟨h1, _⟩ | ⟨h1, _⟩ | ⟨h1, _⟩
    · obtain ⟨f', rfl⟩ : ∃ f', f = f' + 1 := ⟨f - 1, by omega⟩
      rw [h2]
      simp only [semM, if_neg h1]
      exact ExGoes.refl _ _ _
    all_goals omega
  | succ m ih =>
    intro i hm hi hok f hf pre post p
    obtain ⟨f', rfl⟩ : ∃ f', f = f' + 1 := ⟨f - 1, by omega⟩
    rcases scan_cases hi hok with ⟨h1, h2, h3⟩ | ⟨h1, ho, hn, hok1, h2, h3⟩ | ⟨h1, ho, hn, hB, hok1, h2, h3⟩ | ⟨h1, ho, hn, hB, hB2, hok1, h2, h3⟩
    · rw [h2]
      simp only [semM, if_neg h1]
      exact ExGoes.refl _ _ _
    · have hr := head_rng h1.1
      have hl := head_lt h1.1 ho
      simp only [semM, if_pos h1, if_pos hn]
      rw [h2]
      have s1 := ex_step pre (Split.stM t i) (codeJ t (headM t i).1 ++ post) p
      rw [skip_plain p (head_plain hn ho), Nat.add_zero] at s1
      have s2 := ih (headM t i).1 (by omega) hr.2 hok1 f' (by omega) (pre ++ [Split.stM t i]) post (doM (Split.stM t i) p)
      rw [List.length_append, List.length_singleton, List.append_assoc, List.singleton_append] at s2
      have e : pre.length + 1 + (codeJ t (headM t i).1).length = pre.length + (Split.stM t i :: codeJ t (headM t i).1).length := by simp; omega
      rw [e] at s2
      exact s1.trans s2
    · have hr := head_rng h1.1
      have hl := head_lt h1.1 ho
      have hk : (Split.stM t i).kind = 72 := by
        rcases head_kind (by omega) ho with ⟨_, h⟩ | ⟨h, _⟩
        · exact h
        · omega
      have e1 := hB.ege
      have e2 := hB.elt
      have hn0 : (headM t i).2.1 ≠ 0 := by omega
      simp only [semM, if_pos h1, if_neg hn0, if_pos hn]
      rw [h2]
      generalize hc1 : codeJ t ((headM t i).1 + 1) = c1
      generalize hc2 : codeJ t (endJ t ((headM t i).1 + 1) + 1) = c2
      have s1 := ex_step pre (Split.stM t i) (c1 ++ stE :: c2 ++ post) p
      have d1 : doM (Split.stM t i) p = holdM p (Split.stM t i).amount := by simp [doM, hk]
      have d2 : skipM (Split.stM t i) p = 0 := by simp [skipM, hk]
      rw [d1, d2, Nat.add_zero] at s1
      have s2 := ih ((headM t i).1 + 1) (by omega) (by omega) hB.ok f' (by omega) (pre ++ [Split.stM t i]) (stE :: c2 ++ post) (holdM p (Split.stM t i).amount)
      rw [hc1] at s2
      generalize semM t f' ((headM t i).1 + 1) (holdM p (Split.stM t i).amount) = q at *
      have s3 := ex_step (pre ++ [Split.stM t i] ++ c1) stE (c2 ++ post) q
      have d3 : doM stE q = backM q := by simp [doM, stE]
      have d4 : skipM stE q = 0 := by simp [skipM, stE]
      rw [d3, d4, Nat.add_zero] at s3
      have s4 := ih (endJ t ((headM t i).1 + 1) + 1) (by omega) (by omega) hok1 f' (by omega) (pre ++ [Split.stM t i] ++ c1 ++ [stE]) post (backM q)
      rw [hc2] at s4
      simp only [List.length_append, List.length_cons, List.length_nil, List.append_assoc, List.cons_append, List.nil_append, Nat.zero_add, Nat.add_assoc] at s1 s2 s3 s4 ⊢
      have S1 := s1.at (a' := pre.length) (b' := pre.length + 1) (by omega) (by omega)
      have S2 := s2.at (a' := pre.length + 1) (b' := pre.length + 1 + c1.length) (by omega) (by omega)
      have S3 := s3.at (a' := pre.length + 1 + c1.length) (b' := pre.length + 1 + c1.length + 1) (by omega) (by omega)
      have S4 := s4.at (a' := pre.length + 1 + c1.length + 1) (b' := pre.length + (c1.length + (c2.length + (1 + 1)))) (by omega) (by omega)
      exact S1.trans (S2.trans (S3.trans S4))
    · have hr := head_rng h1.1
      have hl := head_lt h1.1 ho
      have hk : (Split.stM t i).kind = 73 := by
        rcases head_kind (by omega) ho with ⟨h, _⟩ | ⟨_, h⟩
        · omega
        · exact h
      have e1 := hB.ege
      have e2 := hB.elt
      have e3 := hB2.ege
      have e4 := hB2.elt
      have hn0 : (headM t i).2.1 ≠ 0 := by omega
      have hn1 : (headM t i).2.1 ≠ 1 := by omega
      simp only [semM, if_pos h1, if_neg hn0, if_neg hn1]
      rw [h2]
      generalize hj1 : endJ t ((headM t i).1 + 1) + 1 = j1 at *
      generalize hj2 : endJ t (j1 + 1) + 1 = j2 at *
      generalize hc1 : codeJ t ((headM t i).1 + 1) = c1
      generalize hc2 : codeJ t (j1 + 1) = c2
      generalize hc3 : codeJ t j2 = c3
      have s1 := ex_step pre ((Split.stM t i).leaving (c1.length + 1)) (c1 ++ stJ c2.length :: (c2 ++ c3) ++ post) p
      have d1 : doM ((Split.stM t i).leaving (c1.length + 1)) p = p := by simp [doM, St.leaving, hk]
      have d2 : skipM ((Split.stM t i).leaving (c1.length + 1)) p = if p.owed.getD (Split.stM t i).bucket.toNat 0 ≤ (Split.stM t i).amount then c1.length + 1 else 0 := by
        have : ((c1.length : Int) + 1).toNat = c1.length + 1 := by omega
        simp only [skipM, St.leaving, hk, this]
        rw [if_neg (by decide), if_pos trivial]
      rw [d1, d2] at s1
      have s5 : ∀ q, ExGoes (pre ++ [(Split.stM t i).leaving (c1.length + 1)] ++ c1 ++ [stJ c2.length] ++ c2 ++ (c3 ++ post)) (pre ++ [(Split.stM t i).leaving (c1.length + 1)] ++ c1 ++ [stJ c2.length] ++ c2).length q ((pre ++ [(Split.stM t i).leaving (c1.length + 1)] ++ c1 ++ [stJ c2.length] ++ c2).length + c3.length) (semM t f' j2 q) := by
        intro q
        have := ih j2 (by omega) (by omega) hok1 f' (by omega) (pre ++ [(Split.stM t i).leaving (c1.length + 1)] ++ c1 ++ [stJ c2.length] ++ c2) post q
        rw [hc3] at this
        exact this
      by_cases hle : p.owed.getD (Split.stM t i).bucket.toNat 0 ≤ (Split.stM t i).amount
      · rw [if_pos hle] at s1 ⊢
        have s2 := ih (j1 + 1) (by omega) (by omega) hB2.ok f' (by omega) (pre ++ [(Split.stM t i).leaving (c1.length + 1)] ++ c1 ++ [stJ c2.length]) (c3 ++ post) p
        rw [hc2] at s2
        have s3 := s5 (semM t f' (j1 + 1) p)
        simp only [List.length_append, List.length_cons, List.length_nil, List.append_assoc, List.cons_append, List.nil_append, Nat.zero_add, Nat.add_assoc] at s1 s2 s3 ⊢
        have S1 := s1.at (a' := pre.length) (b' := pre.length + 1 + c1.length + 1) (by omega) (by omega)
        have S2 := s2.at (a' := pre.length + 1 + c1.length + 1) (b' := pre.length + 1 + c1.length + 1 + c2.length) (by omega) (by omega)
        have S3 := s3.at (a' := pre.length + 1 + c1.length + 1 + c2.length) (b' := pre.length + (c1.length + (c2.length + (c3.length + (1 + 1))))) (by omega) (by omega)
        exact S1.trans (S2.trans S3)
      · rw [if_neg hle] at s1 ⊢
        have s2 := ih ((headM t i).1 + 1) (by omega) (by omega) hB.ok f' (by omega) (pre ++ [(Split.stM t i).leaving (c1.length + 1)]) (stJ c2.length :: (c2 ++ c3) ++ post) p
        rw [hc1] at s2
        generalize semM t f' ((headM t i).1 + 1) p = q at *
        have s3 := ex_step (pre ++ [(Split.stM t i).leaving (c1.length + 1)] ++ c1) (stJ c2.length) (c2 ++ (c3 ++ post)) q
        have d3 : doM (stJ c2.length) q = q := by simp [doM, stJ]
        have d4 : skipM (stJ c2.length) q = c2.length := by simp [skipM, stJ]
        rw [d3, d4] at s3
        have s4 := s5 q
        simp only [List.length_append, List.length_cons, List.length_nil, List.append_assoc, List.cons_append, List.nil_append, Nat.zero_add, Nat.add_assoc] at s1 s2 s3 s4 ⊢
        have S1 := s1.at (a' := pre.length) (b' := pre.length + 1) (by omega) (by omega)
        have S2 := s2.at (a' := pre.length + 1) (b' := pre.length + 1 + c1.length) (by omega) (by omega)
        have S3 := s3.at (a' := pre.length + 1 + c1.length) (b' := pre.length + 1 + c1.length + 1 + c2.length) (by omega) (by omega)
        have S4 := s4.at (a' := pre.length + 1 + c1.length + 1 + c2.length) (b' := pre.length + (c1.length + (c2.length + (c3.length + (1 + 1))))) (by omega) (by omega)
        exact S1.trans (S2.trans (S3.trans S4))

theorem exec_fuel (ss : List St) : ∀ (f g pc : Nat) (p : Pu), ss.length - pc ≤ f → ss.length - pc ≤ g → execM ss f pc p = execM ss g pc p
  | 0, g, pc, p, h1, h2 => by
    have : ss[pc]? = none := List.getElem?_eq_none (by omega)
    cases g with
    | zero => rfl
    | succ g => simp only [execM, this]
  | f + 1, g, pc, p, h1, h2 => by
    by_cases hlt : pc < ss.length
    · obtain ⟨g', rfl⟩ : ∃ g', g = g' + 1 := ⟨g - 1, by omega⟩
      simp only [execM, List.getElem?_eq_getElem hlt]
      exact exec_fuel ss f g' _ _ (by omega) (by omega)
    · have : ss[pc]? = none := List.getElem?_eq_none (by omega)
      cases g with
      | zero => simp only [execM, this]
      | succ g => simp only [execM, this]

/-- The steps of a whole policy. -/
theorem exec_sem (t : ByteArray) (hok : okJ t 0 = true) (p : Pu) : execM (codeJ t 0) (codeJ t 0).length 0 p = semM t (t.size + 1) 0 p := by
  obtain ⟨k, hk⟩ := sem_exec t t.size 0 (by omega) (Nat.zero_le _) hok (t.size + 1) (by omega) [] [] p
  simp only [List.nil_append, List.append_nil, List.length_nil, Nat.zero_add] at hk
  have h1 := hk (codeJ t 0).length
  rw [exec_fuel (codeJ t 0) _ (codeJ t 0).length 0 p (by omega) (by omega)] at h1
  rw [h1]
  have : ∀ g q, execM (codeJ t 0) g (codeJ t 0).length q = q := by
    intro g q
    cases g with
    | zero => rfl
    | succ g => simp only [execM, List.getElem?_eq_none (Nat.le_refl _)]
  exact this _ _

/-- What is held stays. -/
theorem sem_held (t : ByteArray) : ∀ (f i : Nat) (p : Pu), i ≤ t.size → okJ t i = true → (semM t f i p).held = p.held
  | 0, i, p, hi, hok => rfl
  | f + 1, i, p, hi, hok => by
    rcases scan_cases hi hok with ⟨h1, h2, h3⟩ | ⟨h1, ho, hn, hok1, h2, h3⟩ | ⟨h1, ho, hn, hB, hok1, h2, h3⟩ | ⟨h1, ho, hn, hB, hB2, hok1, h2, h3⟩
    · simp only [semM, if_neg h1]
    · have hr := head_rng h1.1
      simp only [semM, if_pos h1, if_pos hn]
      rw [sem_held t f _ _ hr.2 hok1]
      have hk := head_plain hn ho
      unfold doM
      split
      · rfl
      split
      · rfl
      split
      · exact propM_held _ _
      · omega
    · have e2 := hB.elt
      have e0 := hB.jlt
      have hn0 : (headM t i).2.1 ≠ 0 := by omega
      simp only [semM, if_pos h1, if_neg hn0, if_pos hn]
      rw [sem_held t f _ _ (by omega) hok1]
      have hq := sem_held t f ((headM t i).1 + 1) (holdM p (Split.stM t i).amount) (by omega) hB.ok
      generalize semM t f ((headM t i).1 + 1) (holdM p (Split.stM t i).amount) = q at *
      unfold backM
      rw [hq]
      simp [holdM]
    · have e2 := hB.elt
      have e0 := hB.jlt
      have e4 := hB2.elt
      have e5 := hB2.jlt
      have hn0 : (headM t i).2.1 ≠ 0 := by omega
      have hn1 : (headM t i).2.1 ≠ 1 := by omega
      simp only [semM, if_pos h1, if_neg hn0, if_neg hn1]
      rw [sem_held t f _ _ (by omega) hok1]
      split
      · exact sem_held t f _ _ (by omega) hB2.ok
      · exact sem_held t f _ _ (by omega) hB.ok
end Go.Proofs.Ytmdjdpofpkgffab

/- Plain: what a policy pays, step by step. -/
namespace Go.Proofs.Ytmdjdpofpkgffab
open Split
set_option linter.unusedVariables false
set_option linter.unusedSimpArgs false

def nxM (t : ByteArray) (i : Nat) : Nat :=
  if (headM t i).2.1 = 0 then (headM t i).1
  else if (headM t i).2.1 = 1 then endJ t ((headM t i).1 + 1) + 1
  else endJ t (endJ t ((headM t i).1 + 1) + 1 + 1) + 1

/-- One step, its blocks by rec. -/
def stpM (t : ByteArray) (rec : Nat → Pu → Pu) (i : Nat) (p : Pu) : Pu :=
  if (headM t i).2.1 = 0 then doM (Split.stM t i) p
  else if (headM t i).2.1 = 1 then backM (rec ((headM t i).1 + 1) (holdM p (Split.stM t i).amount))
  else (if p.owed.getD (Split.stM t i).bucket.toNat 0 ≤ (Split.stM t i).amount then rec (endJ t ((headM t i).1 + 1) + 1 + 1) p else rec ((headM t i).1 + 1) p)

theorem sem_eq (t : ByteArray) (f i : Nat) (p : Pu) : semM t (f + 1) i p = if i < t.size ∧ byt t i ≠ 41 then semM t f (nxM t i) (stpM t (semM t f) i p) else p := by
  simp only [semM, nxM, stpM]
  split
  · split
    · rfl
    · split
      · rfl
      · rfl
  · rfl

/-- Places behind a step that stands. -/
theorem step_places {t : ByteArray} {i : Nat} (hi : i ≤ t.size) (hok : okJ t i = true) (hc : i < t.size ∧ byt t i ≠ 41) :
    i < nxM t i ∧ nxM t i ≤ t.size ∧ okJ t (nxM t i) = true ∧ endJ t i = endJ t (nxM t i) ∧ (headM t i).2.2 = true ∧ i + 2 ≤ (headM t i).1 ∧ (headM t i).1 ≤ t.size ∧
    ((headM t i).2.1 = 0 ∨ ((headM t i).2.1 = 1 ∧ BlkAt t (headM t i).1) ∨ ((headM t i).2.1 = 2 ∧ BlkAt t (headM t i).1 ∧ BlkAt t (endJ t ((headM t i).1 + 1) + 1))) := by
  have hr := head_rng hc.1
  rcases scan_cases hi hok with ⟨h1, _⟩ | ⟨_, ho, hn, hok1, h2, h3⟩ | ⟨_, ho, hn, hB, hok1, h2, h3⟩ | ⟨_, ho, hn, hB, hB2, hok1, h2, h3⟩
  · exact absurd hc h1
  · have hl := head_lt hc.1 ho
    have e : nxM t i = (headM t i).1 := by simp [nxM, hn]
    rw [e]
    exact ⟨by omega, hr.2, hok1, h3, ho, hl, hr.2, .inl hn⟩
  · have hl := head_lt hc.1 ho
    have e : nxM t i = endJ t ((headM t i).1 + 1) + 1 := by simp [nxM, hn]
    have e1 := hB.ege
    have e2 := hB.elt
    rw [e]
    exact ⟨by omega, by omega, hok1, h3, ho, hl, hr.2, .inr (.inl ⟨hn, hB⟩)⟩
  · have hl := head_lt hc.1 ho
    have e : nxM t i = endJ t (endJ t ((headM t i).1 + 1) + 1 + 1) + 1 := by simp [nxM, hn]
    have e1 := hB.ege
    have e2 := hB.elt
    have e3 := hB2.ege
    have e4 := hB2.elt
    rw [e]
    exact ⟨by omega, by omega, hok1, h3, ho, hl, hr.2, .inr (.inr ⟨hn, hB, hB2⟩)⟩

theorem sem_fuel (t : ByteArray) : ∀ (m i : Nat), t.size - i ≤ m → i ≤ t.size → okJ t i = true → ∀ f g p, t.size - i < f → t.size - i < g → semM t f i p = semM t g i p := by
  intro m
  induction m with
  | zero =>
    intro i hm hi hok f g p hf hg
    obtain ⟨f', rfl⟩ : ∃ f', f = f' + 1 := ⟨f - 1, by omega⟩
    obtain ⟨g', rfl⟩ : ∃ g', g = g' + 1 := ⟨g - 1, by omega⟩
    rw [sem_eq, sem_eq, if_neg (by omega), if_neg (by omega)]
  | succ m ih =>
    intro i hm hi hok f g p hf hg
    obtain ⟨f', rfl⟩ : ∃ f', f = f' + 1 := ⟨f - 1, by omega⟩
    obtain ⟨g', rfl⟩ : ∃ g', g = g' + 1 := ⟨g - 1, by omega⟩
    rw [sem_eq, sem_eq]
    by_cases hc : i < t.size ∧ byt t i ≠ 41
    · rw [if_pos hc, if_pos hc]
      obtain ⟨h1, h2, h3, h4, ho, hl, hr, hcase⟩ := step_places hi hok hc
      have e : stpM t (semM t f') i p = stpM t (semM t g') i p := by
        unfold stpM
        rcases hcase with hn | ⟨hn, hB⟩ | ⟨hn, hB, hB2⟩
        · rw [if_pos hn, if_pos hn]
        · have q := hB.jlt
          have n0 : (headM t i).2.1 ≠ 0 := by omega
          rw [if_neg n0, if_neg n0, if_pos hn, if_pos hn]
          rw [ih ((headM t i).1 + 1) (by omega) (by omega) hB.ok f' g' _ (by omega) (by omega)]
        · have q := hB.jlt
          have q1 := hB.ege
          have q2 := hB2.jlt
          have n0 : (headM t i).2.1 ≠ 0 := by omega
          have n1 : (headM t i).2.1 ≠ 1 := by omega
          rw [if_neg n0, if_neg n0, if_neg n1, if_neg n1]
          rw [ih ((headM t i).1 + 1) (by omega) (by omega) hB.ok f' g' _ (by omega) (by omega)]
          rw [ih (endJ t ((headM t i).1 + 1) + 1 + 1) (by omega) (by omega) hB2.ok f' g' _ (by omega) (by omega)]
      rw [e]
      exact ih (nxM t i) (by omega) h2 h3 f' g' _ (by omega) (by omega)
    · rw [if_neg hc, if_neg hc]

def semF (t : ByteArray) (i : Nat) (p : Pu) : Pu := semM t (t.size + 1) i p

theorem semF_stop {t : ByteArray} {i : Nat} {p : Pu} (hc : ¬ (i < t.size ∧ byt t i ≠ 41)) : semF t i p = p := by
  unfold semF
  rw [sem_eq, if_neg hc]
theorem semF_step {t : ByteArray} {i : Nat} {p : Pu} (hi : i ≤ t.size) (hok : okJ t i = true) (hc : i < t.size ∧ byt t i ≠ 41) : semF t i p = semF t (nxM t i) (stpM t (semF t) i p) := by
  obtain ⟨h1, h2, h3, h4, ho, hl, hr, hcase⟩ := step_places hi hok hc
  unfold semF
  rw [sem_fuel t t.size i (by omega) hi hok (t.size + 1) (t.size + 1 + 1) p (by omega) (by omega), sem_eq, if_pos hc]

/-- A step of a policy keeps. -/
theorem sem_keeps {M : Int} {o0 : List Int} {t : ByteArray} : ∀ (f i : Nat) (p : Pu), i ≤ t.size → okJ t i = true → Keeps M o0 p → Keeps M o0 (semM t f i p)
  | 0, i, p, hi, hok, h => h
  | f + 1, i, p, hi, hok, h => by
    rw [sem_eq]
    by_cases hc : i < t.size ∧ byt t i ≠ 41
    · rw [if_pos hc]
      obtain ⟨h1, h2, h3, h4, ho, hl, hr, hcase⟩ := step_places hi hok hc
      have hso := st_ok ho
      refine sem_keeps f _ _ h2 h3 ?_
      unfold stpM
      rcases hcase with hn | ⟨hn, hB⟩ | ⟨hn, hB, hB2⟩
      · rw [if_pos hn]
        exact do_keeps h hso
      · have q := hB.jlt
        have n0 : (headM t i).2.1 ≠ 0 := by omega
        rw [if_neg n0, if_pos hn]
        have hk : (Split.stM t i).kind = 72 := by
          rcases head_kind n0 ho with ⟨_, hh⟩ | ⟨hh, _⟩
          · exact hh
          · omega
        exact good_back (sem_keeps f _ _ (by omega) hB.ok (good_hold h _ hso.a0 (hso.h hk)))
      · have q := hB.jlt
        have q2 := hB2.jlt
        have n0 : (headM t i).2.1 ≠ 0 := by omega
        have n1 : (headM t i).2.1 ≠ 1 := by omega
        rw [if_neg n0, if_neg n1]
        split
        · exact sem_keeps f _ _ (by omega) hB2.ok h
        · exact sem_keeps f _ _ (by omega) hB.ok h
    · rw [if_neg hc]; exact h
theorem stp_keeps {M : Int} {o0 : List Int} {t : ByteArray} {i : Nat} {p : Pu} (hi : i ≤ t.size) (hok : okJ t i = true) (hc : i < t.size ∧ byt t i ≠ 41) (h : Keeps M o0 p) : Keeps M o0 (stpM t (semF t) i p) := by
  obtain ⟨h1, h2, h3, h4, ho, hl, hr, hcase⟩ := step_places hi hok hc
  have hso := st_ok ho
  unfold stpM
  rcases hcase with hn | ⟨hn, hB⟩ | ⟨hn, hB, hB2⟩
  · rw [if_pos hn]
    exact do_keeps h hso
  · have q := hB.jlt
    have n0 : (headM t i).2.1 ≠ 0 := by omega
    rw [if_neg n0, if_pos hn]
    have hk : (Split.stM t i).kind = 72 := by
      rcases head_kind n0 ho with ⟨_, hh⟩ | ⟨hh, _⟩
      · exact hh
      · omega
    exact good_back (sem_keeps _ _ _ (by omega) hB.ok (good_hold h _ hso.a0 (hso.h hk)))
  · have q := hB.jlt
    have q2 := hB2.jlt
    have n0 : (headM t i).2.1 ≠ 0 := by omega
    have n1 : (headM t i).2.1 ≠ 1 := by omega
    rw [if_neg n0, if_neg n1]
    split
    · exact sem_keeps _ _ _ (by omega) hB2.ok h
    · exact sem_keeps _ _ _ (by omega) hB.ok h
end Go.Proofs.Ytmdjdpofpkgffab
