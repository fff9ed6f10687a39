/- CodeOk -/
import Derived.Test.YtbpolcnjojlkjabPack5
import Derived.Test.YtbpolcnjojlkjabPack23

/- Plain: the steps of a policy are as they should be. -/
namespace Go.Proofs.Ytbpolcnjojlkjab
open Split
set_option linter.unusedVariables false
set_option linter.unusedSimpArgs false

theorem num_bd (t : ByteArray) (i : Nat) : ∀ n, digM t i n = i + n → 0 ≤ numM t i n ∧ numM t i n < 10 ^ n
  | 0, _ => by simp [numM]
  | n + 1, h => by
    have hd : digM t i n = i + n := by
      by_cases hx : digM t i n = i + n
      · exact hx
      · have := digM_stop t n i hx
        have := digM_le t n i
        omega
    have ih := num_bd t i n hd
    have hn := digM_next t n i hd
    have hdig : dig (byt t (i + n)) = true := by
      cases hx : dig (byt t (i + n))
      · rw [hx] at hn; simp at hn; omega
      · rfl
    rw [dig_t] at hdig
    simp only [numM]
    have e : (10 : Int) ^ (n + 1) = 10 * 10 ^ n := by rw [Int.pow_succ, Int.mul_comm]
    rw [e]
    generalize (10 : Int) ^ n = p at *
    omega

theorem st_ok {t : ByteArray} {i : Nat} (ho : (headM t i).2.2 = true) : SOk (Split.stM t i) := by
  have hb : bucM t (i + 1) = i + 2 → ∃ b : Nat, b < 8 ∧ byt t (i + 1) - 97 = b := by
    intro h
    have : buc (byt t (i + 1)) = true := by
      cases hx : buc (byt t (i + 1))
      · rw [bucM_f hx] at h; omega
      · rfl
    rw [buc_t] at this
    exact ⟨(byt t (i + 1) - 97).toNat, by omega, by omega⟩
  have hz : ∃ l : Nat, l ≤ 1000 ∧ (0 : Int) = l := ⟨0, by omega, rfl⟩
  have hz8 : ∃ b : Nat, b < 8 ∧ (0 : Int) = b := ⟨0, by omega, rfl⟩
  unfold headM at ho
  by_cases h80 : byt t i = 80
  · rw [if_pos h80] at ho
    have e : Split.stM t i = ⟨80, byt t (i + 1) - 97, 0, none8, 0⟩ := by simp [Split.stM, h80]
    rw [e]
    exact ⟨hb (by simpa using ho), by simp, by simp, by simp, rfl, hz⟩
  rw [if_neg h80] at ho
  by_cases h67 : byt t i = 67 ∨ byt t i = 73
  · rw [if_pos h67] at ho
    have e : Split.stM t i = ⟨byt t i, byt t (i + 1) - 97, numM t (i + 2) 4, none8, 0⟩ := by simp only [Split.stM, if_neg h80, if_pos h67]
    rw [e]
    by_cases hb2 : bucM t (i + 1) = i + 2
    · rw [if_pos hb2] at ho
      have hd : digM t (i + 2) 4 = i + 2 + 4 := by simpa using ho
      have hn := num_bd t (i + 2) 4 hd
      refine ⟨hb hb2, hn.1, ?_, ?_, rfl, hz⟩
      · dsimp only; omega
      · intro hk
        dsimp only at hk
        omega
    · rw [if_neg hb2] at ho
      simp at ho
  rw [if_neg h67] at ho
  by_cases h82 : byt t i = 82
  · have e : Split.stM t i = ⟨82, 0, 0, amongM t (i + 1) (risM t (i + 1)), 0⟩ := by simp only [Split.stM, if_neg h80, if_neg h67, if_pos h82]
    rw [e]
    exact ⟨hz8, by simp, by simp, by simp, by simp [amongM], hz⟩
  rw [if_neg h82] at ho
  have e : Split.stM t i = ⟨72, 0, numM t (i + 1) 2, none8, 0⟩ := by simp only [Split.stM, if_neg h80, if_neg h67, if_neg h82]
  rw [e]
  by_cases h72 : byt t i = 72
  · rw [if_pos h72] at ho
    split at ho
    · simp at ho
    · have hd : digM t (i + 1) 2 = i + 1 + 2 := by simpa using ho
      have hn := num_bd t (i + 1) 2 hd
      exact ⟨hz8, hn.1, by dsimp only; omega, fun _ => by dsimp only; omega, rfl, hz⟩
  · rw [if_neg h72] at ho
    simp at ho

theorem sok_leaving {s : St} (h : SOk s) (n : Int) (h0 : 0 ≤ n) (hn : n ≤ 1000) : SOk (s.leaving n) := ⟨h.b, h.a0, h.a1, h.h, h.am, ⟨n.toNat, by omega, by show n = _; omega⟩⟩
theorem sok_E : SOk stE := ⟨⟨0, by omega, rfl⟩, by simp [stE], by simp [stE], by simp [stE], rfl, ⟨0, by omega, rfl⟩⟩
theorem sok_J (n : Nat) (hn : n ≤ 1000) : SOk (stJ n) := ⟨⟨0, by omega, rfl⟩, by simp [stJ], by simp [stJ], by simp [stJ], rfl, ⟨n, hn, rfl⟩⟩

/-- All steps are as they should be, and no more than bytes. -/
def CodeOk (i : Nat) (s : Rd) : Prop := s.ok = true → (∀ x ∈ s.code, SOk x) ∧ i + s.code.length ≤ s.j

theorem blk_code {t : ByteArray} {j dep : Nat} {deep : Int} (ih : byt t j = 40 → ∀ dep deep, CodeOk (j + 1) (scanF t (j + 1) dep deep)) : CodeOk (j + 2) (blkM t (scanF t) j dep deep) := by
  unfold blkM
  by_cases h : byt t j = 40
  · rw [if_pos h]
    have hi := ih h (dep + 1) (-1)
    dsimp only
    split
    · rename_i hc
      intro _
      have := hi hc.1
      exact ⟨this.1, by dsimp only; omega⟩
    · intro q; simp at q
  · rw [if_neg h]
    intro q; simp at q

theorem code_step (t : ByteArray) (hs : t.size ≤ 120) (i : Nat) (hi : i ≤ t.size) (ih : ∀ i', i < i' → i' ≤ t.size → ∀ dep deep, CodeOk i' (scanF t i' dep deep)) : ∀ dep deep, CodeOk i (scanF t i dep deep) := by
  intro dep deep
  rw [scan_eq t i dep deep hi]
  unfold bodyM
  split
  · rename_i hc
    have hr := head_rng hc.1
    split
    · rename_i ho
      have hl := head_lt hc.1 ho
      have hst := st_ok ho
      split
      · have h1 := ih (headM t i).1 (by omega) hr.2 dep deep
        intro hok
        have := h1 hok
        refine ⟨fun x hx => ?_, by dsimp only; simp; omega⟩
        rcases List.mem_cons.1 hx with rfl | hx
        · exact hst
        · exact this.1 x hx
      · have hb := blk_code (t := t) (j := (headM t i).1) (dep := dep) (deep := deep) (fun h40 => ih _ (by omega) (lt_of_byt (by rw [h40]; decide)))
        have hbr := blk_rng (scanF_rng t) (dep := dep) (deep := deep) hr.2
        dsimp only
        generalize blkM t (scanF t) (headM t i).1 dep deep = b at *
        split
        · rename_i hbo
          have hbc := hb hbo
          split
          · have h1 := ih b.j (by omega) hbr.2.1 dep b.deep
            have hrr := scanF_rng t b.j dep b.deep hbr.2.1
            intro hok
            have := h1 hok
            refine ⟨fun x hx => ?_, by dsimp only; simp; omega⟩
            rcases List.mem_cons.1 hx with rfl | hx
            · exact hst
            · rcases List.mem_append.1 hx with hx | hx
              · exact hbc.1 x hx
              · rcases List.mem_cons.1 hx with rfl | hx
                · exact sok_E
                · exact this.1 x hx
          · have hc2 := blk_code (t := t) (j := b.j) (dep := dep) (deep := b.deep) (fun h40 => ih _ (by omega) (lt_of_byt (by rw [h40]; decide)))
            have hcr := blk_rng (scanF_rng t) (dep := dep) (deep := b.deep) hbr.2.1
            generalize blkM t (scanF t) b.j dep b.deep = c at *
            split
            · rename_i hco
              have hcc := hc2 hco
              have h1 := ih c.j (by omega) hcr.2.1 dep c.deep
              have hrr := scanF_rng t c.j dep c.deep hcr.2.1
              intro hok
              have := h1 hok
              refine ⟨fun x hx => ?_, by dsimp only; simp; omega⟩
              rcases List.mem_cons.1 hx with rfl | hx
              · exact sok_leaving hst _ (by omega) (by omega)
              · rcases List.mem_append.1 hx with hx | hx
                · exact hbc.1 x hx
                · rcases List.mem_cons.1 hx with rfl | hx
                  · exact sok_J _ (by omega)
                  · rcases List.mem_append.1 hx with hx | hx
                    · exact hcc.1 x hx
                    · exact this.1 x hx
            · intro q; simp at q
        · intro q; simp at q
    · intro q; simp at q
  · intro _
    exact ⟨fun x hx => by simp at hx, Nat.le_refl _⟩

theorem code_any (t : ByteArray) (hs : t.size ≤ 120) : ∀ (m i : Nat), t.size - i ≤ m → i ≤ t.size → ∀ dep deep, CodeOk i (scanF t i dep deep)
  | 0, i, hm, hi => code_step t hs i hi fun i' h1 h2 => by omega
  | m + 1, i, hm, hi => code_step t hs i hi fun i' h1 h2 => code_any t hs m i' (by omega) h2

/-- Of a policy. -/
theorem policy_code (t : ByteArray) (h : checkE t = 0) : t.size ≤ 120 ∧ (rsE t).ss = (scanF t 0 0 (-1)).code ∧ (∀ x ∈ (rsE t).ss, SOk x) ∧ (rsE t).ss.length ≤ 120 ∧ (scanF t 0 0 (-1)).ok = true ∧ ¬ (scanF t 0 0 (-1)).j < t.size := by
  unfold checkE at h
  by_cases hl : 120 < t.size
  · rw [if_pos hl] at h; simp at h
  · rw [if_neg hl] at h
    by_cases hc : (scanF t 0 0 (-1)).ok = true ∧ ¬ (scanF t 0 0 (-1)).j < t.size
    · have he := (rs_end t).1 hc
      have hco := code_any t (by omega) t.size 0 (by omega) (Nat.zero_le _) 0 (-1) hc.1
      have hr := scanF_rng t 0 0 (-1) (Nat.zero_le _)
      rw [he]
      exact ⟨by omega, rfl, hco.1, by dsimp only; omega, hc.1, hc.2⟩
    · rw [if_neg hc] at h; simp at h
end Go.Proofs.Ytbpolcnjojlkjab
