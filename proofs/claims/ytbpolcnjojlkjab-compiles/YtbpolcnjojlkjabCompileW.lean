/- Compile; the code of a policy loads as its steps. -/
import Derived.Test.YtbpolcnjojlkjabEncode
import Derived.Test.YtbpolcnjojlkjabRunW
import Derived.Test.YtbpolcnjojlkjabKeeps
namespace Go.Proofs.Ytbpolcnjojlkjab
open Go.ChangeShapes Go.WideShapes Go.ChangeAt Go.RowKit
open Split (byt byt_lt St SOk none8 heldM InCode)
set_option linter.unusedVariables false
set_option linter.unusedSimpArgs false

theorem nums_byt (xs : List Int) (h : ∀ x ∈ xs, 0 ≤ x ∧ x ≤ 255) (i : Nat) (hi : i < xs.length) : byt (strOfNums xs) i = xs.getD i 0 := by
  have hs := strOfNums_size xs
  rw [byt_lt (show i < (strOfNums xs).size by omega)]
  have hx := h xs[i] (List.getElem_mem hi)
  have e : (strOfNums xs)[i]'(by omega) = UInt8.ofNat (xs[i]).toNat := by
    show (strOfNums xs).data[i]'(by simpa [strOfNums] using hi) = _
    simp [strOfNums]
  rw [e, List.getD_eq_getElem?_getD, List.getElem?_eq_getElem hi]
  simp only [Option.getD_some, UInt8.toNat_ofNat']
  omega

theorem enc_rng {ss : List St} (h : ∀ s ∈ ss, EncF s) : ∀ x ∈ encL ss, 0 ≤ x ∧ x ≤ 255 := by
  intro x hx
  unfold encL at hx
  rw [List.mem_flatMap] at hx
  obtain ⟨s, hs, hx⟩ := hx
  have e := h s hs
  have hn := e.n
  simp only [encS, List.mem_cons, List.not_mem_nil, or_false] at hx
  rcases hx with rfl | rfl | rfl | rfl | rfl
  · exact e.k
  · exact e.a
  · exact e.b
  · omega
  · omega

theorem encL_get : ∀ (ss : List St) (i j : Nat) (h : i < ss.length), j < 5 → (encL ss).getD (i * 5 + j) 0 = (encS ss[i]).getD j 0
  | [], i, j, h, _ => by simp at h
  | s :: ss, 0, j, h, hj => by
    show (encS s ++ encL ss).getD (0 * 5 + j) 0 = _
    rw [List.getD_eq_getElem?_getD, List.getElem?_append_left (by simp [encS]; omega), Nat.zero_mul, Nat.zero_add, ← List.getD_eq_getElem?_getD]
    rfl
  | s :: ss, i + 1, j, h, hj => by
    show (encS s ++ encL ss).getD ((i + 1) * 5 + j) 0 = _
    have hl : (encS s).length = 5 := rfl
    rw [List.getD_eq_getElem?_getD, List.getElem?_append_right (by omega), hl, show (i + 1) * 5 + j - 5 = i * 5 + j by omega, ← List.getD_eq_getElem?_getD, encL_get ss i j (by simpa using h) hj]
    rfl

theorem enc_size (ss : List St) : (encT ss).size = ss.length * 5 := by
  unfold encT
  rw [strOfNums_size, encL_len]

/-- The code of steps that are instructions: its parts. -/
theorem enc_parts {ss : List St} (h : ∀ s ∈ ss, EncF s) (i : Nat) (hi : i < ss.length) : kOf (encT ss) i = ss[i].kind ∧ aOf (encT ss) i = aE ss[i] ∧ bOf (encT ss) i = bE ss[i] ∧ nOf (encT ss) i = nE ss[i] := by
  have hr := enc_rng h
  have hl := encL_len ss
  have key : ∀ j, j < 5 → byt (encT ss) (i * 5 + j) = (encS ss[i]).getD j 0 := fun j hj => by
    unfold encT
    rw [nums_byt _ hr _ (by omega), encL_get ss i j hi hj]
  refine ⟨by have := key 0 (by omega); simpa [kOf, encS] using this, by have := key 1 (by omega); simpa [aOf, encS] using this, by have := key 2 (by omega); simpa [bOf, encS] using this, ?_⟩
  have h3 := key 3 (by omega)
  have h4 := key 4 (by omega)
  simp [encS] at h3 h4
  unfold nOf
  rw [h3, h4]
  omega

theorem round_load {ss : List St} (h : ∀ s ∈ ss, EncF s) (hin : Ins ss) (hh : heldM ss = -1) (hl : ss.length ≤ 120) : cntM (encT ss) = ss.length ∧ codeM (encT ss) ss.length = ss ∧ loadE (encT ss) = 0 ∧ loadP (encT ss) = 0 := by
  have hz := enc_size ss
  have hc : cntM (encT ss) = ss.length := by unfold cntM; omega
  have hcode : codeM (encT ss) ss.length = ss := by
    apply List.ext_getElem (by simp [codeM])
    intro i h1 h2
    rw [codeM_get]
    obtain ⟨p1, p2, p3, p4⟩ := enc_parts h i h2
    unfold decM
    rw [p1, p2, p3, p4]
    exact (h _ (List.getElem_mem h2)).dec
  have hok : ∀ i, i < cntM (encT ss) → okAt (encT ss) i = true := by
    intro i hi
    rw [hc] at hi
    obtain ⟨p1, p2, p3, p4⟩ := enc_parts h i hi
    unfold okAt decOk
    rw [p1, p2, p3, hc]
    simp only [Bool.and_eq_true, decide_eq_true_eq]
    refine ⟨by omega, (h _ (List.getElem_mem hi)).ok _ fun hk => ?_⟩
    have := hin i _ (List.getElem?_eq_getElem hi) hk
    obtain ⟨l, _, hle⟩ := (h _ (List.getElem_mem hi)).sok.l
    omega
  have hnb := bad_not hok
  have hE : heldE ss = 0 := by unfold heldE; rw [if_pos hh]
  have hP : heldP ss = 0 := by unfold heldP; rw [if_pos hh]
  refine ⟨hc, hcode, ?_, ?_⟩
  · unfold loadE
    rw [if_neg (by omega), if_neg hnb, hc, hcode, hE]
  · unfold loadP
    rw [if_neg (by omega), if_neg hnb, hc, hcode, hP]

theorem check_p {t : ByteArray} (h : checkE t = 0) : checkP t = 0 := by
  unfold checkE at h
  unfold checkP
  by_cases h1 : 120 < t.size
  · rw [if_pos h1] at h; simp at h
  · rw [if_neg h1] at h ⊢
    split at h
    · rename_i hc
      rw [if_pos hc]
      split at h
      · simp at h
      · rename_i hd
        rw [if_neg hd]
    · simp at h

/-- What Compile answers. -/
def cmT (t : ByteArray) : ByteArray := if checkE t = 0 then encT (rsE t).ss else ⟨#[]⟩

set_option maxHeartbeats 2000000 in
theorem compile_any (t : ByteArray) (w : World) (ht : t.size ≤ 1000000000000000) : Calls Try.prog 5 #[.string t] w fun e w' => e = .returned (.tuple #[.string (cmT t), .int .i64 (checkE t), .int .i64 (checkP t)]) ∧ Below w.heap.size w w' := by
  have hpc := par_check t
  have hparse := parse_any t w ht
  unfold ParsePost at hparse
  rw [hpc.1, hpc.2] at hparse
  have HPS := hide hparse
  clear hparse hpc
  by_cases hc : checkE t = 0
  · have e1 : cmT t = encT (rsE t).ss := by unfold cmT; rw [if_pos hc]
    have e2 := check_p hc
    obtain ⟨q1, q2, q3, q4⟩ := policy_enc t hc
    rw [e1, hc, e2]
    rw [hc, e2] at HPS
    have HQ := hide q1
    have HQ4 := hide q4
    clear e1 e2 q1 q2 q3 q4 hc
    obtain ⟨ss, hss⟩ : ∃ ss, (rsE t).ss = ss := ⟨_, rfl⟩
    rw [hss] at HPS HQ HQ4 ⊢
    clear hss
    go_enter Try.func5, Try.ntmps5
    go_wp2_with fail
    refine (unhide HPS).mono ?_
    rintro e w1 ⟨vs, rfl, hown, _, hb1⟩
    have hown := hown (by first | rfl | trivial)
    obtain ⟨sa, scap, rfl, hsc, _⟩ := own_slice hown
    have HOWN := hide hown
    have HB1 := hide hb1
    clear hown hb1 HPS hsc
    go_wp2_with fail
    refine (encode_any ss _ sa scap _ (unhide HOWN) (unhide HQ) (by have := unhide HQ4; omega)).mono ?_
    rintro e w2 ⟨rfl, hb2⟩
    have HB2 := hide (below_step (unhide HB1) hb2)
    clear hb2
    obtain ⟨T, hT⟩ : ∃ T, encT ss = T := ⟨_, rfl⟩
    rw [hT]
    have HT := hide hT
    clear hT
    go_wp2_with fail
    go_ret3
    exact ⟨by rw [unhide HT]; rfl, unhide HB2⟩
  · have e1 : cmT t = ⟨#[]⟩ := by unfold cmT; rw [if_neg hc]
    rw [e1]
    have hcb : (checkE t != 0) = true := by simpa using hc
    clear hc e1
    go_enter Try.func5, Try.ntmps5
    go_wp2_with fail
    refine (unhide HPS).mono ?_
    rintro e w1 ⟨vs, rfl, _, _, hb1⟩
    have HB1 := hide hb1
    clear hb1 HPS
    generalize hge : checkE t = ge at *
    generalize hgp : checkP t = gp at *
    have HG := hide (And.intro hge hgp)
    clear hge hgp
    go_wp2_with fail
    go_ret3
    exact ⟨by rw [(unhide HG).1, (unhide HG).2]; rfl, unhide HB1⟩
end Go.Proofs.Ytbpolcnjojlkjab
