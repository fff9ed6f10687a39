/- Compiler: Enc, Encode, CompileW -/
import Derived.Test.YtmdjdpofpkgffabLoadRun
import Derived.Test.YtmdjdpofpkgffabHeights
import Derived.Test.YtmdjdpofpkgffabSems
import Derived.Test.YtmdjdpofpkgffabPurseW
import Derived.Laws.BytesArg
import Derived.Test.YtmdjdpofpkgffabShared

/- Plain: the steps of a policy are instructions, one for one. -/
namespace Go.Proofs.Ytmdjdpofpkgffab
open Split
set_option linter.unusedVariables false
set_option linter.unusedSimpArgs false

/-- The number whose bits are the buckets, from the highest one on. -/
def bvF (l : List Bool) : Nat → Int
  | 0 => 0
  | n + 1 => 2 * bvF l n + (if l.getD (7 - n) false then 1 else 0)
def bvOk (l : List Bool) : Bool := decide (bitsM (bvF l 8) = l) && decide (0 ≤ bvF l 8) && decide (bvF l 8 ≤ 255)
set_option maxRecDepth 100000 in
theorem bv_all : ∀ b0 b1 b2 b3 b4 b5 b6 b7 : Bool, bvOk [b0, b1, b2, b3, b4, b5, b6, b7] = true := by decide +kernel
theorem bv_of {l : List Bool} (h : l.length = 8) : bitsM (bvF l 8) = l ∧ 0 ≤ bvF l 8 ∧ bvF l 8 ≤ 255 := by
  have : bvOk l = true := by
    match l, h with
    | [b0, b1, b2, b3, b4, b5, b6, b7], _ => exact bv_all b0 b1 b2 b3 b4 b5 b6 b7
  unfold bvOk at this
  simp only [Bool.and_eq_true, decide_eq_true_eq] at this
  exact ⟨this.1.1, this.1.2, this.2⟩

def aE (s : St) : Int := if s.kind = 82 then bvF s.among 8 else if s.kind = 72 then s.amount else if s.kind = 74 then s.leave else s.bucket
def bE (s : St) : Int := if s.kind = 73 then s.leave else 0
def nE (s : St) : Int := if s.kind = 67 ∨ s.kind = 73 then s.amount else 0

/-- A step that is an instruction. -/
structure EncF (s : St) : Prop where
  dec : decS s.kind (aE s) (bE s) (nE s) = s
  k : 0 ≤ s.kind ∧ s.kind ≤ 255
  a : 0 ≤ aE s ∧ aE s ≤ 255
  b : 0 ≤ bE s ∧ bE s ≤ 255
  n : 0 ≤ nE s ∧ nE s ≤ 65535
  ok : ∀ left, ((s.kind = 74 ∨ s.kind = 73) → s.leave ≤ left) → decB s.kind (aE s) (bE s) left = true
  sok : SOk s

theorem enc_P {b : Nat} (hb : b < 8) : EncF ⟨80, (b : Nat), 0, none8, 0⟩ :=
  ⟨by simp [decS, aE], by simp, by simp [aE]; omega, by simp [bE], by simp [nE], fun left _ => by simp [decB, aE]; omega, ⟨⟨b, hb, rfl⟩, by simp, by simp, by simp, rfl, ⟨0, by omega, rfl⟩⟩⟩
theorem enc_C {b : Nat} {v : Int} (hb : b < 8) (h0 : 0 ≤ v) (h1 : v ≤ 9999) : EncF ⟨67, (b : Nat), v, none8, 0⟩ :=
  ⟨by simp [decS, aE, nE], by simp, by simp [aE]; omega, by simp [bE], by simp [nE]; omega, fun left _ => by simp [decB, aE]; omega, ⟨⟨b, hb, rfl⟩, h0, by dsimp only; omega, by simp, rfl, ⟨0, by omega, rfl⟩⟩⟩
theorem enc_R {l : List Bool} (hl : l.length = 8) : EncF ⟨82, 0, 0, l, 0⟩ := by
  obtain ⟨h1, h2, h3⟩ := bv_of hl
  exact ⟨by simp [decS, aE, h1], by simp, by simp [aE]; omega, by simp [bE], by simp [nE], fun left _ => by simp [decB], ⟨⟨0, by omega, rfl⟩, by simp, by simp, by simp, hl, ⟨0, by omega, rfl⟩⟩⟩
theorem enc_H {v : Int} (h0 : 1 ≤ v) (h1 : v ≤ 99) : EncF ⟨72, 0, v, none8, 0⟩ :=
  ⟨by simp [decS, aE], by simp, by simp [aE]; omega, by simp [bE], by simp [nE], fun left _ => by simp [decB, aE]; omega, ⟨⟨0, by omega, rfl⟩, by dsimp only; omega, by dsimp only; omega, fun _ => by dsimp only; omega, rfl, ⟨0, by omega, rfl⟩⟩⟩
theorem enc_E : EncF stE :=
  ⟨by simp [decS, aE, stE], by simp [stE], by simp [aE, stE], by simp [bE, stE], by simp [nE, stE], fun left _ => by simp [decB, stE], sok_E⟩
theorem enc_J {n : Nat} (hn : n ≤ 255) : EncF (stJ n) :=
  ⟨by simp [decS, aE, stJ], by simp [stJ], by simp [aE, stJ]; omega, by simp [bE, stJ], by simp [nE, stJ], fun left h => by have := h (.inl rfl); simp [decB, aE, stJ] at this ⊢; exact this, sok_J n (by omega)⟩
theorem enc_I {b : Nat} {v : Int} {n : Nat} (hb : b < 8) (h0 : 0 ≤ v) (h1 : v ≤ 9999) (hn : n ≤ 255) : EncF ⟨73, (b : Nat), v, none8, (n : Nat)⟩ :=
  ⟨by simp [decS, aE, nE, bE], by simp, by simp [aE]; omega, by simp [bE]; omega, by simp [nE]; omega, fun left h => by have := h (.inr rfl); simp [decB, aE, bE] at this ⊢; omega, ⟨⟨b, hb, rfl⟩, h0, by dsimp only; omega, by simp, rfl, ⟨n, by omega, rfl⟩⟩⟩

theorem buc_nat {t : ByteArray} {i : Nat} (h : bucM t (i + 1) = i + 2) : ∃ b : Nat, b < 8 ∧ byt t (i + 1) - 97 = b := by
  have : buc (byt t (i + 1)) = true := by
    cases hx : buc (byt t (i + 1))
    · rw [bucM_f hx] at h; omega
    · rfl
  rw [buc_t] at this
  exact ⟨(byt t (i + 1) - 97).toNat, by omega, by omega⟩

/-- The step whose head stands at a place. -/
theorem enc_head {t : ByteArray} {i : Nat} (ho : (headM t i).2.2 = true) :
    ((headM t i).2.1 = 0 → EncF (Split.stM t i) ∧ (Split.stM t i).kind ≠ 72 ∧ (Split.stM t i).kind ≠ 69 ∧ (Split.stM t i).kind ≠ 74 ∧ (Split.stM t i).kind ≠ 73) ∧
    ((headM t i).2.1 = 1 → EncF (Split.stM t i) ∧ (Split.stM t i).kind = 72) ∧
    ((headM t i).2.1 ≠ 0 → (headM t i).2.1 ≠ 1 → (Split.stM t i).kind = 73 ∧ ∀ n : Nat, n ≤ 255 → EncF ((Split.stM t i).leaving n)) := by
  unfold headM at ho ⊢
  by_cases h80 : byt t i = 80
  · rw [if_pos h80] at ho ⊢
    have e : Split.stM t i = ⟨80, byt t (i + 1) - 97, 0, none8, 0⟩ := by simp [Split.stM, h80]
    obtain ⟨b, hb, hbe⟩ := buc_nat (t := t) (i := i) (by simpa using ho)
    rw [e, hbe]
    refine ⟨fun _ => ⟨enc_P hb, by simp⟩, fun h => by simp at h, fun h => by simp at h⟩
  rw [if_neg h80] at ho ⊢
  by_cases h67 : byt t i = 67 ∨ byt t i = 73
  · rw [if_pos h67] at ho ⊢
    have e : Split.stM t i = ⟨byt t i, byt t (i + 1) - 97, numM t (i + 2) 4, none8, 0⟩ := by simp only [Split.stM, if_neg h80, if_pos h67]
    by_cases hb2 : bucM t (i + 1) = i + 2
    · rw [if_pos hb2] at ho ⊢
      obtain ⟨b, hb, hbe⟩ := buc_nat (t := t) (i := i) hb2
      have hd : digM t (i + 2) 4 = i + 2 + 4 := by simpa using ho
      have hn := num_bd t (i + 2) 4 hd
      rw [e, hbe]
      generalize numM t (i + 2) 4 = v at *
      by_cases h7 : byt t i = 73
      · rw [h7]
        refine ⟨fun h => by simp at h, fun h => by simp at h, fun _ _ => ⟨rfl, fun n hn' => ?_⟩⟩
        have hv9 : v ≤ 9999 := by omega
        exact enc_I (v := v) hb hn.1 hv9 hn'
      · have h6 : byt t i = 67 := by rcases h67 with h | h; exact h; exact absurd h h7
        rw [h6]
        refine ⟨fun _ => ⟨enc_C hb hn.1 (by omega), by simp⟩, fun h => by simp at h, fun h => by simp at h⟩
    · rw [if_neg hb2] at ho
      simp at ho
  rw [if_neg h67] at ho ⊢
  by_cases h82 : byt t i = 82
  · have e : Split.stM t i = ⟨82, 0, 0, amongM t (i + 1) (risM t (i + 1)), 0⟩ := by simp only [Split.stM, if_neg h80, if_neg h67, if_pos h82]
    rw [if_pos h82] at ho ⊢
    rw [e]
    split at ho
    · simp at ho
    · rename_i h104
      rw [if_neg h104]
      refine ⟨fun _ => ⟨enc_R (by simp [amongM]), by simp⟩, fun h => by simp at h, fun h => by simp at h⟩
  rw [if_neg h82] at ho ⊢
  have e : Split.stM t i = ⟨72, 0, numM t (i + 1) 2, none8, 0⟩ := by simp only [Split.stM, if_neg h80, if_neg h67, if_neg h82]
  rw [e]
  by_cases h72 : byt t i = 72
  · rw [if_pos h72] at ho ⊢
    by_cases hz : digM t (i + 1) 2 = i + 3 ∧ byt t (i + 1) = 48 ∧ byt t (i + 2) = 48
    · rw [if_pos hz] at ho
      simp at ho
    · rw [if_neg hz] at ho ⊢
      have hd : digM t (i + 1) 2 = i + 1 + 2 := by simpa using ho
      have hn := num_bd t (i + 1) 2 hd
      have hdd : dig (byt t (i + 1)) = true ∧ dig (byt t (i + 1 + 1)) = true := by
        unfold digM at hd
        split at hd
        · rename_i h1
          unfold digM at hd
          split at hd
          · rename_i h2; exact ⟨h1, h2⟩
          · omega
        · omega
      rw [dig_t, dig_t, show i + 1 + 1 = i + 2 by omega] at hdd
      have hpos : 1 ≤ numM t (i + 1) 2 := by
        have e2 : numM t (i + 1) 2 = 10 * (10 * 0 + (byt t (i + 1) - 48)) + (byt t (i + 2) - 48) := rfl
        have hz' : ¬ (byt t (i + 1) = 48 ∧ byt t (i + 2) = 48) := fun h => hz ⟨by omega, h⟩
        omega
      refine ⟨fun h => by simp at h, fun _ => ⟨enc_H hpos (by omega), rfl⟩, fun h1 h2 => by simp at h2⟩
  · rw [if_neg h72] at ho
    simp at ho

/-- All that a step leaves out stands behind it. -/
def Ins (B : List St) : Prop := ∀ (j : Nat) (s : St), B[j]? = some s → (s.kind = 74 ∨ s.kind = 73) → j + 1 + s.leave.toNat ≤ B.length
theorem ins_nil : Ins [] := fun j s h => by simp at h
theorem ins_app {A B : List St} (hA : Ins A) (hB : Ins B) : Ins (A ++ B) := by
  intro j s h hk
  rw [List.length_append]
  by_cases hj : j < A.length
  · rw [List.getElem?_append_left hj] at h
    have := hA j s h hk
    omega
  · rw [List.getElem?_append_right (by omega)] at h
    have := hB _ s h hk
    omega
theorem ins_one {s : St} (h4 : s.kind ≠ 74) (h3 : s.kind ≠ 73) : Ins [s] := by
  intro j x h hk
  cases j with
  | zero =>
    simp at h
    subst h
    rcases hk with hk | hk
    · exact absurd hk h4
    · exact absurd hk h3
  | succ j => simp at h
theorem ins_I {s : St} {B C : List St} (hlv : s.leave = (B.length : Int) + 1) (hB : Ins B) (hC : Ins C) : Ins (s :: (B ++ stJ C.length :: C)) := by
  intro j x h hk
  have hlen : (s :: (B ++ stJ C.length :: C)).length = B.length + C.length + 2 := by simp; omega
  rw [hlen]
  cases j with
  | zero =>
    simp at h
    subst h
    omega
  | succ j =>
    rw [List.getElem?_cons_succ] at h
    by_cases hj : j < B.length
    · rw [List.getElem?_append_left hj] at h
      have := hB j x h hk
      omega
    · rw [List.getElem?_append_right (by omega)] at h
      obtain ⟨d, hd⟩ : ∃ d, j - B.length = d := ⟨_, rfl⟩
      rw [hd] at h
      cases d with
      | zero =>
        simp at h
        subst h
        show j + 1 + 1 + ((C.length : Nat) : Int).toNat ≤ _
        omega
      | succ d =>
        rw [List.getElem?_cons_succ] at h
        have := hC d x h hk
        omega

/-- Of a reading that stands and is not too deep. -/
def Pol (dep : Nat) (deep : Int) (s : Rd) : Prop := s.ok = true → s.deep < 0 → dep ≤ 5 → deep < 0 ∧ (∀ x ∈ s.code, EncF x) ∧ Ins s.code ∧ ∀ x : Int, 0 ≤ x → x ≤ dep → Hgt x s.code
def PolB (dep : Nat) (deep : Int) (s : Rd) : Prop := s.ok = true → s.deep < 0 → dep ≤ 5 → deep < 0 ∧ dep < 5 ∧ (∀ x ∈ s.code, EncF x) ∧ Ins s.code ∧ ∀ x : Int, 0 ≤ x → x ≤ dep + 1 → Hgt x s.code

theorem blk_pol {t : ByteArray} {j dep : Nat} {deep : Int} (ih : byt t j = 40 → ∀ dep deep, Pol dep deep (scanF t (j + 1) dep deep)) : PolB dep deep (blkM t (scanF t) j dep deep) := by
  unfold blkM
  by_cases h : byt t j = 40
  · rw [if_pos h]
    have hi := ih h (dep + 1) (-1)
    dsimp only
    split
    · rename_i hc
      intro _ hd h5
      dsimp only at hd ⊢
      by_cases hx : deep < 0 ∧ 5 ≤ dep
      · rw [if_pos hx, if_neg (by omega)] at hd
        omega
      · rw [if_neg hx] at hd
        by_cases hdp : deep < 0
        · rw [if_pos hdp] at hd
          obtain ⟨_, h2, h3, h4⟩ := hi hc.1 hd (by omega)
          exact ⟨hdp, by omega, h2, h3, fun x a b => h4 x a (by omega)⟩
        · rw [if_neg hdp] at hd
          exact absurd hd hdp
    · intro q; simp at q
  · rw [if_neg h]
    intro q; simp at q

theorem pol_step (t : ByteArray) (hs : t.size ≤ 120) (i : Nat) (hi : i ≤ t.size) (ih : ∀ i', i < i' → i' ≤ t.size → ∀ dep deep, Pol dep deep (scanF t i' dep deep)) : ∀ dep deep, Pol dep deep (scanF t i dep deep) := by
  intro dep deep
  have hlens := fun i' (h : i' ≤ t.size) => code_any t hs t.size i' (by omega) h
  rw [scan_eq t i dep deep hi]
  unfold bodyM
  split
  · rename_i hc
    have hr := head_rng hc.1
    split
    · rename_i ho
      have hl := head_lt hc.1 ho
      obtain ⟨en0, en1, en2⟩ := enc_head ho
      split
      · rename_i hz
        obtain ⟨ef, k72, k69, k74, k73⟩ := en0 hz
        have h1 := ih (headM t i).1 (by omega) hr.2 dep deep
        intro hok hd h5
        obtain ⟨p1, p2, p3, p4⟩ := h1 hok hd h5
        refine ⟨p1, fun x hx => ?_, ?_, fun x a b => ?_⟩
        · rcases List.mem_cons.1 hx with rfl | hx
          · exact ef
          · exact p2 x hx
        · exact ins_app (A := [Split.stM t i]) (ins_one k74 k73) p3
        · exact hgt_app (A := [Split.stM t i]) (hgt_plain k72 k69 k74 k73 a (by omega)) (p4 x a b)
      · rename_i hz
        have hb := blk_pol (t := t) (j := (headM t i).1) (dep := dep) (deep := deep) (fun h40 => ih _ (by omega) (lt_of_byt (by rw [h40]; decide)))
        have hbc := blk_code (t := t) (j := (headM t i).1) (dep := dep) (deep := deep) (fun h40 => hlens _ (lt_of_byt (by rw [h40]; decide)))
        have hbr := blk_rng (scanF_rng t) (dep := dep) (deep := deep) hr.2
        dsimp only
        generalize blkM t (scanF t) (headM t i).1 dep deep = b at *
        split
        · rename_i hbo
          split
          · rename_i h1'
            obtain ⟨ef, k72⟩ := en1 h1'
            have h1 := ih b.j (by omega) hbr.2.1 dep b.deep
            intro hok hd h5
            obtain ⟨p1, p2, p3, p4⟩ := h1 hok hd h5
            obtain ⟨q1, q5, q2, q3, q4⟩ := hb hbo p1 h5
            have hE : b.code ++ stE :: (scanF t b.j dep b.deep).code = (b.code ++ [stE]) ++ (scanF t b.j dep b.deep).code := by simp
            refine ⟨q1, fun x hx => ?_, ?_, fun x a b' => ?_⟩
            · rcases List.mem_cons.1 hx with rfl | hx
              · exact ef
              · rcases List.mem_append.1 hx with hx | hx
                · exact q2 x hx
                · rcases List.mem_cons.1 hx with rfl | hx
                  · exact enc_E
                  · exact p2 x hx
            · dsimp only
              rw [hE]
              exact ins_app (A := [Split.stM t i]) (ins_one (by rw [k72]; decide) (by rw [k72]; decide)) (ins_app (ins_app q3 (ins_one (by decide) (by decide))) p3)
            · dsimp only
              rw [hE, show Split.stM t i :: (b.code ++ [stE] ++ (scanF t b.j dep b.deep).code) = (Split.stM t i :: (b.code ++ [stE])) ++ (scanF t b.j dep b.deep).code by simp]
              exact hgt_app (hgt_H k72 (q4 (x + 1) (by omega) (by omega)) a (by omega)) (p4 x a b')
          · rename_i h1'
            have hc2 := blk_pol (t := t) (j := b.j) (dep := dep) (deep := b.deep) (fun h40 => ih _ (by omega) (lt_of_byt (by rw [h40]; decide)))
            have hcc := blk_code (t := t) (j := b.j) (dep := dep) (deep := b.deep) (fun h40 => hlens _ (lt_of_byt (by rw [h40]; decide)))
            have hcr := blk_rng (scanF_rng t) (dep := dep) (deep := b.deep) hbr.2.1
            generalize blkM t (scanF t) b.j dep b.deep = c at *
            split
            · rename_i hco
              obtain ⟨k73, en3⟩ := en2 hz h1'
              have lb := (hbc hbo).2
              have lc := (hcc hco).2
              have ef := en3 (b.code.length + 1) (by omega)
              have h1 := ih c.j (by omega) hcr.2.1 dep c.deep
              intro hok hd h5
              obtain ⟨p1, p2, p3, p4⟩ := h1 hok hd h5
              obtain ⟨r1, r5, r2, r3, r4⟩ := hc2 hco p1 h5
              obtain ⟨q1, q5, q2, q3, q4⟩ := hb hbo r1 h5
              have hlv : ((Split.stM t i).leaving (b.code.length + 1)).leave = (b.code.length : Int) + 1 := rfl
              have hE : (Split.stM t i).leaving (b.code.length + 1) :: (b.code ++ stJ c.code.length :: (c.code ++ (scanF t c.j dep c.deep).code)) = ((Split.stM t i).leaving (b.code.length + 1) :: (b.code ++ stJ c.code.length :: c.code)) ++ (scanF t c.j dep c.deep).code := by simp
              refine ⟨q1, fun x hx => ?_, ?_, fun x a b' => ?_⟩
              · rcases List.mem_cons.1 hx with rfl | hx
                · exact ef
                · rcases List.mem_append.1 hx with hx | hx
                  · exact q2 x hx
                  · rcases List.mem_cons.1 hx with rfl | hx
                    · exact enc_J (by omega)
                    · rcases List.mem_append.1 hx with hx | hx
                      · exact r2 x hx
                      · exact p2 x hx
              · dsimp only
                rw [hE]
                exact ins_app (ins_I hlv q3 r3) p3
              · dsimp only
                rw [hE]
                exact hgt_app (hgt_I k73 hlv (q4 x a (by omega)) (r4 x a (by omega)) a (by omega)) (p4 x a b')
            · intro q; simp at q
        · intro q; simp at q
    · intro q; simp at q
  · intro _ hd h5
    exact ⟨hd, fun x hx => by simp at hx, ins_nil, fun x _ _ => hgt_nil x⟩

theorem pol_any (t : ByteArray) (hs : t.size ≤ 120) : ∀ (m i : Nat), t.size - i ≤ m → i ≤ t.size → ∀ dep deep, Pol dep deep (scanF t i dep deep)
  | 0, i, hm, hi => pol_step t hs i hi fun i' h1 h2 => by omega
  | m + 1, i, hm, hi => pol_step t hs i hi fun i' h1 h2 => pol_any t hs m i' (by omega) h2

/-- The steps of a policy. -/
theorem policy_enc (t : ByteArray) (h : checkE t = 0) : (∀ x ∈ (rsE t).ss, EncF x) ∧ Ins (rsE t).ss ∧ heldM (rsE t).ss = -1 ∧ (rsE t).ss.length ≤ 120 := by
  obtain ⟨h1, h2, h3, h4, h5, h6⟩ := policy_code t h
  have hd : (scanF t 0 0 (-1)).deep < 0 := by
    unfold checkE at h
    rw [if_neg (by omega), if_pos ⟨h5, h6⟩] at h
    by_cases hx : 0 ≤ (scanF t 0 0 (-1)).deep
    · rw [if_pos hx] at h; simp at h
    · omega
  obtain ⟨_, p2, p3, p4⟩ := pol_any t h1 t.size 0 (by omega) (Nat.zero_le _) 0 (-1) h5 hd (by omega)
  rw [h2] at h4 ⊢
  exact ⟨p2, p3, hgt_all (p4 0 (by omega) (by omega)), h4⟩
end Go.Proofs.Ytmdjdpofpkgffab

/- split's bitsOf and encode. -/
namespace Go.Proofs.Ytmdjdpofpkgffab
open Go.ChangeShapes Go.WideShapes Go.ChangeAt Go.RowKit
open Split (byt byt_lt St SOk none8 heldM InCode)
set_option linter.unusedVariables false
set_option linter.unusedSimpArgs false

theorem bv_bd (l : List Bool) : ∀ n, n ≤ 8 → 0 ≤ bvF l n ∧ bvF l n < 2 ^ n
  | 0, _ => by simp [bvF]
  | n + 1, h => by
    have ih := bv_bd l n (by omega)
    have e : (2 : Int) ^ (n + 1) = 2 * 2 ^ n := by rw [Int.pow_succ, Int.mul_comm]
    unfold bvF
    rw [e]
    generalize (2 : Int) ^ n = p at *
    split <;> omega

theorem pow_le7 (n : Nat) (h : n < 8) : (2 : Int) ^ n ≤ 2 ^ 7 := by
  match n, h with
  | 0, _ => decide
  | 1, _ => decide
  | 2, _ => decide
  | 3, _ => decide
  | 4, _ => decide
  | 5, _ => decide
  | 6, _ => decide
  | 7, _ => decide

set_option maxHeartbeats 2000000 in
theorem bitsOf_any (m0 m1 m2 m3 m4 m5 m6 m7 : Bool) (w : World) :
    Calls Try.prog 63 #[.agg #[.bool m0, .bool m1, .bool m2, .bool m3, .bool m4, .bool m5, .bool m6, .bool m7]] w fun e w' => e = .returned (.int .i64 (bvF [m0, m1, m2, m3, m4, m5, m6, m7] 8)) ∧ Below w.heap.size w w' := by
  have hB := bl_box w m0 m1 m2 m3 m4 m5 m6 m7
  have HB := hide hB
  clear hB
  have HBL : Hid (Below w.heap.size w (w.alloc (.cells #[.bool m0, .bool m1, .bool m2, .bool m3, .bool m4, .bool m5, .bool m6, .bool m7] 108))) := (Below.refl _ _).alloc (Nat.le_refl _) _
  obtain ⟨l, hl⟩ : ∃ l, [m0, m1, m2, m3, m4, m5, m6, m7] = l := ⟨_, rfl⟩
  rw [hl] at HB ⊢
  clear hl
  obtain ⟨W, hW⟩ : ∃ W, w.alloc (.cells #[.bool m0, .bool m1, .bool m2, .bool m3, .bool m4, .bool m5, .bool m6, .bool m7] 108) = W := ⟨_, rfl⟩
  rw [hW] at HB HBL
  have hWl : w.heap.size < W.heap.size := cell_lt (unhide HB).2
  have HW := hide hW
  clear hW
  go_enter Try.func63, Try.ntmps63
  go_wp2_with fail
  rw [unhide HW]
  go_loopw [3, 4] (fun tt ii wr => ∃ n : Nat, n ≤ 8 ∧ ii = .int .i64 (7 - (n : Int)) ∧ tt = .int .i64 (bvF l n) ∧ Hid (wr = W)) (fun _ ii _ => (intOf ii + 1).toNat)
  case atStart => exact ⟨0, by omega, rfl, rfl, rfl⟩
  case round =>
    obtain ⟨n, hn, rfl, rfl, hw⟩ := hrel
    have hw := unhide hw
    subst hw
    have hb := bv_bd l n hn
    by_cases hlt : n < 8
    · obtain ⟨i, hi⟩ : ∃ i : Nat, 7 - n = i := ⟨_, rfl⟩
      have hi7 : (7 : Int) - n = i := by omega
      have hi8 : i < 8 := by omega
      have cb := (unhide HB).cell i hi8
      have hp := pow_le7 n hlt
      have hnx : bvF l (n + 1) = 2 * bvF l n + (if l.getD i false then 1 else 0) := by rw [bvF, hi]
      obtain ⟨v, hv⟩ : ∃ v, bvF l n = v := ⟨_, rfl⟩
      rw [hv] at hb hnx ⊢
      have hv9 : v ≤ 200 := by omega
      have HNX := hide hnx
      have hb0 : 0 ≤ v := hb.1
      clear hp hnx hv hb
      rw [hi7]
      cases hm : l.getD i false
      · rw [hm] at cb HNX
        clear hm
        go_wp2_with fail
        go_roundw
        case rel => exact ⟨n + 1, by omega, by congr 1; omega, by rw [unhide HNX]; congr 1; simp; omega, by first | trivial | rfl⟩
        case measure => simp [intOf]
      · rw [hm] at cb HNX
        clear hm
        go_wp2_with fail
        go_roundw
        case rel => exact ⟨n + 1, by omega, by congr 1; omega, by rw [unhide HNX]; congr 1; simp; omega, by first | trivial | rfl⟩
        case measure => simp [intOf]
    · have h8 : n = 8 := by omega
      subst h8
      have hlt' : ¬ (0 : Int) ≤ 7 - ((8 : Nat) : Int) := by omega
      obtain ⟨v, hv⟩ : ∃ v, bvF l 8 = v := ⟨_, rfl⟩
      rw [hv]
      have HV := hide hv
      clear hv hb
      go_wp2_with fail
      go_ret
      exact ⟨by rw [unhide HV]; rfl, unhide HBL⟩

def encS (s : St) : List Int := [s.kind, aE s, bE s, nE s / 256, nE s % 256]
def encL (ss : List St) : List Int := ss.flatMap encS
/-- The code. -/
def encT (ss : List St) : ByteArray := strOfNums (encL ss)

theorem encL_len (ss : List St) : (encL ss).length = ss.length * 5 := by
  induction ss with
  | nil => rfl
  | cons s ss ih =>
    show (encS s ++ encL ss).length = _
    rw [List.length_append, ih, List.length_cons]
    simp [encS]
    omega
theorem encL_snoc (ss : List St) (s : St) : encL (ss ++ [s]) = encL ss ++ encS s := by simp [encL]
theorem encL_take {ss : List St} {k : Nat} (h : k < ss.length) : encL (ss.take (k + 1)) = encL (ss.take k) ++ encS ss[k] := by
  rw [List.take_add_one, List.getElem?_eq_getElem h]
  exact encL_snoc _ _

theorem news5 {W : World} {g : Nat} {x0 x1 x2 x3 x4 : Int} (h : W.heap[g]? = some (.cells #[.int .u8 x0, .int .u8 x1, .int .u8 x2, .int .u8 x3, .int .u8 x4] 5 (0, 0))) : ∀ j u, ([x0, x1, x2, x3, x4].map (Value.int .u8))[j]? = some u → W.cell? ((⟨g, 0, none⟩ : Addr).add j) = some u := by
  intro j u hj
  rw [add_plain, Nat.zero_add, cell_of_row W g j _ _ _ h]
  simpa using hj
theorem one5 (xs : List Int) : ∀ u ∈ xs.map (Value.int .u8), u.oneCell' = true := by
  intro u hu
  simp only [List.mem_map] at hu
  obtain ⟨x, _, rfl⟩ := hu
  rfl

theorem infoByte : (Try.prog.info? 5).map (fun i => (i.zero, i.size, i.bytes)) = some (some (.int .u8 0), 1, 1) := by kernel_rfl

set_option maxRecDepth 100000 in
set_option maxHeartbeats 8000000 in
theorem encode_any (ss : List St) (base : Nat) (sa : Option Addr) (scap : Nat) (w : World) (hS : w.ownsRow base 110 12 (.slice sa ss.length scap) ss.length (flat ss)) (hok : ∀ s ∈ ss, EncF s) (hl : ss.length ≤ 200) :
    Calls Try.prog 38 #[.slice sa ss.length scap] w fun e w' => e = .returned (.string (encT ss)) ∧ Below w.heap.size w w' := by
  obtain ⟨_, _, he, hcap, hsa⟩ := own_slice hS
  simp only [Value.slice.injEq, true_and] at he
  obtain ⟨rfl, rfl⟩ := he
  obtain ⟨i0, hi, hz0, hz1, hz2⟩ := info_parts infoByte
  have HS := hide hS
  have HOK := hide hok
  have HSA := hide hsa
  obtain ⟨n, hn⟩ : ∃ n, ss.length = n := ⟨_, rfl⟩
  have HN := hide hn
  rw [hn] at hl hcap ⊢
  clear hS hok hn hsa
  go_enter Try.func38, Try.ntmps38
  go_wp2_with fail
  go_loopw [3, 4, 5, 6, 7, 8] (fun cc ii _ _ _ _ wr => ∃ k : Nat, k ≤ n ∧ ii = .int .i64 k ∧ Hid (wr.ownsRow w.heap.size 5 1 cc (k * 5) ((encL (ss.take k)).map (Value.int .u8))) ∧ Hid (Below w.heap.size w wr)) (fun _ ii _ _ _ _ _ => n - (intOf ii).toNat)
  case atStart => exact ⟨0, by omega, rfl, World.ownsRow_nil _ _ _ _, Below.refl _ _⟩
  case round =>
    obtain ⟨k, hk, rfl, ho, hb⟩ := hrel
    obtain ⟨va, vcap, rfl, hvc, hva⟩ := own_slice (unhide ho)
    by_cases hlt : k < n
    · have hsl : k < ss.length := by rw [unhide HN]; exact hlt
      have hef := unhide HOK _ (List.getElem_mem hsl)
      have htk := encL_take hsl
      obtain ⟨⟨kind, bucket, amount, among, leave⟩, hse⟩ : ∃ s, ss[k] = s := ⟨_, rfl⟩
      rw [hse] at hef htk
      obtain ⟨hd, hk8, ha8, hb8, hn8, _, hso⟩ := hef
      obtain ⟨⟨b, hbb, hbe⟩, ha0, ha1, hah, ham, ⟨l, hl1, hle⟩⟩ := hso
      dsimp only at hbe ha0 ha1 hah ham hle hk8
      subst hbe
      subst hle
      obtain ⟨m0, m1, m2, m3, m4, m5, m6, m7, hame⟩ : ∃ m0 m1 m2 m3 m4 m5 m6 m7, among = [m0, m1, m2, m3, m4, m5, m6, m7] := by
        match among, ham with
        | [m0, m1, m2, m3, m4, m5, m6, m7], _ => exact ⟨m0, m1, m2, m3, m4, m5, m6, m7, rfl⟩
      subst hame
      obtain ⟨gs, hgs⟩ := unhide HSA (by omega)
      subst hgs
      have hgsl : gs < w.heap.size := ((unhide HS).lt gs rfl).2
      have hcells := step_cells (unhide HS) rfl hsl hse
      obtain ⟨d0, d1, d2, d3, d4, d5, d6, d7, d8, d9, d10, d11⟩ := hcells
      rw [← (unhide hb).cell (p := ⟨gs, _, none⟩) hgsl] at d0 d1 d2 d3 d4 d5 d6 d7 d8 d9 d10 d11
      have HTK := hide htk
      clear ham hse hd htk
      have hbs : w.heap.size ≤ wr.heap.size := (unhide hb).size
      by_cases h67 : kind = 67
      · subst h67
        have HNN : Hid (0 ≤ amount ∧ amount ≤ 65535) := by
          show _ ∧ _
          simpa [nE] using hn8
        go_wp2_with (at_builtin; refine wpList_append_own _ rfl (.tmp 46) (.tmp 59) 107 rfl w.heap.size 5 i0 (.int .u8 0) 1 1 Try.underlying107 hi hz0 hz1 hz2 rfl (by decide) _ (k * 5) ((encL (ss.take k)).map (Value.int .u8)) rfl (by exact World.ownsRow.alloc (World.ownsRow.alloc (unhide ho) _) _) ⟨wr.heap.size + 1, 0, none⟩ 5 5 ([67, (b : Int), 0, amount / 256 % 256, amount % 256].map (Value.int .u8)) rfl rfl (news5 (alloc_at (by simp) rfl)) (one5 _) (by unfold maxLen; omega) (by omega) (by simp; omega) ?_; intro v' w3 hown hgrow _)
        obtain ⟨a2, cap2, rfl, hle2, _⟩ := own_slice hown
        go_roundw
        case rel =>
          refine ⟨k + 1, by omega, by go_num, ?_, ?_⟩
          · rw [unhide HTK, List.map_append, show (k + 1) * 5 = k * 5 + 5 by omega]
            rw [show encS ⟨67, (b : Nat), amount, [m0, m1, m2, m3, m4, m5, m6, m7], (l : Nat)⟩ = [67, (b : Int), 0, amount / 256 % 256, amount % 256] from by have := unhide HNN; simp [encS, aE, bE, nE]; omega]
            exact hown
          · exact (((unhide hb).alloc hbs _).alloc (by simp; omega) _).trans (below_of_grown hgrow (by simp; omega) (fun q hq => by have := (unhide ho).lt q hq; omega))
        case measure => simp [intOf]; omega
      by_cases h72 : kind = 72
      · subst h72
        have hnn : 0 ≤ amount ∧ amount ≤ 255 := by simpa [aE] using ha8
        go_wp2_with (at_builtin; refine wpList_append_own _ rfl (.tmp 46) (.tmp 59) 107 rfl w.heap.size 5 i0 (.int .u8 0) 1 1 Try.underlying107 hi hz0 hz1 hz2 rfl (by decide) _ (k * 5) ((encL (ss.take k)).map (Value.int .u8)) rfl (by exact World.ownsRow.alloc (World.ownsRow.alloc (unhide ho) _) _) ⟨wr.heap.size + 1, 0, none⟩ 5 5 ([72, amount, 0, 0, 0].map (Value.int .u8)) rfl rfl (news5 (alloc_at (by simp) rfl)) (one5 _) (by unfold maxLen; omega) (by omega) (by simp; omega) ?_; intro v' w3 hown hgrow _)
        obtain ⟨a2, cap2, rfl, hle2, _⟩ := own_slice hown
        go_roundw
        case rel =>
          refine ⟨k + 1, by omega, by go_num, ?_, ?_⟩
          · rw [unhide HTK, List.map_append, show (k + 1) * 5 = k * 5 + 5 by omega]
            rw [show encS ⟨72, (b : Nat), amount, [m0, m1, m2, m3, m4, m5, m6, m7], (l : Nat)⟩ = [72, amount, 0, 0, 0] from by simp [encS, aE, bE, nE]]
            exact hown
          · exact (((unhide hb).alloc hbs _).alloc (by simp; omega) _).trans (below_of_grown hgrow (by simp; omega) (fun q hq => by have := (unhide ho).lt q hq; omega))
        case measure => simp [intOf]; omega
      by_cases h74 : kind = 74
      · subst h74
        have hnn : (l : Int) ≤ 255 := by simpa [aE] using ha8.2
        go_wp2_with (at_builtin; refine wpList_append_own _ rfl (.tmp 46) (.tmp 59) 107 rfl w.heap.size 5 i0 (.int .u8 0) 1 1 Try.underlying107 hi hz0 hz1 hz2 rfl (by decide) _ (k * 5) ((encL (ss.take k)).map (Value.int .u8)) rfl (by exact World.ownsRow.alloc (World.ownsRow.alloc (unhide ho) _) _) ⟨wr.heap.size + 1, 0, none⟩ 5 5 ([74, (l : Int), 0, 0, 0].map (Value.int .u8)) rfl rfl (news5 (alloc_at (by simp) rfl)) (one5 _) (by unfold maxLen; omega) (by omega) (by simp; omega) ?_; intro v' w3 hown hgrow _)
        obtain ⟨a2, cap2, rfl, hle2, _⟩ := own_slice hown
        go_roundw
        case rel =>
          refine ⟨k + 1, by omega, by go_num, ?_, ?_⟩
          · rw [unhide HTK, List.map_append, show (k + 1) * 5 = k * 5 + 5 by omega]
            rw [show encS ⟨74, (b : Nat), amount, [m0, m1, m2, m3, m4, m5, m6, m7], (l : Nat)⟩ = [74, (l : Int), 0, 0, 0] from by simp [encS, aE, bE, nE]]
            exact hown
          · exact (((unhide hb).alloc hbs _).alloc (by simp; omega) _).trans (below_of_grown hgrow (by simp; omega) (fun q hq => by have := (unhide ho).lt q hq; omega))
        case measure => simp [intOf]; omega
      by_cases h73 : kind = 73
      · subst h73
        have hnn : (l : Int) ≤ 255 := by simpa [bE] using hb8.2
        have HNN : Hid (0 ≤ amount ∧ amount ≤ 65535) := by
          show _ ∧ _
          simpa [nE] using hn8
        go_wp2_with (at_builtin; refine wpList_append_own _ rfl (.tmp 46) (.tmp 59) 107 rfl w.heap.size 5 i0 (.int .u8 0) 1 1 Try.underlying107 hi hz0 hz1 hz2 rfl (by decide) _ (k * 5) ((encL (ss.take k)).map (Value.int .u8)) rfl (by exact World.ownsRow.alloc (World.ownsRow.alloc (unhide ho) _) _) ⟨wr.heap.size + 1, 0, none⟩ 5 5 ([73, (b : Int), (l : Int), amount / 256 % 256, amount % 256].map (Value.int .u8)) rfl rfl (news5 (alloc_at (by simp) rfl)) (one5 _) (by unfold maxLen; omega) (by omega) (by simp; omega) ?_; intro v' w3 hown hgrow _)
        obtain ⟨a2, cap2, rfl, hle2, _⟩ := own_slice hown
        go_roundw
        case rel =>
          refine ⟨k + 1, by omega, by go_num, ?_, ?_⟩
          · rw [unhide HTK, List.map_append, show (k + 1) * 5 = k * 5 + 5 by omega]
            rw [show encS ⟨73, (b : Nat), amount, [m0, m1, m2, m3, m4, m5, m6, m7], (l : Nat)⟩ = [73, (b : Int), (l : Int), amount / 256 % 256, amount % 256] from by have := unhide HNN; simp [encS, aE, bE, nE]; omega]
            exact hown
          · exact (((unhide hb).alloc hbs _).alloc (by simp; omega) _).trans (below_of_grown hgrow (by simp; omega) (fun q hq => by have := (unhide ho).lt q hq; omega))
        case measure => simp [intOf]; omega
      by_cases h82 : kind = 82
      · subst h82
        obtain ⟨v, hv⟩ : ∃ v, bvF [m0, m1, m2, m3, m4, m5, m6, m7] 8 = v := ⟨_, rfl⟩
        have hvb : 0 ≤ v ∧ v ≤ 255 := by rw [← hv]; simpa [aE] using ha8
        have HV := hide hv
        clear hv
        obtain ⟨W, hW⟩ : ∃ W, wr.alloc (.cells #[.int .u8 82, .int .i64 (b : Nat), .int .i64 amount, .bool m0, .bool m1, .bool m2, .bool m3, .bool m4, .bool m5, .bool m6, .bool m7, .int .i64 (l : Nat)] 110) = W := ⟨_, rfl⟩
        have hrow : W.heap[wr.heap.size]? = some (.cells #[.int .u8 82, .int .i64 (b : Nat), .int .i64 amount, .bool m0, .bool m1, .bool m2, .bool m3, .bool m4, .bool m5, .bool m6, .bool m7, .int .i64 (l : Nat)] 110 (0, 0)) := by rw [← hW]; exact heap_alloc_new _ _
        have hbW : Below wr.heap.size wr W := by rw [← hW]; exact (Below.refl _ _).alloc (Nat.le_refl _) _
        have HW := hide hW
        have HROW := hide hrow
        have HBW := hide hbW
        clear hW hrow hbW
        go_wp2_with fail
        rw [unhide HW]
        refine (bitsOf_any m0 m1 m2 m3 m4 m5 m6 m7 _).mono ?_
        rintro e w4 ⟨rfl, hb4⟩
        rw [unhide HV]
        have hrow4 := (hb4.block wr.heap.size (cell_lt (unhide HROW))).trans (unhide HROW)
        have hl4 : wr.heap.size < w4.heap.size := cell_lt hrow4
        have r0 := cell_of_row w4 wr.heap.size 0 _ _ _ hrow4
        simp at r0
        have hbb4 := below_step (unhide HBW) hb4
        have B4 := hide (below_step (unhide hb) hbb4)
        have hbs4 : w.heap.size ≤ w4.heap.size := (unhide B4).size
        have O4 : Hid (w4.ownsRow w.heap.size 5 1 (.slice va (k * 5) vcap) (k * 5) ((encL (ss.take k)).map (Value.int .u8))) := by
          refine ⟨(unhide ho).1, ?_⟩
          rcases (unhide ho).2 with ⟨q, q'⟩ | ⟨g', cap', cur, q, q1, q2, q3⟩
          · exact .inl ⟨q, q'⟩
          · exact .inr ⟨g', cap', cur, q, q1, by rw [hbb4.block g' (cell_lt q2)]; exact q2, q3⟩
        clear hb4 hrow4 hbb4
        go_wp2_with (at_builtin; refine wpList_append_own _ rfl (.tmp 46) (.tmp 59) 107 rfl w.heap.size 5 i0 (.int .u8 0) 1 1 Try.underlying107 hi hz0 hz1 hz2 rfl (by decide) _ (k * 5) ((encL (ss.take k)).map (Value.int .u8)) rfl (by exact World.ownsRow.alloc (unhide O4) _) ⟨w4.heap.size, 0, none⟩ 5 5 ([82, v, 0, 0, 0].map (Value.int .u8)) rfl rfl (news5 (alloc_at (by simp) rfl)) (one5 _) (by unfold maxLen; omega) (by omega) (by simp; omega) ?_; intro v' w5 hown hgrow _)
        obtain ⟨a2, cap2, rfl, hle2, _⟩ := own_slice hown
        go_roundw
        case rel =>
          refine ⟨k + 1, by omega, by go_num, ?_, ?_⟩
          · rw [unhide HTK, List.map_append, show (k + 1) * 5 = k * 5 + 5 by omega]
            rw [show encS ⟨82, (b : Nat), amount, [m0, m1, m2, m3, m4, m5, m6, m7], (l : Nat)⟩ = [82, v, 0, 0, 0] from by rw [← unhide HV]; simp [encS, aE, bE, nE]]
            exact hown
          · exact ((unhide B4).alloc hbs4 _).trans (below_of_grown hgrow (by simp; omega) (fun q hq => by have := (unhide O4).lt q hq; omega))
        case measure => simp [intOf]; omega
      have q1 : (kind == 67) = false := beq_eq_false_iff_ne.2 h67
      have q2 : (kind == 82) = false := beq_eq_false_iff_ne.2 h82
      have q3 : (kind == 72) = false := beq_eq_false_iff_ne.2 h72
      have q4 : (kind == 74) = false := beq_eq_false_iff_ne.2 h74
      have q5 : (kind == 73) = false := beq_eq_false_iff_ne.2 h73
      have HKK := hide (And.intro h67 (And.intro h82 (And.intro h72 (And.intro h74 h73))))
      clear h67 h82 h72 h74 h73
      go_wp2_with (at_builtin; refine wpList_append_own _ rfl (.tmp 46) (.tmp 59) 107 rfl w.heap.size 5 i0 (.int .u8 0) 1 1 Try.underlying107 hi hz0 hz1 hz2 rfl (by decide) _ (k * 5) ((encL (ss.take k)).map (Value.int .u8)) rfl (by exact World.ownsRow.alloc (World.ownsRow.alloc (unhide ho) _) _) ⟨wr.heap.size + 1, 0, none⟩ 5 5 ([kind, (b : Int), 0, 0, 0].map (Value.int .u8)) rfl rfl (news5 (alloc_at (by simp) rfl)) (one5 _) (by unfold maxLen; omega) (by omega) (by simp; omega) ?_; intro v' w3 hown hgrow _)
      obtain ⟨a2, cap2, rfl, hle2, _⟩ := own_slice hown
      go_roundw
      case rel =>
        refine ⟨k + 1, by omega, by go_num, ?_, ?_⟩
        · rw [unhide HTK, List.map_append, show (k + 1) * 5 = k * 5 + 5 by omega]
          rw [show encS ⟨kind, (b : Nat), amount, [m0, m1, m2, m3, m4, m5, m6, m7], (l : Nat)⟩ = [kind, (b : Int), 0, 0, 0] from by obtain ⟨z1, z2, z3, z4, z5⟩ := unhide HKK; simp [encS, aE, bE, nE, z1, z2, z3, z4, z5]]
          exact hown
        · exact (((unhide hb).alloc hbs _).alloc (by simp; omega) _).trans (below_of_grown hgrow (by simp; omega) (fun q hq => by have := (unhide ho).lt q hq; omega))
      case measure => simp [intOf]; omega
    · have hkn : k = n := by omega
      subst hkn
      have htk : ss.take k = ss := List.take_of_length_le (by rw [unhide HN]; exact Nat.le_refl _)
      have hrow := unhide ho
      rw [htk] at hrow
      have hlen : (encL ss).length = k * 5 := by rw [encL_len, unhide HN]
      have hc : (convert 107 9 (.slice va (k * 5) vcap)).run Try.prog wr = .ok (.string (encT ss)) wr := by
        rcases hrow.2 with ⟨q, q'⟩ | ⟨g', cap', cur, q, q1, q2, q3⟩
        · simp only [Value.slice.injEq] at q
          obtain ⟨rfl, hq0, rfl⟩ := q
          have h0 : encL ss = [] := List.eq_nil_of_length_eq_zero (by omega)
          have e : encT ss = ByteArray.empty := by unfold encT; rw [h0]; rfl
          rw [e]
          exact run_convert_bytes_nil _ 107 5 (by kernel_rfl) (by kernel_rfl) _ _ 9 (by kernel_rfl)
        · simp only [Value.slice.injEq, true_and] at q
          obtain ⟨rfl, rfl⟩ := q
          refine run_convert_bytes_arg _ 107 5 (by kernel_rfl) (by kernel_rfl) g' 0 (k * 5) vcap (encL ss) hlen ?_ 9 (by kernel_rfl)
          intro i hi
          rw [Nat.zero_add, hrow.cellAt i (by omega), List.getElem?_map, List.getElem?_eq_getElem (by omega)]
          simp [List.getElem?_eq_getElem (show i < (encL ss).length by omega)]
      clear hrow htk hlen
      obtain ⟨T, hT⟩ : ∃ T, encT ss = T := ⟨_, rfl⟩
      rw [hT] at hc
      have HT := hide hT
      clear hT
      go_wp2_with fail
      go_ret
      exact ⟨by rw [unhide HT]; rfl, unhide hb⟩
end Go.Proofs.Ytmdjdpofpkgffab

/- Compile; the code of a policy loads as its steps. -/
namespace Go.Proofs.Ytmdjdpofpkgffab
open Go.ChangeShapes Go.WideShapes Go.ChangeAt Go.RowKit
open Split (byt byt_lt St SOk none8 heldM InCode)
set_option linter.unusedVariables false
set_option linter.unusedSimpArgs false

theorem nums_byt (xs : List Int) (h : ∀ x ∈ xs, 0 ≤ x ∧ x ≤ 255) (i : Nat) (hi : i < xs.length) : byt (strOfNums xs) i = xs.getD i 0 := by
  have hs := strOfNums_size xs
  rw [byt_lt (show i < (strOfNums xs).size by omega)]
  have hx := h xs[i] (List.getElem_mem hi)
  have e : (strOfNums xs)[i]'(by omega) = UInt8.ofNat (xs[i]).toNat := by
    show (strOfNums xs).data[i]'(by simpa [strOfNums] using hi) = _
    simp [strOfNums]
  rw [e, List.getD_eq_getElem?_getD, List.getElem?_eq_getElem hi]
  simp only [Option.getD_some, UInt8.toNat_ofNat']
  omega

theorem enc_rng {ss : List St} (h : ∀ s ∈ ss, EncF s) : ∀ x ∈ encL ss, 0 ≤ x ∧ x ≤ 255 := by
  intro x hx
  unfold encL at hx
  rw [List.mem_flatMap] at hx
  obtain ⟨s, hs, hx⟩ := hx
  have e := h s hs
  have hn := e.n
  simp only [encS, List.mem_cons, List.not_mem_nil, or_false] at hx
  rcases hx with rfl | rfl | rfl | rfl | rfl
  · exact e.k
  · exact e.a
  · exact e.b
  · omega
  · omega

theorem encL_get : ∀ (ss : List St) (i j : Nat) (h : i < ss.length), j < 5 → (encL ss).getD (i * 5 + j) 0 = (encS ss[i]).getD j 0
  | [], i, j, h, _ => by simp at h
  | s :: ss, 0, j, h, hj => by
    show (encS s ++ encL ss).getD (0 * 5 + j) 0 = _
    rw [List.getD_eq_getElem?_getD, List.getElem?_append_left (by simp [encS]; omega), Nat.zero_mul, Nat.zero_add, ← List.getD_eq_getElem?_getD]
    rfl
  | s :: ss, i + 1, j, h, hj => by
    show (encS s ++ encL ss).getD ((i + 1) * 5 + j) 0 = _
    have hl : (encS s).length = 5 := rfl
    rw [List.getD_eq_getElem?_getD, List.getElem?_append_right (by omega), hl, show (i + 1) * 5 + j - 5 = i * 5 + j by omega, ← List.getD_eq_getElem?_getD, encL_get ss i j (by simpa using h) hj]
    rfl

theorem enc_size (ss : List St) : (encT ss).size = ss.length * 5 := by
  unfold encT
  rw [strOfNums_size, encL_len]

/-- The code of steps that are instructions: its parts. -/
theorem enc_parts {ss : List St} (h : ∀ s ∈ ss, EncF s) (i : Nat) (hi : i < ss.length) : kOf (encT ss) i = ss[i].kind ∧ aOf (encT ss) i = aE ss[i] ∧ bOf (encT ss) i = bE ss[i] ∧ nOf (encT ss) i = nE ss[i] := by
  have hr := enc_rng h
  have hl := encL_len ss
  have key : ∀ j, j < 5 → byt (encT ss) (i * 5 + j) = (encS ss[i]).getD j 0 := fun j hj => by
    unfold encT
    rw [nums_byt _ hr _ (by omega), encL_get ss i j hi hj]
  refine ⟨by have := key 0 (by omega); simpa [kOf, encS] using this, by have := key 1 (by omega); simpa [aOf, encS] using this, by have := key 2 (by omega); simpa [bOf, encS] using this, ?_⟩
  have h3 := key 3 (by omega)
  have h4 := key 4 (by omega)
  simp [encS] at h3 h4
  unfold nOf
  rw [h3, h4]
  omega

theorem round_load {ss : List St} (h : ∀ s ∈ ss, EncF s) (hin : Ins ss) (hh : heldM ss = -1) (hl : ss.length ≤ 120) : cntM (encT ss) = ss.length ∧ codeM (encT ss) ss.length = ss ∧ loadE (encT ss) = 0 ∧ loadP (encT ss) = 0 := by
  have hz := enc_size ss
  have hc : cntM (encT ss) = ss.length := by unfold cntM; omega
  have hcode : codeM (encT ss) ss.length = ss := by
    apply List.ext_getElem (by simp [codeM])
    intro i h1 h2
    rw [codeM_get]
    obtain ⟨p1, p2, p3, p4⟩ := enc_parts h i h2
    unfold decM
    rw [p1, p2, p3, p4]
    exact (h _ (List.getElem_mem h2)).dec
  have hok : ∀ i, i < cntM (encT ss) → okAt (encT ss) i = true := by
    intro i hi
    rw [hc] at hi
    obtain ⟨p1, p2, p3, p4⟩ := enc_parts h i hi
    unfold okAt decOk
    rw [p1, p2, p3, hc]
    simp only [Bool.and_eq_true, decide_eq_true_eq]
    refine ⟨by omega, (h _ (List.getElem_mem hi)).ok _ fun hk => ?_⟩
    have := hin i _ (List.getElem?_eq_getElem hi) hk
    obtain ⟨l, _, hle⟩ := (h _ (List.getElem_mem hi)).sok.l
    omega
  have hnb := bad_not hok
  have hE : heldE ss = 0 := by unfold heldE; rw [if_pos hh]
  have hP : heldP ss = 0 := by unfold heldP; rw [if_pos hh]
  refine ⟨hc, hcode, ?_, ?_⟩
  · unfold loadE
    rw [if_neg (by omega), if_neg hnb, hc, hcode, hE]
  · unfold loadP
    rw [if_neg (by omega), if_neg hnb, hc, hcode, hP]

theorem check_p {t : ByteArray} (h : checkE t = 0) : checkP t = 0 := by
  unfold checkE at h
  unfold checkP
  by_cases h1 : 120 < t.size
  · rw [if_pos h1] at h; simp at h
  · rw [if_neg h1] at h ⊢
    split at h
    · rename_i hc
      rw [if_pos hc]
      split at h
      · simp at h
      · rename_i hd
        rw [if_neg hd]
    · simp at h

/-- What Compile answers. -/
def cmT (t : ByteArray) : ByteArray := if checkE t = 0 then encT (rsE t).ss else ⟨#[]⟩

set_option maxHeartbeats 2000000 in
theorem compile_any (t : ByteArray) (w : World) (ht : t.size ≤ 1000000000000000) : Calls Try.prog 11 #[.string t] w fun e w' => e = .returned (.tuple #[.string (cmT t), .int .i64 (checkE t), .int .i64 (checkP t)]) ∧ Below w.heap.size w w' := by
  have hpc := par_check t
  have hparse := parse_any t w ht
  unfold ParsePost at hparse
  rw [hpc.1, hpc.2] at hparse
  have HPS := hide hparse
  clear hparse hpc
  by_cases hc : checkE t = 0
  · have e1 : cmT t = encT (rsE t).ss := by unfold cmT; rw [if_pos hc]
    have e2 := check_p hc
    obtain ⟨q1, q2, q3, q4⟩ := policy_enc t hc
    rw [e1, hc, e2]
    rw [hc, e2] at HPS
    have HQ := hide q1
    have HQ4 := hide q4
    clear e1 e2 q1 q2 q3 q4 hc
    obtain ⟨ss, hss⟩ : ∃ ss, (rsE t).ss = ss := ⟨_, rfl⟩
    rw [hss] at HPS HQ HQ4 ⊢
    clear hss
    go_enter Try.func11, Try.ntmps11
    go_wp2_with fail
    refine (unhide HPS).mono ?_
    rintro e w1 ⟨vs, rfl, hown, _, hb1⟩
    have hown := hown (by first | rfl | trivial)
    obtain ⟨sa, scap, rfl, hsc, _⟩ := own_slice hown
    have HOWN := hide hown
    have HB1 := hide hb1
    clear hown hb1 HPS hsc
    go_wp2_with fail
    refine (encode_any ss _ sa scap _ (unhide HOWN) (unhide HQ) (by have := unhide HQ4; omega)).mono ?_
    rintro e w2 ⟨rfl, hb2⟩
    have HB2 := hide (below_step (unhide HB1) hb2)
    clear hb2
    obtain ⟨T, hT⟩ : ∃ T, encT ss = T := ⟨_, rfl⟩
    rw [hT]
    have HT := hide hT
    clear hT
    go_wp2_with fail
    go_ret3
    exact ⟨by rw [unhide HT]; rfl, unhide HB2⟩
  · have e1 : cmT t = ⟨#[]⟩ := by unfold cmT; rw [if_neg hc]
    rw [e1]
    have hcb : (checkE t != 0) = true := by simpa using hc
    clear hc e1
    go_enter Try.func11, Try.ntmps11
    go_wp2_with fail
    refine (unhide HPS).mono ?_
    rintro e w1 ⟨vs, rfl, _, _, hb1⟩
    have HB1 := hide hb1
    clear hb1 HPS
    generalize hge : checkE t = ge at *
    generalize hgp : checkP t = gp at *
    have HG := hide (And.intro hge hgp)
    clear hge hgp
    go_wp2_with fail
    go_ret3
    exact ⟨by rw [(unhide HG).1, (unhide HG).2]; rfl, unhide HB1⟩
end Go.Proofs.Ytmdjdpofpkgffab
