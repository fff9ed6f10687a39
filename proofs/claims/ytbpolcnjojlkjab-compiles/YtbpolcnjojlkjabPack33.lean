/- Enc -/
import Derived.Test.YtbpolcnjojlkjabPack13
import Derived.Test.YtbpolcnjojlkjabPack32
import Derived.Test.YtbpolcnjojlkjabPack24

/- Plain: the steps of a policy are instructions, one for one. -/
namespace Go.Proofs.Ytbpolcnjojlkjab
open Split
set_option linter.unusedVariables false
set_option linter.unusedSimpArgs false

/-- The number whose bits are the buckets, from the highest one on. -/
def bvF (l : List Bool) : Nat → Int
  | 0 => 0
  | n + 1 => 2 * bvF l n + (if l.getD (7 - n) false then 1 else 0)
def bvOk (l : List Bool) : Bool := decide (bitsM (bvF l 8) = l) && decide (0 ≤ bvF l 8) && decide (bvF l 8 ≤ 255)
set_option maxRecDepth 100000 in
theorem bv_all : ∀ b0 b1 b2 b3 b4 b5 b6 b7 : Bool, bvOk [b0, b1, b2, b3, b4, b5, b6, b7] = true := by decide +kernel
theorem bv_of {l : List Bool} (h : l.length = 8) : bitsM (bvF l 8) = l ∧ 0 ≤ bvF l 8 ∧ bvF l 8 ≤ 255 := by
  have : bvOk l = true := by
    match l, h with
    | [b0, b1, b2, b3, b4, b5, b6, b7], _ => exact bv_all b0 b1 b2 b3 b4 b5 b6 b7
  unfold bvOk at this
  simp only [Bool.and_eq_true, decide_eq_true_eq] at this
  exact ⟨this.1.1, this.1.2, this.2⟩

def aE (s : St) : Int := if s.kind = 82 then bvF s.among 8 else if s.kind = 72 then s.amount else if s.kind = 74 then s.leave else s.bucket
def bE (s : St) : Int := if s.kind = 73 then s.leave else 0
def nE (s : St) : Int := if s.kind = 67 ∨ s.kind = 73 then s.amount else 0

/-- A step that is an instruction. -/
structure EncF (s : St) : Prop where
  dec : decS s.kind (aE s) (bE s) (nE s) = s
  k : 0 ≤ s.kind ∧ s.kind ≤ 255
  a : 0 ≤ aE s ∧ aE s ≤ 255
  b : 0 ≤ bE s ∧ bE s ≤ 255
  n : 0 ≤ nE s ∧ nE s ≤ 65535
  ok : ∀ left, ((s.kind = 74 ∨ s.kind = 73) → s.leave ≤ left) → decB s.kind (aE s) (bE s) left = true
  sok : SOk s

theorem enc_P {b : Nat} (hb : b < 8) : EncF ⟨80, (b : Nat), 0, none8, 0⟩ :=
  ⟨by simp [decS, aE], by simp, by simp [aE]; omega, by simp [bE], by simp [nE], fun left _ => by simp [decB, aE]; omega, ⟨⟨b, hb, rfl⟩, by simp, by simp, by simp, rfl, ⟨0, by omega, rfl⟩⟩⟩
theorem enc_C {b : Nat} {v : Int} (hb : b < 8) (h0 : 0 ≤ v) (h1 : v ≤ 9999) : EncF ⟨67, (b : Nat), v, none8, 0⟩ :=
  ⟨by simp [decS, aE, nE], by simp, by simp [aE]; omega, by simp [bE], by simp [nE]; omega, fun left _ => by simp [decB, aE]; omega, ⟨⟨b, hb, rfl⟩, h0, by dsimp only; omega, by simp, rfl, ⟨0, by omega, rfl⟩⟩⟩
theorem enc_R {l : List Bool} (hl : l.length = 8) : EncF ⟨82, 0, 0, l, 0⟩ := by
  obtain ⟨h1, h2, h3⟩ := bv_of hl
  exact ⟨by simp [decS, aE, h1], by simp, by simp [aE]; omega, by simp [bE], by simp [nE], fun left _ => by simp [decB], ⟨⟨0, by omega, rfl⟩, by simp, by simp, by simp, hl, ⟨0, by omega, rfl⟩⟩⟩
theorem enc_H {v : Int} (h0 : 1 ≤ v) (h1 : v ≤ 99) : EncF ⟨72, 0, v, none8, 0⟩ :=
  ⟨by simp [decS, aE], by simp, by simp [aE]; omega, by simp [bE], by simp [nE], fun left _ => by simp [decB, aE]; omega, ⟨⟨0, by omega, rfl⟩, by dsimp only; omega, by dsimp only; omega, fun _ => by dsimp only; omega, rfl, ⟨0, by omega, rfl⟩⟩⟩
theorem enc_E : EncF stE :=
  ⟨by simp [decS, aE, stE], by simp [stE], by simp [aE, stE], by simp [bE, stE], by simp [nE, stE], fun left _ => by simp [decB, stE], sok_E⟩
theorem enc_J {n : Nat} (hn : n ≤ 255) : EncF (stJ n) :=
  ⟨by simp [decS, aE, stJ], by simp [stJ], by simp [aE, stJ]; omega, by simp [bE, stJ], by simp [nE, stJ], fun left h => by have := h (.inl rfl); simp [decB, aE, stJ] at this ⊢; exact this, sok_J n (by omega)⟩
theorem enc_I {b : Nat} {v : Int} {n : Nat} (hb : b < 8) (h0 : 0 ≤ v) (h1 : v ≤ 9999) (hn : n ≤ 255) : EncF ⟨73, (b : Nat), v, none8, (n : Nat)⟩ :=
  ⟨by simp [decS, aE, nE, bE], by simp, by simp [aE]; omega, by simp [bE]; omega, by simp [nE]; omega, fun left h => by have := h (.inr rfl); simp [decB, aE, bE] at this ⊢; omega, ⟨⟨b, hb, rfl⟩, h0, by dsimp only; omega, by simp, rfl, ⟨n, by omega, rfl⟩⟩⟩

theorem buc_nat {t : ByteArray} {i : Nat} (h : bucM t (i + 1) = i + 2) : ∃ b : Nat, b < 8 ∧ byt t (i + 1) - 97 = b := by
  have : buc (byt t (i + 1)) = true := by
    cases hx : buc (byt t (i + 1))
    · rw [bucM_f hx] at h; omega
    · rfl
  rw [buc_t] at this
  exact ⟨(byt t (i + 1) - 97).toNat, by omega, by omega⟩

/-- The step whose head stands at a place. -/
theorem enc_head {t : ByteArray} {i : Nat} (ho : (headM t i).2.2 = true) :
    ((headM t i).2.1 = 0 → EncF (Split.stM t i) ∧ (Split.stM t i).kind ≠ 72 ∧ (Split.stM t i).kind ≠ 69 ∧ (Split.stM t i).kind ≠ 74 ∧ (Split.stM t i).kind ≠ 73) ∧
    ((headM t i).2.1 = 1 → EncF (Split.stM t i) ∧ (Split.stM t i).kind = 72) ∧
    ((headM t i).2.1 ≠ 0 → (headM t i).2.1 ≠ 1 → (Split.stM t i).kind = 73 ∧ ∀ n : Nat, n ≤ 255 → EncF ((Split.stM t i).leaving n)) := by
  unfold headM at ho ⊢
  by_cases h80 : byt t i = 80
  · rw [if_pos h80] at ho ⊢
    have e : Split.stM t i = ⟨80, byt t (i + 1) - 97, 0, none8, 0⟩ := by simp [Split.stM, h80]
    obtain ⟨b, hb, hbe⟩ := buc_nat (t := t) (i := i) (by simpa using ho)
    rw [e, hbe]
    refine ⟨fun _ => ⟨enc_P hb, by simp⟩, fun h => by simp at h, fun h => by simp at h⟩
  rw [if_neg h80] at ho ⊢
  by_cases h67 : byt t i = 67 ∨ byt t i = 73
  · rw [if_pos h67] at ho ⊢
    have e : Split.stM t i = ⟨byt t i, byt t (i + 1) - 97, numM t (i + 2) 4, none8, 0⟩ := by simp only [Split.stM, if_neg h80, if_pos h67]
    by_cases hb2 : bucM t (i + 1) = i + 2
    · rw [if_pos hb2] at ho ⊢
      obtain ⟨b, hb, hbe⟩ := buc_nat (t := t) (i := i) hb2
      have hd : digM t (i + 2) 4 = i + 2 + 4 := by simpa using ho
      have hn := num_bd t (i + 2) 4 hd
      rw [e, hbe]
      generalize numM t (i + 2) 4 = v at *
      by_cases h7 : byt t i = 73
      · rw [h7]
        refine ⟨fun h => by simp at h, fun h => by simp at h, fun _ _ => ⟨rfl, fun n hn' => ?_⟩⟩
        have hv9 : v ≤ 9999 := by omega
        exact enc_I (v := v) hb hn.1 hv9 hn'
      · have h6 : byt t i = 67 := by rcases h67 with h | h; exact h; exact absurd h h7
        rw [h6]
        refine ⟨fun _ => ⟨enc_C hb hn.1 (by omega), by simp⟩, fun h => by simp at h, fun h => by simp at h⟩
    · rw [if_neg hb2] at ho
      simp at ho
  rw [if_neg h67] at ho ⊢
  by_cases h82 : byt t i = 82
  · have e : Split.stM t i = ⟨82, 0, 0, amongM t (i + 1) (risM t (i + 1)), 0⟩ := by simp only [Split.stM, if_neg h80, if_neg h67, if_pos h82]
    rw [if_pos h82] at ho ⊢
    rw [e]
    split at ho
    · simp at ho
    · rename_i h104
      rw [if_neg h104]
      refine ⟨fun _ => ⟨enc_R (by simp [amongM]), by simp⟩, fun h => by simp at h, fun h => by simp at h⟩
  rw [if_neg h82] at ho ⊢
  have e : Split.stM t i = ⟨72, 0, numM t (i + 1) 2, none8, 0⟩ := by simp only [Split.stM, if_neg h80, if_neg h67, if_neg h82]
  rw [e]
  by_cases h72 : byt t i = 72
  · rw [if_pos h72] at ho ⊢
    by_cases hz : digM t (i + 1) 2 = i + 3 ∧ byt t (i + 1) = 48 ∧ byt t (i + 2) = 48
    · rw [if_pos hz] at ho
      simp at ho
    · rw [if_neg hz] at ho ⊢
      have hd : digM t (i + 1) 2 = i + 1 + 2 := by simpa using ho
      have hn := num_bd t (i + 1) 2 hd
      have hdd : dig (byt t (i + 1)) = true ∧ dig (byt t (i + 1 + 1)) = true := by
        unfold digM at hd
        split at hd
        · rename_i h1
          unfold digM at hd
          split at hd
          · rename_i h2; exact ⟨h1, h2⟩
          · omega
        · omega
      rw [dig_t, dig_t, show i + 1 + 1 = i + 2 by omega] at hdd
      have hpos : 1 ≤ numM t (i + 1) 2 := by
        have e2 : numM t (i + 1) 2 = 10 * (10 * 0 + (byt t (i + 1) - 48)) + (byt t (i + 2) - 48) := rfl
        have hz' : ¬ (byt t (i + 1) = 48 ∧ byt t (i + 2) = 48) := fun h => hz ⟨by omega, h⟩
        omega
      refine ⟨fun h => by simp at h, fun _ => ⟨enc_H hpos (by omega), rfl⟩, fun h1 h2 => by simp at h2⟩
  · rw [if_neg h72] at ho
    simp at ho

/-- All that a step leaves out stands behind it. -/
def Ins (B : List St) : Prop := ∀ (j : Nat) (s : St), B[j]? = some s → (s.kind = 74 ∨ s.kind = 73) → j + 1 + s.leave.toNat ≤ B.length
theorem ins_nil : Ins [] := fun j s h => by simp at h
theorem ins_app {A B : List St} (hA : Ins A) (hB : Ins B) : Ins (A ++ B) := by
  intro j s h hk
  rw [List.length_append]
  by_cases hj : j < A.length
  · rw [List.getElem?_append_left hj] at h
    have := hA j s h hk
    omega
  · rw [List.getElem?_append_right (by omega)] at h
    have := hB _ s h hk
    omega
theorem ins_one {s : St} (h4 : s.kind ≠ 74) (h3 : s.kind ≠ 73) : Ins [s] := by
  intro j x h hk
  cases j with
  | zero =>
    simp at h
    subst h
    rcases hk with hk | hk
    · exact absurd hk h4
    · exact absurd hk h3
  | succ j => simp at h
theorem ins_I {s : St} {B C : List St} (hlv : s.leave = (B.length : Int) + 1) (hB : Ins B) (hC : Ins C) : Ins (s :: (B ++ stJ C.length :: C)) := by
  intro j x h hk
  have hlen : (s :: (B ++ stJ C.length :: C)).length = B.length + C.length + 2 := by simp; omega
  rw [hlen]
  cases j with
  | zero =>
    simp at h
    subst h
    omega
  | succ j =>
    rw [List.getElem?_cons_succ] at h
    by_cases hj : j < B.length
    · rw [List.getElem?_append_left hj] at h
      have := hB j x h hk
      omega
    · rw [List.getElem?_append_right (by omega)] at h
      obtain ⟨d, hd⟩ : ∃ d, j - B.length = d := ⟨_, rfl⟩
      rw [hd] at h
      cases d with
      | zero =>
        simp at h
        subst h
        show j + 1 + 1 + ((C.length : Nat) : Int).toNat ≤ _
        omega
      | succ d =>
        rw [List.getElem?_cons_succ] at h
        have := hC d x h hk
        omega

/-- Of a reading that stands and is not too deep. -/
def Pol (dep : Nat) (deep : Int) (s : Rd) : Prop := s.ok = true → s.deep < 0 → dep ≤ 5 → deep < 0 ∧ (∀ x ∈ s.code, EncF x) ∧ Ins s.code ∧ ∀ x : Int, 0 ≤ x → x ≤ dep → Hgt x s.code
def PolB (dep : Nat) (deep : Int) (s : Rd) : Prop := s.ok = true → s.deep < 0 → dep ≤ 5 → deep < 0 ∧ dep < 5 ∧ (∀ x ∈ s.code, EncF x) ∧ Ins s.code ∧ ∀ x : Int, 0 ≤ x → x ≤ dep + 1 → Hgt x s.code

theorem blk_pol {t : ByteArray} {j dep : Nat} {deep : Int} (ih : byt t j = 40 → ∀ dep deep, Pol dep deep (scanF t (j + 1) dep deep)) : PolB dep deep (blkM t (scanF t) j dep deep) := by
  unfold blkM
  by_cases h : byt t j = 40
  · rw [if_pos h]
    have hi := ih h (dep + 1) (-1)
    dsimp only
    split
    · rename_i hc
      intro _ hd h5
      dsimp only at hd ⊢
      by_cases hx : deep < 0 ∧ 5 ≤ dep
      · rw [if_pos hx, if_neg (by omega)] at hd
        omega
      · rw [if_neg hx] at hd
        by_cases hdp : deep < 0
        · rw [if_pos hdp] at hd
          obtain ⟨_, h2, h3, h4⟩ := hi hc.1 hd (by omega)
          exact ⟨hdp, by omega, h2, h3, fun x a b => h4 x a (by omega)⟩
        · rw [if_neg hdp] at hd
          exact absurd hd hdp
    · intro q; simp at q
  · rw [if_neg h]
    intro q; simp at q

theorem pol_step (t : ByteArray) (hs : t.size ≤ 120) (i : Nat) (hi : i ≤ t.size) (ih : ∀ i', i < i' → i' ≤ t.size → ∀ dep deep, Pol dep deep (scanF t i' dep deep)) : ∀ dep deep, Pol dep deep (scanF t i dep deep) := by
  intro dep deep
  have hlens := fun i' (h : i' ≤ t.size) => code_any t hs t.size i' (by omega) h
  rw [scan_eq t i dep deep hi]
  unfold bodyM
  split
  · rename_i hc
    have hr := head_rng hc.1
    split
    · rename_i ho
      have hl := head_lt hc.1 ho
      obtain ⟨en0, en1, en2⟩ := enc_head ho
      split
      · rename_i hz
        obtain ⟨ef, k72, k69, k74, k73⟩ := en0 hz
        have h1 := ih (headM t i).1 (by omega) hr.2 dep deep
        intro hok hd h5
        obtain ⟨p1, p2, p3, p4⟩ := h1 hok hd h5
        refine ⟨p1, fun x hx => ?_, ?_, fun x a b => ?_⟩
        · rcases List.mem_cons.1 hx with rfl | hx
          · exact ef
          · exact p2 x hx
        · exact ins_app (A := [Split.stM t i]) (ins_one k74 k73) p3
        · exact hgt_app (A := [Split.stM t i]) (hgt_plain k72 k69 k74 k73 a (by omega)) (p4 x a b)
      · rename_i hz
        have hb := blk_pol (t := t) (j := (headM t i).1) (dep := dep) (deep := deep) (fun h40 => ih _ (by omega) (lt_of_byt (by rw [h40]; decide)))
        have hbc := blk_code (t := t) (j := (headM t i).1) (dep := dep) (deep := deep) (fun h40 => hlens _ (lt_of_byt (by rw [h40]; decide)))
        have hbr := blk_rng (scanF_rng t) (dep := dep) (deep := deep) hr.2
        dsimp only
        generalize blkM t (scanF t) (headM t i).1 dep deep = b at *
        split
        · rename_i hbo
          split
          · rename_i h1'
            obtain ⟨ef, k72⟩ := en1 h1'
            have h1 := ih b.j (by omega) hbr.2.1 dep b.deep
            intro hok hd h5
            obtain ⟨p1, p2, p3, p4⟩ := h1 hok hd h5
            obtain ⟨q1, q5, q2, q3, q4⟩ := hb hbo p1 h5
            have hE : b.code ++ stE :: (scanF t b.j dep b.deep).code = (b.code ++ [stE]) ++ (scanF t b.j dep b.deep).code := by simp
            refine ⟨q1, fun x hx => ?_, ?_, fun x a b' => ?_⟩
            · rcases List.mem_cons.1 hx with rfl | hx
              · exact ef
              · rcases List.mem_append.1 hx with hx | hx
                · exact q2 x hx
                · rcases List.mem_cons.1 hx with rfl | hx
                  · exact enc_E
                  · exact p2 x hx
            · dsimp only
              rw [hE]
              exact ins_app (A := [Split.stM t i]) (ins_one (by rw [k72]; decide) (by rw [k72]; decide)) (ins_app (ins_app q3 (ins_one (by decide) (by decide))) p3)
            · dsimp only
              rw [hE, show Split.stM t i :: (b.code ++ [stE] ++ (scanF t b.j dep b.deep).code) = (Split.stM t i :: (b.code ++ [stE])) ++ (scanF t b.j dep b.deep).code by simp]
              exact hgt_app (hgt_H k72 (q4 (x + 1) (by omega) (by omega)) a (by omega)) (p4 x a b')
          · rename_i h1'
            have hc2 := blk_pol (t := t) (j := b.j) (dep := dep) (deep := b.deep) (fun h40 => ih _ (by omega) (lt_of_byt (by rw [h40]; decide)))
            have hcc := blk_code (t := t) (j := b.j) (dep := dep) (deep := b.deep) (fun h40 => hlens _ (lt_of_byt (by rw [h40]; decide)))
            have hcr := blk_rng (scanF_rng t) (dep := dep) (deep := b.deep) hbr.2.1
            generalize blkM t (scanF t) b.j dep b.deep = c at *
            split
            · rename_i hco
              obtain ⟨k73, en3⟩ := en2 hz h1'
              have lb := (hbc hbo).2
              have lc := (hcc hco).2
              have ef := en3 (b.code.length + 1) (by omega)
              have h1 := ih c.j (by omega) hcr.2.1 dep c.deep
              intro hok hd h5
              obtain ⟨p1, p2, p3, p4⟩ := h1 hok hd h5
              obtain ⟨r1, r5, r2, r3, r4⟩ := hc2 hco p1 h5
              obtain ⟨q1, q5, q2, q3, q4⟩ := hb hbo r1 h5
              have hlv : ((Split.stM t i).leaving (b.code.length + 1)).leave = (b.code.length : Int) + 1 := rfl
              have hE : (Split.stM t i).leaving (b.code.length + 1) :: (b.code ++ stJ c.code.length :: (c.code ++ (scanF t c.j dep c.deep).code)) = ((Split.stM t i).leaving (b.code.length + 1) :: (b.code ++ stJ c.code.length :: c.code)) ++ (scanF t c.j dep c.deep).code := by simp
              refine ⟨q1, fun x hx => ?_, ?_, fun x a b' => ?_⟩
              · rcases List.mem_cons.1 hx with rfl | hx
                · exact ef
                · rcases List.mem_append.1 hx with hx | hx
                  · exact q2 x hx
                  · rcases List.mem_cons.1 hx with rfl | hx
                    · exact enc_J (by omega)
                    · rcases List.mem_append.1 hx with hx | hx
                      · exact r2 x hx
                      · exact p2 x hx
              · dsimp only
                rw [hE]
                exact ins_app (ins_I hlv q3 r3) p3
              · dsimp only
                rw [hE]
                exact hgt_app (hgt_I k73 hlv (q4 x a (by omega)) (r4 x a (by omega)) a (by omega)) (p4 x a b')
            · intro q; simp at q
        · intro q; simp at q
    · intro q; simp at q
  · intro _ hd h5
    exact ⟨hd, fun x hx => by simp at hx, ins_nil, fun x _ _ => hgt_nil x⟩

theorem pol_any (t : ByteArray) (hs : t.size ≤ 120) : ∀ (m i : Nat), t.size - i ≤ m → i ≤ t.size → ∀ dep deep, Pol dep deep (scanF t i dep deep)
  | 0, i, hm, hi => pol_step t hs i hi fun i' h1 h2 => by omega
  | m + 1, i, hm, hi => pol_step t hs i hi fun i' h1 h2 => pol_any t hs m i' (by omega) h2

/-- The steps of a policy. -/
theorem policy_enc (t : ByteArray) (h : checkE t = 0) : (∀ x ∈ (rsE t).ss, EncF x) ∧ Ins (rsE t).ss ∧ heldM (rsE t).ss = -1 ∧ (rsE t).ss.length ≤ 120 := by
  obtain ⟨h1, h2, h3, h4, h5, h6⟩ := policy_code t h
  have hd : (scanF t 0 0 (-1)).deep < 0 := by
    unfold checkE at h
    rw [if_neg (by omega), if_pos ⟨h5, h6⟩] at h
    by_cases hx : 0 ≤ (scanF t 0 0 (-1)).deep
    · rw [if_pos hx] at h; simp at h
    · omega
  obtain ⟨_, p2, p3, p4⟩ := pol_any t h1 t.size 0 (by omega) (Nat.zero_le _) 0 (-1) h5 hd (by omega)
  rw [h2] at h4 ⊢
  exact ⟨p2, p3, hgt_all (p4 0 (by omega) (by omega)), h4⟩
end Go.Proofs.Ytbpolcnjojlkjab
