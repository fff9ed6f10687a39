/- Fair: Group, FairW, Fair -/
import Derived.Test.YtmdjdpofpkgffaaSingles
import Derived.Test.YtmdjdpofpkgffaaCodes
import Derived.Test.YtmdjdpofpkgffaaRatesM
import Derived.Test.YtmdjdpofpkgffaaChoice

/- group: the text of the step R. -/
namespace Go.Proofs.Ytmdjdpofpkgffaa
open Go.ChangeShapes Go.WideShapes Go.ChangeAt Go.RowKit
open Split (Pu Keeps byt byt_lt headM doM risM amongM scanF bodyM propM)
set_option linter.unusedVariables false
set_option linter.unusedSimpArgs false

/-- The bytes of the step, of the first k buckets. -/
def gN (l : List Bool) : Nat → List Int
  | 0 => [82]
  | k + 1 => if l.getD k false then gN l k ++ [97 + (k : Int)] else gN l k
def gC (l : List Bool) : Nat → Nat
  | 0 => 0
  | k + 1 => if l.getD k false then gC l k + 1 else gC l k
theorem gN_len (l : List Bool) : ∀ k, (gN l k).length = gC l k + 1
  | 0 => rfl
  | k + 1 => by
    have := gN_len l k
    unfold gN gC
    split
    · simp [this]
    · exact this
theorem gC_le (l : List Bool) : ∀ k, gC l k ≤ k
  | 0 => Nat.le_refl _
  | k + 1 => by
    have := gC_le l k
    unfold gC
    split <;> omega

def gOk (l : List Bool) : Bool :=
  let t := strOfNums (gN l 8)
  byt t 0 == 82 && (if 2 ≤ gC l 8 then decide (headM t 0 = (t.size, 0, true)) && decide (amongM t 1 (risM t 1) = l) else !(headM t 0).2.2)

set_option maxRecDepth 100000 in
theorem gOk_all : ∀ b0 b1 b2 b3 b4 b5 b6 b7 : Bool, gOk [b0, b1, b2, b3, b4, b5, b6, b7] = true := by decide +kernel

theorem gOk_of {l : List Bool} (h : l.length = 8) : gOk l = true := by
  match l, h with
  | [b0, b1, b2, b3, b4, b5, b6, b7], _ => exact gOk_all b0 b1 b2 b3 b4 b5 b6 b7

theorem R_text {l : List Bool} (h : l.length = 8) (h2 : 2 ≤ gC l 8) : checkE (strOfNums (gN l 8)) = 0 ∧ ∀ zs m, shrM (strOfNums (gN l 8)) zs m = propM (pu0 zs m) l := by
  have hg := gOk_of h
  have hz := str_size (gN l 8)
  have hn := gN_len l 8
  have hle := gC_le l 8
  unfold gOk at hg
  generalize strOfNums (gN l 8) = t at *
  dsimp only at hg
  rw [if_pos h2] at hg
  simp only [Bool.and_eq_true, beq_iff_eq, decide_eq_true_eq] at hg
  obtain ⟨b0, hh, ha⟩ := hg
  obtain ⟨h1, h3⟩ := one_step (by omega) (by omega) (by omega) hh
  refine ⟨h1, fun zs m => ?_⟩
  rw [h3 zs m]
  have e : Split.stM t 0 = ⟨82, 0, 0, l, 0⟩ := by
    unfold Split.stM
    rw [if_neg (by omega), if_neg (by omega), if_pos b0, Nat.zero_add, ha]
  rw [e]
  simp [doM]

theorem R_none {l : List Bool} (h : l.length = 8) (h2 : ¬ 2 ≤ gC l 8) : ¬ checkE (strOfNums (gN l 8)) = 0 := by
  have hg := gOk_of h
  have hz := str_size (gN l 8)
  have hn := gN_len l 8
  have hle := gC_le l 8
  unfold gOk at hg
  generalize strOfNums (gN l 8) = t at *
  dsimp only at hg
  rw [if_neg h2] at hg
  simp only [Bool.and_eq_true, beq_iff_eq, Bool.not_eq_true'] at hg
  obtain ⟨b0, hh⟩ := hg
  have e0 : (scanF t 0 0 (-1)).ok = false := by
    rw [Split.scan_eq t 0 0 (-1) (Nat.zero_le _)]
    unfold bodyM
    rw [if_pos ⟨by omega, by omega⟩, hh]
    simp
  unfold checkE
  rw [if_neg (by omega), if_neg (by rw [e0]; simp)]
  simp

theorem str82 : strOfNums [82] = ⟨#[82]⟩ := rfl

set_option maxRecDepth 100000 in
set_option maxHeartbeats 4000000 in
theorem group_any (z : Int) (w : World) (hz : (Lit.int .i64 z).wf = true) :
    Calls Try.prog 29 #[.int .i64 z] w fun e w' => e = .returned (.tuple #[.string (strOfNums (gN (bitsM z) 8)), .int .i64 (gC (bitsM z) 8 : Nat)]) ∧ Below w.heap.size w w' := by
  go_enter Try.func29, Try.ntmps29
  go_wp2_with fail
  go_loopw [4, 5, 6] (fun ss nn ii wr => ∃ k : Nat, k ≤ 8 ∧ ii = .int .i64 k ∧ ss = .string (strOfNums (gN (bitsM z) k)) ∧ nn = .int .i64 (gC (bitsM z) k : Nat) ∧ Hid (Below w.heap.size w wr)) (fun _ _ ii _ => 8 - (intOf ii).toNat)
  case atStart => exact ⟨0, by omega, rfl, rfl, rfl, Below.refl _ _⟩
  case round =>
    obtain ⟨k, hk, rfl, rfl, rfl, hb⟩ := hrel
    have hcl := gC_le (bitsM z) k
    have hsz := str_size (gN (bitsM z) k)
    rw [gN_len] at hsz
    by_cases hlt : k < 8
    · have hbit := and_bit z k hlt
      have hget := bits_get z k hlt
      obtain ⟨v, hv⟩ : ∃ v, bits BinOp.and IntKind.i64 z (wrap64 (2 ^ k)) = v := ⟨_, rfl⟩
      rw [hv] at hbit
      cases hm : bitM z k
      · have e1 : gN (bitsM z) (k + 1) = gN (bitsM z) k := by
          rw [gN, hget, hm]; rfl
        have e2 : gC (bitsM z) (k + 1) = gC (bitsM z) k := by
          rw [gC, hget, hm]; rfl
        rw [hm] at hbit
        have HE := hide (And.intro e1 e2)
        clear e1 e2 hget hm
        go_wp2_with fail
        go_roundw
        case rel => exact ⟨k + 1, by omega, by go_num, by rw [(unhide HE).1], by rw [(unhide HE).2], hb⟩
        case measure => simp [intOf]; omega
      · have e1 : gN (bitsM z) (k + 1) = gN (bitsM z) k ++ [97 + (k : Int)] := by
          rw [gN, hget, hm]; rfl
        have e2 : gC (bitsM z) (k + 1) = gC (bitsM z) k + 1 := by
          rw [gC, hget, hm]; rfl
        rw [hm] at hbit
        have e3 : (k : Int) % 8 = k := by omega
        have hlet := fun w' => letter_any (k : Int) w'
        rw [e3] at hlet
        have HL := hide hlet
        have HE := hide (And.intro e1 e2)
        obtain ⟨X, hX⟩ : ∃ X, strOfNums (gN (bitsM z) k) = X := ⟨_, rfl⟩
        obtain ⟨Y, hY⟩ : ∃ Y, strOfNums [97 + (k : Int)] = Y := ⟨_, rfl⟩
        have hYs : Y.size = 1 := by rw [← hY, str_size]; rfl
        obtain ⟨Z, hZ⟩ : ∃ Z, X ++ Y = Z := ⟨_, rfl⟩
        have hZe : Hid (strOfNums (gN (bitsM z) (k + 1)) = Z) := by
          show _ = _
          rw [(unhide HE).1, ← str_app, hX, hY, hZ]
        obtain ⟨C, hC⟩ : ∃ C, gC (bitsM z) k = C := ⟨_, rfl⟩
        rw [hX] at hsz ⊢
        rw [hC] at hcl hsz ⊢
        have HC := hide hC
        rw [hY] at HL
        clear e1 e2 e3 hget hm hlet hX hY hC
        go_wp2_with fail
        refine (unhide HL _).mono ?_
        rintro e w2 ⟨rfl, hb2⟩
        have B2 := hide (below_step (unhide hb) hb2)
        clear hb2
        go_wp2_with fail
        go_roundw
        case rel => exact ⟨k + 1, by omega, by go_num, by rw [unhide hZe], by rw [(unhide HE).2, unhide HC]; go_num, B2⟩
        case measure => simp [intOf]; omega
    · have hk8 : k = 8 := by omega
      subst hk8
      obtain ⟨T, hT⟩ : ∃ T, strOfNums (gN (bitsM z) 8) = T := ⟨_, rfl⟩
      obtain ⟨C, hC⟩ : ∃ C, gC (bitsM z) 8 = C := ⟨_, rfl⟩
      rw [hT, hC]
      have HT := hide (And.intro hT hC)
      clear hT hC hcl hsz
      go_wp2_with fail
      go_ret2
      exact ⟨by rw [(unhide HT).1, (unhide HT).2]; rfl, unhide hb⟩
end Go.Proofs.Ytmdjdpofpkgffaa

/- fair, by its contract. -/
namespace Go.Proofs.Ytmdjdpofpkgffaa
open Go.ChangeShapes Go.WideShapes Go.ChangeAt Go.RowKit
open Split (Pu Keeps)
set_option linter.unusedVariables false
set_option linter.unusedSimpArgs false

set_option maxRecDepth 100000 in
set_option maxHeartbeats 8000000 in
theorem fair_true (a' : Option Addr) (c : Nat) (L : List Int) (R : Int) (a : Option Addr) (cap : Nat) (zs : List Int) (m t : Int) (i j : Nat) (w : World) (hL : Ints w a' 8 L) (hZ : Ints w a 8 zs) (hi : i < 8) (hj : j < 8)
    (hm0 : 0 ≤ m) (hm9 : m ≤ 1000000000) (ht0 : 0 < t) (hz : ∀ k, 0 ≤ zs.getD k 0 ∧ zs.getD k 0 ≤ 1000000000) (hl : ∀ k, 0 ≤ L.getD k 0 ∧ L.getD k 0 ≤ 1000000000)
    (hp : L.getD i 0 = m * zs.getD i 0 / t ∨ (L.getD i 0 = m * zs.getD i 0 / t + 1 ∧ 0 < m * zs.getD i 0 % t ∧ (L.getD j 0 = m * zs.getD j 0 / t → (m * zs.getD j 0 % t < m * zs.getD i 0 % t ∨ (m * zs.getD j 0 % t = m * zs.getD i 0 % t ∧ i < j))))) :
    Calls Try.prog 30 #[.agg #[.slice a' 8 c, .int .i64 R, .bool true], .slice a 8 cap, .int .i64 m, .int .i64 t, .int .i64 i, .int .i64 j] w fun e w' => e = .returned (.bool true) ∧ Below w.heap.size w w' := by
  obtain ⟨b1, o1, rfl, hc1⟩ := hL.2 (by omega)
  obtain ⟨b2, o2, rfl, hc2⟩ := hZ.2 (by omega)
  have hb1 : b1 < w.heap.size := cell_blk (hc1 0 (by omega))
  have hb2 : b2 < w.heap.size := cell_blk (hc2 0 (by omega))
  obtain ⟨W, hW⟩ : ∃ W, w.alloc (.cells #[.slice (some ⟨b1, o1, none⟩) 8 c, .int .i64 R, .bool true] 38) = W := ⟨_, rfl⟩
  have hBW : Below w.heap.size w W := by rw [← hW]; exact (Below.refl _ _).alloc (Nat.le_refl _) _
  have hrow : W.heap[w.heap.size]? = some (.cells #[.slice (some ⟨b1, o1, none⟩) 8 c, .int .i64 R, .bool true] 38 (0, 0)) := by rw [← hW]; exact heap_alloc_new _ _
  have p0 := cell_of_row W w.heap.size 0 _ _ _ hrow
  simp at p0
  have hlW : w.heap.size < W.heap.size := cell_lt hrow
  have li := (hBW.cell (p := ⟨b1, o1 + i, none⟩) hb1).trans (hc1 i hi)
  have lj := (hBW.cell (p := ⟨b1, o1 + j, none⟩) hb1).trans (hc1 j hj)
  have zi := (hBW.cell (p := ⟨b2, o2 + i, none⟩) hb2).trans (hc2 i hi)
  have zj := (hBW.cell (p := ⟨b2, o2 + j, none⟩) hb2).trans (hc2 j hj)
  have ziw := hc2 i hi
  have zjw := hc2 j hj
  have hzi := hz i
  have hzj := hz j
  have hli := hl i
  have hlj := hl j
  generalize L.getD i 0 = Li at *
  generalize L.getD j 0 = Lj at *
  generalize zs.getD i 0 = Zi at *
  generalize zs.getD j 0 = Zj at *
  have hx0 : 0 ≤ m * Zi := Int.mul_nonneg hm0 hzi.1
  have hy0 : 0 ≤ m * Zj := Int.mul_nonneg hm0 hzj.1
  have hx9 : m * Zi ≤ 1000000000 * 1000000000 := Int.mul_le_mul hm9 hzi.2 hzi.1 (by omega)
  have hy9 : m * Zj ≤ 1000000000 * 1000000000 := Int.mul_le_mul hm9 hzj.2 hzj.1 (by omega)
  obtain ⟨x, hx⟩ : ∃ x, m * Zi = x := ⟨_, rfl⟩
  obtain ⟨y, hy⟩ : ∃ y, m * Zj = y := ⟨_, rfl⟩
  rw [hx] at hx0 hx9 hp
  rw [hy] at hy0 hy9 hp
  have wx : IntKind.i64.wrap (m * Zi) = x := by rw [hx]; exact wrap_big (by omega) (by omega)
  have wy : IntKind.i64.wrap (m * Zj) = y := by rw [hy]; exact wrap_big (by omega) (by omega)
  have wx' : wrap64 (m * Zi) = x := by rw [hx]; exact IntWalk.wrap64_in x (by omega)
  have wy' : wrap64 (m * Zj) = y := by rw [hy]; exact IntWalk.wrap64_in y (by omega)
  have hxq0 : 0 ≤ x / t := Int.ediv_nonneg hx0 (by omega)
  have hyq0 : 0 ≤ y / t := Int.ediv_nonneg hy0 (by omega)
  have hxq9 : x / t ≤ x := Int.ediv_le_self _ hx0
  have hyq9 : y / t ≤ y := Int.ediv_le_self _ hy0
  have dx : x.tdiv t = x / t := Int.tdiv_eq_ediv_of_nonneg hx0
  have dy : y.tdiv t = y / t := Int.tdiv_eq_ediv_of_nonneg hy0
  have mx : x.tmod t = x % t := Int.tmod_eq_emod_of_nonneg hx0
  have my : y.tmod t = y % t := Int.tmod_eq_emod_of_nonneg hy0
  generalize x / t = xq at *
  generalize y / t = yq at *
  generalize x % t = xr at *
  generalize y % t = yr at *
  have wq : wrap64 xq = xq := IntWalk.wrap64_in xq (by omega)
  have wr : wrap64 yq = yq := IntWalk.wrap64_in yq (by omega)
  have wq' : IntKind.i64.wrap xq = xq := wrap_big (by omega) (by omega)
  have wr' : IntKind.i64.wrap yq = yq := wrap_big (by omega) (by omega)
  have HP := hide hp
  have HW := hide hW
  have HBW := hide hBW
  have tne : t ≠ 0 := by omega
  clear hL hZ hc1 hc2 hz hl hp hW hBW hx hy hrow
  rcases unhide HP with h1 | ⟨h1, h2, h3⟩
  · have ws : IntKind.i64.wrap (Li - xq) = 0 := by rw [h1, Int.sub_self]; rfl
    have wt : IntKind.i64.wrap (Lj - yq) = Lj - yq := wrap_big (by omega) (by omega)
    have ws' : Li - xq = 0 := by omega
    clear h1 HP
    go_enter Try.func30, Try.ntmps30
    go_wp2_with fail
    rw [unhide HW]
    clear ziw zjw
    go_quiet (fail)
    go_wp2_with fail
    go_quiet (fail)
    go_wp2_with fail
    go_ret
    exact ⟨rfl, below_drewN (unhide HBW) _⟩
  · have ws : IntKind.i64.wrap (Li - xq) = 1 := by rw [h1, show xq + 1 - xq = 1 by omega]; rfl
    have ws' : Li - xq = 1 := by omega
    have hxr : (xr == 0) = false := beq_eq_false_iff_ne.2 (by omega)
    by_cases hb0 : Lj = yq
    · have wt : IntKind.i64.wrap (Lj - yq) = 0 := by rw [hb0, Int.sub_self]; rfl
      have wt' : Lj - yq = 0 := by omega
      have h4 := h3 hb0
      clear h1 HP h3 hb0 h2
      by_cases hgt : yr < xr
      · clear h4
        go_enter Try.func30, Try.ntmps30
        go_wp2_with fail
        rw [unhide HW]
        clear ziw zjw
        go_quiet (fail)
        go_wp2_with fail
        go_quiet (fail)
        go_wp2_with fail
        go_quiet (fail)
        go_wp2_with fail
        go_ret
        exact ⟨rfl, below_drewN (below_drewN (unhide HBW) _) _⟩
      · have h5 : yr = xr ∧ i < j := by omega
        obtain ⟨h6, hij⟩ := h5
        subst h6
        have hij' : (i : Int) < j := by omega
        have hrr : (yr == yr) = true := by simp
        clear h4 hgt hij
        go_enter Try.func30, Try.ntmps30
        go_wp2_with fail
        rw [unhide HW]
        clear ziw zjw
        go_quiet (fail)
        go_wp2_with fail
        go_quiet (fail)
        go_wp2_with fail
        go_quiet (fail)
        go_wp2_with fail
        go_ret
        exact ⟨rfl, below_drewN (below_drewN (unhide HBW) _) _⟩
    · obtain ⟨v, hv⟩ : ∃ v, Lj - yq = v := ⟨_, rfl⟩
      have wt : IntKind.i64.wrap (Lj - yq) = v := by rw [hv]; exact wrap_big (by omega) (by omega)
      have hv0 : (v == 0) = false := beq_eq_false_iff_ne.2 (by omega)
      clear h1 HP h3 hb0 h2
      go_enter Try.func30, Try.ntmps30
      go_wp2_with fail
      rw [unhide HW]
      clear ziw zjw
      go_quiet (fail)
      go_wp2_with fail
      go_quiet (fail)
      go_wp2_with fail
      go_ret
      exact ⟨rfl, below_drewN (unhide HBW) _⟩
end Go.Proofs.Ytmdjdpofpkgffaa

/- Fair: the walk. -/
namespace Go.Proofs.Ytmdjdpofpkgffaa
open Go.ChangeShapes Go.WideShapes Go.ChangeAt Go.RowKit
open Split (Pu Keeps amTo propM FairOk lea)
set_option linter.unusedVariables false
set_option linter.unusedSimpArgs false

theorem amTo_next (p : Pu) (l : List Bool) (k : Nat) : amTo p l (k + 1) = amTo p l k + (if l.getD k false then p.owed.getD k 0 else 0) := rfl

set_option maxRecDepth 100000 in
set_option maxHeartbeats 8000000 in
theorem fair_walk (z : Int) (a : Option Addr) (len cap : Nat) (zs : List Int) (m : Int) (w : World) (hz : (Lit.int .i64 z).wf = true) (h : Ints w a len zs) (hwf : ∀ n ∈ zs, (Lit.int .i64 n).wf = true) (hr : len * 8 ≤ 140737488351232) (hm : (Lit.int .i64 m).wf = true) :
    Calls Try.prog 8 #[.int .i64 z, .slice a len cap, .int .i64 m] w fun e w' => e = .returned (.bool true) ∧ Below w.heap.size w w' := by
  have HI := hide h
  have HGR := hide (group_any z w hz)
  have hl8 : (bitsM z).length = 8 := by simp [bitsM]
  have hbits := bits_get z
  have hband := and_bit z
  have hC8 := gC_le (bitsM z) 8
  have hRt := R_text hl8
  have hRn := R_none hl8
  have hsz := str_size (gN (bitsM z) 8)
  rw [gN_len] at hsz
  clear h hwf hm hz
  obtain ⟨T, hT⟩ : ∃ T, strOfNums (gN (bitsM z) 8) = T := ⟨_, rfl⟩
  obtain ⟨n, hn⟩ : ∃ n, gC (bitsM z) 8 = n := ⟨_, rfl⟩
  rw [hT] at HGR hRt hRn hsz
  rw [hn] at HGR hRt hRn hC8 hsz
  obtain ⟨l, hl⟩ : ∃ l, bitsM z = l := ⟨_, rfl⟩
  rw [hl] at hl8 hbits hRt
  have hTz : T.size ≤ 1000000000000000 := by omega
  have ST := hide (share_any T zs m hTz)
  clear hT hn hl hsz
  by_cases hfit : checkE T = 0 ∧ givenE zs m = 0
  · obtain ⟨hc, hg⟩ := hfit
    have hn2 : 2 ≤ n := by
      by_cases hx : 2 ≤ n
      · exact hx
      · exact absurd hc (hRn hx)
    obtain ⟨_, hsem⟩ := hRt hn2
    obtain ⟨eT, lT, rT, nT⟩ := sh_fit hc hg
    rw [lT, rT, eT] at ST
    have HFT : Hid ((checkE T == 0 && givenE zs m == 0) = true) := by
      show _ = true
      simp [hc, hg]
    obtain ⟨hz8, hzb, hm0, hm9⟩ := given_ok hg
    have h8 : len = 8 := by rw [← (unhide HI).1, hz8]
    subst h8
    generalize shP T zs m = pT at ST
    obtain ⟨hk, hh⟩ := shr_keeps hc hg
    have hp0 : ∀ k, (pu0 zs m).paid.getD k 0 = 0 := by
      intro k
      simp only [pu0, List.getD_eq_getElem?_getD, List.getElem?_replicate]
      split <;> simp
    have hfo := Split.fair_ok (keeps0 hg) l hp0 rfl
    rw [hsem zs m] at ST nT hk hh
    have hab := fun k => Split.amTo_bd (keeps0 hg) l k
    have han := amTo_next (pu0 zs m) l
    have hpo : ∀ k, (pu0 zs m).owed.getD k 0 = zs.getD k 0 := fun _ => rfl
    obtain ⟨q, hq⟩ : ∃ q, propM (pu0 zs m) l = q := ⟨_, rfl⟩
    rw [hq] at ST nT hk hh hfo
    obtain ⟨A, hA⟩ : ∃ A : Nat → Int, A = amTo (pu0 zs m) l := ⟨_, rfl⟩
    rw [← hA] at hab han hfo
    have HA0 : Hid (A 0 = 0) := by show A 0 = 0; rw [hA]; rfl
    have HFO := hide hfo
    have HAB := hide hab
    have HAN := hide han
    have HK := hide (And.intro hk hh)
    have HNT := hide nT
    have HZB := hide hzb
    have HBITS := hide hbits
    have HBAND := hide hband
    have hn2' : ¬ (n : Int) < 2 := by omega
    clear hq hA hab han hfo hk hh nT hzb hc hg hsem eT lT rT hRt hRn hbits hband hpo hp0 hz8
    go_enter Try.func8, Try.ntmps8
    go_wp2_with fail
    refine (unhide HGR).mono ?_
    rintro e w1 ⟨rfl, hb1⟩
    have B1 := hide hb1
    clear hb1 HGR
    go_wp2_with fail
    refine (lshare_of T zs m _ _ _ _ (unhide ST) _ _ _ _ ((unhide HI).below (unhide B1)) hr).mono ?_
    rintro e w3 ⟨a3, n3, c3, rfl, hi3, hb3⟩
    have hn3 : n3 = 8 := by rw [← hi3.1]; exact unhide HNT
    subst hn3
    have I3 := hide hi3
    have B3 := hide (below_step (unhide B1) hb3)
    clear hi3 hb3 B1 ST
    go_wp2_with fail
    obtain ⟨hd, hhd⟩ : ∃ x, q.hand = x := ⟨_, rfl⟩
    rw [hhd]
    have HHD := hide hhd
    clear hhd
    obtain ⟨W3, hW3⟩ : ∃ W, w3.alloc (.cells #[.slice a3 8 c3, .int .i64 hd, .bool true] 38) = W := ⟨_, rfl⟩
    have hr3 : W3.heap[w3.heap.size]? = some (.cells #[.slice a3 8 c3, .int .i64 hd, .bool true] 38 (0, 0)) := by rw [← hW3]; exact heap_alloc_new _ _
    have hb3 : Below w3.heap.size w3 W3 := by rw [← hW3]; exact (Below.refl _ _).alloc (Nat.le_refl _) _
    rw [hW3]
    have J3 := hide ((unhide I3).below hb3)
    have C3 := hide (below_step (unhide B3) hb3)
    clear hW3 I3 B3 hb3
    obtain ⟨g3, hg3⟩ : ∃ g, w3.heap.size = g := ⟨_, rfl⟩
    rw [hg3] at hr3 ⊢
    clear hg3
    have R3 := hide hr3
    clear hr3
    refine (fit_any T _ 8 cap zs m _ hTz ((unhide HI).below (unhide C3)) hr).mono ?_
    rintro e w4 ⟨rfl, n4, hw4⟩
    rw [unhide HFT]
    have hb4 : Below W3.heap.size W3 w4 := by rw [hw4]; exact below_drewN (Below.refl _ _) _
    have J4 := hide ((unhide J3).below hb4)
    have C4 := hide (below_step (unhide C3) hb4)
    have R4 := hide ((hb4.block g3 (cell_lt (unhide R3))).trans (unhide R3))
    have I4 := hide ((unhide HI).below (unhide C4))
    clear hw4 hb4 J3 C3 R3
    obtain ⟨b3, o3, h3e, hc3⟩ := (unhide J4).2 (by omega)
    obtain ⟨b1, o1, h1e, hc1⟩ := (unhide I4).2 (by omega)
    subst h3e
    subst h1e
    have HC3 := hide hc3
    have HC1 := hide hc1
    clear hc3 hc1
    go_wp2_with fail
    go_loopw [11, 12] (fun tt ii wr => ∃ k : Nat, k ≤ 8 ∧ ii = .int .i64 k ∧ tt = .int .i64 (A k) ∧ Hid (∃ n, wr = w4.drewN n)) (fun _ ii _ => 8 - (intOf ii).toNat)
    case atStart => exact ⟨0, by omega, rfl, by rw [unhide HA0], ⟨0, rfl⟩⟩
    case round =>
      obtain ⟨k, hk, rfl, rfl, hw⟩ := hrel
      have hr5 : wr.heap[g3]? = some (.cells #[.slice (some ⟨b3, o3, none⟩) 8 c3, .int .i64 hd, .bool true] 38 (0, 0)) := by
        obtain ⟨n, hn⟩ := unhide hw
        rw [hn]; exact unhide R4
      have p0 := cell_of_row wr g3 0 _ _ _ hr5
      have p1 := cell_of_row wr g3 1 _ _ _ hr5
      have p2 := cell_of_row wr g3 2 _ _ _ hr5
      have hg5 : g3 < wr.heap.size := cell_lt hr5
      simp at p0 p1 p2
      have HR5 := hide hr5
      clear hr5
      have hak := unhide HAB k
      by_cases hlt : k < 8
      · have c3' : wr.cell? ⟨b3, o3 + k, none⟩ = some (.int .i64 (q.paid.getD k 0)) := by
          obtain ⟨n, hn⟩ := unhide hw
          rw [hn]; exact unhide HC3 k hlt
        have c1' : wr.cell? ⟨b1, o1 + k, none⟩ = some (.int .i64 (zs.getD k 0)) := by
          obtain ⟨n, hn⟩ := unhide hw
          rw [hn]; exact unhide HC1 k hlt
        have hbit := unhide HBAND k hlt
        have hget := unhide HBITS k hlt
        have hnx := unhide HAN k
        have hout := (unhide HFO).out k hlt
        have hzk := unhide HZB k
        obtain ⟨v, hv⟩ : ∃ v, bits BinOp.and IntKind.i64 z (wrap64 (2 ^ k)) = v := ⟨_, rfl⟩
        rw [hv] at hbit
        rw [← hget] at hbit
        cases hm : l.getD k false
        · rw [hm] at hbit hnx
          have hx0 := hout hm
          rw [hx0] at c3'
          have hnx' : A (k + 1) = A k := by
            rw [hnx]
            show A k + 0 = A k
            omega
          have HNX := hide hnx'
          clear hnx hnx' hout hx0 hget hm c1' hzk
          go_wp2_with fail
          go_roundw
          case rel => exact ⟨k + 1, by omega, by go_num, by rw [unhide HNX], by first | exact hw | exact drewN_more (unhide hw)⟩
          case measure => simp [intOf]; omega
        · rw [hm] at hbit hnx
          have hnx' : A (k + 1) = A k + zs.getD k 0 := by
            rw [hnx]
            rfl
          obtain ⟨x, hx⟩ : ∃ x, zs.getD k 0 = x := ⟨_, rfl⟩
          rw [hx] at hnx' c1' hzk
          have HNX := hide hnx'
          obtain ⟨y, hy⟩ : ∃ y, A k = y := ⟨_, rfl⟩
          rw [hy] at hak HNX ⊢
          have hak9 : y ≤ 8000000000 := by omega
          have hwr : IntKind.i64.wrap (y + x) = y + x := wrap_big (by omega) (by omega)
          clear hnx hnx' hout hget hm c3' hx hy
          go_wp2_with fail
          go_roundw
          case rel => exact ⟨k + 1, by omega, by go_num, by rw [unhide HNX], by first | exact hw | exact drewN_more (unhide hw)⟩
          case measure => simp [intOf]; omega
      · have hk8 : k = 8 := by omega
        subst hk8
        obtain ⟨t, ht⟩ : ∃ t, A 8 = t := ⟨_, rfl⟩
        rw [ht] at hak ⊢
        have hfo := unhide HFO
        rw [ht] at hfo
        have hlea := hfo.hand
        rw [unhide HHD] at hlea
        have hle1 := Split.lea_le m t
        have hle0 : 0 ≤ lea m t := by rcases Split.lea_eq m t with e | e <;> rw [e] <;> omega
        obtain ⟨mm, hmm⟩ : ∃ x, lea m t = x := ⟨_, rfl⟩
        rw [hmm] at hlea hle1 hle0
        have hpart := hfo.part
        rw [hmm] at hpart
        have HPART := hide hpart
        have HMM := hide hmm
        have hbw : Below w4.heap.size w4 wr := by
          obtain ⟨n, hn⟩ := unhide hw
          rw [hn]; exact below_drewN (Below.refl _ _) n
        have J5 := hide ((unhide J4).below hbw)
        have I5 := hide ((unhide I4).below hbw)
        have C5 := hide (below_step (unhide C4) hbw)
        have hlea2 : hd = m - mm := hlea
        have hwr : IntKind.i64.wrap (m - mm) = m - mm := wrap_big (by omega) (by omega)
        have hne : (hd != m - mm) = false := by rw [hlea2]; simp
        have HLS : Hid (∀ w', Calls Try.prog 27 #[.int .i64 m, .int .i64 t] w' fun e w'' => e = .returned (.int .i64 mm) ∧ w'' = w') := by
          intro w'
          have := lleast_any m t w'
          rw [unhide HMM] at this
          exact this
        clear hfo hpart hmm hlea hlea2 hbw hw HFO HAB HAN HA0 C4 J4 I4 HC1 HC3 ht
        go_wp2_with fail
        refine (unhide HLS _).mono ?_
        rintro e w6 ⟨rfl, hw6⟩
        have hw6 := hw6.symm
        subst hw6
        go_wp2_with fail
        refine (whole_true _ c3 q.paid hd _ cap zs m _ (unhide J5) (unhide I5) (unhide HK).1.pa ?_ ?_ ?_ hm9).mono ?_
        · intro i
          have h1 := (unhide HK).1.tot i
          have h2 := (unhide HK).1.ow i
          omega
        · have := (unhide HK).1.h0
          rw [unhide HHD] at this
          exact this
        · have h1 := (unhide HK).1.sum
          rw [(unhide HK).2, unhide HHD] at h1
          simpa using h1
        rintro e w7 ⟨rfl, hb7⟩
        have J7 := hide ((unhide J5).below hb7)
        have I7 := hide ((unhide I5).below hb7)
        have C7 := hide (below_step (unhide C5) hb7)
        have R7 := hide ((hb7.block g3 (cell_lt (unhide HR5))).trans (unhide HR5))
        clear hb7 J5 I5 C5 HR5 p0 p1 p2 hg5 hne hwr
        by_cases ht0 : t = 0
        · subst ht0
          go_wp2_with fail
          go_ret
          exact ⟨rfl, unhide C7⟩
        · have htb : (t == 0) = false := beq_eq_false_iff_ne.2 ht0
          have htp : 0 < t := by omega
          have hpart := unhide HPART htp
          have HPA := hide hpart
          have hmm9 : mm ≤ 1000000000 := by omega
          clear hpart HPART ht0
          go_wp2_with fail
          go_loopw [14, 15, 16] (fun ii jj _ wr => ∃ i : Nat, i ≤ 8 ∧ ii = .int .i64 i ∧ Hid (Below w7.heap.size w7 wr)) (fun ii _ _ _ => 8 - (intOf ii).toNat)
          case atStart => exact ⟨0, by omega, rfl, Below.refl _ _⟩
          case round =>
            obtain ⟨i, hi, rfl, hbi⟩ := hrel
            by_cases hlti : i < 8
            · go_wp2_with fail
              rw [show decide ((i : Int) < 8) = true from decide_eq_true (by omega)]
              have hbiti := unhide HBAND i hlti
              have hgeti := unhide HBITS i hlti
              obtain ⟨vi, hvi⟩ : ∃ v, bits BinOp.and IntKind.i64 z (wrap64 (2 ^ i)) = v := ⟨_, rfl⟩
              rw [hvi, ← hgeti] at hbiti
              obtain ⟨li, hli⟩ : ∃ x, l.getD i false = x := ⟨_, rfl⟩
              rw [hli] at hbiti
              have HLI := hide hli
              have HWR := hbi
              clear hgeti hli
              go_loopw [15, 16] (fun jj _ wx => ∃ j : Nat, j ≤ 8 ∧ jj = .int .i64 j ∧ Hid (Below w7.heap.size w7 wx)) (fun jj _ _ => 8 - (intOf jj).toNat)
              case atStart => exact ⟨0, by omega, rfl, HWR⟩
              case round =>
                obtain ⟨j, hj, rfl, hbj⟩ := hrel
                by_cases hltj : j < 8
                · have hbitj := unhide HBAND j hltj
                  have hgetj := unhide HBITS j hltj
                  obtain ⟨vj, hvj⟩ : ∃ v, bits BinOp.and IntKind.i64 z (wrap64 (2 ^ j)) = v := ⟨_, rfl⟩
                  rw [hvj, ← hgetj] at hbitj
                  obtain ⟨lj, hlj⟩ : ∃ x, l.getD j false = x := ⟨_, rfl⟩
                  rw [hlj] at hbitj
                  have HLJ := hide hlj
                  clear hgetj hlj
                  cases li
                  · go_wp2_with fail
                    go_roundw
                    case rel => exact ⟨j + 1, by omega, by go_num, hbj⟩
                    case measure => simp [intOf]; omega
                  cases lj
                  · go_wp2_with fail
                    go_roundw
                    case rel => exact ⟨j + 1, by omega, by go_num, hbj⟩
                    case measure => simp [intOf]; omega
                  have hrj := (unhide hbj).block g3 (cell_lt (unhide R7))
                  rw [unhide R7] at hrj
                  have p0 := cell_of_row _ g3 0 _ _ _ hrj
                  have p1 := cell_of_row _ g3 1 _ _ _ hrj
                  have p2 := cell_of_row _ g3 2 _ _ _ hrj
                  have hg8 := cell_lt hrj
                  simp at p0 p1 p2
                  clear hrj
                  go_wp2_with fail
                  refine (fair_true _ c3 q.paid hd _ cap zs mm t i j _ ((unhide J7).below (unhide hbj)) ((unhide I7).below (unhide hbj)) hlti hltj hle0 hmm9 htp (unhide HZB) ?_ ?_).mono ?_
                  · intro k
                    have h1 := (unhide HK).1.pa k
                    have h2 := (unhide HK).1.tot k
                    have h3 := (unhide HK).1.ow k
                    have h4 := (unhide HZB k).2
                    omega
                  · rcases unhide HPA i hlti (unhide HLI) with h | ⟨h1, h2, h3⟩
                    · exact .inl h
                    · exact .inr ⟨h1, h2, h3 j hltj (unhide HLJ)⟩
                  rintro e w9 ⟨rfl, hb9⟩
                  have B9 := hide (below_step (unhide hbj) hb9)
                  clear hb9 p0 p1 p2 hg8
                  go_wp2_with fail
                  go_roundw
                  case rel => exact ⟨j + 1, by omega, by go_num, B9⟩
                  case measure => simp [intOf]; omega
                · go_wp2_with fail
                  go_roundw
                  case rel => exact ⟨i + 1, by omega, by go_num, hbj⟩
                  case measure => simp [intOf]; omega
            · go_wp2_with fail
              go_ret
              exact ⟨rfl, below_step (unhide C7) (unhide hbi)⟩
  · obtain ⟨u1, u2⟩ := sh_unfit hfit
    have HU1 := hide u1
    have HU2 := hide u2
    generalize shL T zs m = lT at ST
    generalize shR T zs m = rT at ST
    generalize shP T zs m = pT at ST
    clear u1 u2 hRt hRn hbits hband hl8 hfit
    go_enter Try.func8, Try.ntmps8
    go_wp2_with fail
    refine (unhide HGR).mono ?_
    rintro e w1 ⟨rfl, hb1⟩
    have B1 := hide hb1
    clear hb1 HGR
    go_wp2_with fail
    refine (lshare_of T zs m _ _ _ _ (unhide ST) _ _ _ _ ((unhide HI).below (unhide B1)) hr).mono ?_
    rintro e w3 ⟨a3, n3, c3, rfl, hi3, hb3⟩
    rw [unhide HU1, Bool.false_and]
    have B3 := hide (below_step (unhide B1) hb3)
    clear hi3 hb3 B1 ST
    go_wp2_with fail
    obtain ⟨W3, hW3⟩ : ∃ W, w3.alloc (.cells #[.slice a3 n3 c3, .int .i64 rT, .bool false] 38) = W := ⟨_, rfl⟩
    have hr3 : W3.heap[w3.heap.size]? = some (.cells #[.slice a3 n3 c3, .int .i64 rT, .bool false] 38 (0, 0)) := by rw [← hW3]; exact heap_alloc_new _ _
    have hb3 : Below w3.heap.size w3 W3 := by rw [← hW3]; exact (Below.refl _ _).alloc (Nat.le_refl _) _
    rw [hW3]
    have C3 := hide (below_step (unhide B3) hb3)
    clear hW3 B3 hb3
    obtain ⟨g3, hg3⟩ : ∃ g, w3.heap.size = g := ⟨_, rfl⟩
    rw [hg3] at hr3 ⊢
    clear hg3
    have R3 := hide hr3
    clear hr3
    refine (fit_any T _ _ cap zs m _ hTz ((unhide HI).below (unhide C3)) hr).mono ?_
    rintro e w4 ⟨rfl, n4, hw4⟩
    rw [unhide HU2]
    have hb4 : Below W3.heap.size W3 w4 := by rw [hw4]; exact below_drewN (Below.refl _ _) _
    have C4 := hide (below_step (unhide C3) hb4)
    have p2 := cell_of_row w4 g3 2 _ _ _ ((hb4.block g3 (cell_lt (unhide R3))).trans (unhide R3))
    simp at p2
    clear hw4 hb4
    by_cases hn2 : (n : Int) < 2
    · go_wp2_with fail
      go_ret
      exact ⟨rfl, unhide C4⟩
    · go_wp2_with fail
      go_ret
      exact ⟨rfl, unhide C4⟩
end Go.Proofs.Ytmdjdpofpkgffaa
