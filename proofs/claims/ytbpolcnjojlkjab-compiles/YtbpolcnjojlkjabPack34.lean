/- Encode, RunW -/
import Derived.Test.YtbpolcnjojlkjabPack33
import Derived.Test.YtbpolcnjojlkjabPack11
import Derived.Laws.BytesArg
import Derived.Test.YtbpolcnjojlkjabPack13
import Derived.Test.YtbpolcnjojlkjabPack30

/- split's bitsOf and encode. -/
namespace Go.Proofs.Ytbpolcnjojlkjab
open Go.ChangeShapes Go.WideShapes Go.ChangeAt Go.RowKit
open Split (byt byt_lt St SOk none8 heldM InCode)
set_option linter.unusedVariables false
set_option linter.unusedSimpArgs false

theorem bv_bd (l : List Bool) : ∀ n, n ≤ 8 → 0 ≤ bvF l n ∧ bvF l n < 2 ^ n
  | 0, _ => by simp [bvF]
  | n + 1, h => by
    have ih := bv_bd l n (by omega)
    have e : (2 : Int) ^ (n + 1) = 2 * 2 ^ n := by rw [Int.pow_succ, Int.mul_comm]
    unfold bvF
    rw [e]
    generalize (2 : Int) ^ n = p at *
    split <;> omega

set_option maxHeartbeats 2000000 in
theorem bitsOf_any (m0 m1 m2 m3 m4 m5 m6 m7 : Bool) (w : World) :
    Calls Try.prog 29 #[.agg #[.bool m0, .bool m1, .bool m2, .bool m3, .bool m4, .bool m5, .bool m6, .bool m7]] w fun e w' => e = .returned (.int .i64 (bvF [m0, m1, m2, m3, m4, m5, m6, m7] 8)) ∧ Below w.heap.size w w' := by
  have hB := bl_box w m0 m1 m2 m3 m4 m5 m6 m7
  have HB := hide hB
  clear hB
  have HBL : Hid (Below w.heap.size w (w.alloc (.cells #[.bool m0, .bool m1, .bool m2, .bool m3, .bool m4, .bool m5, .bool m6, .bool m7] 61))) := (Below.refl _ _).alloc (Nat.le_refl _) _
  obtain ⟨l, hl⟩ : ∃ l, [m0, m1, m2, m3, m4, m5, m6, m7] = l := ⟨_, rfl⟩
  rw [hl] at HB ⊢
  clear hl
  obtain ⟨W, hW⟩ : ∃ W, w.alloc (.cells #[.bool m0, .bool m1, .bool m2, .bool m3, .bool m4, .bool m5, .bool m6, .bool m7] 61) = W := ⟨_, rfl⟩
  rw [hW] at HB HBL
  have hWl : w.heap.size < W.heap.size := cell_lt (unhide HB).2
  have HW := hide hW
  clear hW
  go_enter Try.func29, Try.ntmps29
  go_wp2_with fail
  rw [unhide HW]
  go_loopw [3, 4] (fun tt ii wr => ∃ n : Nat, n ≤ 8 ∧ ii = .int .i64 (7 - (n : Int)) ∧ tt = .int .i64 (bvF l n) ∧ Hid (wr = W)) (fun _ ii _ => (intOf ii + 1).toNat)
  case atStart => exact ⟨0, by omega, rfl, rfl, rfl⟩
  case round =>
    obtain ⟨n, hn, rfl, rfl, hw⟩ := hrel
    have hw := unhide hw
    subst hw
    have hb := bv_bd l n hn
    by_cases hlt : n < 8
    · obtain ⟨i, hi⟩ : ∃ i : Nat, 7 - n = i := ⟨_, rfl⟩
      have hi7 : (7 : Int) - n = i := by omega
      have hi8 : i < 8 := by omega
      have cb := (unhide HB).cell i hi8
      have hp : (2 : Int) ^ n ≤ 2 ^ 7 := by
        have : 2 ^ n ≤ 2 ^ 7 := Nat.pow_le_pow_right (by omega) (by omega)
        exact_mod_cast this
      have hnx : bvF l (n + 1) = 2 * bvF l n + (if l.getD i false then 1 else 0) := by rw [bvF, hi]
      obtain ⟨v, hv⟩ : ∃ v, bvF l n = v := ⟨_, rfl⟩
      rw [hv] at hb hnx ⊢
      have hv9 : v ≤ 200 := by omega
      have HNX := hide hnx
      have hb0 : 0 ≤ v := hb.1
      clear hp hnx hv hb
      rw [hi7]
      cases hm : l.getD i false
      · rw [hm] at cb HNX
        clear hm
        go_wp2_with fail
        go_roundw
        case rel => exact ⟨n + 1, by omega, by congr 1; omega, by rw [unhide HNX]; congr 1; simp; omega, by first | trivial | rfl⟩
        case measure => simp [intOf]
      · rw [hm] at cb HNX
        clear hm
        go_wp2_with fail
        go_roundw
        case rel => exact ⟨n + 1, by omega, by congr 1; omega, by rw [unhide HNX]; congr 1; simp; omega, by first | trivial | rfl⟩
        case measure => simp [intOf]
    · have h8 : n = 8 := by omega
      subst h8
      have hlt' : ¬ (0 : Int) ≤ 7 - ((8 : Nat) : Int) := by omega
      obtain ⟨v, hv⟩ : ∃ v, bvF l 8 = v := ⟨_, rfl⟩
      rw [hv]
      have HV := hide hv
      clear hv hb
      go_wp2_with fail
      go_ret
      exact ⟨by rw [unhide HV]; rfl, unhide HBL⟩

def encS (s : St) : List Int := [s.kind, aE s, bE s, nE s / 256, nE s % 256]
def encL (ss : List St) : List Int := ss.flatMap encS
/-- The code. -/
def encT (ss : List St) : ByteArray := strOfNums (encL ss)

theorem encL_len (ss : List St) : (encL ss).length = ss.length * 5 := by
  induction ss with
  | nil => rfl
  | cons s ss ih =>
    show (encS s ++ encL ss).length = _
    rw [List.length_append, ih, List.length_cons]
    simp [encS]
    omega
theorem encL_snoc (ss : List St) (s : St) : encL (ss ++ [s]) = encL ss ++ encS s := by simp [encL]
theorem encL_take {ss : List St} {k : Nat} (h : k < ss.length) : encL (ss.take (k + 1)) = encL (ss.take k) ++ encS ss[k] := by
  rw [List.take_add_one, List.getElem?_eq_getElem h]
  exact encL_snoc _ _

theorem news5 {W : World} {g : Nat} {x0 x1 x2 x3 x4 : Int} (h : W.heap[g]? = some (.cells #[.int .u8 x0, .int .u8 x1, .int .u8 x2, .int .u8 x3, .int .u8 x4] 5 (0, 0))) : ∀ j u, ([x0, x1, x2, x3, x4].map (Value.int .u8))[j]? = some u → W.cell? ((⟨g, 0, none⟩ : Addr).add j) = some u := by
  intro j u hj
  rw [add_plain, Nat.zero_add, cell_of_row W g j _ _ _ h]
  simpa using hj
theorem one5 (xs : List Int) : ∀ u ∈ xs.map (Value.int .u8), u.oneCell' = true := by
  intro u hu
  simp only [List.mem_map] at hu
  obtain ⟨x, _, rfl⟩ := hu
  rfl

theorem infoByte : (Try.prog.info? 5).map (fun i => (i.zero, i.size, i.bytes)) = some (some (.int .u8 0), 1, 1) := by kernel_rfl

set_option maxRecDepth 100000 in
set_option maxHeartbeats 8000000 in
theorem encode_any (ss : List St) (base : Nat) (sa : Option Addr) (scap : Nat) (w : World) (hS : w.ownsRow base 63 12 (.slice sa ss.length scap) ss.length (flat ss)) (hok : ∀ s ∈ ss, EncF s) (hl : ss.length ≤ 200) :
    Calls Try.prog 18 #[.slice sa ss.length scap] w fun e w' => e = .returned (.string (encT ss)) ∧ Below w.heap.size w w' := by
  obtain ⟨_, _, he, hcap, hsa⟩ := own_slice hS
  simp only [Value.slice.injEq, true_and] at he
  obtain ⟨rfl, rfl⟩ := he
  obtain ⟨i0, hi, hz0, hz1, hz2⟩ := info_parts infoByte
  have HS := hide hS
  have HOK := hide hok
  have HSA := hide hsa
  obtain ⟨n, hn⟩ : ∃ n, ss.length = n := ⟨_, rfl⟩
  have HN := hide hn
  rw [hn] at hl hcap ⊢
  clear hS hok hn hsa
  go_enter Try.func18, Try.ntmps18
  go_wp2_with fail
  go_loopw [3, 4, 5, 6, 7, 8] (fun cc ii _ _ _ _ wr => ∃ k : Nat, k ≤ n ∧ ii = .int .i64 k ∧ Hid (wr.ownsRow w.heap.size 5 1 cc (k * 5) ((encL (ss.take k)).map (Value.int .u8))) ∧ Hid (Below w.heap.size w wr)) (fun _ ii _ _ _ _ _ => n - (intOf ii).toNat)
  case atStart => exact ⟨0, by omega, rfl, World.ownsRow_nil _ _ _ _, Below.refl _ _⟩
  case round =>
    obtain ⟨k, hk, rfl, ho, hb⟩ := hrel
    obtain ⟨va, vcap, rfl, hvc, hva⟩ := own_slice (unhide ho)
    by_cases hlt : k < n
    · have hsl : k < ss.length := by rw [unhide HN]; exact hlt
      have hef := unhide HOK _ (List.getElem_mem hsl)
      have htk := encL_take hsl
      obtain ⟨⟨kind, bucket, amount, among, leave⟩, hse⟩ : ∃ s, ss[k] = s := ⟨_, rfl⟩
      rw [hse] at hef htk
      obtain ⟨hd, hk8, ha8, hb8, hn8, _, hso⟩ := hef
      obtain ⟨⟨b, hbb, hbe⟩, ha0, ha1, hah, ham, ⟨l, hl1, hle⟩⟩ := hso
      dsimp only at hbe ha0 ha1 hah ham hle hk8
      subst hbe
      subst hle
      obtain ⟨m0, m1, m2, m3, m4, m5, m6, m7, hame⟩ : ∃ m0 m1 m2 m3 m4 m5 m6 m7, among = [m0, m1, m2, m3, m4, m5, m6, m7] := by
        match among, ham with
        | [m0, m1, m2, m3, m4, m5, m6, m7], _ => exact ⟨m0, m1, m2, m3, m4, m5, m6, m7, rfl⟩
      subst hame
      obtain ⟨gs, hgs⟩ := unhide HSA (by omega)
      subst hgs
      have hgsl : gs < w.heap.size := ((unhide HS).lt gs rfl).2
      have hcells := step_cells (unhide HS) rfl hsl hse
      obtain ⟨d0, d1, d2, d3, d4, d5, d6, d7, d8, d9, d10, d11⟩ := hcells
      rw [← (unhide hb).cell (p := ⟨gs, _, none⟩) hgsl] at d0 d1 d2 d3 d4 d5 d6 d7 d8 d9 d10 d11
      have HTK := hide htk
      clear ham hse hd htk
      have hbs : w.heap.size ≤ wr.heap.size := (unhide hb).size
      by_cases h67 : kind = 67
      · subst h67
        have HNN : Hid (0 ≤ amount ∧ amount ≤ 65535) := by
          show _ ∧ _
          simpa [nE] using hn8
        go_wp2_with (at_builtin; refine wpList_append_own _ rfl (.tmp 46) (.tmp 59) 60 rfl w.heap.size 5 i0 (.int .u8 0) 1 1 Try.underlying60 hi hz0 hz1 hz2 rfl (by decide) _ (k * 5) ((encL (ss.take k)).map (Value.int .u8)) rfl (by exact World.ownsRow.alloc (World.ownsRow.alloc (unhide ho) _) _) ⟨wr.heap.size + 1, 0, none⟩ 5 5 ([67, (b : Int), 0, amount / 256 % 256, amount % 256].map (Value.int .u8)) rfl rfl (news5 (alloc_at (by simp) rfl)) (one5 _) (by unfold maxLen; omega) (by omega) (by simp; omega) ?_; intro v' w3 hown hgrow _)
        obtain ⟨a2, cap2, rfl, hle2, _⟩ := own_slice hown
        go_roundw
        case rel =>
          refine ⟨k + 1, by omega, by go_num, ?_, ?_⟩
          · rw [unhide HTK, List.map_append, show (k + 1) * 5 = k * 5 + 5 by omega]
            rw [show encS ⟨67, (b : Nat), amount, [m0, m1, m2, m3, m4, m5, m6, m7], (l : Nat)⟩ = [67, (b : Int), 0, amount / 256 % 256, amount % 256] from by have := unhide HNN; simp [encS, aE, bE, nE]; omega]
            exact hown
          · exact (((unhide hb).alloc hbs _).alloc (by simp; omega) _).trans (below_of_grown hgrow (by simp; omega) (fun q hq => by have := (unhide ho).lt q hq; omega))
        case measure => simp [intOf]; omega
      by_cases h72 : kind = 72
      · subst h72
        have hnn : 0 ≤ amount ∧ amount ≤ 255 := by simpa [aE] using ha8
        go_wp2_with (at_builtin; refine wpList_append_own _ rfl (.tmp 46) (.tmp 59) 60 rfl w.heap.size 5 i0 (.int .u8 0) 1 1 Try.underlying60 hi hz0 hz1 hz2 rfl (by decide) _ (k * 5) ((encL (ss.take k)).map (Value.int .u8)) rfl (by exact World.ownsRow.alloc (World.ownsRow.alloc (unhide ho) _) _) ⟨wr.heap.size + 1, 0, none⟩ 5 5 ([72, amount, 0, 0, 0].map (Value.int .u8)) rfl rfl (news5 (alloc_at (by simp) rfl)) (one5 _) (by unfold maxLen; omega) (by omega) (by simp; omega) ?_; intro v' w3 hown hgrow _)
        obtain ⟨a2, cap2, rfl, hle2, _⟩ := own_slice hown
        go_roundw
        case rel =>
          refine ⟨k + 1, by omega, by go_num, ?_, ?_⟩
          · rw [unhide HTK, List.map_append, show (k + 1) * 5 = k * 5 + 5 by omega]
            rw [show encS ⟨72, (b : Nat), amount, [m0, m1, m2, m3, m4, m5, m6, m7], (l : Nat)⟩ = [72, amount, 0, 0, 0] from by simp [encS, aE, bE, nE]]
            exact hown
          · exact (((unhide hb).alloc hbs _).alloc (by simp; omega) _).trans (below_of_grown hgrow (by simp; omega) (fun q hq => by have := (unhide ho).lt q hq; omega))
        case measure => simp [intOf]; omega
      by_cases h74 : kind = 74
      · subst h74
        have hnn : (l : Int) ≤ 255 := by simpa [aE] using ha8.2
        go_wp2_with (at_builtin; refine wpList_append_own _ rfl (.tmp 46) (.tmp 59) 60 rfl w.heap.size 5 i0 (.int .u8 0) 1 1 Try.underlying60 hi hz0 hz1 hz2 rfl (by decide) _ (k * 5) ((encL (ss.take k)).map (Value.int .u8)) rfl (by exact World.ownsRow.alloc (World.ownsRow.alloc (unhide ho) _) _) ⟨wr.heap.size + 1, 0, none⟩ 5 5 ([74, (l : Int), 0, 0, 0].map (Value.int .u8)) rfl rfl (news5 (alloc_at (by simp) rfl)) (one5 _) (by unfold maxLen; omega) (by omega) (by simp; omega) ?_; intro v' w3 hown hgrow _)
        obtain ⟨a2, cap2, rfl, hle2, _⟩ := own_slice hown
        go_roundw
        case rel =>
          refine ⟨k + 1, by omega, by go_num, ?_, ?_⟩
          · rw [unhide HTK, List.map_append, show (k + 1) * 5 = k * 5 + 5 by omega]
            rw [show encS ⟨74, (b : Nat), amount, [m0, m1, m2, m3, m4, m5, m6, m7], (l : Nat)⟩ = [74, (l : Int), 0, 0, 0] from by simp [encS, aE, bE, nE]]
            exact hown
          · exact (((unhide hb).alloc hbs _).alloc (by simp; omega) _).trans (below_of_grown hgrow (by simp; omega) (fun q hq => by have := (unhide ho).lt q hq; omega))
        case measure => simp [intOf]; omega
      by_cases h73 : kind = 73
      · subst h73
        have hnn : (l : Int) ≤ 255 := by simpa [bE] using hb8.2
        have HNN : Hid (0 ≤ amount ∧ amount ≤ 65535) := by
          show _ ∧ _
          simpa [nE] using hn8
        go_wp2_with (at_builtin; refine wpList_append_own _ rfl (.tmp 46) (.tmp 59) 60 rfl w.heap.size 5 i0 (.int .u8 0) 1 1 Try.underlying60 hi hz0 hz1 hz2 rfl (by decide) _ (k * 5) ((encL (ss.take k)).map (Value.int .u8)) rfl (by exact World.ownsRow.alloc (World.ownsRow.alloc (unhide ho) _) _) ⟨wr.heap.size + 1, 0, none⟩ 5 5 ([73, (b : Int), (l : Int), amount / 256 % 256, amount % 256].map (Value.int .u8)) rfl rfl (news5 (alloc_at (by simp) rfl)) (one5 _) (by unfold maxLen; omega) (by omega) (by simp; omega) ?_; intro v' w3 hown hgrow _)
        obtain ⟨a2, cap2, rfl, hle2, _⟩ := own_slice hown
        go_roundw
        case rel =>
          refine ⟨k + 1, by omega, by go_num, ?_, ?_⟩
          · rw [unhide HTK, List.map_append, show (k + 1) * 5 = k * 5 + 5 by omega]
            rw [show encS ⟨73, (b : Nat), amount, [m0, m1, m2, m3, m4, m5, m6, m7], (l : Nat)⟩ = [73, (b : Int), (l : Int), amount / 256 % 256, amount % 256] from by have := unhide HNN; simp [encS, aE, bE, nE]; omega]
            exact hown
          · exact (((unhide hb).alloc hbs _).alloc (by simp; omega) _).trans (below_of_grown hgrow (by simp; omega) (fun q hq => by have := (unhide ho).lt q hq; omega))
        case measure => simp [intOf]; omega
      by_cases h82 : kind = 82
      · subst h82
        obtain ⟨v, hv⟩ : ∃ v, bvF [m0, m1, m2, m3, m4, m5, m6, m7] 8 = v := ⟨_, rfl⟩
        have hvb : 0 ≤ v ∧ v ≤ 255 := by rw [← hv]; simpa [aE] using ha8
        have HV := hide hv
        clear hv
        obtain ⟨W, hW⟩ : ∃ W, wr.alloc (.cells #[.int .u8 82, .int .i64 (b : Nat), .int .i64 amount, .bool m0, .bool m1, .bool m2, .bool m3, .bool m4, .bool m5, .bool m6, .bool m7, .int .i64 (l : Nat)] 63) = W := ⟨_, rfl⟩
        have hrow : W.heap[wr.heap.size]? = some (.cells #[.int .u8 82, .int .i64 (b : Nat), .int .i64 amount, .bool m0, .bool m1, .bool m2, .bool m3, .bool m4, .bool m5, .bool m6, .bool m7, .int .i64 (l : Nat)] 63 (0, 0)) := by rw [← hW]; exact heap_alloc_new _ _
        have hbW : Below wr.heap.size wr W := by rw [← hW]; exact (Below.refl _ _).alloc (Nat.le_refl _) _
        have HW := hide hW
        have HROW := hide hrow
        have HBW := hide hbW
        clear hW hrow hbW
        go_wp2_with fail
        rw [unhide HW]
        refine (bitsOf_any m0 m1 m2 m3 m4 m5 m6 m7 _).mono ?_
        rintro e w4 ⟨rfl, hb4⟩
        rw [unhide HV]
        have hrow4 := (hb4.block wr.heap.size (cell_lt (unhide HROW))).trans (unhide HROW)
        have hl4 : wr.heap.size < w4.heap.size := cell_lt hrow4
        have r0 := cell_of_row w4 wr.heap.size 0 _ _ _ hrow4
        simp at r0
        have hbb4 := below_step (unhide HBW) hb4
        have B4 := hide (below_step (unhide hb) hbb4)
        have hbs4 : w.heap.size ≤ w4.heap.size := (unhide B4).size
        have O4 : Hid (w4.ownsRow w.heap.size 5 1 (.slice va (k * 5) vcap) (k * 5) ((encL (ss.take k)).map (Value.int .u8))) := by
          refine ⟨(unhide ho).1, ?_⟩
          rcases (unhide ho).2 with ⟨q, q'⟩ | ⟨g', cap', cur, q, q1, q2, q3⟩
          · exact .inl ⟨q, q'⟩
          · exact .inr ⟨g', cap', cur, q, q1, by rw [hbb4.block g' (cell_lt q2)]; exact q2, q3⟩
        clear hb4 hrow4 hbb4
        go_wp2_with (at_builtin; refine wpList_append_own _ rfl (.tmp 46) (.tmp 59) 60 rfl w.heap.size 5 i0 (.int .u8 0) 1 1 Try.underlying60 hi hz0 hz1 hz2 rfl (by decide) _ (k * 5) ((encL (ss.take k)).map (Value.int .u8)) rfl (by exact World.ownsRow.alloc (unhide O4) _) ⟨w4.heap.size, 0, none⟩ 5 5 ([82, v, 0, 0, 0].map (Value.int .u8)) rfl rfl (news5 (alloc_at (by simp) rfl)) (one5 _) (by unfold maxLen; omega) (by omega) (by simp; omega) ?_; intro v' w5 hown hgrow _)
        obtain ⟨a2, cap2, rfl, hle2, _⟩ := own_slice hown
        go_roundw
        case rel =>
          refine ⟨k + 1, by omega, by go_num, ?_, ?_⟩
          · rw [unhide HTK, List.map_append, show (k + 1) * 5 = k * 5 + 5 by omega]
            rw [show encS ⟨82, (b : Nat), amount, [m0, m1, m2, m3, m4, m5, m6, m7], (l : Nat)⟩ = [82, v, 0, 0, 0] from by rw [← unhide HV]; simp [encS, aE, bE, nE]]
            exact hown
          · exact ((unhide B4).alloc hbs4 _).trans (below_of_grown hgrow (by simp; omega) (fun q hq => by have := (unhide O4).lt q hq; omega))
        case measure => simp [intOf]; omega
      have q1 : (kind == 67) = false := beq_eq_false_iff_ne.2 h67
      have q2 : (kind == 82) = false := beq_eq_false_iff_ne.2 h82
      have q3 : (kind == 72) = false := beq_eq_false_iff_ne.2 h72
      have q4 : (kind == 74) = false := beq_eq_false_iff_ne.2 h74
      have q5 : (kind == 73) = false := beq_eq_false_iff_ne.2 h73
      have HKK := hide (And.intro h67 (And.intro h82 (And.intro h72 (And.intro h74 h73))))
      clear h67 h82 h72 h74 h73
      go_wp2_with (at_builtin; refine wpList_append_own _ rfl (.tmp 46) (.tmp 59) 60 rfl w.heap.size 5 i0 (.int .u8 0) 1 1 Try.underlying60 hi hz0 hz1 hz2 rfl (by decide) _ (k * 5) ((encL (ss.take k)).map (Value.int .u8)) rfl (by exact World.ownsRow.alloc (World.ownsRow.alloc (unhide ho) _) _) ⟨wr.heap.size + 1, 0, none⟩ 5 5 ([kind, (b : Int), 0, 0, 0].map (Value.int .u8)) rfl rfl (news5 (alloc_at (by simp) rfl)) (one5 _) (by unfold maxLen; omega) (by omega) (by simp; omega) ?_; intro v' w3 hown hgrow _)
      obtain ⟨a2, cap2, rfl, hle2, _⟩ := own_slice hown
      go_roundw
      case rel =>
        refine ⟨k + 1, by omega, by go_num, ?_, ?_⟩
        · rw [unhide HTK, List.map_append, show (k + 1) * 5 = k * 5 + 5 by omega]
          rw [show encS ⟨kind, (b : Nat), amount, [m0, m1, m2, m3, m4, m5, m6, m7], (l : Nat)⟩ = [kind, (b : Int), 0, 0, 0] from by obtain ⟨z1, z2, z3, z4, z5⟩ := unhide HKK; simp [encS, aE, bE, nE, z1, z2, z3, z4, z5]]
          exact hown
        · exact (((unhide hb).alloc hbs _).alloc (by simp; omega) _).trans (below_of_grown hgrow (by simp; omega) (fun q hq => by have := (unhide ho).lt q hq; omega))
      case measure => simp [intOf]; omega
    · have hkn : k = n := by omega
      subst hkn
      have htk : ss.take k = ss := List.take_of_length_le (by rw [unhide HN]; exact Nat.le_refl _)
      have hrow := unhide ho
      rw [htk] at hrow
      have hlen : (encL ss).length = k * 5 := by rw [encL_len, unhide HN]
      have hc : (convert 60 9 (.slice va (k * 5) vcap)).run Try.prog wr = .ok (.string (encT ss)) wr := by
        rcases hrow.2 with ⟨q, q'⟩ | ⟨g', cap', cur, q, q1, q2, q3⟩
        · simp only [Value.slice.injEq] at q
          obtain ⟨rfl, hq0, rfl⟩ := q
          have h0 : encL ss = [] := List.eq_nil_of_length_eq_zero (by omega)
          have e : encT ss = ByteArray.empty := by unfold encT; rw [h0]; rfl
          rw [e]
          exact run_convert_bytes_nil _ 60 5 (by kernel_rfl) (by kernel_rfl) _ _ 9 (by kernel_rfl)
        · simp only [Value.slice.injEq, true_and] at q
          obtain ⟨rfl, rfl⟩ := q
          refine run_convert_bytes_arg _ 60 5 (by kernel_rfl) (by kernel_rfl) g' 0 (k * 5) vcap (encL ss) hlen ?_ 9 (by kernel_rfl)
          intro i hi
          rw [Nat.zero_add, hrow.cellAt i (by omega), List.getElem?_map, List.getElem?_eq_getElem (by omega)]
          simp [List.getElem?_eq_getElem (show i < (encL ss).length by omega)]
      clear hrow htk hlen
      obtain ⟨T, hT⟩ : ∃ T, encT ss = T := ⟨_, rfl⟩
      rw [hT] at hc
      have HT := hide hT
      clear hT
      go_wp2_with fail
      go_ret
      exact ⟨by rw [unhide HT]; rfl, unhide hb⟩
end Go.Proofs.Ytbpolcnjojlkjab

/- split's Verify and Run. -/
namespace Go.Proofs.Ytbpolcnjojlkjab
open Go.ChangeShapes Go.WideShapes Go.ChangeAt Go.RowKit
open Split (St SOk Pu Keeps execM heldM InCode)
set_option linter.unusedVariables false
set_option linter.unusedSimpArgs false

theorem verify_any (c : ByteArray) (w : World) (hs : c.size ≤ 1000000000000000) : Calls Try.prog 12 #[.string c] w fun e w' => e = .returned (.tuple #[.int .i64 (loadE c), .int .i64 (loadP c)]) ∧ Below w.heap.size w w' := by
  go_enter Try.func12, Try.ntmps12
  go_wp2_with fail
  refine (load_any c _ hs).mono ?_
  rintro e w1 ⟨vs, rfl, _, _, hb⟩
  have HB := hide hb
  clear hb
  generalize hpe : loadE c = pe at *
  generalize hpp : loadP c = pp at *
  have HG := hide (And.intro hpe hpp)
  clear hpe hpp
  go_wp2_with fail
  go_ret2
  exact ⟨by rw [(unhide HG).1, (unhide HG).2]; rfl, unhide HB⟩

/-- Code that is admitted. -/
theorem load_ok {c : ByteArray} (h : loadE c = 0) : (∀ s ∈ codeM c (cntM c), SOk s) ∧ (∀ (i : Nat) (hi : i < (codeM c (cntM c)).length), InCode (codeM c (cntM c)).length i (codeM c (cntM c))[i]) ∧ heldM (codeM c (cntM c)) = -1 ∧ cntM c ≤ 200 := by
  unfold loadE at h
  by_cases hl : 600 < c.size
  · rw [if_pos hl] at h; simp at h
  · rw [if_neg hl] at h
    by_cases hb : badM c < cntM c
    · rw [if_pos hb] at h; simp at h
    · rw [if_neg hb] at h
      have hall : ∀ j, j < cntM c → okAt c j = true := by
        intro j hj
        cases hx : okAt c j
        · exfalso
          apply hb
          unfold badM
          have := List.findIdx_lt_length_of_exists (p := fun i => !okAt c i) (xs := List.range (cntM c)) ⟨j, by simpa using hj, by simp [hx]⟩
          simpa using this
        · rfl
      have := code_sok hall
      exact ⟨this.1, this.2, (held_zero h).2, by unfold cntM; omega⟩

def ruE (c : ByteArray) (zs : List Int) (m : Int) : Int := if loadE c = 0 then givenE zs m else loadE c
def ruP (c : ByteArray) (zs : List Int) (m : Int) : Int := if loadE c = 0 then stP zs m else loadP c
def ruL (c : ByteArray) (zs : List Int) (m : Int) : List Int := if loadE c = 0 then stL (codeM c (cntM c)) zs m else []
def ruR (c : ByteArray) (zs : List Int) (m : Int) : Int := if loadE c = 0 then stR (codeM c (cntM c)) zs m else 0

set_option maxHeartbeats 4000000 in
theorem run_any (c : ByteArray) (zs : List Int) (m : Int) (hc : c.size ≤ 1000000000000000) (a : Option Addr) (len cap : Nat) (w : World) (h : Ints w a len zs) (hr : len * 8 ≤ 140737488351232) :
    Calls Try.prog 14 #[.string c, .slice a len cap, .int .i64 m] w fun e w' => ∃ (a' : Option Addr) (n c' : Nat), e = .returned (.tuple #[.slice a' n c', .int .i64 (ruR c zs m), .int .i64 (ruE c zs m), .int .i64 (ruP c zs m)]) ∧ Ints w' a' n (ruL c zs m) ∧ (∀ b, a' = some b → w.heap.size ≤ b.block) ∧ Below w.heap.size w w' := by
  have HLD := hide (load_any c w hc)
  by_cases hl : loadE c = 0
  · have e1 : ruE c zs m = givenE zs m := by simp [ruE, hl]
    have e2 : ruP c zs m = stP zs m := by simp [ruP, hl]
    have e3 : ruL c zs m = stL (codeM c (cntM c)) zs m := by simp [ruL, hl]
    have e4 : ruR c zs m = stR (codeM c (cntM c)) zs m := by simp [ruR, hl]
    rw [e1, e2, e3, e4]
    clear e1 e2 e3 e4
    have hok := load_ok hl
    have hcl : (codeM c (cntM c)).length = cntM c := codeM_len _ _
    obtain ⟨ss, hss⟩ : ∃ ss, codeM c (cntM c) = ss := ⟨_, rfl⟩
    rw [hss] at hcl hok ⊢
    have HOK := hide hok
    have HCL := hide hcl
    have HSS := hide hss
    clear hok hcl hss
    have HI := hide h
    have HLE := hide hl
    clear h hl
    go_enter Try.func14, Try.ntmps14
    go_wp2_with fail
    refine (unhide HLD).mono ?_
    rintro e w1 ⟨vs, rfl, hown, _, hb1⟩
    have hown := hown (unhide HLE)
    rw [unhide HLE]
    obtain ⟨sa, scap, rfl, hsc, _⟩ := own_slice hown
    rw [unhide HSS] at hown
    rw [← unhide HCL] at hown ⊢
    have hl2 : ss.length ≤ 200 := by rw [unhide HCL]; exact (unhide HOK).2.2.2
    have HOWN := hide hown
    have HB1 := hide hb1
    have hI1 := hide ((unhide HI).below hb1)
    clear hown hb1 HLD hsc HSS HCL
    generalize hcp : loadP c = cp
    clear hcp
    go_wp2_with fail
    refine (settle_any ss _ _ _ _ _ _ zs m _ (unhide hI1) hr (unhide HOWN) (unhide HOK).1 hl2).mono ?_
    rintro e w2 ⟨a', n, c', rfl, hi2, hf2, hb2⟩
    have HI2 := hide hi2
    have HF2 := hide hf2
    have HB2 := hide hb2
    clear hi2 hf2 hb2
    generalize hge : givenE zs m = ge at *
    generalize hgp : stP zs m = gp at *
    generalize hgr : stR ss zs m = gr at *
    have HG := hide (And.intro hge (And.intro hgp hgr))
    clear hge hgp hgr
    go_wp2_with fail
    refine bodyPost_ret (v := .tuple #[.slice a' n c', .int .i64 gr, .int .i64 ge, .int .i64 gp]) (by simp [results, Try.results14, go_sem]) rfl ?_
    first
      | exact ⟨a', n, c', rfl, unhide HI2, fun b hb => Nat.le_trans (unhide HB1).size (unhide HF2 b hb), below_step (unhide HB1) (unhide HB2)⟩
      | exact ⟨a', n, c', by rw [(unhide HG).1, (unhide HG).2.1, (unhide HG).2.2], unhide HI2, fun b hb => Nat.le_trans (unhide HB1).size (unhide HF2 b hb), below_step (unhide HB1) (unhide HB2)⟩
  · have e1 : ruE c zs m = loadE c := by simp [ruE, hl]
    have e2 : ruP c zs m = loadP c := by simp [ruP, hl]
    have e3 : ruL c zs m = [] := by simp [ruL, hl]
    have e4 : ruR c zs m = 0 := by simp [ruR, hl]
    rw [e1, e2, e3, e4]
    clear e1 e2 e3 e4
    have hcb : (loadE c != 0) = true := by simpa using hl
    have HC := hide hl
    clear hl
    go_enter Try.func14, Try.ntmps14
    go_wp2_with fail
    refine (unhide HLD).mono ?_
    rintro e w1 ⟨vs, rfl, _, hvs, hb1⟩
    have hvs := hvs (unhide HC)
    subst hvs
    have HB1 := hide hb1
    clear hb1 HLD
    generalize hge : loadE c = ge at *
    generalize hgp : loadP c = gp at *
    have HG := hide (And.intro hge hgp)
    clear hge hgp
    go_wp2_with fail
    refine bodyPost_ret (v := .tuple #[.slice none 0 0, .int .i64 0, .int .i64 ge, .int .i64 gp]) (by simp [results, Try.results14, go_sem]) rfl ?_
    first
      | exact ⟨none, 0, 0, rfl, ⟨rfl, fun h => by omega⟩, fun b hb => by simp at hb, unhide HB1⟩
      | exact ⟨none, 0, 0, by rw [(unhide HG).1, (unhide HG).2], ⟨rfl, fun h => by omega⟩, fun b hb => by simp at hb, unhide HB1⟩
end Go.Proofs.Ytbpolcnjojlkjab
