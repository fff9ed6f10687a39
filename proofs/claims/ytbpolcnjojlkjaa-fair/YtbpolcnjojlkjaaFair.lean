/- Fair: the walk. -/
import Derived.Test.YtbpolcnjojlkjaaFairW
import Derived.Test.YtbpolcnjojlkjaaChoice
namespace Go.Proofs.Ytbpolcnjojlkjaa
open Go.ChangeShapes Go.WideShapes Go.ChangeAt Go.RowKit
open Split (Pu Keeps amTo propM FairOk lea)
set_option linter.unusedVariables false
set_option linter.unusedSimpArgs false

theorem amTo_next (p : Pu) (l : List Bool) (k : Nat) : amTo p l (k + 1) = amTo p l k + (if l.getD k false then p.owed.getD k 0 else 0) := rfl

set_option maxRecDepth 100000 in
set_option maxHeartbeats 8000000 in
theorem fair_walk (z : Int) (a : Option Addr) (len cap : Nat) (zs : List Int) (m : Int) (w : World) (hz : (Lit.int .i64 z).wf = true) (h : Ints w a len zs) (hwf : ∀ n ∈ zs, (Lit.int .i64 n).wf = true) (hr : len * 8 ≤ 140737488351232) (hm : (Lit.int .i64 m).wf = true) :
    Calls Try.prog 8 #[.int .i64 z, .slice a len cap, .int .i64 m] w fun e w' => e = .returned (.bool true) ∧ Below w.heap.size w w' := by
  have HI := hide h
  have HGR := hide (group_any z w hz)
  have hl8 : (bitsM z).length = 8 := by simp [bitsM]
  have hbits := bits_get z
  have hband := and_bit z
  have hC8 := gC_le (bitsM z) 8
  have hRt := R_text hl8
  have hRn := R_none hl8
  have hsz := str_size (gN (bitsM z) 8)
  rw [gN_len] at hsz
  clear h hwf hm hz
  obtain ⟨T, hT⟩ : ∃ T, strOfNums (gN (bitsM z) 8) = T := ⟨_, rfl⟩
  obtain ⟨n, hn⟩ : ∃ n, gC (bitsM z) 8 = n := ⟨_, rfl⟩
  rw [hT] at HGR hRt hRn hsz
  rw [hn] at HGR hRt hRn hC8 hsz
  obtain ⟨l, hl⟩ : ∃ l, bitsM z = l := ⟨_, rfl⟩
  rw [hl] at hl8 hbits hRt
  have hTz : T.size ≤ 1000000000000000 := by omega
  have ST := hide (share_any T zs m hTz)
  clear hT hn hl hsz
  by_cases hfit : checkE T = 0 ∧ givenE zs m = 0
  · obtain ⟨hc, hg⟩ := hfit
    have hn2 : 2 ≤ n := by
      by_cases hx : 2 ≤ n
      · exact hx
      · exact absurd hc (hRn hx)
    obtain ⟨_, hsem⟩ := hRt hn2
    obtain ⟨eT, lT, rT, nT⟩ := sh_fit hc hg
    rw [lT, rT, eT] at ST
    have HFT : Hid ((checkE T == 0 && givenE zs m == 0) = true) := by
      show _ = true
      simp [hc, hg]
    obtain ⟨hz8, hzb, hm0, hm9⟩ := given_ok hg
    have h8 : len = 8 := by rw [← (unhide HI).1, hz8]
    subst h8
    generalize shP T zs m = pT at ST
    obtain ⟨hk, hh⟩ := shr_keeps hc hg
    have hp0 : ∀ k, (pu0 zs m).paid.getD k 0 = 0 := by
      intro k
      simp only [pu0, List.getD_eq_getElem?_getD, List.getElem?_replicate]
      split <;> simp
    have hfo := Split.fair_ok (keeps0 hg) l hp0 rfl
    rw [hsem zs m] at ST nT hk hh
    have hab := fun k => Split.amTo_bd (keeps0 hg) l k
    have han := amTo_next (pu0 zs m) l
    have hpo : ∀ k, (pu0 zs m).owed.getD k 0 = zs.getD k 0 := fun _ => rfl
    obtain ⟨q, hq⟩ : ∃ q, propM (pu0 zs m) l = q := ⟨_, rfl⟩
    rw [hq] at ST nT hk hh hfo
    obtain ⟨A, hA⟩ : ∃ A : Nat → Int, A = amTo (pu0 zs m) l := ⟨_, rfl⟩
    rw [← hA] at hab han hfo
    have HA0 : Hid (A 0 = 0) := by show A 0 = 0; rw [hA]; rfl
    have HFO := hide hfo
    have HAB := hide hab
    have HAN := hide han
    have HK := hide (And.intro hk hh)
    have HNT := hide nT
    have HZB := hide hzb
    have HBITS := hide hbits
    have HBAND := hide hband
    have hn2' : ¬ (n : Int) < 2 := by omega
    clear hq hA hab han hfo hk hh nT hzb hc hg hsem eT lT rT hRt hRn hbits hband hpo hp0 hz8
    go_enter Try.func8, Try.ntmps8
    go_wp2_with fail
    refine (unhide HGR).mono ?_
    rintro e w1 ⟨rfl, hb1⟩
    have B1 := hide hb1
    clear hb1 HGR
    go_wp2_with fail
    refine (lshare_of T zs m _ _ _ _ (unhide ST) _ _ _ _ ((unhide HI).below (unhide B1)) hr).mono ?_
    rintro e w3 ⟨a3, n3, c3, rfl, hi3, hb3⟩
    have hn3 : n3 = 8 := by rw [← hi3.1]; exact unhide HNT
    subst hn3
    have I3 := hide hi3
    have B3 := hide (below_step (unhide B1) hb3)
    clear hi3 hb3 B1 ST
    go_wp2_with fail
    obtain ⟨hd, hhd⟩ : ∃ x, q.hand = x := ⟨_, rfl⟩
    rw [hhd]
    have HHD := hide hhd
    clear hhd
    obtain ⟨W3, hW3⟩ : ∃ W, w3.alloc (.cells #[.slice a3 8 c3, .int .i64 hd, .bool true] 38) = W := ⟨_, rfl⟩
    have hr3 : W3.heap[w3.heap.size]? = some (.cells #[.slice a3 8 c3, .int .i64 hd, .bool true] 38 (0, 0)) := by rw [← hW3]; exact heap_alloc_new _ _
    have hb3 : Below w3.heap.size w3 W3 := by rw [← hW3]; exact (Below.refl _ _).alloc (Nat.le_refl _) _
    rw [hW3]
    have J3 := hide ((unhide I3).below hb3)
    have C3 := hide (below_step (unhide B3) hb3)
    clear hW3 I3 B3 hb3
    obtain ⟨g3, hg3⟩ : ∃ g, w3.heap.size = g := ⟨_, rfl⟩
    rw [hg3] at hr3 ⊢
    clear hg3
    have R3 := hide hr3
    clear hr3
    refine (fit_any T _ 8 cap zs m _ hTz ((unhide HI).below (unhide C3)) hr).mono ?_
    rintro e w4 ⟨rfl, n4, hw4⟩
    rw [unhide HFT]
    have hb4 : Below W3.heap.size W3 w4 := by rw [hw4]; exact below_drewN (Below.refl _ _) _
    have J4 := hide ((unhide J3).below hb4)
    have C4 := hide (below_step (unhide C3) hb4)
    have R4 := hide ((hb4.block g3 (cell_lt (unhide R3))).trans (unhide R3))
    have I4 := hide ((unhide HI).below (unhide C4))
    clear hw4 hb4 J3 C3 R3
    obtain ⟨b3, o3, h3e, hc3⟩ := (unhide J4).2 (by omega)
    obtain ⟨b1, o1, h1e, hc1⟩ := (unhide I4).2 (by omega)
    subst h3e
    subst h1e
    have HC3 := hide hc3
    have HC1 := hide hc1
    clear hc3 hc1
    go_wp2_with fail
    go_loopw [11, 12] (fun tt ii wr => ∃ k : Nat, k ≤ 8 ∧ ii = .int .i64 k ∧ tt = .int .i64 (A k) ∧ Hid (∃ n, wr = w4.drewN n)) (fun _ ii _ => 8 - (intOf ii).toNat)
    case atStart => exact ⟨0, by omega, rfl, by rw [unhide HA0], ⟨0, rfl⟩⟩
    case round =>
      obtain ⟨k, hk, rfl, rfl, hw⟩ := hrel
      have hr5 : wr.heap[g3]? = some (.cells #[.slice (some ⟨b3, o3, none⟩) 8 c3, .int .i64 hd, .bool true] 38 (0, 0)) := by
        obtain ⟨n, hn⟩ := unhide hw
        rw [hn]; exact unhide R4
      have p0 := cell_of_row wr g3 0 _ _ _ hr5
      have p1 := cell_of_row wr g3 1 _ _ _ hr5
      have p2 := cell_of_row wr g3 2 _ _ _ hr5
      have hg5 : g3 < wr.heap.size := cell_lt hr5
      simp at p0 p1 p2
      have HR5 := hide hr5
      clear hr5
      have hak := unhide HAB k
      by_cases hlt : k < 8
      · have c3' : wr.cell? ⟨b3, o3 + k, none⟩ = some (.int .i64 (q.paid.getD k 0)) := by
          obtain ⟨n, hn⟩ := unhide hw
          rw [hn]; exact unhide HC3 k hlt
        have c1' : wr.cell? ⟨b1, o1 + k, none⟩ = some (.int .i64 (zs.getD k 0)) := by
          obtain ⟨n, hn⟩ := unhide hw
          rw [hn]; exact unhide HC1 k hlt
        have hbit := unhide HBAND k hlt
        have hget := unhide HBITS k hlt
        have hnx := unhide HAN k
        have hout := (unhide HFO).out k hlt
        have hzk := unhide HZB k
        obtain ⟨v, hv⟩ : ∃ v, bits BinOp.and IntKind.i64 z (wrap64 (2 ^ k)) = v := ⟨_, rfl⟩
        rw [hv] at hbit
        rw [← hget] at hbit
        cases hm : l.getD k false
        · rw [hm] at hbit hnx
          have hx0 := hout hm
          rw [hx0] at c3'
          have hnx' : A (k + 1) = A k := by
            rw [hnx]
            show A k + 0 = A k
            omega
          have HNX := hide hnx'
          clear hnx hnx' hout hx0 hget hm c1' hzk
          go_wp2_with fail
          go_roundw
          case rel => exact ⟨k + 1, by omega, by go_num, by rw [unhide HNX], by first | exact hw | exact drewN_more (unhide hw)⟩
          case measure => simp [intOf]; omega
        · rw [hm] at hbit hnx
          have hnx' : A (k + 1) = A k + zs.getD k 0 := by
            rw [hnx]
            rfl
          obtain ⟨x, hx⟩ : ∃ x, zs.getD k 0 = x := ⟨_, rfl⟩
          rw [hx] at hnx' c1' hzk
          have HNX := hide hnx'
          obtain ⟨y, hy⟩ : ∃ y, A k = y := ⟨_, rfl⟩
          rw [hy] at hak HNX ⊢
          have hak9 : y ≤ 8000000000 := by omega
          have hwr : IntKind.i64.wrap (y + x) = y + x := wrap_big (by omega) (by omega)
          clear hnx hnx' hout hget hm c3' hx hy
          go_wp2_with fail
          go_roundw
          case rel => exact ⟨k + 1, by omega, by go_num, by rw [unhide HNX], by first | exact hw | exact drewN_more (unhide hw)⟩
          case measure => simp [intOf]; omega
      · have hk8 : k = 8 := by omega
        subst hk8
        obtain ⟨t, ht⟩ : ∃ t, A 8 = t := ⟨_, rfl⟩
        rw [ht] at hak ⊢
        have hfo := unhide HFO
        rw [ht] at hfo
        have hlea := hfo.hand
        rw [unhide HHD] at hlea
        have hle1 := Split.lea_le m t
        have hle0 : 0 ≤ lea m t := by rcases Split.lea_eq m t with e | e <;> rw [e] <;> omega
        obtain ⟨mm, hmm⟩ : ∃ x, lea m t = x := ⟨_, rfl⟩
        rw [hmm] at hlea hle1 hle0
        have hpart := hfo.part
        rw [hmm] at hpart
        have HPART := hide hpart
        have HMM := hide hmm
        have hbw : Below w4.heap.size w4 wr := by
          obtain ⟨n, hn⟩ := unhide hw
          rw [hn]; exact below_drewN (Below.refl _ _) n
        have J5 := hide ((unhide J4).below hbw)
        have I5 := hide ((unhide I4).below hbw)
        have C5 := hide (below_step (unhide C4) hbw)
        have hlea2 : hd = m - mm := hlea
        have hwr : IntKind.i64.wrap (m - mm) = m - mm := wrap_big (by omega) (by omega)
        have hne : (hd != m - mm) = false := by rw [hlea2]; simp
        have HLS : Hid (∀ w', Calls Try.prog 27 #[.int .i64 m, .int .i64 t] w' fun e w'' => e = .returned (.int .i64 mm) ∧ w'' = w') := by
          intro w'
          have := lleast_any m t w'
          rw [unhide HMM] at this
          exact this
        clear hfo hpart hmm hlea hlea2 hbw hw HFO HAB HAN HA0 C4 J4 I4 HC1 HC3 ht
        go_wp2_with fail
        refine (unhide HLS _).mono ?_
        rintro e w6 ⟨rfl, hw6⟩
        have hw6 := hw6.symm
        subst hw6
        go_wp2_with fail
        refine (whole_true _ c3 q.paid hd _ cap zs m _ (unhide J5) (unhide I5) (unhide HK).1.pa ?_ ?_ ?_ hm9).mono ?_
        · intro i
          have h1 := (unhide HK).1.tot i
          have h2 := (unhide HK).1.ow i
          omega
        · have := (unhide HK).1.h0
          rw [unhide HHD] at this
          exact this
        · have h1 := (unhide HK).1.sum
          rw [(unhide HK).2, unhide HHD] at h1
          simpa using h1
        rintro e w7 ⟨rfl, hb7⟩
        have J7 := hide ((unhide J5).below hb7)
        have I7 := hide ((unhide I5).below hb7)
        have C7 := hide (below_step (unhide C5) hb7)
        have R7 := hide ((hb7.block g3 (cell_lt (unhide HR5))).trans (unhide HR5))
        clear hb7 J5 I5 C5 HR5 p0 p1 p2 hg5 hne hwr
        by_cases ht0 : t = 0
        · subst ht0
          go_wp2_with fail
          go_ret
          exact ⟨rfl, unhide C7⟩
        · have htb : (t == 0) = false := beq_eq_false_iff_ne.2 ht0
          have htp : 0 < t := by omega
          have hpart := unhide HPART htp
          have HPA := hide hpart
          have hmm9 : mm ≤ 1000000000 := by omega
          clear hpart HPART ht0
          go_wp2_with fail
          go_loopw [14, 15, 16] (fun ii jj _ wr => ∃ i : Nat, i ≤ 8 ∧ ii = .int .i64 i ∧ Hid (Below w7.heap.size w7 wr)) (fun ii _ _ _ => 8 - (intOf ii).toNat)
          case atStart => exact ⟨0, by omega, rfl, Below.refl _ _⟩
          case round =>
            obtain ⟨i, hi, rfl, hbi⟩ := hrel
            by_cases hlti : i < 8
            · go_wp2_with fail
              rw [show decide ((i : Int) < 8) = true from decide_eq_true (by omega)]
              have hbiti := unhide HBAND i hlti
              have hgeti := unhide HBITS i hlti
              obtain ⟨vi, hvi⟩ : ∃ v, bits BinOp.and IntKind.i64 z (wrap64 (2 ^ i)) = v := ⟨_, rfl⟩
              rw [hvi, ← hgeti] at hbiti
              obtain ⟨li, hli⟩ : ∃ x, l.getD i false = x := ⟨_, rfl⟩
              rw [hli] at hbiti
              have HLI := hide hli
              have HWR := hbi
              clear hgeti hli
              go_loopw [15, 16] (fun jj _ wx => ∃ j : Nat, j ≤ 8 ∧ jj = .int .i64 j ∧ Hid (Below w7.heap.size w7 wx)) (fun jj _ _ => 8 - (intOf jj).toNat)
              case atStart => exact ⟨0, by omega, rfl, HWR⟩
              case round =>
                obtain ⟨j, hj, rfl, hbj⟩ := hrel
                by_cases hltj : j < 8
                · have hbitj := unhide HBAND j hltj
                  have hgetj := unhide HBITS j hltj
                  obtain ⟨vj, hvj⟩ : ∃ v, bits BinOp.and IntKind.i64 z (wrap64 (2 ^ j)) = v := ⟨_, rfl⟩
                  rw [hvj, ← hgetj] at hbitj
                  obtain ⟨lj, hlj⟩ : ∃ x, l.getD j false = x := ⟨_, rfl⟩
                  rw [hlj] at hbitj
                  have HLJ := hide hlj
                  clear hgetj hlj
                  cases li
                  · go_wp2_with fail
                    go_roundw
                    case rel => exact ⟨j + 1, by omega, by go_num, hbj⟩
                    case measure => simp [intOf]; omega
                  cases lj
                  · go_wp2_with fail
                    go_roundw
                    case rel => exact ⟨j + 1, by omega, by go_num, hbj⟩
                    case measure => simp [intOf]; omega
                  have hrj := (unhide hbj).block g3 (cell_lt (unhide R7))
                  rw [unhide R7] at hrj
                  have p0 := cell_of_row _ g3 0 _ _ _ hrj
                  have p1 := cell_of_row _ g3 1 _ _ _ hrj
                  have p2 := cell_of_row _ g3 2 _ _ _ hrj
                  have hg8 := cell_lt hrj
                  simp at p0 p1 p2
                  clear hrj
                  go_wp2_with fail
                  refine (fair_true _ c3 q.paid hd _ cap zs mm t i j _ ((unhide J7).below (unhide hbj)) ((unhide I7).below (unhide hbj)) hlti hltj hle0 hmm9 htp (unhide HZB) ?_ ?_).mono ?_
                  · intro k
                    have h1 := (unhide HK).1.pa k
                    have h2 := (unhide HK).1.tot k
                    have h3 := (unhide HK).1.ow k
                    have h4 := (unhide HZB k).2
                    omega
                  · rcases unhide HPA i hlti (unhide HLI) with h | ⟨h1, h2, h3⟩
                    · exact .inl h
                    · exact .inr ⟨h1, h2, h3 j hltj (unhide HLJ)⟩
                  rintro e w9 ⟨rfl, hb9⟩
                  have B9 := hide (below_step (unhide hbj) hb9)
                  clear hb9 p0 p1 p2 hg8
                  go_wp2_with fail
                  go_roundw
                  case rel => exact ⟨j + 1, by omega, by go_num, B9⟩
                  case measure => simp [intOf]; omega
                · go_wp2_with fail
                  go_roundw
                  case rel => exact ⟨i + 1, by omega, by go_num, hbj⟩
                  case measure => simp [intOf]; omega
            · go_wp2_with fail
              go_ret
              exact ⟨rfl, below_step (unhide C7) (unhide hbi)⟩
  · obtain ⟨u1, u2⟩ := sh_unfit hfit
    have HU1 := hide u1
    have HU2 := hide u2
    generalize shL T zs m = lT at ST
    generalize shR T zs m = rT at ST
    generalize shP T zs m = pT at ST
    clear u1 u2 hRt hRn hbits hband hl8 hfit
    go_enter Try.func8, Try.ntmps8
    go_wp2_with fail
    refine (unhide HGR).mono ?_
    rintro e w1 ⟨rfl, hb1⟩
    have B1 := hide hb1
    clear hb1 HGR
    go_wp2_with fail
    refine (lshare_of T zs m _ _ _ _ (unhide ST) _ _ _ _ ((unhide HI).below (unhide B1)) hr).mono ?_
    rintro e w3 ⟨a3, n3, c3, rfl, hi3, hb3⟩
    rw [unhide HU1, Bool.false_and]
    have B3 := hide (below_step (unhide B1) hb3)
    clear hi3 hb3 B1 ST
    go_wp2_with fail
    obtain ⟨W3, hW3⟩ : ∃ W, w3.alloc (.cells #[.slice a3 n3 c3, .int .i64 rT, .bool false] 38) = W := ⟨_, rfl⟩
    have hr3 : W3.heap[w3.heap.size]? = some (.cells #[.slice a3 n3 c3, .int .i64 rT, .bool false] 38 (0, 0)) := by rw [← hW3]; exact heap_alloc_new _ _
    have hb3 : Below w3.heap.size w3 W3 := by rw [← hW3]; exact (Below.refl _ _).alloc (Nat.le_refl _) _
    rw [hW3]
    have C3 := hide (below_step (unhide B3) hb3)
    clear hW3 B3 hb3
    obtain ⟨g3, hg3⟩ : ∃ g, w3.heap.size = g := ⟨_, rfl⟩
    rw [hg3] at hr3 ⊢
    clear hg3
    have R3 := hide hr3
    clear hr3
    refine (fit_any T _ _ cap zs m _ hTz ((unhide HI).below (unhide C3)) hr).mono ?_
    rintro e w4 ⟨rfl, n4, hw4⟩
    rw [unhide HU2]
    have hb4 : Below W3.heap.size W3 w4 := by rw [hw4]; exact below_drewN (Below.refl _ _) _
    have C4 := hide (below_step (unhide C3) hb4)
    have p2 := cell_of_row w4 g3 2 _ _ _ ((hb4.block g3 (cell_lt (unhide R3))).trans (unhide R3))
    simp at p2
    clear hw4 hb4
    by_cases hn2 : (n : Int) < 2
    · go_wp2_with fail
      go_ret
      exact ⟨rfl, unhide C4⟩
    · go_wp2_with fail
      go_ret
      exact ⟨rfl, unhide C4⟩
end Go.Proofs.Ytbpolcnjojlkjaa
