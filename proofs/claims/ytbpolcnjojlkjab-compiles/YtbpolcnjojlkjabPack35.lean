/- CompileW, Compiles, Frame, CompilesProof -/
import Derived.Test.YtbpolcnjojlkjabPack34
import Derived.Test.YtbpolcnjojlkjabPack30
import Derived.Test.YtbpolcnjojlkjabPack31
import Derived.Test.YtbpolcnjojlkjabPack0

/- Compile; the code of a policy loads as its steps. -/
namespace Go.Proofs.Ytbpolcnjojlkjab
open Go.ChangeShapes Go.WideShapes Go.ChangeAt Go.RowKit
open Split (byt byt_lt St SOk none8 heldM InCode)
set_option linter.unusedVariables false
set_option linter.unusedSimpArgs false

theorem nums_byt (xs : List Int) (h : ∀ x ∈ xs, 0 ≤ x ∧ x ≤ 255) (i : Nat) (hi : i < xs.length) : byt (strOfNums xs) i = xs.getD i 0 := by
  have hs := strOfNums_size xs
  rw [byt_lt (show i < (strOfNums xs).size by omega)]
  have hx := h xs[i] (List.getElem_mem hi)
  have e : (strOfNums xs)[i]'(by omega) = UInt8.ofNat (xs[i]).toNat := by
    show (strOfNums xs).data[i]'(by simpa [strOfNums] using hi) = _
    simp [strOfNums]
  rw [e, List.getD_eq_getElem?_getD, List.getElem?_eq_getElem hi]
  simp only [Option.getD_some, UInt8.toNat_ofNat']
  omega

theorem enc_rng {ss : List St} (h : ∀ s ∈ ss, EncF s) : ∀ x ∈ encL ss, 0 ≤ x ∧ x ≤ 255 := by
  intro x hx
  unfold encL at hx
  rw [List.mem_flatMap] at hx
  obtain ⟨s, hs, hx⟩ := hx
  have e := h s hs
  have hn := e.n
  simp only [encS, List.mem_cons, List.not_mem_nil, or_false] at hx
  rcases hx with rfl | rfl | rfl | rfl | rfl
  · exact e.k
  · exact e.a
  · exact e.b
  · omega
  · omega

theorem encL_get : ∀ (ss : List St) (i j : Nat) (h : i < ss.length), j < 5 → (encL ss).getD (i * 5 + j) 0 = (encS ss[i]).getD j 0
  | [], i, j, h, _ => by simp at h
  | s :: ss, 0, j, h, hj => by
    show (encS s ++ encL ss).getD (0 * 5 + j) 0 = _
    rw [List.getD_eq_getElem?_getD, List.getElem?_append_left (by simp [encS]; omega), Nat.zero_mul, Nat.zero_add, ← List.getD_eq_getElem?_getD]
    rfl
  | s :: ss, i + 1, j, h, hj => by
    show (encS s ++ encL ss).getD ((i + 1) * 5 + j) 0 = _
    have hl : (encS s).length = 5 := rfl
    rw [List.getD_eq_getElem?_getD, List.getElem?_append_right (by omega), hl, show (i + 1) * 5 + j - 5 = i * 5 + j by omega, ← List.getD_eq_getElem?_getD, encL_get ss i j (by simpa using h) hj]
    rfl

theorem enc_size (ss : List St) : (encT ss).size = ss.length * 5 := by
  unfold encT
  rw [strOfNums_size, encL_len]

/-- The code of steps that are instructions: its parts. -/
theorem enc_parts {ss : List St} (h : ∀ s ∈ ss, EncF s) (i : Nat) (hi : i < ss.length) : kOf (encT ss) i = ss[i].kind ∧ aOf (encT ss) i = aE ss[i] ∧ bOf (encT ss) i = bE ss[i] ∧ nOf (encT ss) i = nE ss[i] := by
  have hr := enc_rng h
  have hl := encL_len ss
  have key : ∀ j, j < 5 → byt (encT ss) (i * 5 + j) = (encS ss[i]).getD j 0 := fun j hj => by
    unfold encT
    rw [nums_byt _ hr _ (by omega), encL_get ss i j hi hj]
  refine ⟨by have := key 0 (by omega); simpa [kOf, encS] using this, by have := key 1 (by omega); simpa [aOf, encS] using this, by have := key 2 (by omega); simpa [bOf, encS] using this, ?_⟩
  have h3 := key 3 (by omega)
  have h4 := key 4 (by omega)
  simp [encS] at h3 h4
  unfold nOf
  rw [h3, h4]
  omega

theorem round_load {ss : List St} (h : ∀ s ∈ ss, EncF s) (hin : Ins ss) (hh : heldM ss = -1) (hl : ss.length ≤ 120) : cntM (encT ss) = ss.length ∧ codeM (encT ss) ss.length = ss ∧ loadE (encT ss) = 0 ∧ loadP (encT ss) = 0 := by
  have hz := enc_size ss
  have hc : cntM (encT ss) = ss.length := by unfold cntM; omega
  have hcode : codeM (encT ss) ss.length = ss := by
    apply List.ext_getElem (by simp [codeM])
    intro i h1 h2
    rw [codeM_get]
    obtain ⟨p1, p2, p3, p4⟩ := enc_parts h i h2
    unfold decM
    rw [p1, p2, p3, p4]
    exact (h _ (List.getElem_mem h2)).dec
  have hok : ∀ i, i < cntM (encT ss) → okAt (encT ss) i = true := by
    intro i hi
    rw [hc] at hi
    obtain ⟨p1, p2, p3, p4⟩ := enc_parts h i hi
    unfold okAt decOk
    rw [p1, p2, p3, hc]
    simp only [Bool.and_eq_true, decide_eq_true_eq]
    refine ⟨by omega, (h _ (List.getElem_mem hi)).ok _ fun hk => ?_⟩
    have := hin i _ (List.getElem?_eq_getElem hi) hk
    obtain ⟨l, _, hle⟩ := (h _ (List.getElem_mem hi)).sok.l
    omega
  have hnb := bad_not hok
  have hE : heldE ss = 0 := by unfold heldE; rw [if_pos hh]
  have hP : heldP ss = 0 := by unfold heldP; rw [if_pos hh]
  refine ⟨hc, hcode, ?_, ?_⟩
  · unfold loadE
    rw [if_neg (by omega), if_neg hnb, hc, hcode, hE]
  · unfold loadP
    rw [if_neg (by omega), if_neg hnb, hc, hcode, hP]

theorem check_p {t : ByteArray} (h : checkE t = 0) : checkP t = 0 := by
  unfold checkE at h
  unfold checkP
  by_cases h1 : 120 < t.size
  · rw [if_pos h1] at h; simp at h
  · rw [if_neg h1] at h ⊢
    split at h
    · rename_i hc
      rw [if_pos hc]
      split at h
      · simp at h
      · rename_i hd
        rw [if_neg hd]
    · simp at h

/-- What Compile answers. -/
def cmT (t : ByteArray) : ByteArray := if checkE t = 0 then encT (rsE t).ss else ⟨#[]⟩

set_option maxHeartbeats 2000000 in
theorem compile_any (t : ByteArray) (w : World) (ht : t.size ≤ 1000000000000000) : Calls Try.prog 5 #[.string t] w fun e w' => e = .returned (.tuple #[.string (cmT t), .int .i64 (checkE t), .int .i64 (checkP t)]) ∧ Below w.heap.size w w' := by
  have hpc := par_check t
  have hparse := parse_any t w ht
  unfold ParsePost at hparse
  rw [hpc.1, hpc.2] at hparse
  have HPS := hide hparse
  clear hparse hpc
  by_cases hc : checkE t = 0
  · have e1 : cmT t = encT (rsE t).ss := by unfold cmT; rw [if_pos hc]
    have e2 := check_p hc
    obtain ⟨q1, q2, q3, q4⟩ := policy_enc t hc
    rw [e1, hc, e2]
    rw [hc, e2] at HPS
    have HQ := hide q1
    have HQ4 := hide q4
    clear e1 e2 q1 q2 q3 q4 hc
    obtain ⟨ss, hss⟩ : ∃ ss, (rsE t).ss = ss := ⟨_, rfl⟩
    rw [hss] at HPS HQ HQ4 ⊢
    clear hss
    go_enter Try.func5, Try.ntmps5
    go_wp2_with fail
    refine (unhide HPS).mono ?_
    rintro e w1 ⟨vs, rfl, hown, _, hb1⟩
    have hown := hown (by first | rfl | trivial)
    obtain ⟨sa, scap, rfl, hsc, _⟩ := own_slice hown
    have HOWN := hide hown
    have HB1 := hide hb1
    clear hown hb1 HPS hsc
    go_wp2_with fail
    refine (encode_any ss _ sa scap _ (unhide HOWN) (unhide HQ) (by have := unhide HQ4; omega)).mono ?_
    rintro e w2 ⟨rfl, hb2⟩
    have HB2 := hide (below_step (unhide HB1) hb2)
    clear hb2
    obtain ⟨T, hT⟩ : ∃ T, encT ss = T := ⟨_, rfl⟩
    rw [hT]
    have HT := hide hT
    clear hT
    go_wp2_with fail
    go_ret3
    exact ⟨by rw [unhide HT]; rfl, unhide HB2⟩
  · have e1 : cmT t = ⟨#[]⟩ := by unfold cmT; rw [if_neg hc]
    rw [e1]
    have hcb : (checkE t != 0) = true := by simpa using hc
    clear hc e1
    go_enter Try.func5, Try.ntmps5
    go_wp2_with fail
    refine (unhide HPS).mono ?_
    rintro e w1 ⟨vs, rfl, _, _, hb1⟩
    have HB1 := hide hb1
    clear hb1 HPS
    generalize hge : checkE t = ge at *
    generalize hgp : checkP t = gp at *
    have HG := hide (And.intro hge hgp)
    clear hge hgp
    go_wp2_with fail
    go_ret3
    exact ⟨by rw [(unhide HG).1, (unhide HG).2]; rfl, unhide HB1⟩
end Go.Proofs.Ytbpolcnjojlkjab

/- Compiles: the walk. -/
namespace Go.Proofs.Ytbpolcnjojlkjab
open Go.ChangeShapes Go.WideShapes Go.ChangeAt Go.RowKit
open Split (St SOk heldM)
set_option linter.unusedVariables false
set_option linter.unusedSimpArgs false

/-- The code of a policy is admitted. -/
theorem cm_adm {t : ByteArray} (h : checkE t = 0) : ∃ n, Adm (cmT t) n ∧ codeM (cmT t) n = (rsE t).ss := by
  obtain ⟨q1, q2, q3, q4⟩ := policy_enc t h
  have e : cmT t = encT (rsE t).ss := by unfold cmT; rw [if_pos h]
  rw [e]
  obtain ⟨r1, r2, r3, r4⟩ := round_load q1 q2 q3 q4
  have hz := enc_size (rsE t).ss
  refine ⟨(rsE t).ss.length, ⟨hz, q4, fun i hi => ?_, by rw [r2]; exact q3⟩, r2⟩
  obtain ⟨p1, p2, p3, p4⟩ := enc_parts q1 i hi
  unfold decOk
  rw [p1, p2, p3]
  simp only [Bool.and_eq_true, decide_eq_true_eq]
  refine ⟨by omega, (q1 _ (List.getElem_mem hi)).ok _ fun hk => ?_⟩
  have := q2 i _ (List.getElem?_eq_getElem hi) hk
  obtain ⟨l, _, hle⟩ := (q1 _ (List.getElem_mem hi)).sok.l
  omega

set_option maxRecDepth 100000 in
set_option maxHeartbeats 4000000 in
theorem compiles_walk (t : ByteArray) (a : Option Addr) (len cap : Nat) (zs : List Int) (m : Int) (w : World) (ht : t.size ≤ 140737488351232) (h : Ints w a len zs) (hwf : ∀ n ∈ zs, (Lit.int .i64 n).wf = true) (hr : len * 8 ≤ 140737488351232) (hm : (Lit.int .i64 m).wf = true) :
    Calls Try.prog 3 #[.string t, .slice a len cap, .int .i64 m] w fun e w' => e = .returned (.bool true) ∧ Below w.heap.size w w' := by
  have HI := hide h
  have HCM := hide (compile_any t w (by omega))
  have HRC := hide (fun w' => rcheck_any t w' (by omega))
  clear h hwf hm
  by_cases hc : checkE t = 0
  · obtain ⟨n, hA, hco⟩ := cm_adm hc
    have hver := fun w' => rverify_adm (cmT t) n w' hA
    have hrun := fun a len cap w => rrun_adm (cmT t) n hA zs m a len cap w
    rw [hco] at hrun
    have hsh := rshare_any t zs m (by omega)
    have hsE : shE t zs m = givenE zs m := by simp [shE, hc]
    have hsP : shP t zs m = stP zs m := by simp [shP, hc, stP]
    have hsL : shL t zs m = stL (rsE t).ss zs m := by simp only [shL, hsE, stL]; rfl
    have hsR : shR t zs m = stR (rsE t).ss zs m := by simp only [shR, hsE, stR]; rfl
    rw [hsE, hsP, hsL, hsR] at hsh
    have hlen : (stL (rsE t).ss zs m).length ≤ 8 := by
      rw [← hsL]
      by_cases hg : givenE zs m = 0
      · have := (shr_keeps hc hg).1.lp
        simp [shL, hsE, hg, this]
      · simp [shL, hsE, hg]
    rw [hc, check_p hc] at HCM HRC
    generalize cmT t = T at *
    generalize stL (rsE t).ss zs m = L at *
    generalize stR (rsE t).ss zs m = R at *
    generalize stP zs m = P at *
    generalize givenE zs m = g at *
    have HVER := hide hver
    have HRUN := hide hrun
    have HSH := hide hsh
    have HL := hide hlen
    clear hver hrun hsh hlen hA hco hsE hsP hsL hsR hc
    have g1 : (R == R) = true := by simp
    have g2 : (g == g) = true := by simp
    have g3 : (P == P) = true := by simp
    go_enter Try.func3, Try.ntmps3
    go_wp2_with fail
    refine (unhide HCM).mono ?_
    rintro e w1 ⟨rfl, hb1⟩
    have B1 := hide hb1
    clear hb1 HCM
    go_wp2_with fail
    refine (unhide HRC _).mono ?_
    rintro e w2 ⟨rfl, n2, hw2⟩
    have B2 : Hid (Below w.heap.size w w2) := by
      show Below w.heap.size w w2
      rw [hw2]; exact below_drewN (unhide B1) _
    clear hw2 B1 HRC
    go_wp2_with (go_at_call 7; refine (num_any _ _).mono ?_; rintro e w3 ⟨rfl, rfl⟩)
    refine (unhide HVER _).mono ?_
    rintro e w4 ⟨rfl, hb4⟩
    have B4 := hide (below_step (unhide B2) hb4)
    clear hb4 B2 HVER
    go_wp2_with fail
    refine (unhide HRUN _ _ _ _ ((unhide HI).below (unhide B4)) hr).mono ?_
    rintro e w5 ⟨a5, n5, c5, rfl, hi5, hb5⟩
    have I5 := hide hi5
    have B5 := hide (below_step (unhide B4) hb5)
    clear hi5 hb5 B4 HRUN
    go_wp2_with fail
    refine (unhide HSH _ _ _ _ ((unhide HI).below (unhide B5)) hr).mono ?_
    rintro e w6 ⟨a6, n6, c6, rfl, hi6, _, hb6⟩
    have hn6 : n6 = n5 := by rw [← hi6.1, ← (unhide I5).1]
    subst hn6
    have I6 := hide hi6
    have J6 := hide ((unhide I5).below hb6)
    have B6 := hide (below_step (unhide B5) hb6)
    have hn8 : n6 ≤ 8 := by rw [← hi6.1]; exact unhide HL
    clear hi6 hb6 I5 B5 HSH
    go_wp2_with fail
    refine (same_any _ _ _ L _ _ _ L _ (unhide J6) (unhide I6) (by omega)).mono ?_
    rintro e w7 ⟨rfl, n7, hw7⟩
    rw [show decide (L = L) = true from decide_eq_true rfl]
    have B7 : Hid (Below w.heap.size w w7) := by
      show Below w.heap.size w w7
      rw [hw7]; exact below_drewN (unhide B6) _
    clear hw7 I6 J6 B6
    go_wp2_with fail
    go_ret
    exact ⟨rfl, unhide B7⟩
  · have hcb : (checkE t != 0) = true := by simpa using hc
    have e1 : cmT t = ⟨#[]⟩ := by unfold cmT; rw [if_neg hc]
    rw [e1] at HCM
    obtain ⟨c, hce⟩ : ∃ c, checkE t = c := ⟨_, rfl⟩
    obtain ⟨p, hpe⟩ : ∃ p, checkP t = p := ⟨_, rfl⟩
    rw [hce, hpe] at HCM HRC
    rw [hce] at hcb
    have hcc : (c != c) = false := by simp
    have hpp : (p != p) = false := by simp
    clear hc e1 hce hpe
    go_enter Try.func3, Try.ntmps3
    go_wp2_with fail
    refine (unhide HCM).mono ?_
    rintro e w1 ⟨rfl, hb1⟩
    have B1 := hide hb1
    clear hb1 HCM
    go_wp2_with fail
    refine (unhide HRC _).mono ?_
    rintro e w2 ⟨rfl, n2, hw2⟩
    have B2 : Hid (Below w.heap.size w w2) := by
      show Below w.heap.size w w2
      rw [hw2]; exact below_drewN (unhide B1) _
    clear hw2 B1 HRC
    go_wp2_with (go_at_call 7; refine (num_any _ _).mono ?_; rintro e w3 ⟨rfl, rfl⟩)
    go_ret
    exact ⟨rfl, unhide B2⟩
end Go.Proofs.Ytbpolcnjojlkjab

/- What every frame of a statement uses: a list of numbers that came in. -/
namespace Go.Proofs.Ytbpolcnjojlkjab
open Go.ChangeShapes Go.WideShapes Go.ChangeAt Go.RowKit
set_option linter.unusedVariables false
set_option linter.unusedSimpArgs false

theorem own : ownKnob Try.prog.godebug = none := by kernel_rfl
theorem laidOut : laidOutB Try.prog = true := by kernel_rfl
theorem bytesInt : Try.prog.bytesOf 3 = 8 := by kernel_rfl

theorem ints_open {H : Type} {enc : TypeId × Value → H} {W : World} {a : Option Addr} {len cap : Nat} {d : DataW H} {p : List MemPlace}
    (h : DataW.Trod enc Try.prog W 0 (fun _ => true) true 22 (.slice a len cap) d p) :
    ∃ zs, Ints W a len zs ∧ (∀ n ∈ zs, (Lit.int .i64 n).wf = true) ∧ ((d = .nil ∧ len = 0) ∨ ∃ el sp, d = .slice el sp ∧ len ≤ el.length + sp.length) := by
  obtain ⟨fuel, hf⟩ := h
  rcases open_ints Try.underlying22 Try.underlying3 (by kernel_rfl) hf with ⟨hcs, hx⟩ | ⟨x, l, c, zs, hcs, _, hl, hm, hz, hx, hcell, hwz⟩
  · simp [Value.cells] at hcs
    obtain ⟨rfl, rfl, rfl⟩ := hcs
    simp at hx
    exact ⟨[], ⟨rfl, fun h => by omega⟩, fun n hn => by simp at hn, .inl ⟨hx.1, rfl⟩⟩
  · simp [Value.cells] at hcs
    obtain ⟨rfl, rfl, rfl⟩ := hcs
    simp at hx hz
    refine ⟨zs.take len, ⟨by simp; omega, fun hp => ?_⟩, fun n hn => hwz n (List.mem_of_mem_take hn), .inr ⟨_, _, hx.1, by simp [lits]; omega⟩⟩
    obtain ⟨b, off, rfl, hc⟩ := ints_at hcell (by omega)
    refine ⟨b, off, rfl, fun i hi => ?_⟩
    rw [hc i (by omega)]
    simp [List.getElem?_take, hi]

theorem ints_sized {H : Type} {ts : List TypeId} {ds : List (DataW H)} {j : Nat} {d : DataW H} {len : Nat} (hsz : (DataW.weightsEach Try.prog ts ds).all (· ≤ reachBytes) = true)
    (ht : ts[j]? = some 22) (hd : ds[j]? = some d) (h : (d = .nil ∧ len = 0) ∨ ∃ el sp, d = .slice el sp ∧ len ≤ el.length + sp.length) : len * 8 ≤ 140737488351232 := by
  rcases h with ⟨_, rfl⟩ | ⟨el, sp, rfl, hl⟩
  · omega
  · have := sized_slice hsz ht hd Try.underlying22
    rw [bytesInt] at this
    unfold reachBytes at this
    omega
end Go.Proofs.Ytbpolcnjojlkjab

/- Compiles, for every input. -/
namespace Go.Proofs.Ytbpolcnjojlkjab
open Go.ChangeShapes Go.WideShapes Go.ChangeAt Go.RowKit
open Go.ChangeMaps (open_string shut_string)
set_option linter.unusedVariables false
set_option linter.unusedSimpArgs false

set_option maxRecDepth 100000 in
theorem compiles_lifted (os : Os) (started : os.Started) (H : Type) (enc : TypeId × Value → H) :
    ReturnsInHanded {} Try.checked os 3 .any (Rows.compilesSpec.pre6 enc Try.prog Try.f3 Rows.compilesRow.domain false) (Rows.compilesSpec.post enc Try.prog Try.f3 false true false false) := by
  refine returnsInHanded_of_change_sized (C := Try.checked) own started (by kernel_rfl) Try.func3
    (ChangeSpec.witness6 (enc := enc) (C := Try.checked) false ⟨#[], #[.string ⟨#[]⟩, .slice none 0 0, .int .i64 0], []⟩ 8 (by kernel_rfl) (by kernel_rfl) (by kernel_rfl) (by kernel_rfl)) ?_
  intro W base args ds gs before hval0 hW hcnd hsz0 _
  have hval : ∀ (j : Nat) t v, Try.f3.params[j]? = some t → args[j]? = some v → Value.okWide Try.prog W .any base t v := hval0
  have hsz : (DataW.weightsEach Try.prog (Try.f3.params.toList ++ Rows.compilesSpec.plain.varTypes Try.prog) (ds ++ gs)).all (· ≤ reachBytes) = true := hsz0
  have hW' := hW
  obtain ⟨p, q, hA0, hV, rfl, hfz, hnd⟩ := hW
  have hA : DataW.TrodAll enc Try.prog W 0 (fun _ => true) true Try.f3.params.toList args.toList ds p := hA0
  rw [Try.params3] at hA hval hsz
  obtain ⟨v0, vs0, d0, ds0, p0, q0, hargs, rfl, rfl, h0, r0⟩ := trodAll_cons hA
  obtain ⟨v1, vs1, d1, ds1, p1, q1, rfl, rfl, rfl, h1, r1⟩ := trodAll_cons r0
  obtain ⟨v2, vs2, d2, ds2, p2, q2, rfl, rfl, rfl, h2, r2⟩ := trodAll_cons r1
  obtain ⟨rfl, rfl, rfl⟩ := trodAll_nil r2
  obtain rfl : args = #[v0, v1, v2] := by cases args; simp_all
  obtain ⟨rfl, rfl⟩ := trodVars_none hV
  obtain ⟨s0, rfl, rfl, rfl, w0⟩ := open_string Try.underlying9 (hval 0 9 v0 rfl rfl) h0
  have b0 : s0.size ≤ 140737488351232 := by
    have := sized_string hsz (j := 0) rfl rfl
    unfold reachBytes at this
    simpa using this
  obtain ⟨a1, len1, cap1, rfl⟩ := okWide_slice Try.underlying22 (hval 1 22 v1 rfl rfl)
  have k1 := h1
  have lt1 : ∀ x ∈ p1, x.block < W.heap.size := by obtain ⟨m, hm⟩ := k1; exact DataW.trod_lt m _ _ _ hm
  obtain ⟨z1, w1, wf1, sh1⟩ := ints_open h1
  have b1 := ints_sized hsz (j := 1) rfl rfl sh1
  obtain ⟨x2, rfl, rfl, rfl, w2⟩ := open_int Try.underlying3 (hval 2 3 v2 rfl rfl) h2
  clear hA0 hval0
  refine (compiles_walk s0 a1 len1 cap1 z1 x2 W b0 w1 wf1 b1 w2).mono fun e W' ⟨he, bel⟩ => ?_
  subst he
  exact ⟨_, rfl, _, _, _, [], _, [], hW', trodAll_mk1 (shut_bool Try.underlying4 _), (trodAll_cons_mk (shut_string Try.underlying9 w0) (trodAll_cons_mk (Below.trod laidOut (by kernel_rfl) (of_decide_eq_true (by kernel_rfl)) k1 bel lt1) (trodAll_cons_mk (shut_int Try.underlying3 w2) trodAll_mk0))), rfl, bel.frame _, fun h => by cases h⟩

theorem compiles_over : Rows.compilesRow.holds Try.pinned (OpenSpec.ofChange Rows.compilesSpec) :=
  OpenClaim.holds_of_wide 3 Try.f3 rfl rfl rfl rfl rfl rfl rfl ⟨rfl, rfl, rfl, rfl, rfl⟩ rfl rfl rfl rfl rfl (by kernel_rfl) Try.func3 (by kernel_rfl)
    (of_decide_eq_true (by kernel_rfl)) (by unfold Func.isWrapper; first | (rw [if_pos (by decide +kernel)]; kernel_rfl) | (rw [if_neg (by decide +kernel)]; exact ⟨rfl, rfl⟩))
    (fun os started H enc _ => compiles_lifted os started H enc)

/-- The statement. -/
theorem compiles_holds : Rows.CompilesSaid := compiles_over
#print axioms compiles_holds
end Go.Proofs.Ytbpolcnjojlkjab
