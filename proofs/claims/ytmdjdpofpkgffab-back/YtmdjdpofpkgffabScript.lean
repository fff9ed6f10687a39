/- Script: a script that came in: its steps in memory, and how great it can be. -/
import Derived.Test.YtmdjdpofpkgffabShown
import Derived.Test.YtmdjdpofpkgffabFrame
import Derived.Deep.Slices
namespace Go.Proofs.Ytmdjdpofpkgffab
open Go.ChangeShapes Go.WideShapes Go.ChangeAt Go.RowKit
open Split
set_option linter.unusedVariables false
set_option linter.unusedSimpArgs false

theorem weights_all {H : Type} {P : Program} {e : TypeId} : ∀ {ds : List (DataW H)} {d : DataW H}, d ∈ ds → ∀ n ∈ d.weights P e, n ∈ DataW.weightsAll P e ds
  | x :: xs, d, h, n, hn => by
    rw [DataW.weightsAll]
    rcases List.mem_cons.1 h with rfl | h
    · exact List.mem_append_left _ hn
    · exact List.mem_append_right _ (weights_all h n hn)

theorem six {α : Type} : ∀ {l : List α}, l.length = 6 → ∃ a b c d e f, l = [a, b, c, d, e, f]
  | [a, b, c, d, e, f], _ => ⟨a, b, c, d, e, f, rfl⟩

theorem cellsOp : Try.prog.cellsOf 46 = 6 := by kernel_rfl
theorem cellsI : Try.prog.cellsOf 3 = 1 := by kernel_rfl
theorem cellsS : Try.prog.cellsOf 9 = 1 := by kernel_rfl
theorem cellsV : Try.prog.cellsOf 22 = 1 := by kernel_rfl
theorem bytesOp : Try.prog.bytesOf 46 = 80 := by kernel_rfl

theorem op_open {H : Type} {enc : TypeId × Value → H} {W : World} {sp : Nat → Bool} {held : Bool} {n : Nat} {cs : List Value} {x : DataW H × List MemPlace} (h : DataW.trod enc Try.prog W 0 sp held n 46 cs = some x) :
    ∃ o : OpM, cs = opL o ∧ o.s.size ∈ x.1.weights Try.prog 46 := by
  obtain ⟨xs, m, _, rfl, hl, hlen, hf⟩ := DataW.trod_struct Try.underlying46 h
  rw [cellsOp] at hl
  obtain ⟨y0, y1, y2, y3, y4, y5, rfl⟩ := six hlen
  obtain ⟨v0, v1, v2, v3, v4, v5, rfl⟩ := six hl
  have h0 : DataW.trod enc Try.prog W 0 sp held m 3 (List.take (Try.prog.cellsOf 3) (List.drop 0 [v0, v1, v2, v3, v4, v5])) = some y0 := hf 0 _ rfl
  rw [cellsI] at h0
  replace h0 : DataW.trod enc Try.prog W 0 sp held m 3 [v0] = some y0 := h0
  have h1 : DataW.trod enc Try.prog W 0 sp held m 3 (List.take (Try.prog.cellsOf 3) (List.drop 1 [v0, v1, v2, v3, v4, v5])) = some y1 := hf 1 _ rfl
  rw [cellsI] at h1
  replace h1 : DataW.trod enc Try.prog W 0 sp held m 3 [v1] = some y1 := h1
  have h2 : DataW.trod enc Try.prog W 0 sp held m 3 (List.take (Try.prog.cellsOf 3) (List.drop 2 [v0, v1, v2, v3, v4, v5])) = some y2 := hf 2 _ rfl
  rw [cellsI] at h2
  replace h2 : DataW.trod enc Try.prog W 0 sp held m 3 [v2] = some y2 := h2
  have h3 : DataW.trod enc Try.prog W 0 sp held m 9 (List.take (Try.prog.cellsOf 9) (List.drop 3 [v0, v1, v2, v3, v4, v5])) = some y3 := hf 3 _ rfl
  rw [cellsS] at h3
  replace h3 : DataW.trod enc Try.prog W 0 sp held m 9 [v3] = some y3 := h3
  have h4 : DataW.trod enc Try.prog W 0 sp held m 9 (List.take (Try.prog.cellsOf 9) (List.drop 4 [v0, v1, v2, v3, v4, v5])) = some y4 := hf 4 _ rfl
  rw [cellsS] at h4
  replace h4 : DataW.trod enc Try.prog W 0 sp held m 9 [v4] = some y4 := h4
  have h5 : DataW.trod enc Try.prog W 0 sp held m 22 (List.take (Try.prog.cellsOf 22) (List.drop 5 [v0, v1, v2, v3, v4, v5])) = some y5 := hf 5 _ rfl
  rw [cellsV] at h5
  replace h5 : DataW.trod enc Try.prog W 0 sp held m 22 [v5] = some y5 := h5
  obtain ⟨z0, e0, _, _⟩ := DataW.trod_int Try.underlying3 h0
  obtain ⟨z1, e1, _, _⟩ := DataW.trod_int Try.underlying3 h1
  obtain ⟨z2, e2, _, _⟩ := DataW.trod_int Try.underlying3 h2
  obtain ⟨s3, e3, f3, _⟩ := DataW.trod_string Try.underlying9 h3
  obtain ⟨s4, e4, f4, _⟩ := DataW.trod_string Try.underlying9 h4
  obtain ⟨va, vn, vc, e5⟩ : ∃ va vn vc, [v5] = [Value.slice va vn vc] := by
    rcases Go.Deep.open_slice Try.underlying22 h5 with ⟨e, _⟩ | ⟨a, l, c, _, _, _, _, e, _⟩
    · exact ⟨_, _, _, e⟩
    · exact ⟨_, _, _, e⟩
  simp only [List.cons.injEq, and_true] at e0 e1 e2 e3 e4 e5
  subst e0 e1 e2 e3 e4 e5
  refine ⟨⟨z0, z1, z2, s3, s4, va, vn, vc⟩, rfl, ?_⟩
  show s3.size ∈ DataW.weights Try.prog 46 (.agg [y0.1, y1.1, y2.1, y3.1, y4.1, y5.1])
  have e : ∀ parts : List (DataW H), DataW.weights Try.prog 46 (.agg parts) = DataW.weightsEach Try.prog [3, 3, 3, 9, 9, 22] parts := fun parts => by
    rw [DataW.weights, Try.underlying46]
    rfl
  rw [e]
  refine DataW.weights_mem_each (j := 3) (t := 9) (d := y3.1) rfl rfl _ ?_
  rw [f3]
  show s3.size ∈ [s3.data.toList.length]
  exact List.mem_singleton.2 rfl

theorem ops_open {H : Type} {enc : TypeId × Value → H} {W : World} {a : Option Addr} {len cap : Nat} {d : DataW H} {p : List MemPlace}
    (h : DataW.Trod enc Try.prog W 0 (fun _ => true) true 39 (.slice a len cap) d p) (hsz : ∀ n ∈ d.weights Try.prog 39, n ≤ reachBytes) :
    ∃ os, Ops W a len os ∧ len * 80 ≤ 140737488351232 := by
  obtain ⟨fuel, hf⟩ := h
  rcases Go.Deep.open_slice Try.underlying39 hf with ⟨hcs, hx⟩ | ⟨ad, l, c, m, n, D, Pl, hcs, _, hl, hm, hmm, hx, hel⟩
  · simp [Value.cells] at hcs
    obtain ⟨rfl, rfl, rfl⟩ := hcs
    exact ⟨[], ⟨rfl, fun o ho => by simp at ho, fun h => by omega⟩, by omega⟩
  · simp [Value.cells] at hcs
    obtain ⟨rfl, rfl, rfl⟩ := hcs
    simp only [if_true] at hmm
    subst hmm
    simp only [Prod.mk.injEq] at hx
    have hd := hx.1
    rw [hd] at hsz
    have hw : len * 80 ≤ reachBytes := by
      have := hsz ((len + (m - len)) * Try.prog.bytesOf 46) (by simp [DataW.weights, Try.underlying39])
      rw [bytesOp] at this
      omega
    rw [cellsOp] at hel
    have each : ∀ i, i < len → ∃ o : OpM, W.cells? 0 (ad.add (i * 6)) 6 = some (opL o) ∧ o.s.size ≤ reachBytes := by
      intro i hi
      obtain ⟨cs, h1, h2⟩ := hel i (by omega)
      obtain ⟨o, rfl, h3⟩ := op_open h2
      refine ⟨o, h1, hsz _ ?_⟩
      simp only [DataW.weights, Try.underlying39]
      refine List.mem_cons_of_mem _ (List.mem_append_left _ (weights_all (d := D i) (List.mem_map.2 ⟨i, List.mem_range.2 hi, rfl⟩) _ h3))
    haveI : Inhabited OpM := ⟨⟨0, 0, 0, ⟨#[]⟩, ⟨#[]⟩, none, 0, 0⟩⟩
    obtain ⟨F, hF⟩ := Go.Deep.choose_lt each
    refine ⟨(List.range len).map F, ⟨by simp, fun o ho => ?_, fun hp => ?_⟩, by unfold reachBytes at hw; exact hw⟩
    · obtain ⟨i, hi, rfl⟩ := List.mem_map.1 ho
      have := (hF i (List.mem_range.1 hi)).2
      unfold reachBytes at this
      omega
    · obtain ⟨b, off, spot⟩ := ad
      have hspot : spot = none := by
        have h0 := (World.cells?_some (hF 0 hp).1).2.2 0 (by omega)
        have : (opL (F 0))[0]? = some (.int .i64 (F 0).kind) := rfl
        rw [this] at h0
        simpa [Addr.add] using World.cell?_spot h0
      subst hspot
      refine ⟨b, off, rfl, fun i o ho => ?_⟩
      have hi : i < len := by
        have := (List.getElem?_eq_some_iff.1 ho).1
        simpa using this
      obtain rfl : F i = o := by simpa [List.getElem?_map, List.getElem?_range hi] using ho
      have hc : ∀ j, j < 6 → W.cell? ⟨b, off + i * 6 + j, none⟩ = (opL (F i))[j]? := by
        intro j hj
        have := (World.cells?_some (hF i hi).1).2.2 j hj
        rwa [Addr.add_lit, Addr.add_lit] at this
      exact ⟨hc 0 (by omega), hc 1 (by omega), hc 2 (by omega), hc 3 (by omega), hc 4 (by omega), hc 5 (by omega)⟩

theorem ops_sized {H : Type} {ts : List TypeId} {ds : List (DataW H)} {j : Nat} {d : DataW H} (hsz : (DataW.weightsEach Try.prog ts ds).all (· ≤ reachBytes) = true)
    (ht : ts[j]? = some 39) (hd : ds[j]? = some d) : ∀ n ∈ d.weights Try.prog 39, n ≤ reachBytes := by
  intro n hn
  have := List.all_eq_true.1 hsz _ (DataW.weights_mem_each ht hd n hn)
  simpa using this
end Go.Proofs.Ytmdjdpofpkgffab
