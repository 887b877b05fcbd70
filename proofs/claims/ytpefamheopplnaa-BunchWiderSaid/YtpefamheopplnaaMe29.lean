/- Own work of the verifier of watercress: FzW2b, FzW2c. -/
import Derived.Test.YtpefamheopplnaaMe28
set_option linter.unusedVariables false
set_option linter.unusedSimpArgs false
namespace Go.Fz
open Go.Proofs
set_option maxRecDepth 100000
set_option linter.unusedVariables false
set_option maxHeartbeats 64000000 in
theorem wide_4zn (d : DayD) (x0 x1 : Int) (GW : List AV) (hGW : GW = flatG 2 (womC d) d.nw) (h0 : 0 < d.nw) (hnw : d.nw < 1048576) (hl : d.nl = 0) (GC : List AV) (hGC : GC = flatG 4 (cntC d) d.nc) (hc : 0 < d.nc) (hnc : d.nc < 1048576) (g : Nat → AV) (O : Ar) (hO : O = std) (h : AllP (fun p => g p.1 = p.2) (wiL x0 x1)) :
    SW Try.prog none (nthC 3 (bodyF Try.f11)) (midK 223 (wiL x0 x1) (wiS d [(4, .cells none false GC), (3, .cells none false []), (2, .cells none false GW)] (.sl 2 0 d.nw 2 false) (.sl 3 0 0 3 true) (.sl 4 0 d.nc 4 false) 5)) ⟨⟨223, g⟩, []⟩ (wiS d [] (womsV d) (lotsV d) (cntsV d) 2) := by
  obtain ⟨g1, g2, g3, g7, _⟩ := h
  simp only at g1 g2 g3 g7
  rw [← updT_self g1, ← updT_self g2, ← updT_self g3, ← updT_self g7]
  have hWb : ∀ a ∈ GW, Below 0 a := by rw [hGW]; exact flatG_below (fun i j => by unfold womC; split <;> exact Below.lit) _
  have hLb : ∀ a ∈ ([] : List AV), Below 0 a := fun a h => by cases h
  have hCb : ∀ a ∈ GC, Below 0 a := by rw [hGC]; exact flatG_below (fun i j => by unfold cntC; split <;> exact Below.lit) _
  refine SW.ren ?_
  refine (show SW Try.prog none (.region 4 wd4 true) _ _ _ from ?_)
  refine SW.drawnB tok (M := wd4M) mixed 18 wd4_tidy wd4_size (by kernel_rfl) ?_
  refine AnyE.tk wd4_tidy tok 1 29 2 (by kernel_rfl) (by kernel_rfl) (by cbv <;> rfl) (Eqv.refl _) ?_
  refine AnyE.tk wd4_tidy tok 2 30 6 (by kernel_rfl) (by kernel_rfl) (by cbv <;> rfl) (Eqv.refl _) ?_
  refine AnyE.tk wd4_tidy tok 5 33 38 (by kernel_rfl) (by kernel_rfl) (by cbv <;> rfl) (Eqv.refl _) ?_
  refine AnyE.tk wd4_tidy tok 6 34 102 (by kernel_rfl) (by kernel_rfl) (by cbv <;> rfl) (Eqv.refl _) ?_
  refine AnyE.tk wd4_tidy tok 9 37 614 (by kernel_rfl) (by kernel_rfl) (by cbv <;> rfl) (Eqv.refl _) ?_
  refine AnyE.tk wd4_tidy tok 10 38 1638 (by kernel_rfl) (by kernel_rfl) (by cbv <;> rfl) (Eqv.refl _) ?_
  refine AnyE.many [0, 4, 8] (by kernel_rfl) (by rfl) ⟨?_, ?_, ?_, trivial⟩
  · refine PickE.ef tok hO 1639 (by cbv <;> rfl) (by cbv <;> rfl) (by trivial) (by kernel_rfl) (by repeat (first | exact trivial | refine And.intro (by cbv <;> rfl) ?_)) ?_
    refine AnyE.many [3, 4, 8] (by kernel_rfl) (by rfl) ⟨?_, ?_, ?_, trivial⟩
    · refine PickE.ap tok 1647 31 (by cbv <;> rfl) (by cbv <;> rfl) (append_emptyG (by kernel_rfl) (by rfl) hnw h0 (fun i k => womC_one d i k) hGW) (by kernel_rfl) rfl (by repeat (first | exact trivial | refine And.intro (by cbv <;> rfl) ?_)) ?_
      refine AnyE.tk wd4_tidy tok 12 40 5743 (by kernel_rfl) (by kernel_rfl) (by cbv <;> rfl) (Eqv.refl _) ?_
      refine AnyE.many [4, 8] (by kernel_rfl) (by rfl) ⟨?_, ?_, trivial⟩
      · refine PickE.ef tok hO 5759 (by cbv <;> rfl) (by cbv <;> rfl) (by trivial) (by kernel_rfl) (by repeat (first | exact trivial | refine And.intro (by cbv <;> rfl) ?_)) ?_
        refine AnyE.many [7, 8] (by kernel_rfl) (by rfl) ⟨?_, ?_, trivial⟩
        · refine PickE.ap tok 5887 35 (by cbv <;> rfl) (by cbv <;> rfl) (append_noneZ hl (by kernel_rfl) (by rfl)) (by kernel_rfl) rfl (by repeat (first | exact trivial | refine And.intro (by cbv <;> rfl) ?_)) ?_
          refine AnyE.ef tok hO 8 6143 (by kernel_rfl) (by cbv <;> rfl) (by cbv <;> rfl) (by trivial) (by kernel_rfl) (by repeat (first | exact trivial | refine And.intro (by cbv <;> rfl) ?_)) ?_
          refine AnyE.ap tok 11 8191 39 (by kernel_rfl) (by cbv <;> rfl) (by cbv <;> rfl) (append_emptyG (by kernel_rfl) (by rfl) hnc hc (fun i k => cntC_one d i k) hGC) (by kernel_rfl) rfl (by repeat (first | exact trivial | refine And.intro (by cbv <;> rfl) ?_)) ?_
          refine AnyE.ef tok hO 13 16383 (by kernel_rfl) (by cbv <;> rfl) (by cbv <;> rfl) (by trivial) (by kernel_rfl) (by repeat (first | exact trivial | refine And.intro (by cbv <;> rfl) ?_)) ?_
          refine AnyE.tk wd4_tidy tok 14 41 32767 (by kernel_rfl) (by kernel_rfl) (by cbv <;> rfl) (Eqv.refl _) ?_
          refine AnyE.ef tok hO 15 65535 (by kernel_rfl) (by cbv <;> rfl) (by cbv <;> rfl) (by trivial) (by kernel_rfl) (by repeat (first | exact trivial | refine And.intro (by cbv <;> rfl) ?_)) ?_
          refine AnyE.tk wd4_tidy tok 16 42 131071 (by kernel_rfl) (by kernel_rfl) (by cbv <;> rfl) (Eqv.refl _) ?_
          refine AnyE.ef tok hO 17 262143 (by kernel_rfl) (by cbv <;> rfl) (by cbv <;> rfl) (by trivial) (by kernel_rfl) (by repeat (first | exact trivial | refine And.intro (by cbv <;> rfl) ?_)) ?_
          refine AnyE.done (by kernel_rfl) ?_
          exact wide_fin hWb hLb hCb 3 4 6 rfl rfl rfl rfl rfl rfl rfl rfl rfl rfl rfl rfl
        · refine PickE.ef tok hO 6015 (by cbv <;> rfl) (by cbv <;> rfl) (by trivial) (by kernel_rfl) (by repeat (first | exact trivial | refine And.intro (by cbv <;> rfl) ?_)) ?_
          refine AnyE.ap tok 7 6143 35 (by kernel_rfl) (by cbv <;> rfl) (by cbv <;> rfl) (append_noneZ hl (by kernel_rfl) (by rfl)) (by kernel_rfl) rfl (by repeat (first | exact trivial | refine And.intro (by cbv <;> rfl) ?_)) ?_
          refine AnyE.ap tok 11 8191 39 (by kernel_rfl) (by cbv <;> rfl) (by cbv <;> rfl) (append_emptyG (by kernel_rfl) (by rfl) hnc hc (fun i k => cntC_one d i k) hGC) (by kernel_rfl) rfl (by repeat (first | exact trivial | refine And.intro (by cbv <;> rfl) ?_)) ?_
          refine AnyE.ef tok hO 13 16383 (by kernel_rfl) (by cbv <;> rfl) (by cbv <;> rfl) (by trivial) (by kernel_rfl) (by repeat (first | exact trivial | refine And.intro (by cbv <;> rfl) ?_)) ?_
          refine AnyE.tk wd4_tidy tok 14 41 32767 (by kernel_rfl) (by kernel_rfl) (by cbv <;> rfl) (Eqv.refl _) ?_
          refine AnyE.ef tok hO 15 65535 (by kernel_rfl) (by cbv <;> rfl) (by cbv <;> rfl) (by trivial) (by kernel_rfl) (by repeat (first | exact trivial | refine And.intro (by cbv <;> rfl) ?_)) ?_
          refine AnyE.tk wd4_tidy tok 16 42 131071 (by kernel_rfl) (by kernel_rfl) (by cbv <;> rfl) (Eqv.refl _) ?_
          refine AnyE.ef tok hO 17 262143 (by kernel_rfl) (by cbv <;> rfl) (by cbv <;> rfl) (by trivial) (by kernel_rfl) (by repeat (first | exact trivial | refine And.intro (by cbv <;> rfl) ?_)) ?_
          refine AnyE.done (by kernel_rfl) ?_
          exact wide_fin hWb hLb hCb 3 4 6 rfl rfl rfl rfl rfl rfl rfl rfl rfl rfl rfl rfl
      · refine PickE.ef tok hO 5999 (by cbv <;> rfl) (by cbv <;> rfl) (by trivial) (by kernel_rfl) (by repeat (first | exact trivial | refine And.intro (by cbv <;> rfl) ?_)) ?_
        refine AnyE.ef tok hO 4 6015 (by kernel_rfl) (by cbv <;> rfl) (by cbv <;> rfl) (by trivial) (by kernel_rfl) (by repeat (first | exact trivial | refine And.intro (by cbv <;> rfl) ?_)) ?_
        refine AnyE.ap tok 7 6143 35 (by kernel_rfl) (by cbv <;> rfl) (by cbv <;> rfl) (append_noneZ hl (by kernel_rfl) (by rfl)) (by kernel_rfl) rfl (by repeat (first | exact trivial | refine And.intro (by cbv <;> rfl) ?_)) ?_
        refine AnyE.ap tok 11 8191 39 (by kernel_rfl) (by cbv <;> rfl) (by cbv <;> rfl) (append_emptyG (by kernel_rfl) (by rfl) hnc hc (fun i k => cntC_one d i k) hGC) (by kernel_rfl) rfl (by repeat (first | exact trivial | refine And.intro (by cbv <;> rfl) ?_)) ?_
        refine AnyE.ef tok hO 13 16383 (by kernel_rfl) (by cbv <;> rfl) (by cbv <;> rfl) (by trivial) (by kernel_rfl) (by repeat (first | exact trivial | refine And.intro (by cbv <;> rfl) ?_)) ?_
        refine AnyE.tk wd4_tidy tok 14 41 32767 (by kernel_rfl) (by kernel_rfl) (by cbv <;> rfl) (Eqv.refl _) ?_
        refine AnyE.ef tok hO 15 65535 (by kernel_rfl) (by cbv <;> rfl) (by cbv <;> rfl) (by trivial) (by kernel_rfl) (by repeat (first | exact trivial | refine And.intro (by cbv <;> rfl) ?_)) ?_
        refine AnyE.tk wd4_tidy tok 16 42 131071 (by kernel_rfl) (by kernel_rfl) (by cbv <;> rfl) (Eqv.refl _) ?_
        refine AnyE.ef tok hO 17 262143 (by kernel_rfl) (by cbv <;> rfl) (by cbv <;> rfl) (by trivial) (by kernel_rfl) (by repeat (first | exact trivial | refine And.intro (by cbv <;> rfl) ?_)) ?_
        refine AnyE.done (by kernel_rfl) ?_
        exact wide_fin hWb hLb hCb 3 5 6 rfl rfl rfl rfl rfl rfl rfl rfl rfl rfl rfl rfl
    · refine PickE.ef tok hO 1655 (by cbv <;> rfl) (by cbv <;> rfl) (by trivial) (by kernel_rfl) (by repeat (first | exact trivial | refine And.intro (by cbv <;> rfl) ?_)) ?_
      refine AnyE.many [3, 8] (by kernel_rfl) (by rfl) ⟨?_, ?_, trivial⟩
      · refine PickE.ap tok 1663 31 (by cbv <;> rfl) (by cbv <;> rfl) (append_emptyG (by kernel_rfl) (by rfl) hnw h0 (fun i k => womC_one d i k) hGW) (by kernel_rfl) rfl (by repeat (first | exact trivial | refine And.intro (by cbv <;> rfl) ?_)) ?_
        refine AnyE.tk wd4_tidy tok 12 40 5759 (by kernel_rfl) (by kernel_rfl) (by cbv <;> rfl) (Eqv.refl _) ?_
        refine AnyE.many [7, 8] (by kernel_rfl) (by rfl) ⟨?_, ?_, trivial⟩
        · refine PickE.ap tok 5887 35 (by cbv <;> rfl) (by cbv <;> rfl) (append_noneZ hl (by kernel_rfl) (by rfl)) (by kernel_rfl) rfl (by repeat (first | exact trivial | refine And.intro (by cbv <;> rfl) ?_)) ?_
          refine AnyE.ef tok hO 8 6143 (by kernel_rfl) (by cbv <;> rfl) (by cbv <;> rfl) (by trivial) (by kernel_rfl) (by repeat (first | exact trivial | refine And.intro (by cbv <;> rfl) ?_)) ?_
          refine AnyE.ap tok 11 8191 39 (by kernel_rfl) (by cbv <;> rfl) (by cbv <;> rfl) (append_emptyG (by kernel_rfl) (by rfl) hnc hc (fun i k => cntC_one d i k) hGC) (by kernel_rfl) rfl (by repeat (first | exact trivial | refine And.intro (by cbv <;> rfl) ?_)) ?_
          refine AnyE.ef tok hO 13 16383 (by kernel_rfl) (by cbv <;> rfl) (by cbv <;> rfl) (by trivial) (by kernel_rfl) (by repeat (first | exact trivial | refine And.intro (by cbv <;> rfl) ?_)) ?_
          refine AnyE.tk wd4_tidy tok 14 41 32767 (by kernel_rfl) (by kernel_rfl) (by cbv <;> rfl) (Eqv.refl _) ?_
          refine AnyE.ef tok hO 15 65535 (by kernel_rfl) (by cbv <;> rfl) (by cbv <;> rfl) (by trivial) (by kernel_rfl) (by repeat (first | exact trivial | refine And.intro (by cbv <;> rfl) ?_)) ?_
          refine AnyE.tk wd4_tidy tok 16 42 131071 (by kernel_rfl) (by kernel_rfl) (by cbv <;> rfl) (Eqv.refl _) ?_
          refine AnyE.ef tok hO 17 262143 (by kernel_rfl) (by cbv <;> rfl) (by cbv <;> rfl) (by trivial) (by kernel_rfl) (by repeat (first | exact trivial | refine And.intro (by cbv <;> rfl) ?_)) ?_
          refine AnyE.done (by kernel_rfl) ?_
          exact wide_fin hWb hLb hCb 4 3 6 rfl rfl rfl rfl rfl rfl rfl rfl rfl rfl rfl rfl
        · refine PickE.ef tok hO 6015 (by cbv <;> rfl) (by cbv <;> rfl) (by trivial) (by kernel_rfl) (by repeat (first | exact trivial | refine And.intro (by cbv <;> rfl) ?_)) ?_
          refine AnyE.ap tok 7 6143 35 (by kernel_rfl) (by cbv <;> rfl) (by cbv <;> rfl) (append_noneZ hl (by kernel_rfl) (by rfl)) (by kernel_rfl) rfl (by repeat (first | exact trivial | refine And.intro (by cbv <;> rfl) ?_)) ?_
          refine AnyE.ap tok 11 8191 39 (by kernel_rfl) (by cbv <;> rfl) (by cbv <;> rfl) (append_emptyG (by kernel_rfl) (by rfl) hnc hc (fun i k => cntC_one d i k) hGC) (by kernel_rfl) rfl (by repeat (first | exact trivial | refine And.intro (by cbv <;> rfl) ?_)) ?_
          refine AnyE.ef tok hO 13 16383 (by kernel_rfl) (by cbv <;> rfl) (by cbv <;> rfl) (by trivial) (by kernel_rfl) (by repeat (first | exact trivial | refine And.intro (by cbv <;> rfl) ?_)) ?_
          refine AnyE.tk wd4_tidy tok 14 41 32767 (by kernel_rfl) (by kernel_rfl) (by cbv <;> rfl) (Eqv.refl _) ?_
          refine AnyE.ef tok hO 15 65535 (by kernel_rfl) (by cbv <;> rfl) (by cbv <;> rfl) (by trivial) (by kernel_rfl) (by repeat (first | exact trivial | refine And.intro (by cbv <;> rfl) ?_)) ?_
          refine AnyE.tk wd4_tidy tok 16 42 131071 (by kernel_rfl) (by kernel_rfl) (by cbv <;> rfl) (Eqv.refl _) ?_
          refine AnyE.ef tok hO 17 262143 (by kernel_rfl) (by cbv <;> rfl) (by cbv <;> rfl) (by trivial) (by kernel_rfl) (by repeat (first | exact trivial | refine And.intro (by cbv <;> rfl) ?_)) ?_
          refine AnyE.done (by kernel_rfl) ?_
          exact wide_fin hWb hLb hCb 4 3 6 rfl rfl rfl rfl rfl rfl rfl rfl rfl rfl rfl rfl
      · refine PickE.ef tok hO 1911 (by cbv <;> rfl) (by cbv <;> rfl) (by trivial) (by kernel_rfl) (by repeat (first | exact trivial | refine And.intro (by cbv <;> rfl) ?_)) ?_
        refine AnyE.ap tok 3 1919 31 (by kernel_rfl) (by cbv <;> rfl) (by cbv <;> rfl) (append_emptyG (by kernel_rfl) (by rfl) hnw h0 (fun i k => womC_one d i k) hGW) (by kernel_rfl) rfl (by repeat (first | exact trivial | refine And.intro (by cbv <;> rfl) ?_)) ?_
        refine AnyE.tk wd4_tidy tok 12 40 6015 (by kernel_rfl) (by kernel_rfl) (by cbv <;> rfl) (Eqv.refl _) ?_
        refine AnyE.ap tok 7 6143 35 (by kernel_rfl) (by cbv <;> rfl) (by cbv <;> rfl) (append_noneZ hl (by kernel_rfl) (by rfl)) (by kernel_rfl) rfl (by repeat (first | exact trivial | refine And.intro (by cbv <;> rfl) ?_)) ?_
        refine AnyE.ap tok 11 8191 39 (by kernel_rfl) (by cbv <;> rfl) (by cbv <;> rfl) (append_emptyG (by kernel_rfl) (by rfl) hnc hc (fun i k => cntC_one d i k) hGC) (by kernel_rfl) rfl (by repeat (first | exact trivial | refine And.intro (by cbv <;> rfl) ?_)) ?_
        refine AnyE.ef tok hO 13 16383 (by kernel_rfl) (by cbv <;> rfl) (by cbv <;> rfl) (by trivial) (by kernel_rfl) (by repeat (first | exact trivial | refine And.intro (by cbv <;> rfl) ?_)) ?_
        refine AnyE.tk wd4_tidy tok 14 41 32767 (by kernel_rfl) (by kernel_rfl) (by cbv <;> rfl) (Eqv.refl _) ?_
        refine AnyE.ef tok hO 15 65535 (by kernel_rfl) (by cbv <;> rfl) (by cbv <;> rfl) (by trivial) (by kernel_rfl) (by repeat (first | exact trivial | refine And.intro (by cbv <;> rfl) ?_)) ?_
        refine AnyE.tk wd4_tidy tok 16 42 131071 (by kernel_rfl) (by kernel_rfl) (by cbv <;> rfl) (Eqv.refl _) ?_
        refine AnyE.ef tok hO 17 262143 (by kernel_rfl) (by cbv <;> rfl) (by cbv <;> rfl) (by trivial) (by kernel_rfl) (by repeat (first | exact trivial | refine And.intro (by cbv <;> rfl) ?_)) ?_
        refine AnyE.done (by kernel_rfl) ?_
        exact wide_fin hWb hLb hCb 5 3 6 rfl rfl rfl rfl rfl rfl rfl rfl rfl rfl rfl rfl
    · refine PickE.ef tok hO 1895 (by cbv <;> rfl) (by cbv <;> rfl) (by trivial) (by kernel_rfl) (by repeat (first | exact trivial | refine And.intro (by cbv <;> rfl) ?_)) ?_
      refine AnyE.many [3, 4] (by kernel_rfl) (by rfl) ⟨?_, ?_, trivial⟩
      · refine PickE.ap tok 1903 31 (by cbv <;> rfl) (by cbv <;> rfl) (append_emptyG (by kernel_rfl) (by rfl) hnw h0 (fun i k => womC_one d i k) hGW) (by kernel_rfl) rfl (by repeat (first | exact trivial | refine And.intro (by cbv <;> rfl) ?_)) ?_
        refine AnyE.tk wd4_tidy tok 12 40 5999 (by kernel_rfl) (by kernel_rfl) (by cbv <;> rfl) (Eqv.refl _) ?_
        refine AnyE.ef tok hO 4 6015 (by kernel_rfl) (by cbv <;> rfl) (by cbv <;> rfl) (by trivial) (by kernel_rfl) (by repeat (first | exact trivial | refine And.intro (by cbv <;> rfl) ?_)) ?_
        refine AnyE.ap tok 7 6143 35 (by kernel_rfl) (by cbv <;> rfl) (by cbv <;> rfl) (append_noneZ hl (by kernel_rfl) (by rfl)) (by kernel_rfl) rfl (by repeat (first | exact trivial | refine And.intro (by cbv <;> rfl) ?_)) ?_
        refine AnyE.ap tok 11 8191 39 (by kernel_rfl) (by cbv <;> rfl) (by cbv <;> rfl) (append_emptyG (by kernel_rfl) (by rfl) hnc hc (fun i k => cntC_one d i k) hGC) (by kernel_rfl) rfl (by repeat (first | exact trivial | refine And.intro (by cbv <;> rfl) ?_)) ?_
        refine AnyE.ef tok hO 13 16383 (by kernel_rfl) (by cbv <;> rfl) (by cbv <;> rfl) (by trivial) (by kernel_rfl) (by repeat (first | exact trivial | refine And.intro (by cbv <;> rfl) ?_)) ?_
        refine AnyE.tk wd4_tidy tok 14 41 32767 (by kernel_rfl) (by kernel_rfl) (by cbv <;> rfl) (Eqv.refl _) ?_
        refine AnyE.ef tok hO 15 65535 (by kernel_rfl) (by cbv <;> rfl) (by cbv <;> rfl) (by trivial) (by kernel_rfl) (by repeat (first | exact trivial | refine And.intro (by cbv <;> rfl) ?_)) ?_
        refine AnyE.tk wd4_tidy tok 16 42 131071 (by kernel_rfl) (by kernel_rfl) (by cbv <;> rfl) (Eqv.refl _) ?_
        refine AnyE.ef tok hO 17 262143 (by kernel_rfl) (by cbv <;> rfl) (by cbv <;> rfl) (by trivial) (by kernel_rfl) (by repeat (first | exact trivial | refine And.intro (by cbv <;> rfl) ?_)) ?_
        refine AnyE.done (by kernel_rfl) ?_
        exact wide_fin hWb hLb hCb 4 5 6 rfl rfl rfl rfl rfl rfl rfl rfl rfl rfl rfl rfl
      · refine PickE.ef tok hO 1911 (by cbv <;> rfl) (by cbv <;> rfl) (by trivial) (by kernel_rfl) (by repeat (first | exact trivial | refine And.intro (by cbv <;> rfl) ?_)) ?_
        refine AnyE.ap tok 3 1919 31 (by kernel_rfl) (by cbv <;> rfl) (by cbv <;> rfl) (append_emptyG (by kernel_rfl) (by rfl) hnw h0 (fun i k => womC_one d i k) hGW) (by kernel_rfl) rfl (by repeat (first | exact trivial | refine And.intro (by cbv <;> rfl) ?_)) ?_
        refine AnyE.tk wd4_tidy tok 12 40 6015 (by kernel_rfl) (by kernel_rfl) (by cbv <;> rfl) (Eqv.refl _) ?_
        refine AnyE.ap tok 7 6143 35 (by kernel_rfl) (by cbv <;> rfl) (by cbv <;> rfl) (append_noneZ hl (by kernel_rfl) (by rfl)) (by kernel_rfl) rfl (by repeat (first | exact trivial | refine And.intro (by cbv <;> rfl) ?_)) ?_
        refine AnyE.ap tok 11 8191 39 (by kernel_rfl) (by cbv <;> rfl) (by cbv <;> rfl) (append_emptyG (by kernel_rfl) (by rfl) hnc hc (fun i k => cntC_one d i k) hGC) (by kernel_rfl) rfl (by repeat (first | exact trivial | refine And.intro (by cbv <;> rfl) ?_)) ?_
        refine AnyE.ef tok hO 13 16383 (by kernel_rfl) (by cbv <;> rfl) (by cbv <;> rfl) (by trivial) (by kernel_rfl) (by repeat (first | exact trivial | refine And.intro (by cbv <;> rfl) ?_)) ?_
        refine AnyE.tk wd4_tidy tok 14 41 32767 (by kernel_rfl) (by kernel_rfl) (by cbv <;> rfl) (Eqv.refl _) ?_
        refine AnyE.ef tok hO 15 65535 (by kernel_rfl) (by cbv <;> rfl) (by cbv <;> rfl) (by trivial) (by kernel_rfl) (by repeat (first | exact trivial | refine And.intro (by cbv <;> rfl) ?_)) ?_
        refine AnyE.tk wd4_tidy tok 16 42 131071 (by kernel_rfl) (by kernel_rfl) (by cbv <;> rfl) (Eqv.refl _) ?_
        refine AnyE.ef tok hO 17 262143 (by kernel_rfl) (by cbv <;> rfl) (by cbv <;> rfl) (by trivial) (by kernel_rfl) (by repeat (first | exact trivial | refine And.intro (by cbv <;> rfl) ?_)) ?_
        refine AnyE.done (by kernel_rfl) ?_
        exact wide_fin hWb hLb hCb 5 4 6 rfl rfl rfl rfl rfl rfl rfl rfl rfl rfl rfl rfl
  · refine PickE.ef tok hO 1654 (by cbv <;> rfl) (by cbv <;> rfl) (by trivial) (by kernel_rfl) (by repeat (first | exact trivial | refine And.intro (by cbv <;> rfl) ?_)) ?_
    refine AnyE.many [0, 8] (by kernel_rfl) (by rfl) ⟨?_, ?_, trivial⟩
    · refine PickE.ef tok hO 1655 (by cbv <;> rfl) (by cbv <;> rfl) (by trivial) (by kernel_rfl) (by repeat (first | exact trivial | refine And.intro (by cbv <;> rfl) ?_)) ?_
      refine AnyE.many [3, 8] (by kernel_rfl) (by rfl) ⟨?_, ?_, trivial⟩
      · refine PickE.ap tok 1663 31 (by cbv <;> rfl) (by cbv <;> rfl) (append_emptyG (by kernel_rfl) (by rfl) hnw h0 (fun i k => womC_one d i k) hGW) (by kernel_rfl) rfl (by repeat (first | exact trivial | refine And.intro (by cbv <;> rfl) ?_)) ?_
        refine AnyE.tk wd4_tidy tok 12 40 5759 (by kernel_rfl) (by kernel_rfl) (by cbv <;> rfl) (Eqv.refl _) ?_
        refine AnyE.many [7, 8] (by kernel_rfl) (by rfl) ⟨?_, ?_, trivial⟩
        · refine PickE.ap tok 5887 35 (by cbv <;> rfl) (by cbv <;> rfl) (append_noneZ hl (by kernel_rfl) (by rfl)) (by kernel_rfl) rfl (by repeat (first | exact trivial | refine And.intro (by cbv <;> rfl) ?_)) ?_
          refine AnyE.ef tok hO 8 6143 (by kernel_rfl) (by cbv <;> rfl) (by cbv <;> rfl) (by trivial) (by kernel_rfl) (by repeat (first | exact trivial | refine And.intro (by cbv <;> rfl) ?_)) ?_
          refine AnyE.ap tok 11 8191 39 (by kernel_rfl) (by cbv <;> rfl) (by cbv <;> rfl) (append_emptyG (by kernel_rfl) (by rfl) hnc hc (fun i k => cntC_one d i k) hGC) (by kernel_rfl) rfl (by repeat (first | exact trivial | refine And.intro (by cbv <;> rfl) ?_)) ?_
          refine AnyE.ef tok hO 13 16383 (by kernel_rfl) (by cbv <;> rfl) (by cbv <;> rfl) (by trivial) (by kernel_rfl) (by repeat (first | exact trivial | refine And.intro (by cbv <;> rfl) ?_)) ?_
          refine AnyE.tk wd4_tidy tok 14 41 32767 (by kernel_rfl) (by kernel_rfl) (by cbv <;> rfl) (Eqv.refl _) ?_
          refine AnyE.ef tok hO 15 65535 (by kernel_rfl) (by cbv <;> rfl) (by cbv <;> rfl) (by trivial) (by kernel_rfl) (by repeat (first | exact trivial | refine And.intro (by cbv <;> rfl) ?_)) ?_
          refine AnyE.tk wd4_tidy tok 16 42 131071 (by kernel_rfl) (by kernel_rfl) (by cbv <;> rfl) (Eqv.refl _) ?_
          refine AnyE.ef tok hO 17 262143 (by kernel_rfl) (by cbv <;> rfl) (by cbv <;> rfl) (by trivial) (by kernel_rfl) (by repeat (first | exact trivial | refine And.intro (by cbv <;> rfl) ?_)) ?_
          refine AnyE.done (by kernel_rfl) ?_
          exact wide_fin hWb hLb hCb 4 2 6 rfl rfl rfl rfl rfl rfl rfl rfl rfl rfl rfl rfl
        · refine PickE.ef tok hO 6015 (by cbv <;> rfl) (by cbv <;> rfl) (by trivial) (by kernel_rfl) (by repeat (first | exact trivial | refine And.intro (by cbv <;> rfl) ?_)) ?_
          refine AnyE.ap tok 7 6143 35 (by kernel_rfl) (by cbv <;> rfl) (by cbv <;> rfl) (append_noneZ hl (by kernel_rfl) (by rfl)) (by kernel_rfl) rfl (by repeat (first | exact trivial | refine And.intro (by cbv <;> rfl) ?_)) ?_
          refine AnyE.ap tok 11 8191 39 (by kernel_rfl) (by cbv <;> rfl) (by cbv <;> rfl) (append_emptyG (by kernel_rfl) (by rfl) hnc hc (fun i k => cntC_one d i k) hGC) (by kernel_rfl) rfl (by repeat (first | exact trivial | refine And.intro (by cbv <;> rfl) ?_)) ?_
          refine AnyE.ef tok hO 13 16383 (by kernel_rfl) (by cbv <;> rfl) (by cbv <;> rfl) (by trivial) (by kernel_rfl) (by repeat (first | exact trivial | refine And.intro (by cbv <;> rfl) ?_)) ?_
          refine AnyE.tk wd4_tidy tok 14 41 32767 (by kernel_rfl) (by kernel_rfl) (by cbv <;> rfl) (Eqv.refl _) ?_
          refine AnyE.ef tok hO 15 65535 (by kernel_rfl) (by cbv <;> rfl) (by cbv <;> rfl) (by trivial) (by kernel_rfl) (by repeat (first | exact trivial | refine And.intro (by cbv <;> rfl) ?_)) ?_
          refine AnyE.tk wd4_tidy tok 16 42 131071 (by kernel_rfl) (by kernel_rfl) (by cbv <;> rfl) (Eqv.refl _) ?_
          refine AnyE.ef tok hO 17 262143 (by kernel_rfl) (by cbv <;> rfl) (by cbv <;> rfl) (by trivial) (by kernel_rfl) (by repeat (first | exact trivial | refine And.intro (by cbv <;> rfl) ?_)) ?_
          refine AnyE.done (by kernel_rfl) ?_
          exact wide_fin hWb hLb hCb 4 2 6 rfl rfl rfl rfl rfl rfl rfl rfl rfl rfl rfl rfl
      · refine PickE.ef tok hO 1911 (by cbv <;> rfl) (by cbv <;> rfl) (by trivial) (by kernel_rfl) (by repeat (first | exact trivial | refine And.intro (by cbv <;> rfl) ?_)) ?_
        refine AnyE.ap tok 3 1919 31 (by kernel_rfl) (by cbv <;> rfl) (by cbv <;> rfl) (append_emptyG (by kernel_rfl) (by rfl) hnw h0 (fun i k => womC_one d i k) hGW) (by kernel_rfl) rfl (by repeat (first | exact trivial | refine And.intro (by cbv <;> rfl) ?_)) ?_
        refine AnyE.tk wd4_tidy tok 12 40 6015 (by kernel_rfl) (by kernel_rfl) (by cbv <;> rfl) (Eqv.refl _) ?_
        refine AnyE.ap tok 7 6143 35 (by kernel_rfl) (by cbv <;> rfl) (by cbv <;> rfl) (append_noneZ hl (by kernel_rfl) (by rfl)) (by kernel_rfl) rfl (by repeat (first | exact trivial | refine And.intro (by cbv <;> rfl) ?_)) ?_
        refine AnyE.ap tok 11 8191 39 (by kernel_rfl) (by cbv <;> rfl) (by cbv <;> rfl) (append_emptyG (by kernel_rfl) (by rfl) hnc hc (fun i k => cntC_one d i k) hGC) (by kernel_rfl) rfl (by repeat (first | exact trivial | refine And.intro (by cbv <;> rfl) ?_)) ?_
        refine AnyE.ef tok hO 13 16383 (by kernel_rfl) (by cbv <;> rfl) (by cbv <;> rfl) (by trivial) (by kernel_rfl) (by repeat (first | exact trivial | refine And.intro (by cbv <;> rfl) ?_)) ?_
        refine AnyE.tk wd4_tidy tok 14 41 32767 (by kernel_rfl) (by kernel_rfl) (by cbv <;> rfl) (Eqv.refl _) ?_
        refine AnyE.ef tok hO 15 65535 (by kernel_rfl) (by cbv <;> rfl) (by cbv <;> rfl) (by trivial) (by kernel_rfl) (by repeat (first | exact trivial | refine And.intro (by cbv <;> rfl) ?_)) ?_
        refine AnyE.tk wd4_tidy tok 16 42 131071 (by kernel_rfl) (by kernel_rfl) (by cbv <;> rfl) (Eqv.refl _) ?_
        refine AnyE.ef tok hO 17 262143 (by kernel_rfl) (by cbv <;> rfl) (by cbv <;> rfl) (by trivial) (by kernel_rfl) (by repeat (first | exact trivial | refine And.intro (by cbv <;> rfl) ?_)) ?_
        refine AnyE.done (by kernel_rfl) ?_
        exact wide_fin hWb hLb hCb 5 2 6 rfl rfl rfl rfl rfl rfl rfl rfl rfl rfl rfl rfl
    · refine PickE.ef tok hO 1910 (by cbv <;> rfl) (by cbv <;> rfl) (by trivial) (by kernel_rfl) (by repeat (first | exact trivial | refine And.intro (by cbv <;> rfl) ?_)) ?_
      refine AnyE.ef tok hO 0 1911 (by kernel_rfl) (by cbv <;> rfl) (by cbv <;> rfl) (by trivial) (by kernel_rfl) (by repeat (first | exact trivial | refine And.intro (by cbv <;> rfl) ?_)) ?_
      refine AnyE.ap tok 3 1919 31 (by kernel_rfl) (by cbv <;> rfl) (by cbv <;> rfl) (append_emptyG (by kernel_rfl) (by rfl) hnw h0 (fun i k => womC_one d i k) hGW) (by kernel_rfl) rfl (by repeat (first | exact trivial | refine And.intro (by cbv <;> rfl) ?_)) ?_
      refine AnyE.tk wd4_tidy tok 12 40 6015 (by kernel_rfl) (by kernel_rfl) (by cbv <;> rfl) (Eqv.refl _) ?_
      refine AnyE.ap tok 7 6143 35 (by kernel_rfl) (by cbv <;> rfl) (by cbv <;> rfl) (append_noneZ hl (by kernel_rfl) (by rfl)) (by kernel_rfl) rfl (by repeat (first | exact trivial | refine And.intro (by cbv <;> rfl) ?_)) ?_
      refine AnyE.ap tok 11 8191 39 (by kernel_rfl) (by cbv <;> rfl) (by cbv <;> rfl) (append_emptyG (by kernel_rfl) (by rfl) hnc hc (fun i k => cntC_one d i k) hGC) (by kernel_rfl) rfl (by repeat (first | exact trivial | refine And.intro (by cbv <;> rfl) ?_)) ?_
      refine AnyE.ef tok hO 13 16383 (by kernel_rfl) (by cbv <;> rfl) (by cbv <;> rfl) (by trivial) (by kernel_rfl) (by repeat (first | exact trivial | refine And.intro (by cbv <;> rfl) ?_)) ?_
      refine AnyE.tk wd4_tidy tok 14 41 32767 (by kernel_rfl) (by kernel_rfl) (by cbv <;> rfl) (Eqv.refl _) ?_
      refine AnyE.ef tok hO 15 65535 (by kernel_rfl) (by cbv <;> rfl) (by cbv <;> rfl) (by trivial) (by kernel_rfl) (by repeat (first | exact trivial | refine And.intro (by cbv <;> rfl) ?_)) ?_
      refine AnyE.tk wd4_tidy tok 16 42 131071 (by kernel_rfl) (by kernel_rfl) (by cbv <;> rfl) (Eqv.refl _) ?_
      refine AnyE.ef tok hO 17 262143 (by kernel_rfl) (by cbv <;> rfl) (by cbv <;> rfl) (by trivial) (by kernel_rfl) (by repeat (first | exact trivial | refine And.intro (by cbv <;> rfl) ?_)) ?_
      refine AnyE.done (by kernel_rfl) ?_
      exact wide_fin hWb hLb hCb 5 2 6 rfl rfl rfl rfl rfl rfl rfl rfl rfl rfl rfl rfl
  · refine PickE.ef tok hO 1894 (by cbv <;> rfl) (by cbv <;> rfl) (by trivial) (by kernel_rfl) (by repeat (first | exact trivial | refine And.intro (by cbv <;> rfl) ?_)) ?_
    refine AnyE.many [0, 4] (by kernel_rfl) (by rfl) ⟨?_, ?_, trivial⟩
    · refine PickE.ef tok hO 1895 (by cbv <;> rfl) (by cbv <;> rfl) (by trivial) (by kernel_rfl) (by repeat (first | exact trivial | refine And.intro (by cbv <;> rfl) ?_)) ?_
      refine AnyE.many [3, 4] (by kernel_rfl) (by rfl) ⟨?_, ?_, trivial⟩
      · refine PickE.ap tok 1903 31 (by cbv <;> rfl) (by cbv <;> rfl) (append_emptyG (by kernel_rfl) (by rfl) hnw h0 (fun i k => womC_one d i k) hGW) (by kernel_rfl) rfl (by repeat (first | exact trivial | refine And.intro (by cbv <;> rfl) ?_)) ?_
        refine AnyE.tk wd4_tidy tok 12 40 5999 (by kernel_rfl) (by kernel_rfl) (by cbv <;> rfl) (Eqv.refl _) ?_
        refine AnyE.ef tok hO 4 6015 (by kernel_rfl) (by cbv <;> rfl) (by cbv <;> rfl) (by trivial) (by kernel_rfl) (by repeat (first | exact trivial | refine And.intro (by cbv <;> rfl) ?_)) ?_
        refine AnyE.ap tok 7 6143 35 (by kernel_rfl) (by cbv <;> rfl) (by cbv <;> rfl) (append_noneZ hl (by kernel_rfl) (by rfl)) (by kernel_rfl) rfl (by repeat (first | exact trivial | refine And.intro (by cbv <;> rfl) ?_)) ?_
        refine AnyE.ap tok 11 8191 39 (by kernel_rfl) (by cbv <;> rfl) (by cbv <;> rfl) (append_emptyG (by kernel_rfl) (by rfl) hnc hc (fun i k => cntC_one d i k) hGC) (by kernel_rfl) rfl (by repeat (first | exact trivial | refine And.intro (by cbv <;> rfl) ?_)) ?_
        refine AnyE.ef tok hO 13 16383 (by kernel_rfl) (by cbv <;> rfl) (by cbv <;> rfl) (by trivial) (by kernel_rfl) (by repeat (first | exact trivial | refine And.intro (by cbv <;> rfl) ?_)) ?_
        refine AnyE.tk wd4_tidy tok 14 41 32767 (by kernel_rfl) (by kernel_rfl) (by cbv <;> rfl) (Eqv.refl _) ?_
        refine AnyE.ef tok hO 15 65535 (by kernel_rfl) (by cbv <;> rfl) (by cbv <;> rfl) (by trivial) (by kernel_rfl) (by repeat (first | exact trivial | refine And.intro (by cbv <;> rfl) ?_)) ?_
        refine AnyE.tk wd4_tidy tok 16 42 131071 (by kernel_rfl) (by kernel_rfl) (by cbv <;> rfl) (Eqv.refl _) ?_
        refine AnyE.ef tok hO 17 262143 (by kernel_rfl) (by cbv <;> rfl) (by cbv <;> rfl) (by trivial) (by kernel_rfl) (by repeat (first | exact trivial | refine And.intro (by cbv <;> rfl) ?_)) ?_
        refine AnyE.done (by kernel_rfl) ?_
        exact wide_fin hWb hLb hCb 4 5 6 rfl rfl rfl rfl rfl rfl rfl rfl rfl rfl rfl rfl
      · refine PickE.ef tok hO 1911 (by cbv <;> rfl) (by cbv <;> rfl) (by trivial) (by kernel_rfl) (by repeat (first | exact trivial | refine And.intro (by cbv <;> rfl) ?_)) ?_
        refine AnyE.ap tok 3 1919 31 (by kernel_rfl) (by cbv <;> rfl) (by cbv <;> rfl) (append_emptyG (by kernel_rfl) (by rfl) hnw h0 (fun i k => womC_one d i k) hGW) (by kernel_rfl) rfl (by repeat (first | exact trivial | refine And.intro (by cbv <;> rfl) ?_)) ?_
        refine AnyE.tk wd4_tidy tok 12 40 6015 (by kernel_rfl) (by kernel_rfl) (by cbv <;> rfl) (Eqv.refl _) ?_
        refine AnyE.ap tok 7 6143 35 (by kernel_rfl) (by cbv <;> rfl) (by cbv <;> rfl) (append_noneZ hl (by kernel_rfl) (by rfl)) (by kernel_rfl) rfl (by repeat (first | exact trivial | refine And.intro (by cbv <;> rfl) ?_)) ?_
        refine AnyE.ap tok 11 8191 39 (by kernel_rfl) (by cbv <;> rfl) (by cbv <;> rfl) (append_emptyG (by kernel_rfl) (by rfl) hnc hc (fun i k => cntC_one d i k) hGC) (by kernel_rfl) rfl (by repeat (first | exact trivial | refine And.intro (by cbv <;> rfl) ?_)) ?_
        refine AnyE.ef tok hO 13 16383 (by kernel_rfl) (by cbv <;> rfl) (by cbv <;> rfl) (by trivial) (by kernel_rfl) (by repeat (first | exact trivial | refine And.intro (by cbv <;> rfl) ?_)) ?_
        refine AnyE.tk wd4_tidy tok 14 41 32767 (by kernel_rfl) (by kernel_rfl) (by cbv <;> rfl) (Eqv.refl _) ?_
        refine AnyE.ef tok hO 15 65535 (by kernel_rfl) (by cbv <;> rfl) (by cbv <;> rfl) (by trivial) (by kernel_rfl) (by repeat (first | exact trivial | refine And.intro (by cbv <;> rfl) ?_)) ?_
        refine AnyE.tk wd4_tidy tok 16 42 131071 (by kernel_rfl) (by kernel_rfl) (by cbv <;> rfl) (Eqv.refl _) ?_
        refine AnyE.ef tok hO 17 262143 (by kernel_rfl) (by cbv <;> rfl) (by cbv <;> rfl) (by trivial) (by kernel_rfl) (by repeat (first | exact trivial | refine And.intro (by cbv <;> rfl) ?_)) ?_
        refine AnyE.done (by kernel_rfl) ?_
        exact wide_fin hWb hLb hCb 5 4 6 rfl rfl rfl rfl rfl rfl rfl rfl rfl rfl rfl rfl
    · refine PickE.ef tok hO 1910 (by cbv <;> rfl) (by cbv <;> rfl) (by trivial) (by kernel_rfl) (by repeat (first | exact trivial | refine And.intro (by cbv <;> rfl) ?_)) ?_
      refine AnyE.ef tok hO 0 1911 (by kernel_rfl) (by cbv <;> rfl) (by cbv <;> rfl) (by trivial) (by kernel_rfl) (by repeat (first | exact trivial | refine And.intro (by cbv <;> rfl) ?_)) ?_
      refine AnyE.ap tok 3 1919 31 (by kernel_rfl) (by cbv <;> rfl) (by cbv <;> rfl) (append_emptyG (by kernel_rfl) (by rfl) hnw h0 (fun i k => womC_one d i k) hGW) (by kernel_rfl) rfl (by repeat (first | exact trivial | refine And.intro (by cbv <;> rfl) ?_)) ?_
      refine AnyE.tk wd4_tidy tok 12 40 6015 (by kernel_rfl) (by kernel_rfl) (by cbv <;> rfl) (Eqv.refl _) ?_
      refine AnyE.ap tok 7 6143 35 (by kernel_rfl) (by cbv <;> rfl) (by cbv <;> rfl) (append_noneZ hl (by kernel_rfl) (by rfl)) (by kernel_rfl) rfl (by repeat (first | exact trivial | refine And.intro (by cbv <;> rfl) ?_)) ?_
      refine AnyE.ap tok 11 8191 39 (by kernel_rfl) (by cbv <;> rfl) (by cbv <;> rfl) (append_emptyG (by kernel_rfl) (by rfl) hnc hc (fun i k => cntC_one d i k) hGC) (by kernel_rfl) rfl (by repeat (first | exact trivial | refine And.intro (by cbv <;> rfl) ?_)) ?_
      refine AnyE.ef tok hO 13 16383 (by kernel_rfl) (by cbv <;> rfl) (by cbv <;> rfl) (by trivial) (by kernel_rfl) (by repeat (first | exact trivial | refine And.intro (by cbv <;> rfl) ?_)) ?_
      refine AnyE.tk wd4_tidy tok 14 41 32767 (by kernel_rfl) (by kernel_rfl) (by cbv <;> rfl) (Eqv.refl _) ?_
      refine AnyE.ef tok hO 15 65535 (by kernel_rfl) (by cbv <;> rfl) (by cbv <;> rfl) (by trivial) (by kernel_rfl) (by repeat (first | exact trivial | refine And.intro (by cbv <;> rfl) ?_)) ?_
      refine AnyE.tk wd4_tidy tok 16 42 131071 (by kernel_rfl) (by kernel_rfl) (by cbv <;> rfl) (Eqv.refl _) ?_
      refine AnyE.ef tok hO 17 262143 (by kernel_rfl) (by cbv <;> rfl) (by cbv <;> rfl) (by trivial) (by kernel_rfl) (by repeat (first | exact trivial | refine And.intro (by cbv <;> rfl) ?_)) ?_
      refine AnyE.done (by kernel_rfl) ?_
      exact wide_fin hWb hLb hCb 5 3 6 rfl rfl rfl rfl rfl rfl rfl rfl rfl rfl rfl rfl
end Go.Fz
namespace Go.Fz
open Go.Proofs
set_option maxRecDepth 100000
set_option linter.unusedVariables false
set_option maxHeartbeats 64000000 in
theorem wide_4nz (d : DayD) (x0 x1 : Int) (GW : List AV) (hGW : GW = flatG 2 (womC d) d.nw) (h0 : 0 < d.nw) (hnw : d.nw < 1048576) (GL : List AV) (hGL : GL = flatG 3 (lotC d) d.nl) (hl : 0 < d.nl) (hnl : d.nl < 1048576) (hc : d.nc = 0) (g : Nat → AV) (O : Ar) (hO : O = std) (h : AllP (fun p => g p.1 = p.2) (wiL x0 x1)) :
    SW Try.prog none (nthC 3 (bodyF Try.f11)) (midK 223 (wiL x0 x1) (wiS d [(4, .cells none false []), (3, .cells none false GL), (2, .cells none false GW)] (.sl 2 0 d.nw 2 false) (.sl 3 0 d.nl 3 false) (.sl 4 0 0 4 true) 5)) ⟨⟨223, g⟩, []⟩ (wiS d [] (womsV d) (lotsV d) (cntsV d) 2) := by
  obtain ⟨g1, g2, g3, g7, _⟩ := h
  simp only at g1 g2 g3 g7
  rw [← updT_self g1, ← updT_self g2, ← updT_self g3, ← updT_self g7]
  have hWb : ∀ a ∈ GW, Below 0 a := by rw [hGW]; exact flatG_below (fun i j => by unfold womC; split <;> exact Below.lit) _
  have hLb : ∀ a ∈ GL, Below 0 a := by rw [hGL]; exact flatG_below (fun i j => by unfold lotC; split <;> exact Below.lit) _
  have hCb : ∀ a ∈ ([] : List AV), Below 0 a := fun a h => by cases h
  refine SW.ren ?_
  refine (show SW Try.prog none (.region 4 wd4 true) _ _ _ from ?_)
  refine SW.drawnB tok (M := wd4M) mixed 18 wd4_tidy wd4_size (by kernel_rfl) ?_
  refine AnyE.tk wd4_tidy tok 1 29 2 (by kernel_rfl) (by kernel_rfl) (by cbv <;> rfl) (Eqv.refl _) ?_
  refine AnyE.tk wd4_tidy tok 2 30 6 (by kernel_rfl) (by kernel_rfl) (by cbv <;> rfl) (Eqv.refl _) ?_
  refine AnyE.tk wd4_tidy tok 5 33 38 (by kernel_rfl) (by kernel_rfl) (by cbv <;> rfl) (Eqv.refl _) ?_
  refine AnyE.tk wd4_tidy tok 6 34 102 (by kernel_rfl) (by kernel_rfl) (by cbv <;> rfl) (Eqv.refl _) ?_
  refine AnyE.tk wd4_tidy tok 9 37 614 (by kernel_rfl) (by kernel_rfl) (by cbv <;> rfl) (Eqv.refl _) ?_
  refine AnyE.tk wd4_tidy tok 10 38 1638 (by kernel_rfl) (by kernel_rfl) (by cbv <;> rfl) (Eqv.refl _) ?_
  refine AnyE.many [0, 4, 8] (by kernel_rfl) (by rfl) ⟨?_, ?_, ?_, trivial⟩
  · refine PickE.ef tok hO 1639 (by cbv <;> rfl) (by cbv <;> rfl) (by trivial) (by kernel_rfl) (by repeat (first | exact trivial | refine And.intro (by cbv <;> rfl) ?_)) ?_
    refine AnyE.many [3, 4, 8] (by kernel_rfl) (by rfl) ⟨?_, ?_, ?_, trivial⟩
    · refine PickE.ap tok 1647 31 (by cbv <;> rfl) (by cbv <;> rfl) (append_emptyG (by kernel_rfl) (by rfl) hnw h0 (fun i k => womC_one d i k) hGW) (by kernel_rfl) rfl (by repeat (first | exact trivial | refine And.intro (by cbv <;> rfl) ?_)) ?_
      refine AnyE.tk wd4_tidy tok 12 40 5743 (by kernel_rfl) (by kernel_rfl) (by cbv <;> rfl) (Eqv.refl _) ?_
      refine AnyE.many [4, 8] (by kernel_rfl) (by rfl) ⟨?_, ?_, trivial⟩
      · refine PickE.ef tok hO 5759 (by cbv <;> rfl) (by cbv <;> rfl) (by trivial) (by kernel_rfl) (by repeat (first | exact trivial | refine And.intro (by cbv <;> rfl) ?_)) ?_
        refine AnyE.many [7, 8] (by kernel_rfl) (by rfl) ⟨?_, ?_, trivial⟩
        · refine PickE.ap tok 5887 35 (by cbv <;> rfl) (by cbv <;> rfl) (append_emptyG (by kernel_rfl) (by rfl) hnl hl (fun i k => lotC_one d i k) hGL) (by kernel_rfl) rfl (by repeat (first | exact trivial | refine And.intro (by cbv <;> rfl) ?_)) ?_
          refine AnyE.ef tok hO 8 6143 (by kernel_rfl) (by cbv <;> rfl) (by cbv <;> rfl) (by trivial) (by kernel_rfl) (by repeat (first | exact trivial | refine And.intro (by cbv <;> rfl) ?_)) ?_
          refine AnyE.ap tok 11 8191 39 (by kernel_rfl) (by cbv <;> rfl) (by cbv <;> rfl) (append_noneZ hc (by kernel_rfl) (by rfl)) (by kernel_rfl) rfl (by repeat (first | exact trivial | refine And.intro (by cbv <;> rfl) ?_)) ?_
          refine AnyE.ef tok hO 13 16383 (by kernel_rfl) (by cbv <;> rfl) (by cbv <;> rfl) (by trivial) (by kernel_rfl) (by repeat (first | exact trivial | refine And.intro (by cbv <;> rfl) ?_)) ?_
          refine AnyE.tk wd4_tidy tok 14 41 32767 (by kernel_rfl) (by kernel_rfl) (by cbv <;> rfl) (Eqv.refl _) ?_
          refine AnyE.ef tok hO 15 65535 (by kernel_rfl) (by cbv <;> rfl) (by cbv <;> rfl) (by trivial) (by kernel_rfl) (by repeat (first | exact trivial | refine And.intro (by cbv <;> rfl) ?_)) ?_
          refine AnyE.tk wd4_tidy tok 16 42 131071 (by kernel_rfl) (by kernel_rfl) (by cbv <;> rfl) (Eqv.refl _) ?_
          refine AnyE.ef tok hO 17 262143 (by kernel_rfl) (by cbv <;> rfl) (by cbv <;> rfl) (by trivial) (by kernel_rfl) (by repeat (first | exact trivial | refine And.intro (by cbv <;> rfl) ?_)) ?_
          refine AnyE.done (by kernel_rfl) ?_
          exact wide_fin hWb hLb hCb 3 5 6 rfl rfl rfl rfl rfl rfl rfl rfl rfl rfl rfl rfl
        · refine PickE.ef tok hO 6015 (by cbv <;> rfl) (by cbv <;> rfl) (by trivial) (by kernel_rfl) (by repeat (first | exact trivial | refine And.intro (by cbv <;> rfl) ?_)) ?_
          refine AnyE.ap tok 7 6143 35 (by kernel_rfl) (by cbv <;> rfl) (by cbv <;> rfl) (append_emptyG (by kernel_rfl) (by rfl) hnl hl (fun i k => lotC_one d i k) hGL) (by kernel_rfl) rfl (by repeat (first | exact trivial | refine And.intro (by cbv <;> rfl) ?_)) ?_
          refine AnyE.ap tok 11 8191 39 (by kernel_rfl) (by cbv <;> rfl) (by cbv <;> rfl) (append_noneZ hc (by kernel_rfl) (by rfl)) (by kernel_rfl) rfl (by repeat (first | exact trivial | refine And.intro (by cbv <;> rfl) ?_)) ?_
          refine AnyE.ef tok hO 13 16383 (by kernel_rfl) (by cbv <;> rfl) (by cbv <;> rfl) (by trivial) (by kernel_rfl) (by repeat (first | exact trivial | refine And.intro (by cbv <;> rfl) ?_)) ?_
          refine AnyE.tk wd4_tidy tok 14 41 32767 (by kernel_rfl) (by kernel_rfl) (by cbv <;> rfl) (Eqv.refl _) ?_
          refine AnyE.ef tok hO 15 65535 (by kernel_rfl) (by cbv <;> rfl) (by cbv <;> rfl) (by trivial) (by kernel_rfl) (by repeat (first | exact trivial | refine And.intro (by cbv <;> rfl) ?_)) ?_
          refine AnyE.tk wd4_tidy tok 16 42 131071 (by kernel_rfl) (by kernel_rfl) (by cbv <;> rfl) (Eqv.refl _) ?_
          refine AnyE.ef tok hO 17 262143 (by kernel_rfl) (by cbv <;> rfl) (by cbv <;> rfl) (by trivial) (by kernel_rfl) (by repeat (first | exact trivial | refine And.intro (by cbv <;> rfl) ?_)) ?_
          refine AnyE.done (by kernel_rfl) ?_
          exact wide_fin hWb hLb hCb 3 6 5 rfl rfl rfl rfl rfl rfl rfl rfl rfl rfl rfl rfl
      · refine PickE.ef tok hO 5999 (by cbv <;> rfl) (by cbv <;> rfl) (by trivial) (by kernel_rfl) (by repeat (first | exact trivial | refine And.intro (by cbv <;> rfl) ?_)) ?_
        refine AnyE.ef tok hO 4 6015 (by kernel_rfl) (by cbv <;> rfl) (by cbv <;> rfl) (by trivial) (by kernel_rfl) (by repeat (first | exact trivial | refine And.intro (by cbv <;> rfl) ?_)) ?_
        refine AnyE.ap tok 7 6143 35 (by kernel_rfl) (by cbv <;> rfl) (by cbv <;> rfl) (append_emptyG (by kernel_rfl) (by rfl) hnl hl (fun i k => lotC_one d i k) hGL) (by kernel_rfl) rfl (by repeat (first | exact trivial | refine And.intro (by cbv <;> rfl) ?_)) ?_
        refine AnyE.ap tok 11 8191 39 (by kernel_rfl) (by cbv <;> rfl) (by cbv <;> rfl) (append_noneZ hc (by kernel_rfl) (by rfl)) (by kernel_rfl) rfl (by repeat (first | exact trivial | refine And.intro (by cbv <;> rfl) ?_)) ?_
        refine AnyE.ef tok hO 13 16383 (by kernel_rfl) (by cbv <;> rfl) (by cbv <;> rfl) (by trivial) (by kernel_rfl) (by repeat (first | exact trivial | refine And.intro (by cbv <;> rfl) ?_)) ?_
        refine AnyE.tk wd4_tidy tok 14 41 32767 (by kernel_rfl) (by kernel_rfl) (by cbv <;> rfl) (Eqv.refl _) ?_
        refine AnyE.ef tok hO 15 65535 (by kernel_rfl) (by cbv <;> rfl) (by cbv <;> rfl) (by trivial) (by kernel_rfl) (by repeat (first | exact trivial | refine And.intro (by cbv <;> rfl) ?_)) ?_
        refine AnyE.tk wd4_tidy tok 16 42 131071 (by kernel_rfl) (by kernel_rfl) (by cbv <;> rfl) (Eqv.refl _) ?_
        refine AnyE.ef tok hO 17 262143 (by kernel_rfl) (by cbv <;> rfl) (by cbv <;> rfl) (by trivial) (by kernel_rfl) (by repeat (first | exact trivial | refine And.intro (by cbv <;> rfl) ?_)) ?_
        refine AnyE.done (by kernel_rfl) ?_
        exact wide_fin hWb hLb hCb 3 6 4 rfl rfl rfl rfl rfl rfl rfl rfl rfl rfl rfl rfl
    · refine PickE.ef tok hO 1655 (by cbv <;> rfl) (by cbv <;> rfl) (by trivial) (by kernel_rfl) (by repeat (first | exact trivial | refine And.intro (by cbv <;> rfl) ?_)) ?_
      refine AnyE.many [3, 8] (by kernel_rfl) (by rfl) ⟨?_, ?_, trivial⟩
      · refine PickE.ap tok 1663 31 (by cbv <;> rfl) (by cbv <;> rfl) (append_emptyG (by kernel_rfl) (by rfl) hnw h0 (fun i k => womC_one d i k) hGW) (by kernel_rfl) rfl (by repeat (first | exact trivial | refine And.intro (by cbv <;> rfl) ?_)) ?_
        refine AnyE.tk wd4_tidy tok 12 40 5759 (by kernel_rfl) (by kernel_rfl) (by cbv <;> rfl) (Eqv.refl _) ?_
        refine AnyE.many [7, 8] (by kernel_rfl) (by rfl) ⟨?_, ?_, trivial⟩
        · refine PickE.ap tok 5887 35 (by cbv <;> rfl) (by cbv <;> rfl) (append_emptyG (by kernel_rfl) (by rfl) hnl hl (fun i k => lotC_one d i k) hGL) (by kernel_rfl) rfl (by repeat (first | exact trivial | refine And.intro (by cbv <;> rfl) ?_)) ?_
          refine AnyE.ef tok hO 8 6143 (by kernel_rfl) (by cbv <;> rfl) (by cbv <;> rfl) (by trivial) (by kernel_rfl) (by repeat (first | exact trivial | refine And.intro (by cbv <;> rfl) ?_)) ?_
          refine AnyE.ap tok 11 8191 39 (by kernel_rfl) (by cbv <;> rfl) (by cbv <;> rfl) (append_noneZ hc (by kernel_rfl) (by rfl)) (by kernel_rfl) rfl (by repeat (first | exact trivial | refine And.intro (by cbv <;> rfl) ?_)) ?_
          refine AnyE.ef tok hO 13 16383 (by kernel_rfl) (by cbv <;> rfl) (by cbv <;> rfl) (by trivial) (by kernel_rfl) (by repeat (first | exact trivial | refine And.intro (by cbv <;> rfl) ?_)) ?_
          refine AnyE.tk wd4_tidy tok 14 41 32767 (by kernel_rfl) (by kernel_rfl) (by cbv <;> rfl) (Eqv.refl _) ?_
          refine AnyE.ef tok hO 15 65535 (by kernel_rfl) (by cbv <;> rfl) (by cbv <;> rfl) (by trivial) (by kernel_rfl) (by repeat (first | exact trivial | refine And.intro (by cbv <;> rfl) ?_)) ?_
          refine AnyE.tk wd4_tidy tok 16 42 131071 (by kernel_rfl) (by kernel_rfl) (by cbv <;> rfl) (Eqv.refl _) ?_
          refine AnyE.ef tok hO 17 262143 (by kernel_rfl) (by cbv <;> rfl) (by cbv <;> rfl) (by trivial) (by kernel_rfl) (by repeat (first | exact trivial | refine And.intro (by cbv <;> rfl) ?_)) ?_
          refine AnyE.done (by kernel_rfl) ?_
          exact wide_fin hWb hLb hCb 4 5 6 rfl rfl rfl rfl rfl rfl rfl rfl rfl rfl rfl rfl
        · refine PickE.ef tok hO 6015 (by cbv <;> rfl) (by cbv <;> rfl) (by trivial) (by kernel_rfl) (by repeat (first | exact trivial | refine And.intro (by cbv <;> rfl) ?_)) ?_
          refine AnyE.ap tok 7 6143 35 (by kernel_rfl) (by cbv <;> rfl) (by cbv <;> rfl) (append_emptyG (by kernel_rfl) (by rfl) hnl hl (fun i k => lotC_one d i k) hGL) (by kernel_rfl) rfl (by repeat (first | exact trivial | refine And.intro (by cbv <;> rfl) ?_)) ?_
          refine AnyE.ap tok 11 8191 39 (by kernel_rfl) (by cbv <;> rfl) (by cbv <;> rfl) (append_noneZ hc (by kernel_rfl) (by rfl)) (by kernel_rfl) rfl (by repeat (first | exact trivial | refine And.intro (by cbv <;> rfl) ?_)) ?_
          refine AnyE.ef tok hO 13 16383 (by kernel_rfl) (by cbv <;> rfl) (by cbv <;> rfl) (by trivial) (by kernel_rfl) (by repeat (first | exact trivial | refine And.intro (by cbv <;> rfl) ?_)) ?_
          refine AnyE.tk wd4_tidy tok 14 41 32767 (by kernel_rfl) (by kernel_rfl) (by cbv <;> rfl) (Eqv.refl _) ?_
          refine AnyE.ef tok hO 15 65535 (by kernel_rfl) (by cbv <;> rfl) (by cbv <;> rfl) (by trivial) (by kernel_rfl) (by repeat (first | exact trivial | refine And.intro (by cbv <;> rfl) ?_)) ?_
          refine AnyE.tk wd4_tidy tok 16 42 131071 (by kernel_rfl) (by kernel_rfl) (by cbv <;> rfl) (Eqv.refl _) ?_
          refine AnyE.ef tok hO 17 262143 (by kernel_rfl) (by cbv <;> rfl) (by cbv <;> rfl) (by trivial) (by kernel_rfl) (by repeat (first | exact trivial | refine And.intro (by cbv <;> rfl) ?_)) ?_
          refine AnyE.done (by kernel_rfl) ?_
          exact wide_fin hWb hLb hCb 4 6 5 rfl rfl rfl rfl rfl rfl rfl rfl rfl rfl rfl rfl
      · refine PickE.ef tok hO 1911 (by cbv <;> rfl) (by cbv <;> rfl) (by trivial) (by kernel_rfl) (by repeat (first | exact trivial | refine And.intro (by cbv <;> rfl) ?_)) ?_
        refine AnyE.ap tok 3 1919 31 (by kernel_rfl) (by cbv <;> rfl) (by cbv <;> rfl) (append_emptyG (by kernel_rfl) (by rfl) hnw h0 (fun i k => womC_one d i k) hGW) (by kernel_rfl) rfl (by repeat (first | exact trivial | refine And.intro (by cbv <;> rfl) ?_)) ?_
        refine AnyE.tk wd4_tidy tok 12 40 6015 (by kernel_rfl) (by kernel_rfl) (by cbv <;> rfl) (Eqv.refl _) ?_
        refine AnyE.ap tok 7 6143 35 (by kernel_rfl) (by cbv <;> rfl) (by cbv <;> rfl) (append_emptyG (by kernel_rfl) (by rfl) hnl hl (fun i k => lotC_one d i k) hGL) (by kernel_rfl) rfl (by repeat (first | exact trivial | refine And.intro (by cbv <;> rfl) ?_)) ?_
        refine AnyE.ap tok 11 8191 39 (by kernel_rfl) (by cbv <;> rfl) (by cbv <;> rfl) (append_noneZ hc (by kernel_rfl) (by rfl)) (by kernel_rfl) rfl (by repeat (first | exact trivial | refine And.intro (by cbv <;> rfl) ?_)) ?_
        refine AnyE.ef tok hO 13 16383 (by kernel_rfl) (by cbv <;> rfl) (by cbv <;> rfl) (by trivial) (by kernel_rfl) (by repeat (first | exact trivial | refine And.intro (by cbv <;> rfl) ?_)) ?_
        refine AnyE.tk wd4_tidy tok 14 41 32767 (by kernel_rfl) (by kernel_rfl) (by cbv <;> rfl) (Eqv.refl _) ?_
        refine AnyE.ef tok hO 15 65535 (by kernel_rfl) (by cbv <;> rfl) (by cbv <;> rfl) (by trivial) (by kernel_rfl) (by repeat (first | exact trivial | refine And.intro (by cbv <;> rfl) ?_)) ?_
        refine AnyE.tk wd4_tidy tok 16 42 131071 (by kernel_rfl) (by kernel_rfl) (by cbv <;> rfl) (Eqv.refl _) ?_
        refine AnyE.ef tok hO 17 262143 (by kernel_rfl) (by cbv <;> rfl) (by cbv <;> rfl) (by trivial) (by kernel_rfl) (by repeat (first | exact trivial | refine And.intro (by cbv <;> rfl) ?_)) ?_
        refine AnyE.done (by kernel_rfl) ?_
        exact wide_fin hWb hLb hCb 5 6 4 rfl rfl rfl rfl rfl rfl rfl rfl rfl rfl rfl rfl
    · refine PickE.ef tok hO 1895 (by cbv <;> rfl) (by cbv <;> rfl) (by trivial) (by kernel_rfl) (by repeat (first | exact trivial | refine And.intro (by cbv <;> rfl) ?_)) ?_
      refine AnyE.many [3, 4] (by kernel_rfl) (by rfl) ⟨?_, ?_, trivial⟩
      · refine PickE.ap tok 1903 31 (by cbv <;> rfl) (by cbv <;> rfl) (append_emptyG (by kernel_rfl) (by rfl) hnw h0 (fun i k => womC_one d i k) hGW) (by kernel_rfl) rfl (by repeat (first | exact trivial | refine And.intro (by cbv <;> rfl) ?_)) ?_
        refine AnyE.tk wd4_tidy tok 12 40 5999 (by kernel_rfl) (by kernel_rfl) (by cbv <;> rfl) (Eqv.refl _) ?_
        refine AnyE.ef tok hO 4 6015 (by kernel_rfl) (by cbv <;> rfl) (by cbv <;> rfl) (by trivial) (by kernel_rfl) (by repeat (first | exact trivial | refine And.intro (by cbv <;> rfl) ?_)) ?_
        refine AnyE.ap tok 7 6143 35 (by kernel_rfl) (by cbv <;> rfl) (by cbv <;> rfl) (append_emptyG (by kernel_rfl) (by rfl) hnl hl (fun i k => lotC_one d i k) hGL) (by kernel_rfl) rfl (by repeat (first | exact trivial | refine And.intro (by cbv <;> rfl) ?_)) ?_
        refine AnyE.ap tok 11 8191 39 (by kernel_rfl) (by cbv <;> rfl) (by cbv <;> rfl) (append_noneZ hc (by kernel_rfl) (by rfl)) (by kernel_rfl) rfl (by repeat (first | exact trivial | refine And.intro (by cbv <;> rfl) ?_)) ?_
        refine AnyE.ef tok hO 13 16383 (by kernel_rfl) (by cbv <;> rfl) (by cbv <;> rfl) (by trivial) (by kernel_rfl) (by repeat (first | exact trivial | refine And.intro (by cbv <;> rfl) ?_)) ?_
        refine AnyE.tk wd4_tidy tok 14 41 32767 (by kernel_rfl) (by kernel_rfl) (by cbv <;> rfl) (Eqv.refl _) ?_
        refine AnyE.ef tok hO 15 65535 (by kernel_rfl) (by cbv <;> rfl) (by cbv <;> rfl) (by trivial) (by kernel_rfl) (by repeat (first | exact trivial | refine And.intro (by cbv <;> rfl) ?_)) ?_
        refine AnyE.tk wd4_tidy tok 16 42 131071 (by kernel_rfl) (by kernel_rfl) (by cbv <;> rfl) (Eqv.refl _) ?_
        refine AnyE.ef tok hO 17 262143 (by kernel_rfl) (by cbv <;> rfl) (by cbv <;> rfl) (by trivial) (by kernel_rfl) (by repeat (first | exact trivial | refine And.intro (by cbv <;> rfl) ?_)) ?_
        refine AnyE.done (by kernel_rfl) ?_
        exact wide_fin hWb hLb hCb 4 6 3 rfl rfl rfl rfl rfl rfl rfl rfl rfl rfl rfl rfl
      · refine PickE.ef tok hO 1911 (by cbv <;> rfl) (by cbv <;> rfl) (by trivial) (by kernel_rfl) (by repeat (first | exact trivial | refine And.intro (by cbv <;> rfl) ?_)) ?_
        refine AnyE.ap tok 3 1919 31 (by kernel_rfl) (by cbv <;> rfl) (by cbv <;> rfl) (append_emptyG (by kernel_rfl) (by rfl) hnw h0 (fun i k => womC_one d i k) hGW) (by kernel_rfl) rfl (by repeat (first | exact trivial | refine And.intro (by cbv <;> rfl) ?_)) ?_
        refine AnyE.tk wd4_tidy tok 12 40 6015 (by kernel_rfl) (by kernel_rfl) (by cbv <;> rfl) (Eqv.refl _) ?_
        refine AnyE.ap tok 7 6143 35 (by kernel_rfl) (by cbv <;> rfl) (by cbv <;> rfl) (append_emptyG (by kernel_rfl) (by rfl) hnl hl (fun i k => lotC_one d i k) hGL) (by kernel_rfl) rfl (by repeat (first | exact trivial | refine And.intro (by cbv <;> rfl) ?_)) ?_
        refine AnyE.ap tok 11 8191 39 (by kernel_rfl) (by cbv <;> rfl) (by cbv <;> rfl) (append_noneZ hc (by kernel_rfl) (by rfl)) (by kernel_rfl) rfl (by repeat (first | exact trivial | refine And.intro (by cbv <;> rfl) ?_)) ?_
        refine AnyE.ef tok hO 13 16383 (by kernel_rfl) (by cbv <;> rfl) (by cbv <;> rfl) (by trivial) (by kernel_rfl) (by repeat (first | exact trivial | refine And.intro (by cbv <;> rfl) ?_)) ?_
        refine AnyE.tk wd4_tidy tok 14 41 32767 (by kernel_rfl) (by kernel_rfl) (by cbv <;> rfl) (Eqv.refl _) ?_
        refine AnyE.ef tok hO 15 65535 (by kernel_rfl) (by cbv <;> rfl) (by cbv <;> rfl) (by trivial) (by kernel_rfl) (by repeat (first | exact trivial | refine And.intro (by cbv <;> rfl) ?_)) ?_
        refine AnyE.tk wd4_tidy tok 16 42 131071 (by kernel_rfl) (by kernel_rfl) (by cbv <;> rfl) (Eqv.refl _) ?_
        refine AnyE.ef tok hO 17 262143 (by kernel_rfl) (by cbv <;> rfl) (by cbv <;> rfl) (by trivial) (by kernel_rfl) (by repeat (first | exact trivial | refine And.intro (by cbv <;> rfl) ?_)) ?_
        refine AnyE.done (by kernel_rfl) ?_
        exact wide_fin hWb hLb hCb 5 6 3 rfl rfl rfl rfl rfl rfl rfl rfl rfl rfl rfl rfl
  · refine PickE.ef tok hO 1654 (by cbv <;> rfl) (by cbv <;> rfl) (by trivial) (by kernel_rfl) (by repeat (first | exact trivial | refine And.intro (by cbv <;> rfl) ?_)) ?_
    refine AnyE.many [0, 8] (by kernel_rfl) (by rfl) ⟨?_, ?_, trivial⟩
    · refine PickE.ef tok hO 1655 (by cbv <;> rfl) (by cbv <;> rfl) (by trivial) (by kernel_rfl) (by repeat (first | exact trivial | refine And.intro (by cbv <;> rfl) ?_)) ?_
      refine AnyE.many [3, 8] (by kernel_rfl) (by rfl) ⟨?_, ?_, trivial⟩
      · refine PickE.ap tok 1663 31 (by cbv <;> rfl) (by cbv <;> rfl) (append_emptyG (by kernel_rfl) (by rfl) hnw h0 (fun i k => womC_one d i k) hGW) (by kernel_rfl) rfl (by repeat (first | exact trivial | refine And.intro (by cbv <;> rfl) ?_)) ?_
        refine AnyE.tk wd4_tidy tok 12 40 5759 (by kernel_rfl) (by kernel_rfl) (by cbv <;> rfl) (Eqv.refl _) ?_
        refine AnyE.many [7, 8] (by kernel_rfl) (by rfl) ⟨?_, ?_, trivial⟩
        · refine PickE.ap tok 5887 35 (by cbv <;> rfl) (by cbv <;> rfl) (append_emptyG (by kernel_rfl) (by rfl) hnl hl (fun i k => lotC_one d i k) hGL) (by kernel_rfl) rfl (by repeat (first | exact trivial | refine And.intro (by cbv <;> rfl) ?_)) ?_
          refine AnyE.ef tok hO 8 6143 (by kernel_rfl) (by cbv <;> rfl) (by cbv <;> rfl) (by trivial) (by kernel_rfl) (by repeat (first | exact trivial | refine And.intro (by cbv <;> rfl) ?_)) ?_
          refine AnyE.ap tok 11 8191 39 (by kernel_rfl) (by cbv <;> rfl) (by cbv <;> rfl) (append_noneZ hc (by kernel_rfl) (by rfl)) (by kernel_rfl) rfl (by repeat (first | exact trivial | refine And.intro (by cbv <;> rfl) ?_)) ?_
          refine AnyE.ef tok hO 13 16383 (by kernel_rfl) (by cbv <;> rfl) (by cbv <;> rfl) (by trivial) (by kernel_rfl) (by repeat (first | exact trivial | refine And.intro (by cbv <;> rfl) ?_)) ?_
          refine AnyE.tk wd4_tidy tok 14 41 32767 (by kernel_rfl) (by kernel_rfl) (by cbv <;> rfl) (Eqv.refl _) ?_
          refine AnyE.ef tok hO 15 65535 (by kernel_rfl) (by cbv <;> rfl) (by cbv <;> rfl) (by trivial) (by kernel_rfl) (by repeat (first | exact trivial | refine And.intro (by cbv <;> rfl) ?_)) ?_
          refine AnyE.tk wd4_tidy tok 16 42 131071 (by kernel_rfl) (by kernel_rfl) (by cbv <;> rfl) (Eqv.refl _) ?_
          refine AnyE.ef tok hO 17 262143 (by kernel_rfl) (by cbv <;> rfl) (by cbv <;> rfl) (by trivial) (by kernel_rfl) (by repeat (first | exact trivial | refine And.intro (by cbv <;> rfl) ?_)) ?_
          refine AnyE.done (by kernel_rfl) ?_
          exact wide_fin hWb hLb hCb 4 5 6 rfl rfl rfl rfl rfl rfl rfl rfl rfl rfl rfl rfl
        · refine PickE.ef tok hO 6015 (by cbv <;> rfl) (by cbv <;> rfl) (by trivial) (by kernel_rfl) (by repeat (first | exact trivial | refine And.intro (by cbv <;> rfl) ?_)) ?_
          refine AnyE.ap tok 7 6143 35 (by kernel_rfl) (by cbv <;> rfl) (by cbv <;> rfl) (append_emptyG (by kernel_rfl) (by rfl) hnl hl (fun i k => lotC_one d i k) hGL) (by kernel_rfl) rfl (by repeat (first | exact trivial | refine And.intro (by cbv <;> rfl) ?_)) ?_
          refine AnyE.ap tok 11 8191 39 (by kernel_rfl) (by cbv <;> rfl) (by cbv <;> rfl) (append_noneZ hc (by kernel_rfl) (by rfl)) (by kernel_rfl) rfl (by repeat (first | exact trivial | refine And.intro (by cbv <;> rfl) ?_)) ?_
          refine AnyE.ef tok hO 13 16383 (by kernel_rfl) (by cbv <;> rfl) (by cbv <;> rfl) (by trivial) (by kernel_rfl) (by repeat (first | exact trivial | refine And.intro (by cbv <;> rfl) ?_)) ?_
          refine AnyE.tk wd4_tidy tok 14 41 32767 (by kernel_rfl) (by kernel_rfl) (by cbv <;> rfl) (Eqv.refl _) ?_
          refine AnyE.ef tok hO 15 65535 (by kernel_rfl) (by cbv <;> rfl) (by cbv <;> rfl) (by trivial) (by kernel_rfl) (by repeat (first | exact trivial | refine And.intro (by cbv <;> rfl) ?_)) ?_
          refine AnyE.tk wd4_tidy tok 16 42 131071 (by kernel_rfl) (by kernel_rfl) (by cbv <;> rfl) (Eqv.refl _) ?_
          refine AnyE.ef tok hO 17 262143 (by kernel_rfl) (by cbv <;> rfl) (by cbv <;> rfl) (by trivial) (by kernel_rfl) (by repeat (first | exact trivial | refine And.intro (by cbv <;> rfl) ?_)) ?_
          refine AnyE.done (by kernel_rfl) ?_
          exact wide_fin hWb hLb hCb 4 6 5 rfl rfl rfl rfl rfl rfl rfl rfl rfl rfl rfl rfl
      · refine PickE.ef tok hO 1911 (by cbv <;> rfl) (by cbv <;> rfl) (by trivial) (by kernel_rfl) (by repeat (first | exact trivial | refine And.intro (by cbv <;> rfl) ?_)) ?_
        refine AnyE.ap tok 3 1919 31 (by kernel_rfl) (by cbv <;> rfl) (by cbv <;> rfl) (append_emptyG (by kernel_rfl) (by rfl) hnw h0 (fun i k => womC_one d i k) hGW) (by kernel_rfl) rfl (by repeat (first | exact trivial | refine And.intro (by cbv <;> rfl) ?_)) ?_
        refine AnyE.tk wd4_tidy tok 12 40 6015 (by kernel_rfl) (by kernel_rfl) (by cbv <;> rfl) (Eqv.refl _) ?_
        refine AnyE.ap tok 7 6143 35 (by kernel_rfl) (by cbv <;> rfl) (by cbv <;> rfl) (append_emptyG (by kernel_rfl) (by rfl) hnl hl (fun i k => lotC_one d i k) hGL) (by kernel_rfl) rfl (by repeat (first | exact trivial | refine And.intro (by cbv <;> rfl) ?_)) ?_
        refine AnyE.ap tok 11 8191 39 (by kernel_rfl) (by cbv <;> rfl) (by cbv <;> rfl) (append_noneZ hc (by kernel_rfl) (by rfl)) (by kernel_rfl) rfl (by repeat (first | exact trivial | refine And.intro (by cbv <;> rfl) ?_)) ?_
        refine AnyE.ef tok hO 13 16383 (by kernel_rfl) (by cbv <;> rfl) (by cbv <;> rfl) (by trivial) (by kernel_rfl) (by repeat (first | exact trivial | refine And.intro (by cbv <;> rfl) ?_)) ?_
        refine AnyE.tk wd4_tidy tok 14 41 32767 (by kernel_rfl) (by kernel_rfl) (by cbv <;> rfl) (Eqv.refl _) ?_
        refine AnyE.ef tok hO 15 65535 (by kernel_rfl) (by cbv <;> rfl) (by cbv <;> rfl) (by trivial) (by kernel_rfl) (by repeat (first | exact trivial | refine And.intro (by cbv <;> rfl) ?_)) ?_
        refine AnyE.tk wd4_tidy tok 16 42 131071 (by kernel_rfl) (by kernel_rfl) (by cbv <;> rfl) (Eqv.refl _) ?_
        refine AnyE.ef tok hO 17 262143 (by kernel_rfl) (by cbv <;> rfl) (by cbv <;> rfl) (by trivial) (by kernel_rfl) (by repeat (first | exact trivial | refine And.intro (by cbv <;> rfl) ?_)) ?_
        refine AnyE.done (by kernel_rfl) ?_
        exact wide_fin hWb hLb hCb 5 6 4 rfl rfl rfl rfl rfl rfl rfl rfl rfl rfl rfl rfl
    · refine PickE.ef tok hO 1910 (by cbv <;> rfl) (by cbv <;> rfl) (by trivial) (by kernel_rfl) (by repeat (first | exact trivial | refine And.intro (by cbv <;> rfl) ?_)) ?_
      refine AnyE.ef tok hO 0 1911 (by kernel_rfl) (by cbv <;> rfl) (by cbv <;> rfl) (by trivial) (by kernel_rfl) (by repeat (first | exact trivial | refine And.intro (by cbv <;> rfl) ?_)) ?_
      refine AnyE.ap tok 3 1919 31 (by kernel_rfl) (by cbv <;> rfl) (by cbv <;> rfl) (append_emptyG (by kernel_rfl) (by rfl) hnw h0 (fun i k => womC_one d i k) hGW) (by kernel_rfl) rfl (by repeat (first | exact trivial | refine And.intro (by cbv <;> rfl) ?_)) ?_
      refine AnyE.tk wd4_tidy tok 12 40 6015 (by kernel_rfl) (by kernel_rfl) (by cbv <;> rfl) (Eqv.refl _) ?_
      refine AnyE.ap tok 7 6143 35 (by kernel_rfl) (by cbv <;> rfl) (by cbv <;> rfl) (append_emptyG (by kernel_rfl) (by rfl) hnl hl (fun i k => lotC_one d i k) hGL) (by kernel_rfl) rfl (by repeat (first | exact trivial | refine And.intro (by cbv <;> rfl) ?_)) ?_
      refine AnyE.ap tok 11 8191 39 (by kernel_rfl) (by cbv <;> rfl) (by cbv <;> rfl) (append_noneZ hc (by kernel_rfl) (by rfl)) (by kernel_rfl) rfl (by repeat (first | exact trivial | refine And.intro (by cbv <;> rfl) ?_)) ?_
      refine AnyE.ef tok hO 13 16383 (by kernel_rfl) (by cbv <;> rfl) (by cbv <;> rfl) (by trivial) (by kernel_rfl) (by repeat (first | exact trivial | refine And.intro (by cbv <;> rfl) ?_)) ?_
      refine AnyE.tk wd4_tidy tok 14 41 32767 (by kernel_rfl) (by kernel_rfl) (by cbv <;> rfl) (Eqv.refl _) ?_
      refine AnyE.ef tok hO 15 65535 (by kernel_rfl) (by cbv <;> rfl) (by cbv <;> rfl) (by trivial) (by kernel_rfl) (by repeat (first | exact trivial | refine And.intro (by cbv <;> rfl) ?_)) ?_
      refine AnyE.tk wd4_tidy tok 16 42 131071 (by kernel_rfl) (by kernel_rfl) (by cbv <;> rfl) (Eqv.refl _) ?_
      refine AnyE.ef tok hO 17 262143 (by kernel_rfl) (by cbv <;> rfl) (by cbv <;> rfl) (by trivial) (by kernel_rfl) (by repeat (first | exact trivial | refine And.intro (by cbv <;> rfl) ?_)) ?_
      refine AnyE.done (by kernel_rfl) ?_
      exact wide_fin hWb hLb hCb 5 6 3 rfl rfl rfl rfl rfl rfl rfl rfl rfl rfl rfl rfl
  · refine PickE.ef tok hO 1894 (by cbv <;> rfl) (by cbv <;> rfl) (by trivial) (by kernel_rfl) (by repeat (first | exact trivial | refine And.intro (by cbv <;> rfl) ?_)) ?_
    refine AnyE.many [0, 4] (by kernel_rfl) (by rfl) ⟨?_, ?_, trivial⟩
    · refine PickE.ef tok hO 1895 (by cbv <;> rfl) (by cbv <;> rfl) (by trivial) (by kernel_rfl) (by repeat (first | exact trivial | refine And.intro (by cbv <;> rfl) ?_)) ?_
      refine AnyE.many [3, 4] (by kernel_rfl) (by rfl) ⟨?_, ?_, trivial⟩
      · refine PickE.ap tok 1903 31 (by cbv <;> rfl) (by cbv <;> rfl) (append_emptyG (by kernel_rfl) (by rfl) hnw h0 (fun i k => womC_one d i k) hGW) (by kernel_rfl) rfl (by repeat (first | exact trivial | refine And.intro (by cbv <;> rfl) ?_)) ?_
        refine AnyE.tk wd4_tidy tok 12 40 5999 (by kernel_rfl) (by kernel_rfl) (by cbv <;> rfl) (Eqv.refl _) ?_
        refine AnyE.ef tok hO 4 6015 (by kernel_rfl) (by cbv <;> rfl) (by cbv <;> rfl) (by trivial) (by kernel_rfl) (by repeat (first | exact trivial | refine And.intro (by cbv <;> rfl) ?_)) ?_
        refine AnyE.ap tok 7 6143 35 (by kernel_rfl) (by cbv <;> rfl) (by cbv <;> rfl) (append_emptyG (by kernel_rfl) (by rfl) hnl hl (fun i k => lotC_one d i k) hGL) (by kernel_rfl) rfl (by repeat (first | exact trivial | refine And.intro (by cbv <;> rfl) ?_)) ?_
        refine AnyE.ap tok 11 8191 39 (by kernel_rfl) (by cbv <;> rfl) (by cbv <;> rfl) (append_noneZ hc (by kernel_rfl) (by rfl)) (by kernel_rfl) rfl (by repeat (first | exact trivial | refine And.intro (by cbv <;> rfl) ?_)) ?_
        refine AnyE.ef tok hO 13 16383 (by kernel_rfl) (by cbv <;> rfl) (by cbv <;> rfl) (by trivial) (by kernel_rfl) (by repeat (first | exact trivial | refine And.intro (by cbv <;> rfl) ?_)) ?_
        refine AnyE.tk wd4_tidy tok 14 41 32767 (by kernel_rfl) (by kernel_rfl) (by cbv <;> rfl) (Eqv.refl _) ?_
        refine AnyE.ef tok hO 15 65535 (by kernel_rfl) (by cbv <;> rfl) (by cbv <;> rfl) (by trivial) (by kernel_rfl) (by repeat (first | exact trivial | refine And.intro (by cbv <;> rfl) ?_)) ?_
        refine AnyE.tk wd4_tidy tok 16 42 131071 (by kernel_rfl) (by kernel_rfl) (by cbv <;> rfl) (Eqv.refl _) ?_
        refine AnyE.ef tok hO 17 262143 (by kernel_rfl) (by cbv <;> rfl) (by cbv <;> rfl) (by trivial) (by kernel_rfl) (by repeat (first | exact trivial | refine And.intro (by cbv <;> rfl) ?_)) ?_
        refine AnyE.done (by kernel_rfl) ?_
        exact wide_fin hWb hLb hCb 4 6 2 rfl rfl rfl rfl rfl rfl rfl rfl rfl rfl rfl rfl
      · refine PickE.ef tok hO 1911 (by cbv <;> rfl) (by cbv <;> rfl) (by trivial) (by kernel_rfl) (by repeat (first | exact trivial | refine And.intro (by cbv <;> rfl) ?_)) ?_
        refine AnyE.ap tok 3 1919 31 (by kernel_rfl) (by cbv <;> rfl) (by cbv <;> rfl) (append_emptyG (by kernel_rfl) (by rfl) hnw h0 (fun i k => womC_one d i k) hGW) (by kernel_rfl) rfl (by repeat (first | exact trivial | refine And.intro (by cbv <;> rfl) ?_)) ?_
        refine AnyE.tk wd4_tidy tok 12 40 6015 (by kernel_rfl) (by kernel_rfl) (by cbv <;> rfl) (Eqv.refl _) ?_
        refine AnyE.ap tok 7 6143 35 (by kernel_rfl) (by cbv <;> rfl) (by cbv <;> rfl) (append_emptyG (by kernel_rfl) (by rfl) hnl hl (fun i k => lotC_one d i k) hGL) (by kernel_rfl) rfl (by repeat (first | exact trivial | refine And.intro (by cbv <;> rfl) ?_)) ?_
        refine AnyE.ap tok 11 8191 39 (by kernel_rfl) (by cbv <;> rfl) (by cbv <;> rfl) (append_noneZ hc (by kernel_rfl) (by rfl)) (by kernel_rfl) rfl (by repeat (first | exact trivial | refine And.intro (by cbv <;> rfl) ?_)) ?_
        refine AnyE.ef tok hO 13 16383 (by kernel_rfl) (by cbv <;> rfl) (by cbv <;> rfl) (by trivial) (by kernel_rfl) (by repeat (first | exact trivial | refine And.intro (by cbv <;> rfl) ?_)) ?_
        refine AnyE.tk wd4_tidy tok 14 41 32767 (by kernel_rfl) (by kernel_rfl) (by cbv <;> rfl) (Eqv.refl _) ?_
        refine AnyE.ef tok hO 15 65535 (by kernel_rfl) (by cbv <;> rfl) (by cbv <;> rfl) (by trivial) (by kernel_rfl) (by repeat (first | exact trivial | refine And.intro (by cbv <;> rfl) ?_)) ?_
        refine AnyE.tk wd4_tidy tok 16 42 131071 (by kernel_rfl) (by kernel_rfl) (by cbv <;> rfl) (Eqv.refl _) ?_
        refine AnyE.ef tok hO 17 262143 (by kernel_rfl) (by cbv <;> rfl) (by cbv <;> rfl) (by trivial) (by kernel_rfl) (by repeat (first | exact trivial | refine And.intro (by cbv <;> rfl) ?_)) ?_
        refine AnyE.done (by kernel_rfl) ?_
        exact wide_fin hWb hLb hCb 5 6 2 rfl rfl rfl rfl rfl rfl rfl rfl rfl rfl rfl rfl
    · refine PickE.ef tok hO 1910 (by cbv <;> rfl) (by cbv <;> rfl) (by trivial) (by kernel_rfl) (by repeat (first | exact trivial | refine And.intro (by cbv <;> rfl) ?_)) ?_
      refine AnyE.ef tok hO 0 1911 (by kernel_rfl) (by cbv <;> rfl) (by cbv <;> rfl) (by trivial) (by kernel_rfl) (by repeat (first | exact trivial | refine And.intro (by cbv <;> rfl) ?_)) ?_
      refine AnyE.ap tok 3 1919 31 (by kernel_rfl) (by cbv <;> rfl) (by cbv <;> rfl) (append_emptyG (by kernel_rfl) (by rfl) hnw h0 (fun i k => womC_one d i k) hGW) (by kernel_rfl) rfl (by repeat (first | exact trivial | refine And.intro (by cbv <;> rfl) ?_)) ?_
      refine AnyE.tk wd4_tidy tok 12 40 6015 (by kernel_rfl) (by kernel_rfl) (by cbv <;> rfl) (Eqv.refl _) ?_
      refine AnyE.ap tok 7 6143 35 (by kernel_rfl) (by cbv <;> rfl) (by cbv <;> rfl) (append_emptyG (by kernel_rfl) (by rfl) hnl hl (fun i k => lotC_one d i k) hGL) (by kernel_rfl) rfl (by repeat (first | exact trivial | refine And.intro (by cbv <;> rfl) ?_)) ?_
      refine AnyE.ap tok 11 8191 39 (by kernel_rfl) (by cbv <;> rfl) (by cbv <;> rfl) (append_noneZ hc (by kernel_rfl) (by rfl)) (by kernel_rfl) rfl (by repeat (first | exact trivial | refine And.intro (by cbv <;> rfl) ?_)) ?_
      refine AnyE.ef tok hO 13 16383 (by kernel_rfl) (by cbv <;> rfl) (by cbv <;> rfl) (by trivial) (by kernel_rfl) (by repeat (first | exact trivial | refine And.intro (by cbv <;> rfl) ?_)) ?_
      refine AnyE.tk wd4_tidy tok 14 41 32767 (by kernel_rfl) (by kernel_rfl) (by cbv <;> rfl) (Eqv.refl _) ?_
      refine AnyE.ef tok hO 15 65535 (by kernel_rfl) (by cbv <;> rfl) (by cbv <;> rfl) (by trivial) (by kernel_rfl) (by repeat (first | exact trivial | refine And.intro (by cbv <;> rfl) ?_)) ?_
      refine AnyE.tk wd4_tidy tok 16 42 131071 (by kernel_rfl) (by kernel_rfl) (by cbv <;> rfl) (Eqv.refl _) ?_
      refine AnyE.ef tok hO 17 262143 (by kernel_rfl) (by cbv <;> rfl) (by cbv <;> rfl) (by trivial) (by kernel_rfl) (by repeat (first | exact trivial | refine And.intro (by cbv <;> rfl) ?_)) ?_
      refine AnyE.done (by kernel_rfl) ?_
      exact wide_fin hWb hLb hCb 5 6 2 rfl rfl rfl rfl rfl rfl rfl rfl rfl rfl rfl rfl
end Go.Fz
