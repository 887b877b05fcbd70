/- Own work of the verifier of watercress: FzW2d, FzW7. -/
import Derived.Test.YtpefamheopplnaaMe28
import Derived.Test.YtpefamheopplnaaMe29
set_option linter.unusedVariables false
set_option linter.unusedSimpArgs false
namespace Go.Fz
open Go.Proofs
set_option maxRecDepth 100000
set_option linter.unusedVariables false
set_option maxHeartbeats 64000000 in
theorem wide_4nn (d : DayD) (x0 x1 : Int) (GW : List AV) (hGW : GW = flatG 2 (womC d) d.nw) (h0 : 0 < d.nw) (hnw : d.nw < 1048576) (GL : List AV) (hGL : GL = flatG 3 (lotC d) d.nl) (hl : 0 < d.nl) (hnl : d.nl < 1048576) (GC : List AV) (hGC : GC = flatG 4 (cntC d) d.nc) (hc : 0 < d.nc) (hnc : d.nc < 1048576) (g : Nat → AV) (O : Ar) (hO : O = std) (h : AllP (fun p => g p.1 = p.2) (wiL x0 x1)) :
    SW Try.prog none (nthC 3 (bodyF Try.f11)) (midK 223 (wiL x0 x1) (wiS d [(4, .cells none false GC), (3, .cells none false GL), (2, .cells none false GW)] (.sl 2 0 d.nw 2 false) (.sl 3 0 d.nl 3 false) (.sl 4 0 d.nc 4 false) 5)) ⟨⟨223, g⟩, []⟩ (wiS d [] (womsV d) (lotsV d) (cntsV d) 2) := by
  obtain ⟨g1, g2, g3, g7, _⟩ := h
  simp only at g1 g2 g3 g7
  rw [← updT_self g1, ← updT_self g2, ← updT_self g3, ← updT_self g7]
  have hWb : ∀ a ∈ GW, Below 0 a := by rw [hGW]; exact flatG_below (fun i j => by unfold womC; split <;> exact Below.lit) _
  have hLb : ∀ a ∈ GL, Below 0 a := by rw [hGL]; exact flatG_below (fun i j => by unfold lotC; split <;> exact Below.lit) _
  have hCb : ∀ a ∈ GC, Below 0 a := by rw [hGC]; exact flatG_below (fun i j => by unfold cntC; split <;> exact Below.lit) _
  refine SW.ren ?_
  refine (show SW Try.prog none (.region 4 wd4 true) _ _ _ from ?_)
  refine SW.drawnB tok (M := wd4M) mixed 18 wd4_tidy wd4_size (by kernel_rfl) ?_
  refine AnyE.tk wd4_tidy tok 1 29 2 (by kernel_rfl) (by kernel_rfl) (by cbv <;> rfl) (Eqv.refl _) ?_
  refine AnyE.tk wd4_tidy tok 2 30 6 (by kernel_rfl) (by kernel_rfl) (by cbv <;> rfl) (Eqv.refl _) ?_
  refine AnyE.tk wd4_tidy tok 5 33 38 (by kernel_rfl) (by kernel_rfl) (by cbv <;> rfl) (Eqv.refl _) ?_
  refine AnyE.tk wd4_tidy tok 6 34 102 (by kernel_rfl) (by kernel_rfl) (by cbv <;> rfl) (Eqv.refl _) ?_
  refine AnyE.tk wd4_tidy tok 9 37 614 (by kernel_rfl) (by kernel_rfl) (by cbv <;> rfl) (Eqv.refl _) ?_
  refine AnyE.tk wd4_tidy tok 10 38 1638 (by kernel_rfl) (by kernel_rfl) (by cbv <;> rfl) (Eqv.refl _) ?_
  refine AnyE.many [0, 4, 8] (by kernel_rfl) (by rfl) ⟨?_, ?_, ?_, trivial⟩
  · refine PickE.ef tok hO 1639 (by cbv <;> rfl) (by cbv <;> rfl) (by trivial) (by kernel_rfl) (by repeat (first | exact trivial | refine And.intro (by cbv <;> rfl) ?_)) ?_
    refine AnyE.many [3, 4, 8] (by kernel_rfl) (by rfl) ⟨?_, ?_, ?_, trivial⟩
    · refine PickE.ap tok 1647 31 (by cbv <;> rfl) (by cbv <;> rfl) (append_emptyG (by kernel_rfl) (by rfl) hnw h0 (fun i k => womC_one d i k) hGW) (by kernel_rfl) rfl (by repeat (first | exact trivial | refine And.intro (by cbv <;> rfl) ?_)) ?_
      refine AnyE.tk wd4_tidy tok 12 40 5743 (by kernel_rfl) (by kernel_rfl) (by cbv <;> rfl) (Eqv.refl _) ?_
      refine AnyE.many [4, 8] (by kernel_rfl) (by rfl) ⟨?_, ?_, trivial⟩
      · refine PickE.ef tok hO 5759 (by cbv <;> rfl) (by cbv <;> rfl) (by trivial) (by kernel_rfl) (by repeat (first | exact trivial | refine And.intro (by cbv <;> rfl) ?_)) ?_
        refine AnyE.many [7, 8] (by kernel_rfl) (by rfl) ⟨?_, ?_, trivial⟩
        · refine PickE.ap tok 5887 35 (by cbv <;> rfl) (by cbv <;> rfl) (append_emptyG (by kernel_rfl) (by rfl) hnl hl (fun i k => lotC_one d i k) hGL) (by kernel_rfl) rfl (by repeat (first | exact trivial | refine And.intro (by cbv <;> rfl) ?_)) ?_
          refine AnyE.ef tok hO 8 6143 (by kernel_rfl) (by cbv <;> rfl) (by cbv <;> rfl) (by trivial) (by kernel_rfl) (by repeat (first | exact trivial | refine And.intro (by cbv <;> rfl) ?_)) ?_
          refine AnyE.ap tok 11 8191 39 (by kernel_rfl) (by cbv <;> rfl) (by cbv <;> rfl) (append_emptyG (by kernel_rfl) (by rfl) hnc hc (fun i k => cntC_one d i k) hGC) (by kernel_rfl) rfl (by repeat (first | exact trivial | refine And.intro (by cbv <;> rfl) ?_)) ?_
          refine AnyE.ef tok hO 13 16383 (by kernel_rfl) (by cbv <;> rfl) (by cbv <;> rfl) (by trivial) (by kernel_rfl) (by repeat (first | exact trivial | refine And.intro (by cbv <;> rfl) ?_)) ?_
          refine AnyE.tk wd4_tidy tok 14 41 32767 (by kernel_rfl) (by kernel_rfl) (by cbv <;> rfl) (Eqv.refl _) ?_
          refine AnyE.ef tok hO 15 65535 (by kernel_rfl) (by cbv <;> rfl) (by cbv <;> rfl) (by trivial) (by kernel_rfl) (by repeat (first | exact trivial | refine And.intro (by cbv <;> rfl) ?_)) ?_
          refine AnyE.tk wd4_tidy tok 16 42 131071 (by kernel_rfl) (by kernel_rfl) (by cbv <;> rfl) (Eqv.refl _) ?_
          refine AnyE.ef tok hO 17 262143 (by kernel_rfl) (by cbv <;> rfl) (by cbv <;> rfl) (by trivial) (by kernel_rfl) (by repeat (first | exact trivial | refine And.intro (by cbv <;> rfl) ?_)) ?_
          refine AnyE.done (by kernel_rfl) ?_
          exact wide_fin hWb hLb hCb 3 5 7 rfl rfl rfl rfl rfl rfl rfl rfl rfl rfl rfl rfl
        · refine PickE.ef tok hO 6015 (by cbv <;> rfl) (by cbv <;> rfl) (by trivial) (by kernel_rfl) (by repeat (first | exact trivial | refine And.intro (by cbv <;> rfl) ?_)) ?_
          refine AnyE.ap tok 7 6143 35 (by kernel_rfl) (by cbv <;> rfl) (by cbv <;> rfl) (append_emptyG (by kernel_rfl) (by rfl) hnl hl (fun i k => lotC_one d i k) hGL) (by kernel_rfl) rfl (by repeat (first | exact trivial | refine And.intro (by cbv <;> rfl) ?_)) ?_
          refine AnyE.ap tok 11 8191 39 (by kernel_rfl) (by cbv <;> rfl) (by cbv <;> rfl) (append_emptyG (by kernel_rfl) (by rfl) hnc hc (fun i k => cntC_one d i k) hGC) (by kernel_rfl) rfl (by repeat (first | exact trivial | refine And.intro (by cbv <;> rfl) ?_)) ?_
          refine AnyE.ef tok hO 13 16383 (by kernel_rfl) (by cbv <;> rfl) (by cbv <;> rfl) (by trivial) (by kernel_rfl) (by repeat (first | exact trivial | refine And.intro (by cbv <;> rfl) ?_)) ?_
          refine AnyE.tk wd4_tidy tok 14 41 32767 (by kernel_rfl) (by kernel_rfl) (by cbv <;> rfl) (Eqv.refl _) ?_
          refine AnyE.ef tok hO 15 65535 (by kernel_rfl) (by cbv <;> rfl) (by cbv <;> rfl) (by trivial) (by kernel_rfl) (by repeat (first | exact trivial | refine And.intro (by cbv <;> rfl) ?_)) ?_
          refine AnyE.tk wd4_tidy tok 16 42 131071 (by kernel_rfl) (by kernel_rfl) (by cbv <;> rfl) (Eqv.refl _) ?_
          refine AnyE.ef tok hO 17 262143 (by kernel_rfl) (by cbv <;> rfl) (by cbv <;> rfl) (by trivial) (by kernel_rfl) (by repeat (first | exact trivial | refine And.intro (by cbv <;> rfl) ?_)) ?_
          refine AnyE.done (by kernel_rfl) ?_
          exact wide_fin hWb hLb hCb 3 6 7 rfl rfl rfl rfl rfl rfl rfl rfl rfl rfl rfl rfl
      · refine PickE.ef tok hO 5999 (by cbv <;> rfl) (by cbv <;> rfl) (by trivial) (by kernel_rfl) (by repeat (first | exact trivial | refine And.intro (by cbv <;> rfl) ?_)) ?_
        refine AnyE.ef tok hO 4 6015 (by kernel_rfl) (by cbv <;> rfl) (by cbv <;> rfl) (by trivial) (by kernel_rfl) (by repeat (first | exact trivial | refine And.intro (by cbv <;> rfl) ?_)) ?_
        refine AnyE.ap tok 7 6143 35 (by kernel_rfl) (by cbv <;> rfl) (by cbv <;> rfl) (append_emptyG (by kernel_rfl) (by rfl) hnl hl (fun i k => lotC_one d i k) hGL) (by kernel_rfl) rfl (by repeat (first | exact trivial | refine And.intro (by cbv <;> rfl) ?_)) ?_
        refine AnyE.ap tok 11 8191 39 (by kernel_rfl) (by cbv <;> rfl) (by cbv <;> rfl) (append_emptyG (by kernel_rfl) (by rfl) hnc hc (fun i k => cntC_one d i k) hGC) (by kernel_rfl) rfl (by repeat (first | exact trivial | refine And.intro (by cbv <;> rfl) ?_)) ?_
        refine AnyE.ef tok hO 13 16383 (by kernel_rfl) (by cbv <;> rfl) (by cbv <;> rfl) (by trivial) (by kernel_rfl) (by repeat (first | exact trivial | refine And.intro (by cbv <;> rfl) ?_)) ?_
        refine AnyE.tk wd4_tidy tok 14 41 32767 (by kernel_rfl) (by kernel_rfl) (by cbv <;> rfl) (Eqv.refl _) ?_
        refine AnyE.ef tok hO 15 65535 (by kernel_rfl) (by cbv <;> rfl) (by cbv <;> rfl) (by trivial) (by kernel_rfl) (by repeat (first | exact trivial | refine And.intro (by cbv <;> rfl) ?_)) ?_
        refine AnyE.tk wd4_tidy tok 16 42 131071 (by kernel_rfl) (by kernel_rfl) (by cbv <;> rfl) (Eqv.refl _) ?_
        refine AnyE.ef tok hO 17 262143 (by kernel_rfl) (by cbv <;> rfl) (by cbv <;> rfl) (by trivial) (by kernel_rfl) (by repeat (first | exact trivial | refine And.intro (by cbv <;> rfl) ?_)) ?_
        refine AnyE.done (by kernel_rfl) ?_
        exact wide_fin hWb hLb hCb 3 6 7 rfl rfl rfl rfl rfl rfl rfl rfl rfl rfl rfl rfl
    · refine PickE.ef tok hO 1655 (by cbv <;> rfl) (by cbv <;> rfl) (by trivial) (by kernel_rfl) (by repeat (first | exact trivial | refine And.intro (by cbv <;> rfl) ?_)) ?_
      refine AnyE.many [3, 8] (by kernel_rfl) (by rfl) ⟨?_, ?_, trivial⟩
      · refine PickE.ap tok 1663 31 (by cbv <;> rfl) (by cbv <;> rfl) (append_emptyG (by kernel_rfl) (by rfl) hnw h0 (fun i k => womC_one d i k) hGW) (by kernel_rfl) rfl (by repeat (first | exact trivial | refine And.intro (by cbv <;> rfl) ?_)) ?_
        refine AnyE.tk wd4_tidy tok 12 40 5759 (by kernel_rfl) (by kernel_rfl) (by cbv <;> rfl) (Eqv.refl _) ?_
        refine AnyE.many [7, 8] (by kernel_rfl) (by rfl) ⟨?_, ?_, trivial⟩
        · refine PickE.ap tok 5887 35 (by cbv <;> rfl) (by cbv <;> rfl) (append_emptyG (by kernel_rfl) (by rfl) hnl hl (fun i k => lotC_one d i k) hGL) (by kernel_rfl) rfl (by repeat (first | exact trivial | refine And.intro (by cbv <;> rfl) ?_)) ?_
          refine AnyE.ef tok hO 8 6143 (by kernel_rfl) (by cbv <;> rfl) (by cbv <;> rfl) (by trivial) (by kernel_rfl) (by repeat (first | exact trivial | refine And.intro (by cbv <;> rfl) ?_)) ?_
          refine AnyE.ap tok 11 8191 39 (by kernel_rfl) (by cbv <;> rfl) (by cbv <;> rfl) (append_emptyG (by kernel_rfl) (by rfl) hnc hc (fun i k => cntC_one d i k) hGC) (by kernel_rfl) rfl (by repeat (first | exact trivial | refine And.intro (by cbv <;> rfl) ?_)) ?_
          refine AnyE.ef tok hO 13 16383 (by kernel_rfl) (by cbv <;> rfl) (by cbv <;> rfl) (by trivial) (by kernel_rfl) (by repeat (first | exact trivial | refine And.intro (by cbv <;> rfl) ?_)) ?_
          refine AnyE.tk wd4_tidy tok 14 41 32767 (by kernel_rfl) (by kernel_rfl) (by cbv <;> rfl) (Eqv.refl _) ?_
          refine AnyE.ef tok hO 15 65535 (by kernel_rfl) (by cbv <;> rfl) (by cbv <;> rfl) (by trivial) (by kernel_rfl) (by repeat (first | exact trivial | refine And.intro (by cbv <;> rfl) ?_)) ?_
          refine AnyE.tk wd4_tidy tok 16 42 131071 (by kernel_rfl) (by kernel_rfl) (by cbv <;> rfl) (Eqv.refl _) ?_
          refine AnyE.ef tok hO 17 262143 (by kernel_rfl) (by cbv <;> rfl) (by cbv <;> rfl) (by trivial) (by kernel_rfl) (by repeat (first | exact trivial | refine And.intro (by cbv <;> rfl) ?_)) ?_
          refine AnyE.done (by kernel_rfl) ?_
          exact wide_fin hWb hLb hCb 4 5 7 rfl rfl rfl rfl rfl rfl rfl rfl rfl rfl rfl rfl
        · refine PickE.ef tok hO 6015 (by cbv <;> rfl) (by cbv <;> rfl) (by trivial) (by kernel_rfl) (by repeat (first | exact trivial | refine And.intro (by cbv <;> rfl) ?_)) ?_
          refine AnyE.ap tok 7 6143 35 (by kernel_rfl) (by cbv <;> rfl) (by cbv <;> rfl) (append_emptyG (by kernel_rfl) (by rfl) hnl hl (fun i k => lotC_one d i k) hGL) (by kernel_rfl) rfl (by repeat (first | exact trivial | refine And.intro (by cbv <;> rfl) ?_)) ?_
          refine AnyE.ap tok 11 8191 39 (by kernel_rfl) (by cbv <;> rfl) (by cbv <;> rfl) (append_emptyG (by kernel_rfl) (by rfl) hnc hc (fun i k => cntC_one d i k) hGC) (by kernel_rfl) rfl (by repeat (first | exact trivial | refine And.intro (by cbv <;> rfl) ?_)) ?_
          refine AnyE.ef tok hO 13 16383 (by kernel_rfl) (by cbv <;> rfl) (by cbv <;> rfl) (by trivial) (by kernel_rfl) (by repeat (first | exact trivial | refine And.intro (by cbv <;> rfl) ?_)) ?_
          refine AnyE.tk wd4_tidy tok 14 41 32767 (by kernel_rfl) (by kernel_rfl) (by cbv <;> rfl) (Eqv.refl _) ?_
          refine AnyE.ef tok hO 15 65535 (by kernel_rfl) (by cbv <;> rfl) (by cbv <;> rfl) (by trivial) (by kernel_rfl) (by repeat (first | exact trivial | refine And.intro (by cbv <;> rfl) ?_)) ?_
          refine AnyE.tk wd4_tidy tok 16 42 131071 (by kernel_rfl) (by kernel_rfl) (by cbv <;> rfl) (Eqv.refl _) ?_
          refine AnyE.ef tok hO 17 262143 (by kernel_rfl) (by cbv <;> rfl) (by cbv <;> rfl) (by trivial) (by kernel_rfl) (by repeat (first | exact trivial | refine And.intro (by cbv <;> rfl) ?_)) ?_
          refine AnyE.done (by kernel_rfl) ?_
          exact wide_fin hWb hLb hCb 4 6 7 rfl rfl rfl rfl rfl rfl rfl rfl rfl rfl rfl rfl
      · refine PickE.ef tok hO 1911 (by cbv <;> rfl) (by cbv <;> rfl) (by trivial) (by kernel_rfl) (by repeat (first | exact trivial | refine And.intro (by cbv <;> rfl) ?_)) ?_
        refine AnyE.ap tok 3 1919 31 (by kernel_rfl) (by cbv <;> rfl) (by cbv <;> rfl) (append_emptyG (by kernel_rfl) (by rfl) hnw h0 (fun i k => womC_one d i k) hGW) (by kernel_rfl) rfl (by repeat (first | exact trivial | refine And.intro (by cbv <;> rfl) ?_)) ?_
        refine AnyE.tk wd4_tidy tok 12 40 6015 (by kernel_rfl) (by kernel_rfl) (by cbv <;> rfl) (Eqv.refl _) ?_
        refine AnyE.ap tok 7 6143 35 (by kernel_rfl) (by cbv <;> rfl) (by cbv <;> rfl) (append_emptyG (by kernel_rfl) (by rfl) hnl hl (fun i k => lotC_one d i k) hGL) (by kernel_rfl) rfl (by repeat (first | exact trivial | refine And.intro (by cbv <;> rfl) ?_)) ?_
        refine AnyE.ap tok 11 8191 39 (by kernel_rfl) (by cbv <;> rfl) (by cbv <;> rfl) (append_emptyG (by kernel_rfl) (by rfl) hnc hc (fun i k => cntC_one d i k) hGC) (by kernel_rfl) rfl (by repeat (first | exact trivial | refine And.intro (by cbv <;> rfl) ?_)) ?_
        refine AnyE.ef tok hO 13 16383 (by kernel_rfl) (by cbv <;> rfl) (by cbv <;> rfl) (by trivial) (by kernel_rfl) (by repeat (first | exact trivial | refine And.intro (by cbv <;> rfl) ?_)) ?_
        refine AnyE.tk wd4_tidy tok 14 41 32767 (by kernel_rfl) (by kernel_rfl) (by cbv <;> rfl) (Eqv.refl _) ?_
        refine AnyE.ef tok hO 15 65535 (by kernel_rfl) (by cbv <;> rfl) (by cbv <;> rfl) (by trivial) (by kernel_rfl) (by repeat (first | exact trivial | refine And.intro (by cbv <;> rfl) ?_)) ?_
        refine AnyE.tk wd4_tidy tok 16 42 131071 (by kernel_rfl) (by kernel_rfl) (by cbv <;> rfl) (Eqv.refl _) ?_
        refine AnyE.ef tok hO 17 262143 (by kernel_rfl) (by cbv <;> rfl) (by cbv <;> rfl) (by trivial) (by kernel_rfl) (by repeat (first | exact trivial | refine And.intro (by cbv <;> rfl) ?_)) ?_
        refine AnyE.done (by kernel_rfl) ?_
        exact wide_fin hWb hLb hCb 5 6 7 rfl rfl rfl rfl rfl rfl rfl rfl rfl rfl rfl rfl
    · refine PickE.ef tok hO 1895 (by cbv <;> rfl) (by cbv <;> rfl) (by trivial) (by kernel_rfl) (by repeat (first | exact trivial | refine And.intro (by cbv <;> rfl) ?_)) ?_
      refine AnyE.many [3, 4] (by kernel_rfl) (by rfl) ⟨?_, ?_, trivial⟩
      · refine PickE.ap tok 1903 31 (by cbv <;> rfl) (by cbv <;> rfl) (append_emptyG (by kernel_rfl) (by rfl) hnw h0 (fun i k => womC_one d i k) hGW) (by kernel_rfl) rfl (by repeat (first | exact trivial | refine And.intro (by cbv <;> rfl) ?_)) ?_
        refine AnyE.tk wd4_tidy tok 12 40 5999 (by kernel_rfl) (by kernel_rfl) (by cbv <;> rfl) (Eqv.refl _) ?_
        refine AnyE.ef tok hO 4 6015 (by kernel_rfl) (by cbv <;> rfl) (by cbv <;> rfl) (by trivial) (by kernel_rfl) (by repeat (first | exact trivial | refine And.intro (by cbv <;> rfl) ?_)) ?_
        refine AnyE.ap tok 7 6143 35 (by kernel_rfl) (by cbv <;> rfl) (by cbv <;> rfl) (append_emptyG (by kernel_rfl) (by rfl) hnl hl (fun i k => lotC_one d i k) hGL) (by kernel_rfl) rfl (by repeat (first | exact trivial | refine And.intro (by cbv <;> rfl) ?_)) ?_
        refine AnyE.ap tok 11 8191 39 (by kernel_rfl) (by cbv <;> rfl) (by cbv <;> rfl) (append_emptyG (by kernel_rfl) (by rfl) hnc hc (fun i k => cntC_one d i k) hGC) (by kernel_rfl) rfl (by repeat (first | exact trivial | refine And.intro (by cbv <;> rfl) ?_)) ?_
        refine AnyE.ef tok hO 13 16383 (by kernel_rfl) (by cbv <;> rfl) (by cbv <;> rfl) (by trivial) (by kernel_rfl) (by repeat (first | exact trivial | refine And.intro (by cbv <;> rfl) ?_)) ?_
        refine AnyE.tk wd4_tidy tok 14 41 32767 (by kernel_rfl) (by kernel_rfl) (by cbv <;> rfl) (Eqv.refl _) ?_
        refine AnyE.ef tok hO 15 65535 (by kernel_rfl) (by cbv <;> rfl) (by cbv <;> rfl) (by trivial) (by kernel_rfl) (by repeat (first | exact trivial | refine And.intro (by cbv <;> rfl) ?_)) ?_
        refine AnyE.tk wd4_tidy tok 16 42 131071 (by kernel_rfl) (by kernel_rfl) (by cbv <;> rfl) (Eqv.refl _) ?_
        refine AnyE.ef tok hO 17 262143 (by kernel_rfl) (by cbv <;> rfl) (by cbv <;> rfl) (by trivial) (by kernel_rfl) (by repeat (first | exact trivial | refine And.intro (by cbv <;> rfl) ?_)) ?_
        refine AnyE.done (by kernel_rfl) ?_
        exact wide_fin hWb hLb hCb 4 6 7 rfl rfl rfl rfl rfl rfl rfl rfl rfl rfl rfl rfl
      · refine PickE.ef tok hO 1911 (by cbv <;> rfl) (by cbv <;> rfl) (by trivial) (by kernel_rfl) (by repeat (first | exact trivial | refine And.intro (by cbv <;> rfl) ?_)) ?_
        refine AnyE.ap tok 3 1919 31 (by kernel_rfl) (by cbv <;> rfl) (by cbv <;> rfl) (append_emptyG (by kernel_rfl) (by rfl) hnw h0 (fun i k => womC_one d i k) hGW) (by kernel_rfl) rfl (by repeat (first | exact trivial | refine And.intro (by cbv <;> rfl) ?_)) ?_
        refine AnyE.tk wd4_tidy tok 12 40 6015 (by kernel_rfl) (by kernel_rfl) (by cbv <;> rfl) (Eqv.refl _) ?_
        refine AnyE.ap tok 7 6143 35 (by kernel_rfl) (by cbv <;> rfl) (by cbv <;> rfl) (append_emptyG (by kernel_rfl) (by rfl) hnl hl (fun i k => lotC_one d i k) hGL) (by kernel_rfl) rfl (by repeat (first | exact trivial | refine And.intro (by cbv <;> rfl) ?_)) ?_
        refine AnyE.ap tok 11 8191 39 (by kernel_rfl) (by cbv <;> rfl) (by cbv <;> rfl) (append_emptyG (by kernel_rfl) (by rfl) hnc hc (fun i k => cntC_one d i k) hGC) (by kernel_rfl) rfl (by repeat (first | exact trivial | refine And.intro (by cbv <;> rfl) ?_)) ?_
        refine AnyE.ef tok hO 13 16383 (by kernel_rfl) (by cbv <;> rfl) (by cbv <;> rfl) (by trivial) (by kernel_rfl) (by repeat (first | exact trivial | refine And.intro (by cbv <;> rfl) ?_)) ?_
        refine AnyE.tk wd4_tidy tok 14 41 32767 (by kernel_rfl) (by kernel_rfl) (by cbv <;> rfl) (Eqv.refl _) ?_
        refine AnyE.ef tok hO 15 65535 (by kernel_rfl) (by cbv <;> rfl) (by cbv <;> rfl) (by trivial) (by kernel_rfl) (by repeat (first | exact trivial | refine And.intro (by cbv <;> rfl) ?_)) ?_
        refine AnyE.tk wd4_tidy tok 16 42 131071 (by kernel_rfl) (by kernel_rfl) (by cbv <;> rfl) (Eqv.refl _) ?_
        refine AnyE.ef tok hO 17 262143 (by kernel_rfl) (by cbv <;> rfl) (by cbv <;> rfl) (by trivial) (by kernel_rfl) (by repeat (first | exact trivial | refine And.intro (by cbv <;> rfl) ?_)) ?_
        refine AnyE.done (by kernel_rfl) ?_
        exact wide_fin hWb hLb hCb 5 6 7 rfl rfl rfl rfl rfl rfl rfl rfl rfl rfl rfl rfl
  · refine PickE.ef tok hO 1654 (by cbv <;> rfl) (by cbv <;> rfl) (by trivial) (by kernel_rfl) (by repeat (first | exact trivial | refine And.intro (by cbv <;> rfl) ?_)) ?_
    refine AnyE.many [0, 8] (by kernel_rfl) (by rfl) ⟨?_, ?_, trivial⟩
    · refine PickE.ef tok hO 1655 (by cbv <;> rfl) (by cbv <;> rfl) (by trivial) (by kernel_rfl) (by repeat (first | exact trivial | refine And.intro (by cbv <;> rfl) ?_)) ?_
      refine AnyE.many [3, 8] (by kernel_rfl) (by rfl) ⟨?_, ?_, trivial⟩
      · refine PickE.ap tok 1663 31 (by cbv <;> rfl) (by cbv <;> rfl) (append_emptyG (by kernel_rfl) (by rfl) hnw h0 (fun i k => womC_one d i k) hGW) (by kernel_rfl) rfl (by repeat (first | exact trivial | refine And.intro (by cbv <;> rfl) ?_)) ?_
        refine AnyE.tk wd4_tidy tok 12 40 5759 (by kernel_rfl) (by kernel_rfl) (by cbv <;> rfl) (Eqv.refl _) ?_
        refine AnyE.many [7, 8] (by kernel_rfl) (by rfl) ⟨?_, ?_, trivial⟩
        · refine PickE.ap tok 5887 35 (by cbv <;> rfl) (by cbv <;> rfl) (append_emptyG (by kernel_rfl) (by rfl) hnl hl (fun i k => lotC_one d i k) hGL) (by kernel_rfl) rfl (by repeat (first | exact trivial | refine And.intro (by cbv <;> rfl) ?_)) ?_
          refine AnyE.ef tok hO 8 6143 (by kernel_rfl) (by cbv <;> rfl) (by cbv <;> rfl) (by trivial) (by kernel_rfl) (by repeat (first | exact trivial | refine And.intro (by cbv <;> rfl) ?_)) ?_
          refine AnyE.ap tok 11 8191 39 (by kernel_rfl) (by cbv <;> rfl) (by cbv <;> rfl) (append_emptyG (by kernel_rfl) (by rfl) hnc hc (fun i k => cntC_one d i k) hGC) (by kernel_rfl) rfl (by repeat (first | exact trivial | refine And.intro (by cbv <;> rfl) ?_)) ?_
          refine AnyE.ef tok hO 13 16383 (by kernel_rfl) (by cbv <;> rfl) (by cbv <;> rfl) (by trivial) (by kernel_rfl) (by repeat (first | exact trivial | refine And.intro (by cbv <;> rfl) ?_)) ?_
          refine AnyE.tk wd4_tidy tok 14 41 32767 (by kernel_rfl) (by kernel_rfl) (by cbv <;> rfl) (Eqv.refl _) ?_
          refine AnyE.ef tok hO 15 65535 (by kernel_rfl) (by cbv <;> rfl) (by cbv <;> rfl) (by trivial) (by kernel_rfl) (by repeat (first | exact trivial | refine And.intro (by cbv <;> rfl) ?_)) ?_
          refine AnyE.tk wd4_tidy tok 16 42 131071 (by kernel_rfl) (by kernel_rfl) (by cbv <;> rfl) (Eqv.refl _) ?_
          refine AnyE.ef tok hO 17 262143 (by kernel_rfl) (by cbv <;> rfl) (by cbv <;> rfl) (by trivial) (by kernel_rfl) (by repeat (first | exact trivial | refine And.intro (by cbv <;> rfl) ?_)) ?_
          refine AnyE.done (by kernel_rfl) ?_
          exact wide_fin hWb hLb hCb 4 5 7 rfl rfl rfl rfl rfl rfl rfl rfl rfl rfl rfl rfl
        · refine PickE.ef tok hO 6015 (by cbv <;> rfl) (by cbv <;> rfl) (by trivial) (by kernel_rfl) (by repeat (first | exact trivial | refine And.intro (by cbv <;> rfl) ?_)) ?_
          refine AnyE.ap tok 7 6143 35 (by kernel_rfl) (by cbv <;> rfl) (by cbv <;> rfl) (append_emptyG (by kernel_rfl) (by rfl) hnl hl (fun i k => lotC_one d i k) hGL) (by kernel_rfl) rfl (by repeat (first | exact trivial | refine And.intro (by cbv <;> rfl) ?_)) ?_
          refine AnyE.ap tok 11 8191 39 (by kernel_rfl) (by cbv <;> rfl) (by cbv <;> rfl) (append_emptyG (by kernel_rfl) (by rfl) hnc hc (fun i k => cntC_one d i k) hGC) (by kernel_rfl) rfl (by repeat (first | exact trivial | refine And.intro (by cbv <;> rfl) ?_)) ?_
          refine AnyE.ef tok hO 13 16383 (by kernel_rfl) (by cbv <;> rfl) (by cbv <;> rfl) (by trivial) (by kernel_rfl) (by repeat (first | exact trivial | refine And.intro (by cbv <;> rfl) ?_)) ?_
          refine AnyE.tk wd4_tidy tok 14 41 32767 (by kernel_rfl) (by kernel_rfl) (by cbv <;> rfl) (Eqv.refl _) ?_
          refine AnyE.ef tok hO 15 65535 (by kernel_rfl) (by cbv <;> rfl) (by cbv <;> rfl) (by trivial) (by kernel_rfl) (by repeat (first | exact trivial | refine And.intro (by cbv <;> rfl) ?_)) ?_
          refine AnyE.tk wd4_tidy tok 16 42 131071 (by kernel_rfl) (by kernel_rfl) (by cbv <;> rfl) (Eqv.refl _) ?_
          refine AnyE.ef tok hO 17 262143 (by kernel_rfl) (by cbv <;> rfl) (by cbv <;> rfl) (by trivial) (by kernel_rfl) (by repeat (first | exact trivial | refine And.intro (by cbv <;> rfl) ?_)) ?_
          refine AnyE.done (by kernel_rfl) ?_
          exact wide_fin hWb hLb hCb 4 6 7 rfl rfl rfl rfl rfl rfl rfl rfl rfl rfl rfl rfl
      · refine PickE.ef tok hO 1911 (by cbv <;> rfl) (by cbv <;> rfl) (by trivial) (by kernel_rfl) (by repeat (first | exact trivial | refine And.intro (by cbv <;> rfl) ?_)) ?_
        refine AnyE.ap tok 3 1919 31 (by kernel_rfl) (by cbv <;> rfl) (by cbv <;> rfl) (append_emptyG (by kernel_rfl) (by rfl) hnw h0 (fun i k => womC_one d i k) hGW) (by kernel_rfl) rfl (by repeat (first | exact trivial | refine And.intro (by cbv <;> rfl) ?_)) ?_
        refine AnyE.tk wd4_tidy tok 12 40 6015 (by kernel_rfl) (by kernel_rfl) (by cbv <;> rfl) (Eqv.refl _) ?_
        refine AnyE.ap tok 7 6143 35 (by kernel_rfl) (by cbv <;> rfl) (by cbv <;> rfl) (append_emptyG (by kernel_rfl) (by rfl) hnl hl (fun i k => lotC_one d i k) hGL) (by kernel_rfl) rfl (by repeat (first | exact trivial | refine And.intro (by cbv <;> rfl) ?_)) ?_
        refine AnyE.ap tok 11 8191 39 (by kernel_rfl) (by cbv <;> rfl) (by cbv <;> rfl) (append_emptyG (by kernel_rfl) (by rfl) hnc hc (fun i k => cntC_one d i k) hGC) (by kernel_rfl) rfl (by repeat (first | exact trivial | refine And.intro (by cbv <;> rfl) ?_)) ?_
        refine AnyE.ef tok hO 13 16383 (by kernel_rfl) (by cbv <;> rfl) (by cbv <;> rfl) (by trivial) (by kernel_rfl) (by repeat (first | exact trivial | refine And.intro (by cbv <;> rfl) ?_)) ?_
        refine AnyE.tk wd4_tidy tok 14 41 32767 (by kernel_rfl) (by kernel_rfl) (by cbv <;> rfl) (Eqv.refl _) ?_
        refine AnyE.ef tok hO 15 65535 (by kernel_rfl) (by cbv <;> rfl) (by cbv <;> rfl) (by trivial) (by kernel_rfl) (by repeat (first | exact trivial | refine And.intro (by cbv <;> rfl) ?_)) ?_
        refine AnyE.tk wd4_tidy tok 16 42 131071 (by kernel_rfl) (by kernel_rfl) (by cbv <;> rfl) (Eqv.refl _) ?_
        refine AnyE.ef tok hO 17 262143 (by kernel_rfl) (by cbv <;> rfl) (by cbv <;> rfl) (by trivial) (by kernel_rfl) (by repeat (first | exact trivial | refine And.intro (by cbv <;> rfl) ?_)) ?_
        refine AnyE.done (by kernel_rfl) ?_
        exact wide_fin hWb hLb hCb 5 6 7 rfl rfl rfl rfl rfl rfl rfl rfl rfl rfl rfl rfl
    · refine PickE.ef tok hO 1910 (by cbv <;> rfl) (by cbv <;> rfl) (by trivial) (by kernel_rfl) (by repeat (first | exact trivial | refine And.intro (by cbv <;> rfl) ?_)) ?_
      refine AnyE.ef tok hO 0 1911 (by kernel_rfl) (by cbv <;> rfl) (by cbv <;> rfl) (by trivial) (by kernel_rfl) (by repeat (first | exact trivial | refine And.intro (by cbv <;> rfl) ?_)) ?_
      refine AnyE.ap tok 3 1919 31 (by kernel_rfl) (by cbv <;> rfl) (by cbv <;> rfl) (append_emptyG (by kernel_rfl) (by rfl) hnw h0 (fun i k => womC_one d i k) hGW) (by kernel_rfl) rfl (by repeat (first | exact trivial | refine And.intro (by cbv <;> rfl) ?_)) ?_
      refine AnyE.tk wd4_tidy tok 12 40 6015 (by kernel_rfl) (by kernel_rfl) (by cbv <;> rfl) (Eqv.refl _) ?_
      refine AnyE.ap tok 7 6143 35 (by kernel_rfl) (by cbv <;> rfl) (by cbv <;> rfl) (append_emptyG (by kernel_rfl) (by rfl) hnl hl (fun i k => lotC_one d i k) hGL) (by kernel_rfl) rfl (by repeat (first | exact trivial | refine And.intro (by cbv <;> rfl) ?_)) ?_
      refine AnyE.ap tok 11 8191 39 (by kernel_rfl) (by cbv <;> rfl) (by cbv <;> rfl) (append_emptyG (by kernel_rfl) (by rfl) hnc hc (fun i k => cntC_one d i k) hGC) (by kernel_rfl) rfl (by repeat (first | exact trivial | refine And.intro (by cbv <;> rfl) ?_)) ?_
      refine AnyE.ef tok hO 13 16383 (by kernel_rfl) (by cbv <;> rfl) (by cbv <;> rfl) (by trivial) (by kernel_rfl) (by repeat (first | exact trivial | refine And.intro (by cbv <;> rfl) ?_)) ?_
      refine AnyE.tk wd4_tidy tok 14 41 32767 (by kernel_rfl) (by kernel_rfl) (by cbv <;> rfl) (Eqv.refl _) ?_
      refine AnyE.ef tok hO 15 65535 (by kernel_rfl) (by cbv <;> rfl) (by cbv <;> rfl) (by trivial) (by kernel_rfl) (by repeat (first | exact trivial | refine And.intro (by cbv <;> rfl) ?_)) ?_
      refine AnyE.tk wd4_tidy tok 16 42 131071 (by kernel_rfl) (by kernel_rfl) (by cbv <;> rfl) (Eqv.refl _) ?_
      refine AnyE.ef tok hO 17 262143 (by kernel_rfl) (by cbv <;> rfl) (by cbv <;> rfl) (by trivial) (by kernel_rfl) (by repeat (first | exact trivial | refine And.intro (by cbv <;> rfl) ?_)) ?_
      refine AnyE.done (by kernel_rfl) ?_
      exact wide_fin hWb hLb hCb 5 6 7 rfl rfl rfl rfl rfl rfl rfl rfl rfl rfl rfl rfl
  · refine PickE.ef tok hO 1894 (by cbv <;> rfl) (by cbv <;> rfl) (by trivial) (by kernel_rfl) (by repeat (first | exact trivial | refine And.intro (by cbv <;> rfl) ?_)) ?_
    refine AnyE.many [0, 4] (by kernel_rfl) (by rfl) ⟨?_, ?_, trivial⟩
    · refine PickE.ef tok hO 1895 (by cbv <;> rfl) (by cbv <;> rfl) (by trivial) (by kernel_rfl) (by repeat (first | exact trivial | refine And.intro (by cbv <;> rfl) ?_)) ?_
      refine AnyE.many [3, 4] (by kernel_rfl) (by rfl) ⟨?_, ?_, trivial⟩
      · refine PickE.ap tok 1903 31 (by cbv <;> rfl) (by cbv <;> rfl) (append_emptyG (by kernel_rfl) (by rfl) hnw h0 (fun i k => womC_one d i k) hGW) (by kernel_rfl) rfl (by repeat (first | exact trivial | refine And.intro (by cbv <;> rfl) ?_)) ?_
        refine AnyE.tk wd4_tidy tok 12 40 5999 (by kernel_rfl) (by kernel_rfl) (by cbv <;> rfl) (Eqv.refl _) ?_
        refine AnyE.ef tok hO 4 6015 (by kernel_rfl) (by cbv <;> rfl) (by cbv <;> rfl) (by trivial) (by kernel_rfl) (by repeat (first | exact trivial | refine And.intro (by cbv <;> rfl) ?_)) ?_
        refine AnyE.ap tok 7 6143 35 (by kernel_rfl) (by cbv <;> rfl) (by cbv <;> rfl) (append_emptyG (by kernel_rfl) (by rfl) hnl hl (fun i k => lotC_one d i k) hGL) (by kernel_rfl) rfl (by repeat (first | exact trivial | refine And.intro (by cbv <;> rfl) ?_)) ?_
        refine AnyE.ap tok 11 8191 39 (by kernel_rfl) (by cbv <;> rfl) (by cbv <;> rfl) (append_emptyG (by kernel_rfl) (by rfl) hnc hc (fun i k => cntC_one d i k) hGC) (by kernel_rfl) rfl (by repeat (first | exact trivial | refine And.intro (by cbv <;> rfl) ?_)) ?_
        refine AnyE.ef tok hO 13 16383 (by kernel_rfl) (by cbv <;> rfl) (by cbv <;> rfl) (by trivial) (by kernel_rfl) (by repeat (first | exact trivial | refine And.intro (by cbv <;> rfl) ?_)) ?_
        refine AnyE.tk wd4_tidy tok 14 41 32767 (by kernel_rfl) (by kernel_rfl) (by cbv <;> rfl) (Eqv.refl _) ?_
        refine AnyE.ef tok hO 15 65535 (by kernel_rfl) (by cbv <;> rfl) (by cbv <;> rfl) (by trivial) (by kernel_rfl) (by repeat (first | exact trivial | refine And.intro (by cbv <;> rfl) ?_)) ?_
        refine AnyE.tk wd4_tidy tok 16 42 131071 (by kernel_rfl) (by kernel_rfl) (by cbv <;> rfl) (Eqv.refl _) ?_
        refine AnyE.ef tok hO 17 262143 (by kernel_rfl) (by cbv <;> rfl) (by cbv <;> rfl) (by trivial) (by kernel_rfl) (by repeat (first | exact trivial | refine And.intro (by cbv <;> rfl) ?_)) ?_
        refine AnyE.done (by kernel_rfl) ?_
        exact wide_fin hWb hLb hCb 4 6 7 rfl rfl rfl rfl rfl rfl rfl rfl rfl rfl rfl rfl
      · refine PickE.ef tok hO 1911 (by cbv <;> rfl) (by cbv <;> rfl) (by trivial) (by kernel_rfl) (by repeat (first | exact trivial | refine And.intro (by cbv <;> rfl) ?_)) ?_
        refine AnyE.ap tok 3 1919 31 (by kernel_rfl) (by cbv <;> rfl) (by cbv <;> rfl) (append_emptyG (by kernel_rfl) (by rfl) hnw h0 (fun i k => womC_one d i k) hGW) (by kernel_rfl) rfl (by repeat (first | exact trivial | refine And.intro (by cbv <;> rfl) ?_)) ?_
        refine AnyE.tk wd4_tidy tok 12 40 6015 (by kernel_rfl) (by kernel_rfl) (by cbv <;> rfl) (Eqv.refl _) ?_
        refine AnyE.ap tok 7 6143 35 (by kernel_rfl) (by cbv <;> rfl) (by cbv <;> rfl) (append_emptyG (by kernel_rfl) (by rfl) hnl hl (fun i k => lotC_one d i k) hGL) (by kernel_rfl) rfl (by repeat (first | exact trivial | refine And.intro (by cbv <;> rfl) ?_)) ?_
        refine AnyE.ap tok 11 8191 39 (by kernel_rfl) (by cbv <;> rfl) (by cbv <;> rfl) (append_emptyG (by kernel_rfl) (by rfl) hnc hc (fun i k => cntC_one d i k) hGC) (by kernel_rfl) rfl (by repeat (first | exact trivial | refine And.intro (by cbv <;> rfl) ?_)) ?_
        refine AnyE.ef tok hO 13 16383 (by kernel_rfl) (by cbv <;> rfl) (by cbv <;> rfl) (by trivial) (by kernel_rfl) (by repeat (first | exact trivial | refine And.intro (by cbv <;> rfl) ?_)) ?_
        refine AnyE.tk wd4_tidy tok 14 41 32767 (by kernel_rfl) (by kernel_rfl) (by cbv <;> rfl) (Eqv.refl _) ?_
        refine AnyE.ef tok hO 15 65535 (by kernel_rfl) (by cbv <;> rfl) (by cbv <;> rfl) (by trivial) (by kernel_rfl) (by repeat (first | exact trivial | refine And.intro (by cbv <;> rfl) ?_)) ?_
        refine AnyE.tk wd4_tidy tok 16 42 131071 (by kernel_rfl) (by kernel_rfl) (by cbv <;> rfl) (Eqv.refl _) ?_
        refine AnyE.ef tok hO 17 262143 (by kernel_rfl) (by cbv <;> rfl) (by cbv <;> rfl) (by trivial) (by kernel_rfl) (by repeat (first | exact trivial | refine And.intro (by cbv <;> rfl) ?_)) ?_
        refine AnyE.done (by kernel_rfl) ?_
        exact wide_fin hWb hLb hCb 5 6 7 rfl rfl rfl rfl rfl rfl rfl rfl rfl rfl rfl rfl
    · refine PickE.ef tok hO 1910 (by cbv <;> rfl) (by cbv <;> rfl) (by trivial) (by kernel_rfl) (by repeat (first | exact trivial | refine And.intro (by cbv <;> rfl) ?_)) ?_
      refine AnyE.ef tok hO 0 1911 (by kernel_rfl) (by cbv <;> rfl) (by cbv <;> rfl) (by trivial) (by kernel_rfl) (by repeat (first | exact trivial | refine And.intro (by cbv <;> rfl) ?_)) ?_
      refine AnyE.ap tok 3 1919 31 (by kernel_rfl) (by cbv <;> rfl) (by cbv <;> rfl) (append_emptyG (by kernel_rfl) (by rfl) hnw h0 (fun i k => womC_one d i k) hGW) (by kernel_rfl) rfl (by repeat (first | exact trivial | refine And.intro (by cbv <;> rfl) ?_)) ?_
      refine AnyE.tk wd4_tidy tok 12 40 6015 (by kernel_rfl) (by kernel_rfl) (by cbv <;> rfl) (Eqv.refl _) ?_
      refine AnyE.ap tok 7 6143 35 (by kernel_rfl) (by cbv <;> rfl) (by cbv <;> rfl) (append_emptyG (by kernel_rfl) (by rfl) hnl hl (fun i k => lotC_one d i k) hGL) (by kernel_rfl) rfl (by repeat (first | exact trivial | refine And.intro (by cbv <;> rfl) ?_)) ?_
      refine AnyE.ap tok 11 8191 39 (by kernel_rfl) (by cbv <;> rfl) (by cbv <;> rfl) (append_emptyG (by kernel_rfl) (by rfl) hnc hc (fun i k => cntC_one d i k) hGC) (by kernel_rfl) rfl (by repeat (first | exact trivial | refine And.intro (by cbv <;> rfl) ?_)) ?_
      refine AnyE.ef tok hO 13 16383 (by kernel_rfl) (by cbv <;> rfl) (by cbv <;> rfl) (by trivial) (by kernel_rfl) (by repeat (first | exact trivial | refine And.intro (by cbv <;> rfl) ?_)) ?_
      refine AnyE.tk wd4_tidy tok 14 41 32767 (by kernel_rfl) (by kernel_rfl) (by cbv <;> rfl) (Eqv.refl _) ?_
      refine AnyE.ef tok hO 15 65535 (by kernel_rfl) (by cbv <;> rfl) (by cbv <;> rfl) (by trivial) (by kernel_rfl) (by repeat (first | exact trivial | refine And.intro (by cbv <;> rfl) ?_)) ?_
      refine AnyE.tk wd4_tidy tok 16 42 131071 (by kernel_rfl) (by kernel_rfl) (by cbv <;> rfl) (Eqv.refl _) ?_
      refine AnyE.ef tok hO 17 262143 (by kernel_rfl) (by cbv <;> rfl) (by cbv <;> rfl) (by trivial) (by kernel_rfl) (by repeat (first | exact trivial | refine And.intro (by cbv <;> rfl) ?_)) ?_
      refine AnyE.done (by kernel_rfl) ?_
      exact wide_fin hWb hLb hCb 5 6 7 rfl rfl rfl rfl rfl rfl rfl rfl rfl rfl rfl rfl
end Go.Fz
namespace Go.Fz
open Go.Proofs
set_option maxRecDepth 100000
set_option linter.unusedVariables false
def wz34 (j : Nat) : Bool := Nat.beq j 3 || Nat.beq j 4
def wz24 (j : Nat) : Bool := Nat.beq j 2 || Nat.beq j 4
def wz23 (j : Nat) : Bool := Nat.beq j 2 || Nat.beq j 3
def wz234 (j : Nat) : Bool := Nat.beq j 2 || (Nat.beq j 3 || Nat.beq j 4)
def wz2 (j : Nat) : Bool := Nat.beq j 2
def wz3 (j : Nat) : Bool := Nat.beq j 3
def wz4 (j : Nat) : Bool := Nat.beq j 4
set_option maxHeartbeats 32000000 in
theorem wide_rest (haw : Pure Try.prog 17 [] (.lit (.bool true))) (d : DayD) (gd : d.Good) (hc : d.check = 0) (x0 x1 : Int) (h00 : 0 ≤ x0) (h01 : x0 ≤ 255) (h10 : 0 ≤ x1) (h11 : x1 ≤ 255) (eL : Bool) (GL : List AV) (hGL : GL = flatG 3 (lotC d) d.nl) (heL : 0 < d.nl → eL = false)
    (eC : Bool) (GC : List AV) (hGC : GC = flatG 4 (cntC d) d.nc) (heC : 0 < d.nc → eC = false) (GW : List AV) (hGW : GW = flatG 2 (womC d) d.nw) (g : Nat → AV) (O : Ar) (hO : O = std) (hh : AllP (fun p => g p.1 = p.2) (wiL x0 x1)) :
    SW Try.prog none (restC 4 (bodyF Try.f11)) (retQ T Try.f11 (fun v st' => Eqv (frz st'.h (fun _ => true) 3 v) (.lit (.bool true)))) ⟨⟨223, g⟩, []⟩ (wiS d [(4, .cells none false GC), (3, .cells none false GL), (2, .cells none false GW)] (.sl 2 0 d.nw 2 false) (.sl 3 0 d.nl 3 eL) (.sl 4 0 d.nc 4 eC) 5) := by
  obtain ⟨hp1, hp2⟩ := part_in hO h10 h11
  obtain ⟨lw, hlw⟩ : ∃ lw, O.bin .rem .i64 (O.conv .i64 x1) 3 = lw := ⟨_, rfl⟩
  obtain ⟨hg, hhg⟩ : ∃ hg, O.bin .rem .i64 (O.bin .quo .i64 (O.conv .i64 x1) 4) 3 = hg := ⟨_, rfl⟩
  rw [hlw] at hp1
  rw [hhg] at hp2
  have hpos := gd.pos
  have hnw4 := gd.nw
  have hnl4 := gd.nl
  have hnc5 := gd.nc
  refine SW.seq ((wi_4 x0 x1 lw hg _ g O hO hlw hhg hh).mono fun e f st hm => ?_)
  clear hh
  obtain ⟨rfl, g, rfl, hh, rfl⟩ := hm
  show SW _ _ _ _ _ _
  rcases res3 hO h00 h01 with ⟨r0, r1, r2⟩ | ⟨r0, r1, r2⟩ | ⟨r0, r1, r2⟩
  · skip
    obtain ⟨k, hk, hK⟩ := pick3 hO h00 h01 (show 0 < d.nw by omega)
    obtain ⟨a, ha⟩ : ∃ a, O.mx 1 (O.bin .sub .i64 (d.wlo k) lw) = a := ⟨_, rfl⟩
    obtain ⟨b, hb⟩ : ∃ b, O.mn 60 (O.bin .add .i64 (d.whi k) hg) = b := ⟨_, rfl⟩
    have hgk := gd.wom k hk
    have hla : a ≤ d.wlo k := by rw [← ha]; exact low_in hO hp1 (by omega) (by omega)
    have hub : d.whi k ≤ b := by rw [← hb]; exact high_in hO hp2 (by omega) (by omega)
    obtain ⟨G2, hG2⟩ : ∃ G2, G2 = flatG 2 (womC (d.wW k a b)) d.nw := ⟨_, rfl⟩
    obtain ⟨fL, eqL, vL⟩ := frz_list (H := (wiS d [(4, .cells none false GC), (3, .cells none false GL), (2, .cells none false GW)] (.sl 2 0 d.nw 2 false) (.sl 3 0 d.nl 3 eL) (.sl 4 0 d.nc 4 eC) 5).h) (D := wz34) (id := 3) (sz := 3) (n := d.nl) (ex := eL) (g := lotC d) (G := GL) rfl rfl hGL (lotC_lit _)
    obtain ⟨fC, eqC, vC⟩ := frz_list (H := (wiS d [(4, .cells none false GC), (3, .cells none false GL), (2, .cells none false GW)] (.sl 2 0 d.nw 2 false) (.sl 3 0 d.nl 3 eL) (.sl 4 0 d.nc 4 eC) 5).h) (D := wz34) (id := 4) (sz := 4) (n := d.nc) (ex := eC) (g := cntC d) (G := GC) rfl rfl hGC (cntC_lit _)
    refine SW.frzB wz34 (l := wiM x0 lw hg) (S2 := (wiS d [(2, .cells none false GW)] (.sl 2 0 d.nw 2 false) (.isl d.nl 3 eL fL) (.isl d.nc 4 eC fC) 5)) (by rfl) ?_ ⟨rfl, rfl, rfl, rfl, rfl, trivial⟩ hh (fun g hh => ?_)
    · show wiS d [(2, .cells none false (GW.map (frz (wiS d [(4, .cells none false GC), (3, .cells none false GL), (2, .cells none false GW)] (.sl 2 0 d.nw 2 false) (.sl 3 0 d.nl 3 eL) (.sl 4 0 d.nc 4 eC) 5).h wz34 3)))] (.sl 2 0 d.nw 2 false) (frz (wiS d [(4, .cells none false GC), (3, .cells none false GL), (2, .cells none false GW)] (.sl 2 0 d.nw 2 false) (.sl 3 0 d.nl 3 eL) (.sl 4 0 d.nc 4 eC) 5).h wz34 3 (.sl 3 0 d.nl 3 eL)) (frz (wiS d [(4, .cells none false GC), (3, .cells none false GL), (2, .cells none false GW)] (.sl 2 0 d.nw 2 false) (.sl 3 0 d.nl 3 eL) (.sl 4 0 d.nc 4 eC) 5).h wz34 3 (.sl 4 0 d.nc 4 eC)) 5 = _
      rw [frz_map hGW (womC_lit _), eqL, eqC]
    clear eqL eqC
    refine SW.seq ((wi_5w d x0 lw hg _ _ k hk (by omega) a b GW G2 hGW hG2 g O hO r0 hK ha hb hh).mono fun e f st hm => ?_)
    clear hh
    obtain ⟨rfl, g, rfl, hh, rfl⟩ := hm
    show SW _ _ _ _ _ _
    obtain ⟨fW, eqW, vW⟩ := frz_list (H := (wiS d [(2, .cells none false G2)] (.sl 2 0 d.nw 2 false) (.isl d.nl 3 eL fL) (.isl d.nc 4 eC fC) 5).h) (D := wz2) (id := 2) (sz := 2) (n := d.nw) (ex := false) (g := womC (d.wW k a b)) (G := G2) rfl rfl hG2 (womC_lit _)
    refine SW.frzB wz2 (l := wiM x0 lw hg) (S2 := (wiS d [] (.isl d.nw 2 false fW) (.isl d.nl 3 eL fL) (.isl d.nc 4 eC fC) 5)) (by rfl) ?_ ⟨rfl, rfl, rfl, rfl, rfl, trivial⟩ hh (fun g hh => ?_)
    · show wiS d [] (frz (wiS d [(2, .cells none false G2)] (.sl 2 0 d.nw 2 false) (.isl d.nl 3 eL fL) (.isl d.nc 4 eC fC) 5).h wz2 3 (.sl 2 0 d.nw 2 false)) (.isl d.nl 3 eL fL) (.isl d.nc 4 eC fC) 5 = _
      rw [eqW]
    clear eqW
    refine SW.seq ((wi_6s d x0 lw hg _ _ _ _ _ _ g O hO (.inl r1) hh).mono fun e f st hm => ?_)
    clear hh
    obtain ⟨rfl, g, rfl, hh, rfl⟩ := hm
    show SW _ _ _ _ _ _
    refine SW.seq ((wi_7s d x0 lw hg _ _ _ _ _ _ g O hO (.inl r2) hh).mono fun e f st hm => ?_)
    clear hh
    obtain ⟨rfl, g, rfl, hh, rfl⟩ := hm
    show SW _ _ _ _ _ _
    exact wide_tail haw d (d.wW k a b) (wider_W hla hub) gd hc _ _ _ _ _ _ _ _ _ _ _ _ (.cons (Eqv.agg (.cons (Eqv.refl _) (.cons (Eqv.refl _) (.cons vW (.cons vL (.cons vC .nil)))))) .nil) g O hO ⟨hh.2.1, hh.2.2.1, trivial⟩
  · by_cases hz : d.nl = 0
    · skip
      obtain ⟨fW, eqW, vW⟩ := frz_list (H := (wiS d [(4, .cells none false GC), (3, .cells none false GL), (2, .cells none false GW)] (.sl 2 0 d.nw 2 false) (.sl 3 0 d.nl 3 eL) (.sl 4 0 d.nc 4 eC) 5).h) (D := wz234) (id := 2) (sz := 2) (n := d.nw) (ex := false) (g := womC d) (G := GW) rfl rfl hGW (womC_lit _)
      obtain ⟨fL, eqL, vL⟩ := frz_list (H := (wiS d [(4, .cells none false GC), (3, .cells none false GL), (2, .cells none false GW)] (.sl 2 0 d.nw 2 false) (.sl 3 0 d.nl 3 eL) (.sl 4 0 d.nc 4 eC) 5).h) (D := wz234) (id := 3) (sz := 3) (n := d.nl) (ex := eL) (g := lotC d) (G := GL) rfl rfl hGL (lotC_lit _)
      obtain ⟨fC, eqC, vC⟩ := frz_list (H := (wiS d [(4, .cells none false GC), (3, .cells none false GL), (2, .cells none false GW)] (.sl 2 0 d.nw 2 false) (.sl 3 0 d.nl 3 eL) (.sl 4 0 d.nc 4 eC) 5).h) (D := wz234) (id := 4) (sz := 4) (n := d.nc) (ex := eC) (g := cntC d) (G := GC) rfl rfl hGC (cntC_lit _)
      refine SW.frzB wz234 (l := wiM x0 lw hg) (S2 := (wiS d [] (.isl d.nw 2 false fW) (.isl d.nl 3 eL fL) (.isl d.nc 4 eC fC) 5)) (by rfl) ?_ ⟨rfl, rfl, rfl, rfl, rfl, trivial⟩ hh (fun g hh => ?_)
      · show wiS d [] (frz (wiS d [(4, .cells none false GC), (3, .cells none false GL), (2, .cells none false GW)] (.sl 2 0 d.nw 2 false) (.sl 3 0 d.nl 3 eL) (.sl 4 0 d.nc 4 eC) 5).h wz234 3 (.sl 2 0 d.nw 2 false)) (frz (wiS d [(4, .cells none false GC), (3, .cells none false GL), (2, .cells none false GW)] (.sl 2 0 d.nw 2 false) (.sl 3 0 d.nl 3 eL) (.sl 4 0 d.nc 4 eC) 5).h wz234 3 (.sl 3 0 d.nl 3 eL)) (frz (wiS d [(4, .cells none false GC), (3, .cells none false GL), (2, .cells none false GW)] (.sl 2 0 d.nw 2 false) (.sl 3 0 d.nl 3 eL) (.sl 4 0 d.nc 4 eC) 5).h wz234 3 (.sl 4 0 d.nc 4 eC)) 5 = _
        rw [eqW, eqL, eqC]
      clear eqW eqL eqC
      refine SW.seq ((wi_5s x0 lw hg _ g O hO r0 hh).mono fun e f st hm => ?_)
      clear hh
      obtain ⟨rfl, g, rfl, hh, rfl⟩ := hm
      show SW _ _ _ _ _ _
      refine SW.seq ((wi_6s d x0 lw hg _ _ _ _ _ _ g O hO (.inr hz) hh).mono fun e f st hm => ?_)
      clear hh
      obtain ⟨rfl, g, rfl, hh, rfl⟩ := hm
      show SW _ _ _ _ _ _
      refine SW.seq ((wi_7s d x0 lw hg _ _ _ _ _ _ g O hO (.inl r2) hh).mono fun e f st hm => ?_)
      clear hh
      obtain ⟨rfl, g, rfl, hh, rfl⟩ := hm
      show SW _ _ _ _ _ _
      exact wide_tail haw d d (wider_N d) gd hc _ _ _ _ _ _ _ _ _ _ _ _ (.cons (Eqv.agg (.cons (Eqv.refl _) (.cons (Eqv.refl _) (.cons vW (.cons vL (.cons vC .nil)))))) .nil) g O hO ⟨hh.2.1, hh.2.2.1, trivial⟩
    · obtain rfl := heL (by omega)
      obtain ⟨k, hk, hK⟩ := pick3 hO h00 h01 (show 0 < d.nl by omega)
      obtain ⟨a, ha⟩ : ∃ a, O.mx 0 (O.bin .sub .i64 (d.llo k) lw) = a := ⟨_, rfl⟩
      obtain ⟨b, hb⟩ : ∃ b, O.mn 5000 (O.bin .add .i64 (d.lhi k) hg) = b := ⟨_, rfl⟩
      have hgk := (gd.lot k hk).2
      have hla : a ≤ d.llo k := by rw [← ha]; exact low_in hO hp1 (by omega) (by omega)
      have hub : d.lhi k ≤ b := by rw [← hb]; exact high_in hO hp2 (by omega) (by omega)
      obtain ⟨G2, hG2⟩ : ∃ G2, G2 = flatG 3 (lotC (d.wL k a b)) d.nl := ⟨_, rfl⟩
      obtain ⟨fW, eqW, vW⟩ := frz_list (H := (wiS d [(4, .cells none false GC), (3, .cells none false GL), (2, .cells none false GW)] (.sl 2 0 d.nw 2 false) (.sl 3 0 d.nl 3 false) (.sl 4 0 d.nc 4 eC) 5).h) (D := wz24) (id := 2) (sz := 2) (n := d.nw) (ex := false) (g := womC d) (G := GW) rfl rfl hGW (womC_lit _)
      obtain ⟨fC, eqC, vC⟩ := frz_list (H := (wiS d [(4, .cells none false GC), (3, .cells none false GL), (2, .cells none false GW)] (.sl 2 0 d.nw 2 false) (.sl 3 0 d.nl 3 false) (.sl 4 0 d.nc 4 eC) 5).h) (D := wz24) (id := 4) (sz := 4) (n := d.nc) (ex := eC) (g := cntC d) (G := GC) rfl rfl hGC (cntC_lit _)
      refine SW.frzB wz24 (l := wiM x0 lw hg) (S2 := (wiS d [(3, .cells none false GL)] (.isl d.nw 2 false fW) (.sl 3 0 d.nl 3 false) (.isl d.nc 4 eC fC) 5)) (by rfl) ?_ ⟨rfl, rfl, rfl, rfl, rfl, trivial⟩ hh (fun g hh => ?_)
      · show wiS d [(3, .cells none false (GL.map (frz (wiS d [(4, .cells none false GC), (3, .cells none false GL), (2, .cells none false GW)] (.sl 2 0 d.nw 2 false) (.sl 3 0 d.nl 3 false) (.sl 4 0 d.nc 4 eC) 5).h wz24 3)))] (frz (wiS d [(4, .cells none false GC), (3, .cells none false GL), (2, .cells none false GW)] (.sl 2 0 d.nw 2 false) (.sl 3 0 d.nl 3 false) (.sl 4 0 d.nc 4 eC) 5).h wz24 3 (.sl 2 0 d.nw 2 false)) (.sl 3 0 d.nl 3 false) (frz (wiS d [(4, .cells none false GC), (3, .cells none false GL), (2, .cells none false GW)] (.sl 2 0 d.nw 2 false) (.sl 3 0 d.nl 3 false) (.sl 4 0 d.nc 4 eC) 5).h wz24 3 (.sl 4 0 d.nc 4 eC)) 5 = _
        rw [frz_map hGL (lotC_lit _), eqW, eqC]
      clear eqW eqC
      refine SW.seq ((wi_5s x0 lw hg _ g O hO r0 hh).mono fun e f st hm => ?_)
      clear hh
      obtain ⟨rfl, g, rfl, hh, rfl⟩ := hm
      show SW _ _ _ _ _ _
      refine SW.seq ((wi_6l d x0 lw hg _ _ k hk (by omega) a b GL G2 hGL hG2 g O hO r1 hK ha hb hh).mono fun e f st hm => ?_)
      clear hh
      obtain ⟨rfl, g, rfl, hh, rfl⟩ := hm
      show SW _ _ _ _ _ _
      obtain ⟨fL, eqL, vL⟩ := frz_list (H := (wiS d [(3, .cells none false G2)] (.isl d.nw 2 false fW) (.sl 3 0 d.nl 3 false) (.isl d.nc 4 eC fC) 5).h) (D := wz3) (id := 3) (sz := 3) (n := d.nl) (ex := false) (g := lotC (d.wL k a b)) (G := G2) rfl rfl hG2 (lotC_lit _)
      refine SW.frzB wz3 (l := wiM x0 lw hg) (S2 := (wiS d [] (.isl d.nw 2 false fW) (.isl d.nl 3 false fL) (.isl d.nc 4 eC fC) 5)) (by rfl) ?_ ⟨rfl, rfl, rfl, rfl, rfl, trivial⟩ hh (fun g hh => ?_)
      · show wiS d [] (.isl d.nw 2 false fW) (frz (wiS d [(3, .cells none false G2)] (.isl d.nw 2 false fW) (.sl 3 0 d.nl 3 false) (.isl d.nc 4 eC fC) 5).h wz3 3 (.sl 3 0 d.nl 3 false)) (.isl d.nc 4 eC fC) 5 = _
        rw [eqL]
      clear eqL
      refine SW.seq ((wi_7s d x0 lw hg _ _ _ _ _ _ g O hO (.inl r2) hh).mono fun e f st hm => ?_)
      clear hh
      obtain ⟨rfl, g, rfl, hh, rfl⟩ := hm
      show SW _ _ _ _ _ _
      exact wide_tail haw d (d.wL k a b) (wider_L hla hub) gd hc _ _ _ _ _ _ _ _ _ _ _ _ (.cons (Eqv.agg (.cons (Eqv.refl _) (.cons (Eqv.refl _) (.cons vW (.cons vL (.cons vC .nil)))))) .nil) g O hO ⟨hh.2.1, hh.2.2.1, trivial⟩
  · by_cases hz : d.nc = 0
    · skip
      obtain ⟨fW, eqW, vW⟩ := frz_list (H := (wiS d [(4, .cells none false GC), (3, .cells none false GL), (2, .cells none false GW)] (.sl 2 0 d.nw 2 false) (.sl 3 0 d.nl 3 eL) (.sl 4 0 d.nc 4 eC) 5).h) (D := wz234) (id := 2) (sz := 2) (n := d.nw) (ex := false) (g := womC d) (G := GW) rfl rfl hGW (womC_lit _)
      obtain ⟨fL, eqL, vL⟩ := frz_list (H := (wiS d [(4, .cells none false GC), (3, .cells none false GL), (2, .cells none false GW)] (.sl 2 0 d.nw 2 false) (.sl 3 0 d.nl 3 eL) (.sl 4 0 d.nc 4 eC) 5).h) (D := wz234) (id := 3) (sz := 3) (n := d.nl) (ex := eL) (g := lotC d) (G := GL) rfl rfl hGL (lotC_lit _)
      obtain ⟨fC, eqC, vC⟩ := frz_list (H := (wiS d [(4, .cells none false GC), (3, .cells none false GL), (2, .cells none false GW)] (.sl 2 0 d.nw 2 false) (.sl 3 0 d.nl 3 eL) (.sl 4 0 d.nc 4 eC) 5).h) (D := wz234) (id := 4) (sz := 4) (n := d.nc) (ex := eC) (g := cntC d) (G := GC) rfl rfl hGC (cntC_lit _)
      refine SW.frzB wz234 (l := wiM x0 lw hg) (S2 := (wiS d [] (.isl d.nw 2 false fW) (.isl d.nl 3 eL fL) (.isl d.nc 4 eC fC) 5)) (by rfl) ?_ ⟨rfl, rfl, rfl, rfl, rfl, trivial⟩ hh (fun g hh => ?_)
      · show wiS d [] (frz (wiS d [(4, .cells none false GC), (3, .cells none false GL), (2, .cells none false GW)] (.sl 2 0 d.nw 2 false) (.sl 3 0 d.nl 3 eL) (.sl 4 0 d.nc 4 eC) 5).h wz234 3 (.sl 2 0 d.nw 2 false)) (frz (wiS d [(4, .cells none false GC), (3, .cells none false GL), (2, .cells none false GW)] (.sl 2 0 d.nw 2 false) (.sl 3 0 d.nl 3 eL) (.sl 4 0 d.nc 4 eC) 5).h wz234 3 (.sl 3 0 d.nl 3 eL)) (frz (wiS d [(4, .cells none false GC), (3, .cells none false GL), (2, .cells none false GW)] (.sl 2 0 d.nw 2 false) (.sl 3 0 d.nl 3 eL) (.sl 4 0 d.nc 4 eC) 5).h wz234 3 (.sl 4 0 d.nc 4 eC)) 5 = _
        rw [eqW, eqL, eqC]
      clear eqW eqL eqC
      refine SW.seq ((wi_5s x0 lw hg _ g O hO r0 hh).mono fun e f st hm => ?_)
      clear hh
      obtain ⟨rfl, g, rfl, hh, rfl⟩ := hm
      show SW _ _ _ _ _ _
      refine SW.seq ((wi_6s d x0 lw hg _ _ _ _ _ _ g O hO (.inl r1) hh).mono fun e f st hm => ?_)
      clear hh
      obtain ⟨rfl, g, rfl, hh, rfl⟩ := hm
      show SW _ _ _ _ _ _
      refine SW.seq ((wi_7s d x0 lw hg _ _ _ _ _ _ g O hO (.inr hz) hh).mono fun e f st hm => ?_)
      clear hh
      obtain ⟨rfl, g, rfl, hh, rfl⟩ := hm
      show SW _ _ _ _ _ _
      exact wide_tail haw d d (wider_N d) gd hc _ _ _ _ _ _ _ _ _ _ _ _ (.cons (Eqv.agg (.cons (Eqv.refl _) (.cons (Eqv.refl _) (.cons vW (.cons vL (.cons vC .nil)))))) .nil) g O hO ⟨hh.2.1, hh.2.2.1, trivial⟩
    · obtain rfl := heC (by omega)
      obtain ⟨k, hk, hK⟩ := pick3 hO h00 h01 (show 0 < d.nc by omega)
      obtain ⟨a, ha⟩ : ∃ a, O.mx 0 (O.bin .sub .i64 (d.clo k) lw) = a := ⟨_, rfl⟩
      obtain ⟨b, hb⟩ : ∃ b, O.mn 20000 (O.bin .add .i64 (d.chi k) hg) = b := ⟨_, rfl⟩
      have hgk := (gd.cnt k hk).2.2.2
      have hla : a ≤ d.clo k := by rw [← ha]; exact low_in hO hp1 (by omega) (by omega)
      have hub : d.chi k ≤ b := by rw [← hb]; exact high_in hO hp2 (by omega) (by omega)
      obtain ⟨G2, hG2⟩ : ∃ G2, G2 = flatG 4 (cntC (d.wC k a b)) d.nc := ⟨_, rfl⟩
      obtain ⟨fW, eqW, vW⟩ := frz_list (H := (wiS d [(4, .cells none false GC), (3, .cells none false GL), (2, .cells none false GW)] (.sl 2 0 d.nw 2 false) (.sl 3 0 d.nl 3 eL) (.sl 4 0 d.nc 4 false) 5).h) (D := wz23) (id := 2) (sz := 2) (n := d.nw) (ex := false) (g := womC d) (G := GW) rfl rfl hGW (womC_lit _)
      obtain ⟨fL, eqL, vL⟩ := frz_list (H := (wiS d [(4, .cells none false GC), (3, .cells none false GL), (2, .cells none false GW)] (.sl 2 0 d.nw 2 false) (.sl 3 0 d.nl 3 eL) (.sl 4 0 d.nc 4 false) 5).h) (D := wz23) (id := 3) (sz := 3) (n := d.nl) (ex := eL) (g := lotC d) (G := GL) rfl rfl hGL (lotC_lit _)
      refine SW.frzB wz23 (l := wiM x0 lw hg) (S2 := (wiS d [(4, .cells none false GC)] (.isl d.nw 2 false fW) (.isl d.nl 3 eL fL) (.sl 4 0 d.nc 4 false) 5)) (by rfl) ?_ ⟨rfl, rfl, rfl, rfl, rfl, trivial⟩ hh (fun g hh => ?_)
      · show wiS d [(4, .cells none false (GC.map (frz (wiS d [(4, .cells none false GC), (3, .cells none false GL), (2, .cells none false GW)] (.sl 2 0 d.nw 2 false) (.sl 3 0 d.nl 3 eL) (.sl 4 0 d.nc 4 false) 5).h wz23 3)))] (frz (wiS d [(4, .cells none false GC), (3, .cells none false GL), (2, .cells none false GW)] (.sl 2 0 d.nw 2 false) (.sl 3 0 d.nl 3 eL) (.sl 4 0 d.nc 4 false) 5).h wz23 3 (.sl 2 0 d.nw 2 false)) (frz (wiS d [(4, .cells none false GC), (3, .cells none false GL), (2, .cells none false GW)] (.sl 2 0 d.nw 2 false) (.sl 3 0 d.nl 3 eL) (.sl 4 0 d.nc 4 false) 5).h wz23 3 (.sl 3 0 d.nl 3 eL)) (.sl 4 0 d.nc 4 false) 5 = _
        rw [frz_map hGC (cntC_lit _), eqW, eqL]
      clear eqW eqL
      refine SW.seq ((wi_5s x0 lw hg _ g O hO r0 hh).mono fun e f st hm => ?_)
      clear hh
      obtain ⟨rfl, g, rfl, hh, rfl⟩ := hm
      show SW _ _ _ _ _ _
      refine SW.seq ((wi_6c d x0 lw hg _ _ GC _ _ _ _ g O hO (.inl r1) hh).mono fun e f st hm => ?_)
      clear hh
      obtain ⟨rfl, g, rfl, hh, rfl⟩ := hm
      show SW _ _ _ _ _ _
      refine SW.seq ((wi_7c d x0 lw hg _ _ k hk (by omega) a b GC G2 hGC hG2 g O hO r2 hK ha hb hh).mono fun e f st hm => ?_)
      clear hh
      obtain ⟨rfl, g, rfl, hh, rfl⟩ := hm
      show SW _ _ _ _ _ _
      obtain ⟨fC, eqC, vC⟩ := frz_list (H := (wiS d [(4, .cells none false G2)] (.isl d.nw 2 false fW) (.isl d.nl 3 eL fL) (.sl 4 0 d.nc 4 false) 5).h) (D := wz4) (id := 4) (sz := 4) (n := d.nc) (ex := false) (g := cntC (d.wC k a b)) (G := G2) rfl rfl hG2 (cntC_lit _)
      refine SW.frzB wz4 (l := wiM x0 lw hg) (S2 := (wiS d [] (.isl d.nw 2 false fW) (.isl d.nl 3 eL fL) (.isl d.nc 4 false fC) 5)) (by rfl) ?_ ⟨rfl, rfl, rfl, rfl, rfl, trivial⟩ hh (fun g hh => ?_)
      · show wiS d [] (.isl d.nw 2 false fW) (.isl d.nl 3 eL fL) (frz (wiS d [(4, .cells none false G2)] (.isl d.nw 2 false fW) (.isl d.nl 3 eL fL) (.sl 4 0 d.nc 4 false) 5).h wz4 3 (.sl 4 0 d.nc 4 false)) 5 = _
        rw [eqC]
      clear eqC
      exact wide_tail haw d (d.wC k a b) (wider_C hla hub) gd hc _ _ _ _ _ _ _ _ _ _ _ _ (.cons (Eqv.agg (.cons (Eqv.refl _) (.cons (Eqv.refl _) (.cons vW (.cons vL (.cons vC .nil)))))) .nil) g O hO ⟨hh.2.1, hh.2.2.1, trivial⟩
set_option maxHeartbeats 32000000 in
theorem bunchWider_ok (haw : Pure Try.prog 17 [] (.lit (.bool true))) (d : DayD) (x0 x1 : Int) (h00 : 0 ≤ x0) (h01 : x0 ≤ 255) (h10 : 0 ≤ x1) (h11 : x1 ≤ 255) : Pure Try.prog 11 [dayV d, .lit (.int .u8 x0), .lit (.int .u8 x1)] (.lit (.bool true)) := by
  obtain ⟨O, hO⟩ : ∃ O : Ar, O = std := ⟨_, rfl⟩
  refine pure_of_body tok 3 Try.func11 en11 rfl ⟨dayV_below d, Below.lit, Below.lit, trivial⟩ Below.lit ?_
  refine SW.seqRun tok hO (by cbv <;> rfl) (by trivial) ?_
  have call := ready_ok d
  generalize hR : d.readyB = r at call
  refine SW.seq ?_
  refine SW.seqRun tok hO (by cbv <;> rfl) (by trivial) ?_
  refine OpsW.callP call (by cbv <;> rfl) ?_
  have hnot : O.not r = !r := by subst hO; rfl
  refine OpsW.run tok hO (by cbv <;> rfl) (by trivial) ?_
  refine SW.condS (by cbv <;> rfl) (fun h1 => ?_) (fun h1 => SW.skip ?_)
  · refine SW.seqRun tok hO (by cbv <;> rfl) (by trivial) ?_
    refine OpsW.callP haw (by cbv <;> rfl) ?_
    refine OpsW.run tok hO (by cbv <;> rfl) (by trivial) ?_
    exact SW.ret ⟨_, _, rfl, rfl, Eqv.refl _⟩
  have hr : r = true := by have := hnot.symm.trans h1; simpa using this
  rw [hr] at hR
  obtain ⟨gd, _⟩ := ready_good hR
  have hc : d.check = 0 := (check_eq d).trans (by simp only [DayD.readyB, Bool.and_eq_true, decide_eq_true_eq] at hR; exact hR.2)
  refine SW.seqRun tok hO (by cbv <;> rfl) (by trivial) ?_
  obtain ⟨GW, hGW⟩ : ∃ G, G = flatG 2 (womC d) d.nw := ⟨_, rfl⟩
  have hnw : d.nw < 1048576 := Nat.lt_of_le_of_lt gd.nw (by decide)
  have hnl : d.nl < 1048576 := Nat.lt_of_le_of_lt gd.nl (by decide)
  have hnc : d.nc < 1048576 := Nat.lt_of_le_of_lt gd.nc (by decide)
  rcases Nat.eq_zero_or_pos d.nl with hl | hl
  · rcases Nat.eq_zero_or_pos d.nc with hz | hz
    · refine SW.seq ((wide_4zz d x0 x1 GW hGW gd.pos hnw hl hz _ O hO ⟨rfl, rfl, rfl, rfl, trivial⟩).mono fun e f st hm => ?_)
      obtain ⟨rfl, g, rfl, hh, rfl⟩ := hm
      show SW _ _ _ _ _ _
      have hfin := wide_rest haw d gd hc x0 x1 h00 h01 h10 h11 true [] (by rw [hl]; rfl) (fun h => by omega) true [] (by rw [hz]; rfl) (fun h => by omega) GW hGW g O hO hh
      rw [hl, hz] at hfin
      exact hfin
    · obtain ⟨GC, hGC⟩ : ∃ G, G = flatG 4 (cntC d) d.nc := ⟨_, rfl⟩
      refine SW.seq ((wide_4zn d x0 x1 GW hGW gd.pos hnw hl GC hGC hz hnc _ O hO ⟨rfl, rfl, rfl, rfl, trivial⟩).mono fun e f st hm => ?_)
      obtain ⟨rfl, g, rfl, hh, rfl⟩ := hm
      show SW _ _ _ _ _ _
      have hfin := wide_rest haw d gd hc x0 x1 h00 h01 h10 h11 true [] (by rw [hl]; rfl) (fun h => by omega) false GC hGC (fun _ => rfl) GW hGW g O hO hh
      rw [hl] at hfin
      exact hfin
  · rcases Nat.eq_zero_or_pos d.nc with hz | hz
    · obtain ⟨GL, hGL⟩ : ∃ G, G = flatG 3 (lotC d) d.nl := ⟨_, rfl⟩
      refine SW.seq ((wide_4nz d x0 x1 GW hGW gd.pos hnw GL hGL hl hnl hz _ O hO ⟨rfl, rfl, rfl, rfl, trivial⟩).mono fun e f st hm => ?_)
      obtain ⟨rfl, g, rfl, hh, rfl⟩ := hm
      show SW _ _ _ _ _ _
      have hfin := wide_rest haw d gd hc x0 x1 h00 h01 h10 h11 false GL hGL (fun _ => rfl) true [] (by rw [hz]; rfl) (fun h => by omega) GW hGW g O hO hh
      rw [hz] at hfin
      exact hfin
    · obtain ⟨GL, hGL⟩ : ∃ G, G = flatG 3 (lotC d) d.nl := ⟨_, rfl⟩
      obtain ⟨GC, hGC⟩ : ∃ G, G = flatG 4 (cntC d) d.nc := ⟨_, rfl⟩
      refine SW.seq ((wide_4nn d x0 x1 GW hGW gd.pos hnw GL hGL hl hnl GC hGC hz hnc _ O hO ⟨rfl, rfl, rfl, rfl, trivial⟩).mono fun e f st hm => ?_)
      obtain ⟨rfl, g, rfl, hh, rfl⟩ := hm
      show SW _ _ _ _ _ _
      have hfin := wide_rest haw d gd hc x0 x1 h00 h01 h10 h11 false GL hGL (fun _ => rfl) false GC hGC (fun _ => rfl) GW hGW g O hO hh
      exact hfin
end Go.Fz
