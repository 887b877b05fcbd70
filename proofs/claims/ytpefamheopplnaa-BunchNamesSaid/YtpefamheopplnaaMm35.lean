/- Own work of the verifier of watercress: FzNm8. -/
import Derived.Test.YtpefamheopplnaaMm31
import Derived.Test.YtpefamheopplnaaMm34
set_option linter.unusedVariables false
set_option linter.unusedSimpArgs false
namespace Go.Fz
open Go.Proofs
set_option maxRecDepth 100000
set_option linter.unusedVariables false
set_option maxHeartbeats 32000000 in
theorem bunchNames_ok (haw : Pure Try.prog 17 [] (.lit (.bool true))) : Pure Try.prog 7 [] (.lit (.bool true)) := by
  obtain ⟨O, hO⟩ : ∃ O : Ar, O = std := ⟨_, rfl⟩
  obtain ⟨X, a, b, c, d, hbo⟩ := nm_bounds
  refine pure_of_body tok 3 Try.func7 en7 rfl trivial Below.lit ?_
  refine SW.seqRun tok hO (by cbv <;> rfl) (by trivial) ?_
  refine SW.seq ((nm_1 _ O hO X a b c d hbo trivial).mono fun e f st hm => ?_)
  obtain ⟨rfl, g, rfl, h, rfl⟩ := hm
  refine SW.seq ((nm_2 _ O hO X a b c d h).mono fun e f st hm => ?_)
  clear h; obtain ⟨rfl, g, rfl, h, rfl⟩ := hm
  refine SW.seq ((nm_3 _ O hO X a b c d h).mono fun e f st hm => ?_)
  clear h; obtain ⟨rfl, g, rfl, h, rfl⟩ := hm
  refine SW.seq ((nm_4 _ O hO X a b c d h).mono fun e f st hm => ?_)
  clear h; obtain ⟨rfl, g, rfl, h, rfl⟩ := hm
  refine SW.seq ((nm_5 _ O hO X a b c d h).mono fun e f st hm => ?_)
  clear h; obtain ⟨rfl, g, rfl, h, rfl⟩ := hm
  refine SW.seq ((nm_6 _ O hO h).mono fun e f st hm => ?_)
  clear h; obtain ⟨rfl, g, rfl, h, rfl⟩ := hm
  refine SW.seq ((nm_7 _ O hO h).mono fun e f st hm => ?_)
  clear h; obtain ⟨rfl, g, rfl, h, rfl⟩ := hm
  refine SW.seq ((nm_8 _ O hO h).mono fun e f st hm => ?_)
  clear h; obtain ⟨rfl, g, rfl, h, rfl⟩ := hm
  refine SW.seq ((nm_9 _ O hO h).mono fun e f st hm => ?_)
  clear h; obtain ⟨rfl, g, rfl, h, rfl⟩ := hm
  refine SW.seq ((nm_10 _ O hO h).mono fun e f st hm => ?_)
  clear h; obtain ⟨rfl, g, rfl, h, rfl⟩ := hm
  refine SW.seq ((nm_11 _ O hO h).mono fun e f st hm => ?_)
  clear h; obtain ⟨rfl, g, rfl, h, rfl⟩ := hm
  refine SW.seq ((nm_12 _ O hO h).mono fun e f st hm => ?_)
  clear h; obtain ⟨rfl, g, rfl, h, rfl⟩ := hm
  refine SW.seq ((nm_13 _ O hO h).mono fun e f st hm => ?_)
  clear h; obtain ⟨rfl, g, rfl, h, rfl⟩ := hm
  refine SW.seq ((nm_14 _ O hO h).mono fun e f st hm => ?_)
  clear h; obtain ⟨rfl, g, rfl, h, rfl⟩ := hm
  refine SW.seq ((nm_15 _ O hO h).mono fun e f st hm => ?_)
  clear h; obtain ⟨rfl, g, rfl, h, rfl⟩ := hm
  refine SW.seq ((nm_16 _ O hO h).mono fun e f st hm => ?_)
  clear h; obtain ⟨rfl, g, rfl, h, rfl⟩ := hm
  refine SW.seq ((nm_17 _ O hO h).mono fun e f st hm => ?_)
  clear h; obtain ⟨rfl, g, rfl, h, rfl⟩ := hm
  refine SW.seq ((nm_18 _ O hO h).mono fun e f st hm => ?_)
  clear h; obtain ⟨rfl, g, rfl, h, rfl⟩ := hm
  refine SW.seq ((nm_19 _ O hO h).mono fun e f st hm => ?_)
  clear h; obtain ⟨rfl, g, rfl, h, rfl⟩ := hm
  refine SW.seq ((nm_20 _ O hO h).mono fun e f st hm => ?_)
  clear h; obtain ⟨rfl, g, rfl, h, rfl⟩ := hm
  refine SW.seq ((nm_21 _ O hO h).mono fun e f st hm => ?_)
  clear h; obtain ⟨rfl, g, rfl, h, rfl⟩ := hm
  refine SW.seq ((nm_22 _ O hO h).mono fun e f st hm => ?_)
  clear h; obtain ⟨rfl, g, rfl, h, rfl⟩ := hm
  refine SW.seq ((nm_23 _ O hO h).mono fun e f st hm => ?_)
  clear h; obtain ⟨rfl, g, rfl, h, rfl⟩ := hm
  exact (nm_24 _ O hO haw h).mono fun e f st hm => by obtain ⟨rfl, h3, h2⟩ := hm; exact ⟨_, _, by rw [h3]; rfl, rfl, by show Eqv (frz _ _ 3 (f.ts.get 0)) _; rw [h2]; exact Eqv.of rfl⟩
end Go.Fz
