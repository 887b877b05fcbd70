/- Own work of the verifier of watercress: FzD6. -/
import Derived.Test.YtpaifaemkoblcaaNa38
set_option linter.unusedVariables false
set_option linter.unusedSimpArgs false
set_option linter.unusedVariables false
namespace Go.Fz
open Go.Proofs
set_option maxRecDepth 100000
noncomputable def aw9P : {a : Array Oper // rgC 9 (bodyF Try.f19) = .region 9 a true} := ⟨_, by rfl⟩
noncomputable def aw9 : Array Oper := aw9P.1
def awM : List Nat := [0, 1, 3, 7, 15, 31, 63, 127, 255, 511, 1023, 255, 4095, 8191, 16383, 32767, 65535, 131071, 32767, 524287, 1048575, 2097151, 4194303, 8388607, 16777215, 33554431, 67108863, 134217727, 268435455, 536870911, 1073741823, 2147483647, 4294967295, 8589934591, 17179869183, 34359738367, 68719476735, 137438953471, 274877906943, 274877906943, 1099511627775, 2199023255551, 4398046511103, 8796093022207, 17592186044415, 35184372088831, 70368744177663, 140737488355327, 281474976710655, 562949953421311, 1125899906842623, 2251799813685247, 4503599627370495, 9007199254740991, 18014398509481983, 4503599627370495, 40532396646334463, 112589990684262399, 256705178760118271, 576460752303423487, 1152921504606846975, 2305843009213693951, 4611686018427387903, 9223372036854775807, 18446744073709551615, 36893488147419103231, 73786976294838206463, 73786976294838206463, 295147905179352825855, 590295810358705651711, 1180591620717411303423, 2361183241434822606847, 4722366482869645213695, 9444732965739290427391, 18889465931478580854783, 37778931862957161709567, 37778931862957161709567, 151115727451828646838271, 302231454903657293676543, 604462909807314587353087, 1208925819614629174706175, 2417851639229258349412351, 4835703278458516698824703, 9671406556917033397649407, 19342813113834066795298815, 38685626227668133590597631, 77371252455336267181195263, 154742504910672534362390527, 309485009821345068724781055, 618970019642690137449562111, 1237940039285380274899124223, 2475880078570760549798248447, 4951760157141521099596496895, 4951760157141521099596496895, 19807040628566084398385987583, 39614081257132168796771975167, 79228162514264337593543950335]
theorem aw_tidy : tidyB aw9 awM = true := by kernel_rfl
theorem aw_size : aw9.size = 97 := by kernel_rfl
theorem AnyE.cpS {P : Program} {T : Ti} {rd : Option Nat} {ops : Array Oper} {M : List Nat} {K : Fm → St → Prop} {fuel : Nat} {pend pend' : List (Nat × AV)} {f : Fm} {st : St} {n m : Nat} {g : FuncId} {args : List AV} {r : AV} (he : Enters P g) (hp : CallW P g args st (fun v st' => v = r ∧ st' = st)) (j d m' : Nat)
    (hq : Region.ready .any ops (lsB n m) = [j]) (hd : dropP M j pend = pend') (hc : callAt ops j f = some (g, args)) (hs : (lsB n m).setIfInBounds j true = lsB n m') (hf : putAt ops j f r = f.put (some d) r) (hk : AllP (fun p => lightV T ops st.h (putAt ops j f r) p.1 = some p.2) pend')
    (h : AnyE P T ops M rd K fuel pend' (lsB n m') (f.put (some d) r) st) : AnyE P T ops M rd K (fuel + 1) pend (lsB n m) f st :=
  AnyE.many [j] hq rfl ⟨PickE.callE he hp hd hc (fun r' st' hk' => by obtain ⟨rfl, rfl⟩ := hk'; exact ⟨hk, by rw [hs, hf]; exact h⟩), trivial⟩
def awL (W B : Nat → Nat → Int) (L45 L1 L2 : Nat → Int) : List (Nat × AV) := [(1, .isl 4 3 false fun i k => iV (W i k)), (2, iV 0), (3, iV 3), (4, iV 0), (5, iV 3), (6, intsV 2 false L45), (7, iV 0), (8, .isl 4 6 false fun i k => iV (B i k)), (9, iV 0), (10, intsV 1 false L1), (11, iV 0), (12, intsV 1 false L2), (13, iV 0), (14, iV 1), (15, iV 0), (16, intsV 1 false L1), (17, iV 0)]
set_option maxHeartbeats 64000000 in
theorem aw_r9 {Q : Exit → Fm → St → Prop} {Y0 : AV} {W B : Nat → Nat → Int} {L45 L1 L2 : Nat → Int}
    (f0 : Pure Try.prog 48 [iV 0] Y0) (cpr : Pure Try.prog 38 [Y0, iV 3, intsV 2 false L45] (.lit (.bool true)))
    (ci1 : Pure Try.prog 41 [intsV 1 false L1, intsV 1 true (zL [1])] (.lit (.bool true))) (ci2 : Pure Try.prog 41 [intsV 1 false L2, intsV 1 true (zL [2])] (.lit (.bool true)))
    (hW : W 1 0 = 5 ∧ W 1 1 = 4 ∧ W 1 2 = 1 ∧ W 3 0 = 1 ∧ W 3 1 = 1 ∧ W 3 2 = 0) (hBB : B 2 0 = 4 ∧ B 2 1 = 5 ∧ B 2 2 = 2 ∧ B 2 3 = 2 ∧ B 2 4 = 2 ∧ B 2 5 = 3)
    (hQ : ∀ g st, g 0 = .lit (.bool true) → Q .normal ⟨⟨156, g⟩, []⟩ st) :
    SW Try.prog none (.region 9 aw9 true) Q ⟨⟨156, getT (awL W B L45 L1 L2)⟩, []⟩ ⟨[], 1⟩ := by
  obtain ⟨O, hO⟩ : ∃ O : Ar, O = std := ⟨_, rfl⟩
  have b1 := between_ok 4 5
  have b2 := between_ok 2 2
  have b3 := between_ok 2 3
  refine SW.drawnB tok (M := awM) mixed 97 aw_tidy aw_size (by kernel_rfl) ?_
  refine AnyE.tkO aw_tidy tok hO 0 60 1 (by kernel_rfl) (by kernel_rfl) (by cbv <;> rfl) (by first | trivial | exact ⟨by omega, by omega⟩ | exact ⟨by decide, by decide⟩) (Eqv.refl _) ?_
  refine AnyE.tkO aw_tidy tok hO 1 61 3 (r := .lit (.bool true)) (by kernel_rfl) (by kernel_rfl) (by cbv <;> rfl) (by trivial) (Eqv.lit (by subst hO; simp [std])) ?_
  refine AnyE.tkO aw_tidy tok hO 2 62 7 (by kernel_rfl) (by kernel_rfl) (by cbv <;> rfl) (by first | trivial | exact ⟨by omega, by omega⟩ | exact ⟨by decide, by decide⟩) (Eqv.refl _) ?_
  refine AnyE.tkO aw_tidy tok hO 3 63 15 (by kernel_rfl) (by kernel_rfl) (by cbv <;> rfl) (by first | trivial | exact ⟨by omega, by omega⟩ | exact ⟨by decide, by decide⟩) (Eqv.refl _) ?_
  refine AnyE.tkO aw_tidy tok hO 4 64 31 (by kernel_rfl) (by kernel_rfl) (by cbv <;> rfl) (by first | trivial | exact ⟨by omega, by omega⟩ | exact ⟨by decide, by decide⟩) (Eqv.refl _) ?_
  refine AnyE.tkO aw_tidy tok hO 5 65 63 (r := .lit (.bool true)) (by kernel_rfl) (by kernel_rfl) (by cbv <;> rfl) (by trivial) (Eqv.lit (by subst hO; simp [std])) ?_
  refine AnyE.tkO aw_tidy tok hO 6 66 127 (by kernel_rfl) (by kernel_rfl) (by cbv <;> rfl) (by first | trivial | exact ⟨by omega, by omega⟩ | exact ⟨by decide, by decide⟩) (Eqv.refl _) ?_
  refine AnyE.tkO aw_tidy tok hO 7 67 255 (by kernel_rfl) (by kernel_rfl) (by cbv <;> rfl) (by first | trivial | exact ⟨by omega, by omega⟩ | exact ⟨by decide, by decide⟩) (Eqv.refl _) ?_
  refine AnyE.tkO aw_tidy tok hO 8 68 511 (by kernel_rfl) (by kernel_rfl) (by cbv <;> rfl) (by first | trivial | exact ⟨by omega, by omega⟩ | exact ⟨by decide, by decide⟩) (Eqv.refl _) ?_
  refine AnyE.tkO aw_tidy tok hO 9 69 1023 (by kernel_rfl) (by kernel_rfl) (by cbv <;> rfl) (by first | trivial | exact ⟨by omega, by omega⟩ | exact ⟨by decide, by decide⟩) (Eqv.refl _) ?_
  refine AnyE.tkO aw_tidy tok hO 10 70 2047 (by kernel_rfl) (by kernel_rfl) (by cbv <;> rfl) (by first | trivial | exact ⟨by omega, by omega⟩ | exact ⟨by decide, by decide⟩) (Eqv.refl _) ?_
  refine AnyE.tkO aw_tidy tok hO 11 71 4095 (by kernel_rfl) (by kernel_rfl) (by cbv <;> rfl) (by first | trivial | exact ⟨by omega, by omega⟩ | exact ⟨by decide, by decide⟩) (Eqv.refl _) ?_
  refine AnyE.tkO aw_tidy tok hO 12 72 8191 (r := .lit (.bool true)) (by kernel_rfl) (by kernel_rfl) (by cbv <;> rfl) (by trivial) (Eqv.lit (by subst hO; simp [std, hW])) ?_
  refine AnyE.tkO aw_tidy tok hO 13 73 16383 (by kernel_rfl) (by kernel_rfl) (by cbv <;> rfl) (by first | trivial | exact ⟨by omega, by omega⟩ | exact ⟨by decide, by decide⟩) (Eqv.refl _) ?_
  refine AnyE.tkO aw_tidy tok hO 14 74 32767 (by kernel_rfl) (by kernel_rfl) (by cbv <;> rfl) (by first | trivial | exact ⟨by omega, by omega⟩ | exact ⟨by decide, by decide⟩) (Eqv.refl _) ?_
  refine AnyE.tkO aw_tidy tok hO 15 75 65535 (by kernel_rfl) (by kernel_rfl) (by cbv <;> rfl) (by first | trivial | exact ⟨by omega, by omega⟩ | exact ⟨by decide, by decide⟩) (Eqv.refl _) ?_
  refine AnyE.tkO aw_tidy tok hO 16 76 131071 (by kernel_rfl) (by kernel_rfl) (by cbv <;> rfl) (by first | trivial | exact ⟨by omega, by omega⟩ | exact ⟨by decide, by decide⟩) (Eqv.refl _) ?_
  refine AnyE.tkO aw_tidy tok hO 17 77 262143 (by kernel_rfl) (by kernel_rfl) (by cbv <;> rfl) (by first | trivial | exact ⟨by omega, by omega⟩ | exact ⟨by decide, by decide⟩) (Eqv.refl _) ?_
  refine AnyE.tkO aw_tidy tok hO 18 78 524287 (by kernel_rfl) (by kernel_rfl) (by cbv <;> rfl) (by first | trivial | exact ⟨by omega, by omega⟩ | exact ⟨by decide, by decide⟩) (Eqv.refl _) ?_
  refine AnyE.tkO aw_tidy tok hO 19 79 1048575 (r := .lit (.bool true)) (by kernel_rfl) (by kernel_rfl) (by cbv <;> rfl) (by trivial) (Eqv.lit (by subst hO; simp [std, hW])) ?_
  refine AnyE.tkO aw_tidy tok hO 20 80 2097151 (by kernel_rfl) (by kernel_rfl) (by cbv <;> rfl) (by first | trivial | exact ⟨by omega, by omega⟩ | exact ⟨by decide, by decide⟩) (Eqv.refl _) ?_
  refine AnyE.tkO aw_tidy tok hO 21 81 4194303 (by kernel_rfl) (by kernel_rfl) (by cbv <;> rfl) (by first | trivial | exact ⟨by omega, by omega⟩ | exact ⟨by decide, by decide⟩) (Eqv.refl _) ?_
  refine AnyE.tkO aw_tidy tok hO 22 82 8388607 (by kernel_rfl) (by kernel_rfl) (by cbv <;> rfl) (by first | trivial | exact ⟨by omega, by omega⟩ | exact ⟨by decide, by decide⟩) (Eqv.refl _) ?_
  refine AnyE.tkO aw_tidy tok hO 23 83 16777215 (r := .lit (.bool true)) (by kernel_rfl) (by kernel_rfl) (by cbv <;> rfl) (by trivial) (Eqv.lit (by subst hO; simp [std])) ?_
  refine AnyE.tkO aw_tidy tok hO 24 84 33554431 (by kernel_rfl) (by kernel_rfl) (by cbv <;> rfl) (by first | trivial | exact ⟨by omega, by omega⟩ | exact ⟨by decide, by decide⟩) (Eqv.refl _) ?_
  refine AnyE.tkO aw_tidy tok hO 25 85 67108863 (by kernel_rfl) (by kernel_rfl) (by cbv <;> rfl) (by first | trivial | exact ⟨by omega, by omega⟩ | exact ⟨by decide, by decide⟩) (Eqv.refl _) ?_
  refine AnyE.tkO aw_tidy tok hO 26 86 134217727 (by kernel_rfl) (by kernel_rfl) (by cbv <;> rfl) (by first | trivial | exact ⟨by omega, by omega⟩ | exact ⟨by decide, by decide⟩) (Eqv.refl _) ?_
  refine AnyE.tkO aw_tidy tok hO 27 87 268435455 (r := .lit (.bool true)) (by kernel_rfl) (by kernel_rfl) (by cbv <;> rfl) (by trivial) (Eqv.lit (by subst hO; simp [std])) ?_
  refine AnyE.tkO aw_tidy tok hO 28 88 536870911 (by kernel_rfl) (by kernel_rfl) (by cbv <;> rfl) (by first | trivial | exact ⟨by omega, by omega⟩ | exact ⟨by decide, by decide⟩) (Eqv.refl _) ?_
  refine AnyE.tkO aw_tidy tok hO 29 89 1073741823 (by kernel_rfl) (by kernel_rfl) (by cbv <;> rfl) (by first | trivial | exact ⟨by omega, by omega⟩ | exact ⟨by decide, by decide⟩) (Eqv.refl _) ?_
  refine AnyE.tkO aw_tidy tok hO 30 90 2147483647 (by kernel_rfl) (by kernel_rfl) (by cbv <;> rfl) (by first | trivial | exact ⟨by omega, by omega⟩ | exact ⟨by decide, by decide⟩) (Eqv.refl _) ?_
  refine AnyE.tkO aw_tidy tok hO 31 91 4294967295 (r := .lit (.bool true)) (by kernel_rfl) (by kernel_rfl) (by cbv <;> rfl) (by trivial) (Eqv.lit (by subst hO; simp [std])) ?_
  refine AnyE.tkO aw_tidy tok hO 32 92 8589934591 (by kernel_rfl) (by kernel_rfl) (by cbv <;> rfl) (by first | trivial | exact ⟨by omega, by omega⟩ | exact ⟨by decide, by decide⟩) (Eqv.refl _) ?_
  refine AnyE.tkO aw_tidy tok hO 33 93 17179869183 (by kernel_rfl) (by kernel_rfl) (by cbv <;> rfl) (by first | trivial | exact ⟨by omega, by omega⟩ | exact ⟨by decide, by decide⟩) (Eqv.refl _) ?_
  refine AnyE.tkO aw_tidy tok hO 34 94 34359738367 (by kernel_rfl) (by kernel_rfl) (by cbv <;> rfl) (by first | trivial | exact ⟨by omega, by omega⟩ | exact ⟨by decide, by decide⟩) (Eqv.refl _) ?_
  refine AnyE.tkO aw_tidy tok hO 35 95 68719476735 (r := .lit (.bool true)) (by kernel_rfl) (by kernel_rfl) (by cbv <;> rfl) (by trivial) (Eqv.lit (by subst hO; simp [std])) ?_
  refine AnyE.tkO aw_tidy tok hO 36 96 137438953471 (by kernel_rfl) (by kernel_rfl) (by cbv <;> rfl) (by first | trivial | exact ⟨by omega, by omega⟩ | exact ⟨by decide, by decide⟩) (Eqv.refl _) ?_
  refine AnyE.tkO aw_tidy tok hO 37 97 274877906943 (by kernel_rfl) (by kernel_rfl) (by cbv <;> rfl) (by first | trivial | exact ⟨by omega, by omega⟩ | exact ⟨by decide, by decide⟩) (Eqv.refl _) ?_
  refine AnyE.tkO aw_tidy tok hO 39 99 824633720831 (by kernel_rfl) (by kernel_rfl) (by cbv <;> rfl) (by first | trivial | exact ⟨by omega, by omega⟩ | exact ⟨by decide, by decide⟩) (Eqv.refl _) ?_
  refine AnyE.cp f0 38 98 1099511627775 (by kernel_rfl) (by cbv <;> rfl) (by cbv <;> rfl) (by kernel_rfl) rfl (by repeat (first | exact trivial | refine And.intro (by cbv <;> rfl) ?_)) ?_
  refine AnyE.cp cpr 40 100 2199023255551 (by kernel_rfl) (by cbv <;> rfl) (by cbv <;> rfl) (by kernel_rfl) rfl (by repeat (first | exact trivial | refine And.intro (by cbv <;> rfl) ?_)) ?_
  refine AnyE.tkO aw_tidy tok hO 41 101 4398046511103 (by kernel_rfl) (by kernel_rfl) (by cbv <;> rfl) (by first | trivial | exact ⟨by omega, by omega⟩ | exact ⟨by decide, by decide⟩) (Eqv.refl _) ?_
  refine AnyE.tkO aw_tidy tok hO 42 102 8796093022207 (by kernel_rfl) (by kernel_rfl) (by cbv <;> rfl) (by first | trivial | exact ⟨by omega, by omega⟩ | exact ⟨by decide, by decide⟩) (Eqv.refl _) ?_
  refine AnyE.tkO aw_tidy tok hO 43 103 17592186044415 (by kernel_rfl) (by kernel_rfl) (by cbv <;> rfl) (by first | trivial | exact ⟨by omega, by omega⟩ | exact ⟨by decide, by decide⟩) (Eqv.refl _) ?_
  refine AnyE.tkO aw_tidy tok hO 44 104 35184372088831 (r := .lit (.bool true)) (by kernel_rfl) (by kernel_rfl) (by cbv <;> rfl) (by trivial) (Eqv.lit (by subst hO; simp [std])) ?_
  refine AnyE.tkO aw_tidy tok hO 45 105 70368744177663 (by kernel_rfl) (by kernel_rfl) (by cbv <;> rfl) (by first | trivial | exact ⟨by omega, by omega⟩ | exact ⟨by decide, by decide⟩) (Eqv.refl _) ?_
  refine AnyE.tkO aw_tidy tok hO 46 106 140737488355327 (by kernel_rfl) (by kernel_rfl) (by cbv <;> rfl) (by first | trivial | exact ⟨by omega, by omega⟩ | exact ⟨by decide, by decide⟩) (Eqv.refl _) ?_
  refine AnyE.tkO aw_tidy tok hO 47 107 281474976710655 (by kernel_rfl) (by kernel_rfl) (by cbv <;> rfl) (by first | trivial | exact ⟨by omega, by omega⟩ | exact ⟨by decide, by decide⟩) (Eqv.refl _) ?_
  refine AnyE.tkO aw_tidy tok hO 48 108 562949953421311 (by kernel_rfl) (by kernel_rfl) (by cbv <;> rfl) (by first | trivial | exact ⟨by omega, by omega⟩ | exact ⟨by decide, by decide⟩) (Eqv.refl _) ?_
  refine AnyE.tkO aw_tidy tok hO 49 109 1125899906842623 (r := .lit (.bool true)) (by kernel_rfl) (by kernel_rfl) (by cbv <;> rfl) (by trivial) (Eqv.lit (by subst hO; simp [std])) ?_
  refine AnyE.tkO aw_tidy tok hO 50 110 2251799813685247 (by kernel_rfl) (by kernel_rfl) (by cbv <;> rfl) (by first | trivial | exact ⟨by omega, by omega⟩ | exact ⟨by decide, by decide⟩) (Eqv.refl _) ?_
  refine AnyE.tkO aw_tidy tok hO 51 111 4503599627370495 (by kernel_rfl) (by kernel_rfl) (by cbv <;> rfl) (by first | trivial | exact ⟨by omega, by omega⟩ | exact ⟨by decide, by decide⟩) (Eqv.refl _) ?_
  refine AnyE.tkO aw_tidy tok hO 52 112 9007199254740991 (by kernel_rfl) (by kernel_rfl) (by cbv <;> rfl) (by first | trivial | exact ⟨by omega, by omega⟩ | exact ⟨by decide, by decide⟩) (Eqv.refl _) ?_
  refine AnyE.tkO aw_tidy tok hO 53 113 18014398509481983 (by kernel_rfl) (by kernel_rfl) (by cbv <;> rfl) (by first | trivial | exact ⟨by omega, by omega⟩ | exact ⟨by decide, by decide⟩) (Eqv.refl _) ?_
  refine AnyE.tkO aw_tidy tok hO 54 114 36028797018963967 (by kernel_rfl) (by kernel_rfl) (by cbv <;> rfl) (by first | trivial | exact ⟨by omega, by omega⟩ | exact ⟨by decide, by decide⟩) (Eqv.refl _) ?_
  refine AnyE.cp b1 55 115 72057594037927935 (by kernel_rfl) (by cbv <;> rfl) (by cbv <;> rfl) (by kernel_rfl) rfl (by subst hO; repeat (first | exact trivial | refine And.intro (by cbv <;> rfl) ?_)) ?_
  refine AnyE.cp b2 56 116 144115188075855871 (by kernel_rfl) (by cbv <;> rfl) (by cbv <;> rfl) (by kernel_rfl) rfl (by subst hO; repeat (first | exact trivial | refine And.intro (by cbv <;> rfl) ?_)) ?_
  refine AnyE.cp b3 57 117 288230376151711743 (by kernel_rfl) (by cbv <;> rfl) (by cbv <;> rfl) (by kernel_rfl) rfl (by subst hO; repeat (first | exact trivial | refine And.intro (by cbv <;> rfl) ?_)) ?_
  refine AnyE.tkO aw_tidy tok hO 58 118 576460752303423487 (by kernel_rfl) (by kernel_rfl) (by cbv <;> rfl) (by first | trivial | exact ⟨by omega, by omega⟩ | exact ⟨by decide, by decide⟩) (Eqv.refl _) ?_
  refine AnyE.tkO aw_tidy tok hO 59 119 1152921504606846975 (r := .lit (.bool true)) (by kernel_rfl) (by kernel_rfl) (by cbv <;> rfl) (by trivial) (Eqv.lit (by subst hO; simp [std, hBB])) ?_
  refine AnyE.tkO aw_tidy tok hO 60 120 2305843009213693951 (by kernel_rfl) (by kernel_rfl) (by cbv <;> rfl) (by first | trivial | exact ⟨by omega, by omega⟩ | exact ⟨by decide, by decide⟩) (Eqv.refl _) ?_
  refine AnyE.tkO aw_tidy tok hO 61 121 4611686018427387903 (by kernel_rfl) (by kernel_rfl) (by cbv <;> rfl) (by first | trivial | exact ⟨by omega, by omega⟩ | exact ⟨by decide, by decide⟩) (Eqv.refl _) ?_
  refine AnyE.tkO aw_tidy tok hO 62 122 9223372036854775807 (by kernel_rfl) (by kernel_rfl) (by cbv <;> rfl) (by first | trivial | exact ⟨by omega, by omega⟩ | exact ⟨by decide, by decide⟩) (Eqv.refl _) ?_
  refine AnyE.tkO aw_tidy tok hO 63 123 18446744073709551615 (r := .lit (.bool true)) (by kernel_rfl) (by kernel_rfl) (by cbv <;> rfl) (by trivial) (Eqv.lit (by subst hO; simp [std])) ?_
  refine AnyE.tkO aw_tidy tok hO 64 124 36893488147419103231 (by kernel_rfl) (by kernel_rfl) (by cbv <;> rfl) (by first | trivial | exact ⟨by omega, by omega⟩ | exact ⟨by decide, by decide⟩) (Eqv.refl _) ?_
  refine AnyE.tkO aw_tidy tok hO 65 125 73786976294838206463 (by kernel_rfl) (by kernel_rfl) (by cbv <;> rfl) (by first | trivial | exact ⟨by omega, by omega⟩ | exact ⟨by decide, by decide⟩) (Eqv.refl _) ?_
  refine AnyE.tkO aw_tidy tok hO 66 126 147573952589676412927 (by kernel_rfl) (by kernel_rfl) (by cbv <;> rfl) (by first | trivial | exact ⟨by omega, by omega⟩ | exact ⟨by decide, by decide⟩) (Eqv.refl _) ?_
  refine AnyE.efB tok hO 67 295147905179352825855 (by kernel_rfl) (by cbv <;> rfl) (by cbv <;> rfl) (by trivial) (by kernel_rfl) (by repeat (first | exact trivial | refine And.intro (by cbv <;> rfl) ?_)) ?_
  refine AnyE.cpS en41 (call_frz (args := [intsV 1 false L1, .sl 1 0 1 1 true]) (fun _ => true) 3 ci1 (by rfl) (.cons (Eqv.isl rfl fun i k hi hk => Eqv.refl _) (.cons (by
      refine Eqv.isl rfl fun i k hi hk => Eqv.of ?_
      obtain rfl : k = 0 := by omega
      obtain rfl : i = 0 := by omega
      rfl) .nil))) 68 128 590295810358705651711 (by kernel_rfl) (by cbv <;> rfl) (by cbv <;> rfl) (by kernel_rfl) rfl (by repeat (first | exact trivial | refine And.intro (by cbv <;> rfl) ?_)) ?_
  refine AnyE.tkO aw_tidy tok hO 69 129 1180591620717411303423 (by kernel_rfl) (by kernel_rfl) (by cbv <;> rfl) (by first | trivial | exact ⟨by omega, by omega⟩ | exact ⟨by decide, by decide⟩) (Eqv.refl _) ?_
  refine AnyE.tkO aw_tidy tok hO 70 130 2361183241434822606847 (by kernel_rfl) (by kernel_rfl) (by cbv <;> rfl) (by first | trivial | exact ⟨by omega, by omega⟩ | exact ⟨by decide, by decide⟩) (Eqv.refl _) ?_
  refine AnyE.tkO aw_tidy tok hO 71 131 4722366482869645213695 (by kernel_rfl) (by kernel_rfl) (by cbv <;> rfl) (by first | trivial | exact ⟨by omega, by omega⟩ | exact ⟨by decide, by decide⟩) (Eqv.refl _) ?_
  refine AnyE.tkO aw_tidy tok hO 72 132 9444732965739290427391 (r := .lit (.bool true)) (by kernel_rfl) (by kernel_rfl) (by cbv <;> rfl) (by trivial) (Eqv.lit (by subst hO; simp [std])) ?_
  refine AnyE.tkO aw_tidy tok hO 73 133 18889465931478580854783 (by kernel_rfl) (by kernel_rfl) (by cbv <;> rfl) (by first | trivial | exact ⟨by omega, by omega⟩ | exact ⟨by decide, by decide⟩) (Eqv.refl _) ?_
  refine AnyE.tkO aw_tidy tok hO 74 134 37778931862957161709567 (by kernel_rfl) (by kernel_rfl) (by cbv <;> rfl) (by first | trivial | exact ⟨by omega, by omega⟩ | exact ⟨by decide, by decide⟩) (Eqv.refl _) ?_
  refine AnyE.tkO aw_tidy tok hO 75 135 75557863725914323419135 (by kernel_rfl) (by kernel_rfl) (by cbv <;> rfl) (by first | trivial | exact ⟨by omega, by omega⟩ | exact ⟨by decide, by decide⟩) (Eqv.refl _) ?_
  refine AnyE.efB tok hO 76 151115727451828646838271 (by kernel_rfl) (by cbv <;> rfl) (by cbv <;> rfl) (by trivial) (by kernel_rfl) (by repeat (first | exact trivial | refine And.intro (by cbv <;> rfl) ?_)) ?_
  refine AnyE.cpS en41 (call_frz (args := [intsV 1 false L2, .sl 2 0 1 1 true]) (fun _ => true) 3 ci2 (by rfl) (.cons (Eqv.isl rfl fun i k hi hk => Eqv.refl _) (.cons (by
      refine Eqv.isl rfl fun i k hi hk => Eqv.of ?_
      obtain rfl : k = 0 := by omega
      obtain rfl : i = 0 := by omega
      rfl) .nil))) 77 137 302231454903657293676543 (by kernel_rfl) (by cbv <;> rfl) (by cbv <;> rfl) (by kernel_rfl) rfl (by repeat (first | exact trivial | refine And.intro (by cbv <;> rfl) ?_)) ?_
  refine AnyE.tkO aw_tidy tok hO 78 138 604462909807314587353087 (by kernel_rfl) (by kernel_rfl) (by cbv <;> rfl) (by first | trivial | exact ⟨by omega, by omega⟩ | exact ⟨by decide, by decide⟩) (Eqv.refl _) ?_
  refine AnyE.tkO aw_tidy tok hO 79 139 1208925819614629174706175 (by kernel_rfl) (by kernel_rfl) (by cbv <;> rfl) (by first | trivial | exact ⟨by omega, by omega⟩ | exact ⟨by decide, by decide⟩) (Eqv.refl _) ?_
  refine AnyE.tkO aw_tidy tok hO 80 140 2417851639229258349412351 (by kernel_rfl) (by kernel_rfl) (by cbv <;> rfl) (by first | trivial | exact ⟨by omega, by omega⟩ | exact ⟨by decide, by decide⟩) (Eqv.refl _) ?_
  refine AnyE.tkO aw_tidy tok hO 81 141 4835703278458516698824703 (r := .lit (.bool true)) (by kernel_rfl) (by kernel_rfl) (by cbv <;> rfl) (by trivial) (Eqv.lit (by subst hO; simp [std])) ?_
  refine AnyE.tkO aw_tidy tok hO 82 142 9671406556917033397649407 (by kernel_rfl) (by kernel_rfl) (by cbv <;> rfl) (by first | trivial | exact ⟨by omega, by omega⟩ | exact ⟨by decide, by decide⟩) (Eqv.refl _) ?_
  refine AnyE.tkO aw_tidy tok hO 83 143 19342813113834066795298815 (by kernel_rfl) (by kernel_rfl) (by cbv <;> rfl) (by first | trivial | exact ⟨by omega, by omega⟩ | exact ⟨by decide, by decide⟩) (Eqv.refl _) ?_
  refine AnyE.tkO aw_tidy tok hO 84 144 38685626227668133590597631 (by kernel_rfl) (by kernel_rfl) (by cbv <;> rfl) (by first | trivial | exact ⟨by omega, by omega⟩ | exact ⟨by decide, by decide⟩) (Eqv.refl _) ?_
  refine AnyE.tkO aw_tidy tok hO 85 145 77371252455336267181195263 (r := .lit (.bool true)) (by kernel_rfl) (by kernel_rfl) (by cbv <;> rfl) (by trivial) (Eqv.lit (by subst hO; simp [std])) ?_
  refine AnyE.tkO aw_tidy tok hO 86 146 154742504910672534362390527 (by kernel_rfl) (by kernel_rfl) (by cbv <;> rfl) (by first | trivial | exact ⟨by omega, by omega⟩ | exact ⟨by decide, by decide⟩) (Eqv.refl _) ?_
  refine AnyE.tkO aw_tidy tok hO 87 147 309485009821345068724781055 (by kernel_rfl) (by kernel_rfl) (by cbv <;> rfl) (by first | trivial | exact ⟨by omega, by omega⟩ | exact ⟨by decide, by decide⟩) (Eqv.refl _) ?_
  refine AnyE.tkO aw_tidy tok hO 88 148 618970019642690137449562111 (by kernel_rfl) (by kernel_rfl) (by cbv <;> rfl) (by first | trivial | exact ⟨by omega, by omega⟩ | exact ⟨by decide, by decide⟩) (Eqv.refl _) ?_
  refine AnyE.tkO aw_tidy tok hO 89 149 1237940039285380274899124223 (r := .lit (.bool true)) (by kernel_rfl) (by kernel_rfl) (by cbv <;> rfl) (by trivial) (Eqv.lit (by subst hO; simp [std])) ?_
  refine AnyE.tkO aw_tidy tok hO 90 150 2475880078570760549798248447 (by kernel_rfl) (by kernel_rfl) (by cbv <;> rfl) (by first | trivial | exact ⟨by omega, by omega⟩ | exact ⟨by decide, by decide⟩) (Eqv.refl _) ?_
  refine AnyE.tkO aw_tidy tok hO 91 151 4951760157141521099596496895 (by kernel_rfl) (by kernel_rfl) (by cbv <;> rfl) (by first | trivial | exact ⟨by omega, by omega⟩ | exact ⟨by decide, by decide⟩) (Eqv.refl _) ?_
  refine AnyE.tkO aw_tidy tok hO 92 152 9903520314283042199192993791 (by kernel_rfl) (by kernel_rfl) (by cbv <;> rfl) (by first | trivial | exact ⟨by omega, by omega⟩ | exact ⟨by decide, by decide⟩) (Eqv.refl _) ?_
  refine AnyE.efB tok hO 93 19807040628566084398385987583 (by kernel_rfl) (by cbv <;> rfl) (by cbv <;> rfl) (by trivial) (by kernel_rfl) (by repeat (first | exact trivial | refine And.intro (by cbv <;> rfl) ?_)) ?_
  refine AnyE.cpS en41 (call_frz (args := [intsV 1 false L1, .sl 3 0 1 1 true]) (fun _ => true) 3 ci1 (by rfl) (.cons (Eqv.isl rfl fun i k hi hk => Eqv.refl _) (.cons (by
      refine Eqv.isl rfl fun i k hi hk => Eqv.of ?_
      obtain rfl : k = 0 := by omega
      obtain rfl : i = 0 := by omega
      rfl) .nil))) 94 154 39614081257132168796771975167 (by kernel_rfl) (by cbv <;> rfl) (by cbv <;> rfl) (by kernel_rfl) rfl (by repeat (first | exact trivial | refine And.intro (by cbv <;> rfl) ?_)) ?_
  refine AnyE.tkO aw_tidy tok hO 95 155 79228162514264337593543950335 (by kernel_rfl) (by kernel_rfl) (by cbv <;> rfl) (by first | trivial | exact ⟨by omega, by omega⟩ | exact ⟨by decide, by decide⟩) (Eqv.refl _) ?_
  refine AnyE.efB tok hO 96 158456325028528675187087900671 (by kernel_rfl) (by cbv <;> rfl) (by cbv <;> rfl) (by trivial) (by kernel_rfl) (by repeat (first | exact trivial | refine And.intro (by cbv <;> rfl) ?_)) ?_
  refine AnyE.done (by kernel_rfl) ?_
  exact hQ _ _ rfl
end Go.Fz
