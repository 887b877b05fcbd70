/- Own work of the verifier of watercress: FzTr7. -/
import Derived.Test.YtpefamheopplnaaMl28
import Derived.Test.YtpefamheopplnaaMl15
import Derived.Test.YtpefamheopplnaaMl25
import Derived.Test.YtpefamheopplnaaMl21
set_option linter.unusedVariables false
set_option linter.unusedSimpArgs false
namespace Go.Fz
open Go.Proofs
set_option maxRecDepth 100000
set_option linter.unusedVariables false
noncomputable def trL : Code := cP (cB (cR (cL (cR (cR (cR (cR (cR (cR (cR (cR (cR (cR (bodyF Try.f8))))))))))))))
noncomputable def trB : Code := cB (cL (cR trL))
noncomputable def tr15P : {a : Array Oper // cL (cL trB) = .region 15 a true} := ⟨_, by rfl⟩
noncomputable def tr15A : Array Oper := tr15P.1
def tr15M : List Nat := [0, 1, 0, 7, 15, 31, 63, 127, 255, 127, 1023, 2047, 127, 4223, 127, 28799, 61567, 131071, 127, 262271, 127, 1835135, 3932287, 8388607, 127, 127, 127, 117440639, 268435455, 536870911, 1073741823, 2147483647, 4294967295, 2147483647, 17179869183, 34359738367, 2147483647, 70866960383, 2147483647, 483183820799, 1032939634687, 2132451262463, 4398046511103, 8796093022207, 17592186044415, 35184372088831, 70368744177663, 140737488355327, 70368744177663, 562949953421311, 1125899906842623, 70368744177663, 2322168557862911, 70368744177663, 15832967439974399, 33847365949456383, 72057594037927935, 144115188075855871, 288230376151711743, 576460752303423487, 1152921504606846975, 2305843009213693951, 1152921504606846975, 9223372036854775807, 18446744073709551615, 1152921504606846975, 38046409652025950207, 1152921504606846975, 259407338536540569599, 554555243715893395455, 1180591620717411303423, 2361183241434822606847, 4722366482869645213695, 9444732965739290427391, 18889465931478580854783, 37778931862957161709567, 18889465931478580854783, 151115727451828646838271, 302231454903657293676543, 18889465931478580854783, 623352375738793168207871, 18889465931478580854783, 4250129834582680692326399, 9085833113041197391151103, 19342813113834066795298815, 38685626227668133590597631, 77371252455336267181195263]
theorem tr15_tidy : tidyB tr15A tr15M = true := by kernel_rfl
theorem tr15_size : tr15A.size = 87 := by kernel_rfl
set_option maxHeartbeats 16000000 in
theorem tr_15 (d x : DayD) (nw nl : Nat) (fe st bu le lo0 hi0 lo1 hi1 lo2 hi2 zf : Nat → Int) (q0 q1 q2 q3 p0 p1 p2 p3 p4 p5 p6 p7 : Int) (g : Nat → AV) (O : Ar) (hO : O = std) (ST al : Int) (w : Nat) (hcj : 0 ≤ Int.ofNat w ∧ Int.ofNat w < (nw : Int))
  (h0 : O.cmp .lss (bu (O.nat (Int.ofNat w))) 0 = false) (hst : Pure Try.prog 44 [dayV x, .agg [intsV nw false fe, intsV nl false st], iV (Int.ofNat w)] (iV ST)) (h1 : O.cmp .neq (O.bin .add .i64 (O.bin .mul .i64 (bu (O.nat (Int.ofNat w))) (fe (O.nat (Int.ofNat w)))) (le (O.nat (Int.ofNat w)))) ST = false)
  (h2 : Pure Try.prog 25 [iV (le (O.nat (Int.ofNat w))), iV 0, iV (O.bin .sub .i64 (fe (O.nat (Int.ofNat w))) 1)] (.lit (.bool true))) (h3 : Pure Try.prog 45 [iV (fe (O.nat (Int.ofNat w))), rangeV (lo0 (O.nat (Int.ofNat w))) (hi0 (O.nat (Int.ofNat w)))] (.lit (.bool true)))
  (h4 : Pure Try.prog 45 [iV (bu (O.nat (Int.ofNat w))), rangeV (lo1 (O.nat (Int.ofNat w))) (hi1 (O.nat (Int.ofNat w)))] (.lit (.bool true))) (h5 : Pure Try.prog 45 [iV (le (O.nat (Int.ofNat w))), rangeV (lo2 (O.nat (Int.ofNat w))) (hi2 (O.nat (Int.ofNat w)))] (.lit (.bool true))) (h : AllP (fun p => g p.1 = p.2) [(7, .ptr 1 0), (8, .ptr 2 0), (9, .ptr 3 0), (11, .ptr 4 0), (17, iV (Int.ofNat nw)), (18, iV al), (19, iV (Int.ofNat w))]) :
    SW Try.prog none (cL trB) (midK 291 [(7, .ptr 1 0), (8, .ptr 2 0), (9, .ptr 3 0), (11, .ptr 4 0), (17, iV (Int.ofNat nw)), (18, iV al), (19, iV (Int.ofNat w))] ⟨[(4, .cells none false (bndC nw lo0 hi0 lo1 hi1 lo2 hi2 p0 p1 p2 p3 p4 p5 p6 p7)), (3, .cells none false [intsV nw false bu, intsV nw false le, iV q0, iV q1, iV q2, iV q3]), (2, .cells none false [intsV nw false fe, intsV nl false st]), (1, .cells none false (dayC x)), (0, .cells none false (dayC d))], 5⟩) ⟨⟨291, g⟩, []⟩ ⟨[(4, .cells none false (bndC nw lo0 hi0 lo1 hi1 lo2 hi2 p0 p1 p2 p3 p4 p5 p6 p7)), (3, .cells none false [intsV nw false bu, intsV nw false le, iV q0, iV q1, iV q2, iV q3]), (2, .cells none false [intsV nw false fe, intsV nl false st]), (1, .cells none false (dayC x)), (0, .cells none false (dayC d))], 5⟩ := by
  obtain ⟨g7, g8, g9, g11, g17, g18, g19, _⟩ := h
  simp only at g7 g8 g9 g11 g17 g18 g19
  rw [← updT_self g7, ← updT_self g8, ← updT_self g9, ← updT_self g11, ← updT_self g17, ← updT_self g18, ← updT_self g19]
  refine SW.seq (show SW Try.prog none (.region 15 tr15A true) _ _ _ from ?_)
  refine SW.drawnB tok (M := tr15M) mixed 87 tr15_tidy tr15_size (by kernel_rfl) ?_
  refine AnyE.tkO tr15_tidy tok hO 0 127 1 (by kernel_rfl) (by kernel_rfl) (by cbv <;> rfl) (by repeat (first | exact trivial | exact hcj | refine ⟨?_, ?_⟩)) (Eqv.refl _) ?_
  refine AnyE.tkO tr15_tidy tok hO 1 128 3 (by kernel_rfl) (by kernel_rfl) (by cbv <;> rfl) (by repeat (first | exact trivial | exact hcj | refine ⟨?_, ?_⟩)) (Eqv.refl _) ?_
  refine AnyE.tkO tr15_tidy tok hO 2 129 7 (by kernel_rfl) (by kernel_rfl) (by cbv <;> rfl) (by repeat (first | exact trivial | exact hcj | refine ⟨?_, ?_⟩)) (Eqv.refl _) ?_
  refine AnyE.tkO tr15_tidy tok hO 3 130 15 (by kernel_rfl) (by kernel_rfl) (by cbv <;> rfl) (by repeat (first | exact trivial | exact hcj | refine ⟨?_, ?_⟩)) (Eqv.refl _) ?_
  refine AnyE.tkO tr15_tidy tok hO 4 131 31 (by kernel_rfl) (by kernel_rfl) (by cbv <;> rfl) (by repeat (first | exact trivial | exact hcj | refine ⟨?_, ?_⟩)) (Eqv.refl _) ?_
  refine AnyE.tkO tr15_tidy tok hO 5 132 63 (r := .lit (.bool false)) (by kernel_rfl) (by kernel_rfl) (by cbv <;> rfl) (by trivial) (Eqv.lit (h0)) ?_
  refine AnyE.tkO tr15_tidy tok hO 6 133 127 (by kernel_rfl) (by kernel_rfl) (by cbv <;> rfl) (by repeat (first | exact trivial | exact hcj | refine ⟨?_, ?_⟩)) (Eqv.refl _) ?_
  refine AnyE.tkO tr15_tidy tok hO 7 134 255 (by kernel_rfl) (by kernel_rfl) (by cbv <;> rfl) (by repeat (first | exact trivial | exact hcj | refine ⟨?_, ?_⟩)) (Eqv.refl _) ?_
  refine AnyE.tkO tr15_tidy tok hO 8 135 511 (by kernel_rfl) (by kernel_rfl) (by cbv <;> rfl) (by repeat (first | exact trivial | exact hcj | refine ⟨?_, ?_⟩)) (Eqv.refl _) ?_
  refine AnyE.tkO tr15_tidy tok hO 9 136 1023 (by kernel_rfl) (by kernel_rfl) (by cbv <;> rfl) (by repeat (first | exact trivial | exact hcj | refine ⟨?_, ?_⟩)) (Eqv.refl _) ?_
  refine AnyE.tkO tr15_tidy tok hO 10 137 2047 (by kernel_rfl) (by kernel_rfl) (by cbv <;> rfl) (by repeat (first | exact trivial | exact hcj | refine ⟨?_, ?_⟩)) (Eqv.refl _) ?_
  refine AnyE.tkO tr15_tidy tok hO 11 138 4095 (by kernel_rfl) (by kernel_rfl) (by cbv <;> rfl) (by repeat (first | exact trivial | exact hcj | refine ⟨?_, ?_⟩)) (Eqv.refl _) ?_
  refine AnyE.tkO tr15_tidy tok hO 12 139 8191 (by kernel_rfl) (by kernel_rfl) (by cbv <;> rfl) (by repeat (first | exact trivial | exact hcj | refine ⟨?_, ?_⟩)) (Eqv.refl _) ?_
  refine AnyE.tkO tr15_tidy tok hO 13 140 16383 (by kernel_rfl) (by kernel_rfl) (by cbv <;> rfl) (by repeat (first | exact trivial | exact hcj | refine ⟨?_, ?_⟩)) (Eqv.refl _) ?_
  refine AnyE.tkO tr15_tidy tok hO 14 141 32767 (by kernel_rfl) (by kernel_rfl) (by cbv <;> rfl) (by repeat (first | exact trivial | exact hcj | refine ⟨?_, ?_⟩)) (Eqv.refl _) ?_
  refine AnyE.tkO tr15_tidy tok hO 15 142 65535 (by kernel_rfl) (by kernel_rfl) (by cbv <;> rfl) (by repeat (first | exact trivial | exact hcj | refine ⟨?_, ?_⟩)) (Eqv.refl _) ?_
  refine AnyE.tkO tr15_tidy tok hO 16 143 131071 (by kernel_rfl) (by kernel_rfl) (by cbv <;> rfl) (by repeat (first | exact trivial | exact hcj | refine ⟨?_, ?_⟩)) (Eqv.refl _) ?_
  refine AnyE.tkO tr15_tidy tok hO 17 144 262143 (by kernel_rfl) (by kernel_rfl) (by cbv <;> rfl) (by repeat (first | exact trivial | exact hcj | refine ⟨?_, ?_⟩)) (Eqv.refl _) ?_
  refine AnyE.tkO tr15_tidy tok hO 18 145 524287 (by kernel_rfl) (by kernel_rfl) (by cbv <;> rfl) (by repeat (first | exact trivial | exact hcj | refine ⟨?_, ?_⟩)) (Eqv.refl _) ?_
  refine AnyE.tkO tr15_tidy tok hO 19 146 1048575 (by kernel_rfl) (by kernel_rfl) (by cbv <;> rfl) (by repeat (first | exact trivial | exact hcj | refine ⟨?_, ?_⟩)) (Eqv.refl _) ?_
  refine AnyE.tkO tr15_tidy tok hO 20 147 2097151 (by kernel_rfl) (by kernel_rfl) (by cbv <;> rfl) (by repeat (first | exact trivial | exact hcj | refine ⟨?_, ?_⟩)) (Eqv.refl _) ?_
  refine AnyE.tkO tr15_tidy tok hO 21 148 4194303 (by kernel_rfl) (by kernel_rfl) (by cbv <;> rfl) (by repeat (first | exact trivial | exact hcj | refine ⟨?_, ?_⟩)) (Eqv.refl _) ?_
  refine AnyE.tkO tr15_tidy tok hO 22 149 8388607 (by kernel_rfl) (by kernel_rfl) (by cbv <;> rfl) (by repeat (first | exact trivial | exact hcj | refine ⟨?_, ?_⟩)) (Eqv.refl _) ?_
  refine AnyE.tkO tr15_tidy tok hO 23 150 16777215 (by kernel_rfl) (by kernel_rfl) (by cbv <;> rfl) (by repeat (first | exact trivial | exact hcj | refine ⟨?_, ?_⟩)) (Eqv.refl _) ?_
  refine AnyE.tkO tr15_tidy tok hO 24 151 33554431 (by kernel_rfl) (by kernel_rfl) (by cbv <;> rfl) (by repeat (first | exact trivial | exact hcj | refine ⟨?_, ?_⟩)) (Eqv.refl _) ?_
  refine AnyE.tkO tr15_tidy tok hO 25 152 67108863 (by kernel_rfl) (by kernel_rfl) (by cbv <;> rfl) (by repeat (first | exact trivial | exact hcj | refine ⟨?_, ?_⟩)) (Eqv.refl _) ?_
  refine AnyE.tkO tr15_tidy tok hO 26 153 134217727 (by kernel_rfl) (by kernel_rfl) (by cbv <;> rfl) (by repeat (first | exact trivial | exact hcj | refine ⟨?_, ?_⟩)) (Eqv.refl _) ?_
  refine AnyE.cpN hst 27 154 268435455 (by kernel_rfl) (by kernel_rfl) (by cbv <;> rfl) (by cbv <;> rfl) (by kernel_rfl) rfl ?_
  refine AnyE.tkO tr15_tidy tok hO 28 155 536870911 (r := .lit (.bool false)) (by kernel_rfl) (by kernel_rfl) (by cbv <;> rfl) (by trivial) (Eqv.lit (h1)) ?_
  refine AnyE.tkO tr15_tidy tok hO 29 156 1073741823 (by kernel_rfl) (by kernel_rfl) (by cbv <;> rfl) (by repeat (first | exact trivial | exact hcj | refine ⟨?_, ?_⟩)) (Eqv.refl _) ?_
  refine AnyE.tkO tr15_tidy tok hO 30 157 2147483647 (by kernel_rfl) (by kernel_rfl) (by cbv <;> rfl) (by repeat (first | exact trivial | exact hcj | refine ⟨?_, ?_⟩)) (Eqv.refl _) ?_
  refine AnyE.tkO tr15_tidy tok hO 31 158 4294967295 (by kernel_rfl) (by kernel_rfl) (by cbv <;> rfl) (by repeat (first | exact trivial | exact hcj | refine ⟨?_, ?_⟩)) (Eqv.refl _) ?_
  refine AnyE.tkO tr15_tidy tok hO 32 159 8589934591 (by kernel_rfl) (by kernel_rfl) (by cbv <;> rfl) (by repeat (first | exact trivial | exact hcj | refine ⟨?_, ?_⟩)) (Eqv.refl _) ?_
  refine AnyE.tkO tr15_tidy tok hO 33 160 17179869183 (by kernel_rfl) (by kernel_rfl) (by cbv <;> rfl) (by repeat (first | exact trivial | exact hcj | refine ⟨?_, ?_⟩)) (Eqv.refl _) ?_
  refine AnyE.tkO tr15_tidy tok hO 34 161 34359738367 (by kernel_rfl) (by kernel_rfl) (by cbv <;> rfl) (by repeat (first | exact trivial | exact hcj | refine ⟨?_, ?_⟩)) (Eqv.refl _) ?_
  refine AnyE.tkO tr15_tidy tok hO 35 162 68719476735 (by kernel_rfl) (by kernel_rfl) (by cbv <;> rfl) (by repeat (first | exact trivial | exact hcj | refine ⟨?_, ?_⟩)) (Eqv.refl _) ?_
  refine AnyE.tkO tr15_tidy tok hO 36 163 137438953471 (by kernel_rfl) (by kernel_rfl) (by cbv <;> rfl) (by repeat (first | exact trivial | exact hcj | refine ⟨?_, ?_⟩)) (Eqv.refl _) ?_
  refine AnyE.tkO tr15_tidy tok hO 37 164 274877906943 (by kernel_rfl) (by kernel_rfl) (by cbv <;> rfl) (by repeat (first | exact trivial | exact hcj | refine ⟨?_, ?_⟩)) (Eqv.refl _) ?_
  refine AnyE.tkO tr15_tidy tok hO 38 165 549755813887 (by kernel_rfl) (by kernel_rfl) (by cbv <;> rfl) (by repeat (first | exact trivial | exact hcj | refine ⟨?_, ?_⟩)) (Eqv.refl _) ?_
  refine AnyE.tkO tr15_tidy tok hO 39 166 1099511627775 (by kernel_rfl) (by kernel_rfl) (by cbv <;> rfl) (by repeat (first | exact trivial | exact hcj | refine ⟨?_, ?_⟩)) (Eqv.refl _) ?_
  refine AnyE.tkO tr15_tidy tok hO 40 167 2199023255551 (by kernel_rfl) (by kernel_rfl) (by cbv <;> rfl) (by repeat (first | exact trivial | exact hcj | refine ⟨?_, ?_⟩)) (Eqv.refl _) ?_
  refine AnyE.tkO tr15_tidy tok hO 41 168 4398046511103 (by kernel_rfl) (by kernel_rfl) (by cbv <;> rfl) (by repeat (first | exact trivial | exact hcj | refine ⟨?_, ?_⟩)) (Eqv.refl _) ?_
  refine AnyE.cpN h2 42 169 8796093022207 (by kernel_rfl) (by kernel_rfl) (by cbv <;> rfl) (by cbv <;> rfl) (by kernel_rfl) rfl ?_
  refine AnyE.tkO tr15_tidy tok hO 43 170 17592186044415 (by kernel_rfl) (by kernel_rfl) (by cbv <;> rfl) (by repeat (first | exact trivial | exact hcj | refine ⟨?_, ?_⟩)) (Eqv.refl _) ?_
  refine AnyE.tkO tr15_tidy tok hO 44 171 35184372088831 (by kernel_rfl) (by kernel_rfl) (by cbv <;> rfl) (by repeat (first | exact trivial | exact hcj | refine ⟨?_, ?_⟩)) (Eqv.refl _) ?_
  refine AnyE.tkO tr15_tidy tok hO 45 172 70368744177663 (by kernel_rfl) (by kernel_rfl) (by cbv <;> rfl) (by repeat (first | exact trivial | exact hcj | refine ⟨?_, ?_⟩)) (Eqv.refl _) ?_
  refine AnyE.tkO tr15_tidy tok hO 46 173 140737488355327 (by kernel_rfl) (by kernel_rfl) (by cbv <;> rfl) (by repeat (first | exact trivial | exact hcj | refine ⟨?_, ?_⟩)) (Eqv.refl _) ?_
  refine AnyE.tkO tr15_tidy tok hO 47 174 281474976710655 (by kernel_rfl) (by kernel_rfl) (by cbv <;> rfl) (by repeat (first | exact trivial | exact hcj | refine ⟨?_, ?_⟩)) (Eqv.refl _) ?_
  refine AnyE.tkO tr15_tidy tok hO 48 175 562949953421311 (by kernel_rfl) (by kernel_rfl) (by cbv <;> rfl) (by repeat (first | exact trivial | exact hcj | refine ⟨?_, ?_⟩)) (Eqv.refl _) ?_
  refine AnyE.tkO tr15_tidy tok hO 49 176 1125899906842623 (by kernel_rfl) (by kernel_rfl) (by cbv <;> rfl) (by repeat (first | exact trivial | exact hcj | refine ⟨?_, ?_⟩)) (Eqv.refl _) ?_
  refine AnyE.tkO tr15_tidy tok hO 50 177 2251799813685247 (by kernel_rfl) (by kernel_rfl) (by cbv <;> rfl) (by repeat (first | exact trivial | exact hcj | refine ⟨?_, ?_⟩)) (Eqv.refl _) ?_
  refine AnyE.tkO tr15_tidy tok hO 51 178 4503599627370495 (by kernel_rfl) (by kernel_rfl) (by cbv <;> rfl) (by repeat (first | exact trivial | exact hcj | refine ⟨?_, ?_⟩)) (Eqv.refl _) ?_
  refine AnyE.tkO tr15_tidy tok hO 52 179 9007199254740991 (by kernel_rfl) (by kernel_rfl) (by cbv <;> rfl) (by repeat (first | exact trivial | exact hcj | refine ⟨?_, ?_⟩)) (Eqv.refl _) ?_
  refine AnyE.tkO tr15_tidy tok hO 53 180 18014398509481983 (by kernel_rfl) (by kernel_rfl) (by cbv <;> rfl) (by repeat (first | exact trivial | exact hcj | refine ⟨?_, ?_⟩)) (Eqv.refl _) ?_
  refine AnyE.tkO tr15_tidy tok hO 54 181 36028797018963967 (by kernel_rfl) (by kernel_rfl) (by cbv <;> rfl) (by repeat (first | exact trivial | exact hcj | refine ⟨?_, ?_⟩)) (Eqv.refl _) ?_
  refine AnyE.tkO tr15_tidy tok hO 55 182 72057594037927935 (by kernel_rfl) (by kernel_rfl) (by cbv <;> rfl) (by repeat (first | exact trivial | exact hcj | refine ⟨?_, ?_⟩)) (Eqv.refl _) ?_
  refine AnyE.cpN h3 56 183 144115188075855871 (by kernel_rfl) (by kernel_rfl) (by cbv <;> rfl) (by cbv <;> rfl) (by kernel_rfl) rfl ?_
  refine AnyE.tkO tr15_tidy tok hO 57 184 288230376151711743 (by kernel_rfl) (by kernel_rfl) (by cbv <;> rfl) (by repeat (first | exact trivial | exact hcj | refine ⟨?_, ?_⟩)) (Eqv.refl _) ?_
  refine AnyE.tkO tr15_tidy tok hO 58 185 576460752303423487 (by kernel_rfl) (by kernel_rfl) (by cbv <;> rfl) (by repeat (first | exact trivial | exact hcj | refine ⟨?_, ?_⟩)) (Eqv.refl _) ?_
  refine AnyE.tkO tr15_tidy tok hO 59 186 1152921504606846975 (by kernel_rfl) (by kernel_rfl) (by cbv <;> rfl) (by repeat (first | exact trivial | exact hcj | refine ⟨?_, ?_⟩)) (Eqv.refl _) ?_
  refine AnyE.tkO tr15_tidy tok hO 60 187 2305843009213693951 (by kernel_rfl) (by kernel_rfl) (by cbv <;> rfl) (by repeat (first | exact trivial | exact hcj | refine ⟨?_, ?_⟩)) (Eqv.refl _) ?_
  refine AnyE.tkO tr15_tidy tok hO 61 188 4611686018427387903 (by kernel_rfl) (by kernel_rfl) (by cbv <;> rfl) (by repeat (first | exact trivial | exact hcj | refine ⟨?_, ?_⟩)) (Eqv.refl _) ?_
  refine AnyE.tkO tr15_tidy tok hO 62 189 9223372036854775807 (by kernel_rfl) (by kernel_rfl) (by cbv <;> rfl) (by repeat (first | exact trivial | exact hcj | refine ⟨?_, ?_⟩)) (Eqv.refl _) ?_
  refine AnyE.tkO tr15_tidy tok hO 63 190 18446744073709551615 (by kernel_rfl) (by kernel_rfl) (by cbv <;> rfl) (by repeat (first | exact trivial | exact hcj | refine ⟨?_, ?_⟩)) (Eqv.refl _) ?_
  refine AnyE.tkO tr15_tidy tok hO 64 191 36893488147419103231 (by kernel_rfl) (by kernel_rfl) (by cbv <;> rfl) (by repeat (first | exact trivial | exact hcj | refine ⟨?_, ?_⟩)) (Eqv.refl _) ?_
  refine AnyE.tkO tr15_tidy tok hO 65 192 73786976294838206463 (by kernel_rfl) (by kernel_rfl) (by cbv <;> rfl) (by repeat (first | exact trivial | exact hcj | refine ⟨?_, ?_⟩)) (Eqv.refl _) ?_
  refine AnyE.tkO tr15_tidy tok hO 66 193 147573952589676412927 (by kernel_rfl) (by kernel_rfl) (by cbv <;> rfl) (by repeat (first | exact trivial | exact hcj | refine ⟨?_, ?_⟩)) (Eqv.refl _) ?_
  refine AnyE.tkO tr15_tidy tok hO 67 194 295147905179352825855 (by kernel_rfl) (by kernel_rfl) (by cbv <;> rfl) (by repeat (first | exact trivial | exact hcj | refine ⟨?_, ?_⟩)) (Eqv.refl _) ?_
  refine AnyE.tkO tr15_tidy tok hO 68 195 590295810358705651711 (by kernel_rfl) (by kernel_rfl) (by cbv <;> rfl) (by repeat (first | exact trivial | exact hcj | refine ⟨?_, ?_⟩)) (Eqv.refl _) ?_
  refine AnyE.tkO tr15_tidy tok hO 69 196 1180591620717411303423 (by kernel_rfl) (by kernel_rfl) (by cbv <;> rfl) (by repeat (first | exact trivial | exact hcj | refine ⟨?_, ?_⟩)) (Eqv.refl _) ?_
  refine AnyE.cpN h4 70 197 2361183241434822606847 (by kernel_rfl) (by kernel_rfl) (by cbv <;> rfl) (by cbv <;> rfl) (by kernel_rfl) rfl ?_
  refine AnyE.tkO tr15_tidy tok hO 71 198 4722366482869645213695 (by kernel_rfl) (by kernel_rfl) (by cbv <;> rfl) (by repeat (first | exact trivial | exact hcj | refine ⟨?_, ?_⟩)) (Eqv.refl _) ?_
  refine AnyE.tkO tr15_tidy tok hO 72 199 9444732965739290427391 (by kernel_rfl) (by kernel_rfl) (by cbv <;> rfl) (by repeat (first | exact trivial | exact hcj | refine ⟨?_, ?_⟩)) (Eqv.refl _) ?_
  refine AnyE.tkO tr15_tidy tok hO 73 200 18889465931478580854783 (by kernel_rfl) (by kernel_rfl) (by cbv <;> rfl) (by repeat (first | exact trivial | exact hcj | refine ⟨?_, ?_⟩)) (Eqv.refl _) ?_
  refine AnyE.tkO tr15_tidy tok hO 74 201 37778931862957161709567 (by kernel_rfl) (by kernel_rfl) (by cbv <;> rfl) (by repeat (first | exact trivial | exact hcj | refine ⟨?_, ?_⟩)) (Eqv.refl _) ?_
  refine AnyE.tkO tr15_tidy tok hO 75 202 75557863725914323419135 (by kernel_rfl) (by kernel_rfl) (by cbv <;> rfl) (by repeat (first | exact trivial | exact hcj | refine ⟨?_, ?_⟩)) (Eqv.refl _) ?_
  refine AnyE.tkO tr15_tidy tok hO 76 203 151115727451828646838271 (by kernel_rfl) (by kernel_rfl) (by cbv <;> rfl) (by repeat (first | exact trivial | exact hcj | refine ⟨?_, ?_⟩)) (Eqv.refl _) ?_
  refine AnyE.tkO tr15_tidy tok hO 77 204 302231454903657293676543 (by kernel_rfl) (by kernel_rfl) (by cbv <;> rfl) (by repeat (first | exact trivial | exact hcj | refine ⟨?_, ?_⟩)) (Eqv.refl _) ?_
  refine AnyE.tkO tr15_tidy tok hO 78 205 604462909807314587353087 (by kernel_rfl) (by kernel_rfl) (by cbv <;> rfl) (by repeat (first | exact trivial | exact hcj | refine ⟨?_, ?_⟩)) (Eqv.refl _) ?_
  refine AnyE.tkO tr15_tidy tok hO 79 206 1208925819614629174706175 (by kernel_rfl) (by kernel_rfl) (by cbv <;> rfl) (by repeat (first | exact trivial | exact hcj | refine ⟨?_, ?_⟩)) (Eqv.refl _) ?_
  refine AnyE.tkO tr15_tidy tok hO 80 207 2417851639229258349412351 (by kernel_rfl) (by kernel_rfl) (by cbv <;> rfl) (by repeat (first | exact trivial | exact hcj | refine ⟨?_, ?_⟩)) (Eqv.refl _) ?_
  refine AnyE.tkO tr15_tidy tok hO 81 208 4835703278458516698824703 (by kernel_rfl) (by kernel_rfl) (by cbv <;> rfl) (by repeat (first | exact trivial | exact hcj | refine ⟨?_, ?_⟩)) (Eqv.refl _) ?_
  refine AnyE.tkO tr15_tidy tok hO 82 209 9671406556917033397649407 (by kernel_rfl) (by kernel_rfl) (by cbv <;> rfl) (by repeat (first | exact trivial | exact hcj | refine ⟨?_, ?_⟩)) (Eqv.refl _) ?_
  refine AnyE.tkO tr15_tidy tok hO 83 210 19342813113834066795298815 (by kernel_rfl) (by kernel_rfl) (by cbv <;> rfl) (by repeat (first | exact trivial | exact hcj | refine ⟨?_, ?_⟩)) (Eqv.refl _) ?_
  refine AnyE.cpN h5 84 211 38685626227668133590597631 (by kernel_rfl) (by kernel_rfl) (by cbv <;> rfl) (by cbv <;> rfl) (by kernel_rfl) rfl ?_
  refine AnyE.tkO tr15_tidy tok hO 85 212 77371252455336267181195263 (by kernel_rfl) (by kernel_rfl) (by cbv <;> rfl) (by repeat (first | exact trivial | exact hcj | refine ⟨?_, ?_⟩)) (Eqv.refl _) ?_
  refine AnyE.tkO tr15_tidy tok hO 86 213 154742504910672534362390527 (by kernel_rfl) (by kernel_rfl) (by cbv <;> rfl) (by repeat (first | exact trivial | exact hcj | refine ⟨?_, ?_⟩)) (Eqv.refl _) ?_
  refine AnyE.done (by kernel_rfl) ?_
  refine SW.condS (t := false) (by kernel_rfl) (fun h => absurd h (by decide)) (fun _ => SW.skip ?_)
  exact midK.mk (by kernel_rfl) (by kernel_rfl) ⟨(by show _ = _; kernel_rfl), (by show _ = _; kernel_rfl), (by show _ = _; kernel_rfl), (by show _ = _; kernel_rfl), (by show _ = _; kernel_rfl), (by show _ = _; kernel_rfl), (by show _ = _; kernel_rfl), trivial⟩ (by kernel_rfl)
end Go.Fz
