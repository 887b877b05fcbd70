/- Own work of the verifier of watercress: FzEn3. -/
import Derived.Test.YtpefamheopplnaaMf31
set_option linter.unusedVariables false
set_option linter.unusedSimpArgs false
namespace Go.Fz
open Go.Proofs
set_option maxRecDepth 100000
set_option linter.unusedVariables false
noncomputable def enOpsP : {a : Array Oper // nthC 3 endB = .region 19 a true} := ⟨_, by rfl⟩
noncomputable def enOps : Array Oper := enOpsP.1
def enOpsM : List Nat := [0, 0, 2, 0, 14, 30, 62, 127, 0, 0, 512, 0, 3584, 7680, 15872, 32512, 0, 65536, 0, 458752, 983040, 0, 2097152, 0, 14680064, 31457280, 65011712, 134152192, 0, 268435456, 0, 1879048192, 4026531840, 0, 8589934592, 0, 60129542144, 128849018880, 266287972352, 549487378432, 0, 1099511627776, 0, 7696581394432, 16492674416640, 0, 35184372088832, 0, 246290604621824, 527765581332480, 1090715534753792, 2250700302057472, 0, 4503599627370496, 0, 31525197391593472, 67553994410557440, 0, 144115188075855872, 0, 1008806316530991104, 2161727821137838080, 4467570830351532032, 9218868437227405312, 0, 18446744073709551616, 0, 73786976294838206464, 221360928884514619392, 571849066284996100096, 0, 1180591620717411303424, 0, 4722366482869645213696, 14167099448608935641088, 36598340242239750406144, 0, 75557863725914323419136, 0, 302231454903657293676544, 906694364710971881029632, 2342293775503344025993216, 0, 4835703278458516698824704, 0, 19342813113834066795298816, 58028439341502200385896448, 149906801632214017663565824, 309485009821345068724781055, 0, 1237940039285380274899124223]
theorem enOps_tidy : tidyB enOps enOpsM = true := by kernel_rfl
theorem enOps_size : enOps.size = 91 := by kernel_rfl
set_option maxHeartbeats 16000000 in
theorem en_d (d : DayD) (k : Nat) (hk : k < d.nw) (N v : Int) (M : Nat) (hM : M < 100000) (F S : Nat → Nat → Int) (lo0 hi0 lo1 hi1 lo2 hi2 : Nat → Int) (p q r s t u y z : Int) (g : Nat → AV) (O : Ar) (hO : O = std) (i : Nat) (m x : Int) (bu le : Nat → Int) (hh ll ff sp : Int) (h : AllP (fun p => g p.1 = p.2) [(3, .ptr 0 0), (7, iV (Int.ofNat k)), (8, iV N), (9, .ptr 1 0), (11, iV v), (13, trsV M d.nw d.nl F S), (14, iV m), (15, iV (Int.ofNat i)), (16, .ptr 2 0), (17, iV x)]) :
    SW Try.prog none (nthC 3 endB) (midK 237 [(3, .ptr 0 0), (7, iV (Int.ofNat k)), (8, iV N), (9, .ptr 1 0), (11, iV v), (13, trsV M d.nw d.nl F S), (14, iV m), (15, iV (Int.ofNat i)), (18, .ptr 3 0)] ⟨(3, .cells none false [.sb (O.cmp .eql x (lo0 (O.nat (Int.ofNat k)))), .sb (O.cmp .eql x (hi0 (O.nat (Int.ofNat k)))), .sb (O.cmp .eql (bu (O.nat (Int.ofNat k))) (lo1 (O.nat (Int.ofNat k)))), .sb (O.cmp .eql (bu (O.nat (Int.ofNat k))) (hi1 (O.nat (Int.ofNat k)))), .sb (O.cmp .eql (le (O.nat (Int.ofNat k))) (lo2 (O.nat (Int.ofNat k)))), .sb (O.cmp .eql (le (O.nat (Int.ofNat k))) (hi2 (O.nat (Int.ofNat k)))), .sb (O.cmp .eql hh p), .sb (O.cmp .eql hh q), .sb (O.cmp .eql ff t), .sb (O.cmp .eql ff u)]) :: (2, .cells none false [intsV d.nw false bu, intsV d.nw false le, iV hh, iV ll, iV ff, iV sp]) :: [(1, .cells none false (bndC d.nw lo0 hi0 lo1 hi1 lo2 hi2 p q r s t u y z)), (0, .cells none false (dayC d))], 4⟩) ⟨⟨237, g⟩, []⟩ ⟨(2, .cells none false [intsV d.nw false bu, intsV d.nw false le, iV hh, iV ll, iV ff, iV sp]) :: [(1, .cells none false (bndC d.nw lo0 hi0 lo1 hi1 lo2 hi2 p q r s t u y z)), (0, .cells none false (dayC d))], 3⟩ := by
  have hc2 : 0 ≤ Int.ofNat k ∧ Int.ofNat k < (d.nw : Int) := ⟨Int.natCast_nonneg k, Int.ofNat_lt.2 hk⟩
  obtain ⟨g3, g7, g8, g9, g11, g13, g14, g15, g16, g17, _⟩ := h
  simp only at g3 g7 g8 g9 g11 g13 g14 g15 g16 g17
  rw [← updT_self g3, ← updT_self g7, ← updT_self g8, ← updT_self g9, ← updT_self g11, ← updT_self g13, ← updT_self g14, ← updT_self g15, ← updT_self g16, ← updT_self g17]
  refine (show SW Try.prog none (.region 19 enOps true) _ _ _ from ?_)
  refine SW.drawnB tok (M := enOpsM) mixed 91 enOps_tidy enOps_size (by kernel_rfl) ?_
  refine AnyE.tk enOps_tidy tok 0 131 1 (by kernel_rfl) (by kernel_rfl) (by cbv <;> rfl) (Eqv.refl _) ?_
  refine AnyE.tk enOps_tidy tok 1 132 3 (by kernel_rfl) (by kernel_rfl) (by cbv <;> rfl) (Eqv.refl _) ?_
  refine AnyE.tk enOps_tidy tok 2 133 7 (by kernel_rfl) (by kernel_rfl) (by cbv <;> rfl) (Eqv.refl _) ?_
  refine AnyE.tk enOps_tidy tok 3 134 15 (by kernel_rfl) (by kernel_rfl) (by cbv <;> rfl) (Eqv.refl _) ?_
  refine AnyE.tk enOps_tidy tok 4 135 31 (by kernel_rfl) (by kernel_rfl) (lv_of hO (by cbv <;> rfl) (by first | exact hc2 | exact ⟨hc2, trivial⟩)) (Eqv.refl _) ?_
  refine AnyE.tk enOps_tidy tok 5 136 63 (by kernel_rfl) (by kernel_rfl) (by cbv <;> rfl) (Eqv.refl _) ?_
  refine AnyE.tk enOps_tidy tok 6 137 127 (by kernel_rfl) (by kernel_rfl) (by cbv <;> rfl) (Eqv.refl _) ?_
  refine AnyE.tk enOps_tidy tok 7 138 255 (by kernel_rfl) (by kernel_rfl) (lv_of hO (by cbv <;> rfl) (by trivial)) (Eqv.refl _) ?_
  refine AnyE.tk enOps_tidy tok 8 139 511 (by kernel_rfl) (by kernel_rfl) (by cbv <;> rfl) (Eqv.refl _) ?_
  refine AnyE.tk enOps_tidy tok 9 140 1023 (by kernel_rfl) (by kernel_rfl) (by cbv <;> rfl) (Eqv.refl _) ?_
  refine AnyE.tk enOps_tidy tok 10 141 2047 (by kernel_rfl) (by kernel_rfl) (by cbv <;> rfl) (Eqv.refl _) ?_
  refine AnyE.tk enOps_tidy tok 11 142 4095 (by kernel_rfl) (by kernel_rfl) (by cbv <;> rfl) (Eqv.refl _) ?_
  refine AnyE.tk enOps_tidy tok 12 143 8191 (by kernel_rfl) (by kernel_rfl) (lv_of hO (by cbv <;> rfl) (by first | exact hc2 | exact ⟨hc2, trivial⟩)) (Eqv.refl _) ?_
  refine AnyE.tk enOps_tidy tok 13 144 16383 (by kernel_rfl) (by kernel_rfl) (by cbv <;> rfl) (Eqv.refl _) ?_
  refine AnyE.tk enOps_tidy tok 14 145 32767 (by kernel_rfl) (by kernel_rfl) (by cbv <;> rfl) (Eqv.refl _) ?_
  refine AnyE.tk enOps_tidy tok 15 146 65535 (by kernel_rfl) (by kernel_rfl) (lv_of hO (by cbv <;> rfl) (by trivial)) (Eqv.refl _) ?_
  refine AnyE.tk enOps_tidy tok 16 147 131071 (by kernel_rfl) (by kernel_rfl) (by cbv <;> rfl) (Eqv.refl _) ?_
  refine AnyE.tk enOps_tidy tok 17 148 262143 (by kernel_rfl) (by kernel_rfl) (by cbv <;> rfl) (Eqv.refl _) ?_
  refine AnyE.tk enOps_tidy tok 18 149 524287 (by kernel_rfl) (by kernel_rfl) (by cbv <;> rfl) (Eqv.refl _) ?_
  refine AnyE.tk enOps_tidy tok 19 150 1048575 (by kernel_rfl) (by kernel_rfl) (lv_of hO (by cbv <;> rfl) (by first | exact hc2 | exact ⟨hc2, trivial⟩)) (Eqv.refl _) ?_
  refine AnyE.tk enOps_tidy tok 20 151 2097151 (by kernel_rfl) (by kernel_rfl) (by cbv <;> rfl) (Eqv.refl _) ?_
  refine AnyE.tk enOps_tidy tok 21 152 4194303 (by kernel_rfl) (by kernel_rfl) (by cbv <;> rfl) (Eqv.refl _) ?_
  refine AnyE.tk enOps_tidy tok 22 153 8388607 (by kernel_rfl) (by kernel_rfl) (by cbv <;> rfl) (Eqv.refl _) ?_
  refine AnyE.tk enOps_tidy tok 23 154 16777215 (by kernel_rfl) (by kernel_rfl) (by cbv <;> rfl) (Eqv.refl _) ?_
  refine AnyE.tk enOps_tidy tok 24 155 33554431 (by kernel_rfl) (by kernel_rfl) (lv_of hO (by cbv <;> rfl) (by first | exact hc2 | exact ⟨hc2, trivial⟩)) (Eqv.refl _) ?_
  refine AnyE.tk enOps_tidy tok 25 156 67108863 (by kernel_rfl) (by kernel_rfl) (by cbv <;> rfl) (Eqv.refl _) ?_
  refine AnyE.tk enOps_tidy tok 26 157 134217727 (by kernel_rfl) (by kernel_rfl) (by cbv <;> rfl) (Eqv.refl _) ?_
  refine AnyE.tk enOps_tidy tok 27 158 268435455 (by kernel_rfl) (by kernel_rfl) (lv_of hO (by cbv <;> rfl) (by trivial)) (Eqv.refl _) ?_
  refine AnyE.tk enOps_tidy tok 28 159 536870911 (by kernel_rfl) (by kernel_rfl) (by cbv <;> rfl) (Eqv.refl _) ?_
  refine AnyE.tk enOps_tidy tok 29 160 1073741823 (by kernel_rfl) (by kernel_rfl) (by cbv <;> rfl) (Eqv.refl _) ?_
  refine AnyE.tk enOps_tidy tok 30 161 2147483647 (by kernel_rfl) (by kernel_rfl) (by cbv <;> rfl) (Eqv.refl _) ?_
  refine AnyE.tk enOps_tidy tok 31 162 4294967295 (by kernel_rfl) (by kernel_rfl) (lv_of hO (by cbv <;> rfl) (by first | exact hc2 | exact ⟨hc2, trivial⟩)) (Eqv.refl _) ?_
  refine AnyE.tk enOps_tidy tok 32 163 8589934591 (by kernel_rfl) (by kernel_rfl) (by cbv <;> rfl) (Eqv.refl _) ?_
  refine AnyE.tk enOps_tidy tok 33 164 17179869183 (by kernel_rfl) (by kernel_rfl) (by cbv <;> rfl) (Eqv.refl _) ?_
  refine AnyE.tk enOps_tidy tok 34 165 34359738367 (by kernel_rfl) (by kernel_rfl) (by cbv <;> rfl) (Eqv.refl _) ?_
  refine AnyE.tk enOps_tidy tok 35 166 68719476735 (by kernel_rfl) (by kernel_rfl) (by cbv <;> rfl) (Eqv.refl _) ?_
  refine AnyE.tk enOps_tidy tok 36 167 137438953471 (by kernel_rfl) (by kernel_rfl) (lv_of hO (by cbv <;> rfl) (by first | exact hc2 | exact ⟨hc2, trivial⟩)) (Eqv.refl _) ?_
  refine AnyE.tk enOps_tidy tok 37 168 274877906943 (by kernel_rfl) (by kernel_rfl) (by cbv <;> rfl) (Eqv.refl _) ?_
  refine AnyE.tk enOps_tidy tok 38 169 549755813887 (by kernel_rfl) (by kernel_rfl) (by cbv <;> rfl) (Eqv.refl _) ?_
  refine AnyE.tk enOps_tidy tok 39 170 1099511627775 (by kernel_rfl) (by kernel_rfl) (lv_of hO (by cbv <;> rfl) (by trivial)) (Eqv.refl _) ?_
  refine AnyE.tk enOps_tidy tok 40 171 2199023255551 (by kernel_rfl) (by kernel_rfl) (by cbv <;> rfl) (Eqv.refl _) ?_
  refine AnyE.tk enOps_tidy tok 41 172 4398046511103 (by kernel_rfl) (by kernel_rfl) (by cbv <;> rfl) (Eqv.refl _) ?_
  refine AnyE.tk enOps_tidy tok 42 173 8796093022207 (by kernel_rfl) (by kernel_rfl) (by cbv <;> rfl) (Eqv.refl _) ?_
  refine AnyE.tk enOps_tidy tok 43 174 17592186044415 (by kernel_rfl) (by kernel_rfl) (lv_of hO (by cbv <;> rfl) (by first | exact hc2 | exact ⟨hc2, trivial⟩)) (Eqv.refl _) ?_
  refine AnyE.tk enOps_tidy tok 44 175 35184372088831 (by kernel_rfl) (by kernel_rfl) (by cbv <;> rfl) (Eqv.refl _) ?_
  refine AnyE.tk enOps_tidy tok 45 176 70368744177663 (by kernel_rfl) (by kernel_rfl) (by cbv <;> rfl) (Eqv.refl _) ?_
  refine AnyE.tk enOps_tidy tok 46 177 140737488355327 (by kernel_rfl) (by kernel_rfl) (by cbv <;> rfl) (Eqv.refl _) ?_
  refine AnyE.tk enOps_tidy tok 47 178 281474976710655 (by kernel_rfl) (by kernel_rfl) (by cbv <;> rfl) (Eqv.refl _) ?_
  refine AnyE.tk enOps_tidy tok 48 179 562949953421311 (by kernel_rfl) (by kernel_rfl) (lv_of hO (by cbv <;> rfl) (by first | exact hc2 | exact ⟨hc2, trivial⟩)) (Eqv.refl _) ?_
  refine AnyE.tk enOps_tidy tok 49 180 1125899906842623 (by kernel_rfl) (by kernel_rfl) (by cbv <;> rfl) (Eqv.refl _) ?_
  refine AnyE.tk enOps_tidy tok 50 181 2251799813685247 (by kernel_rfl) (by kernel_rfl) (by cbv <;> rfl) (Eqv.refl _) ?_
  refine AnyE.tk enOps_tidy tok 51 182 4503599627370495 (by kernel_rfl) (by kernel_rfl) (lv_of hO (by cbv <;> rfl) (by trivial)) (Eqv.refl _) ?_
  refine AnyE.tk enOps_tidy tok 52 183 9007199254740991 (by kernel_rfl) (by kernel_rfl) (by cbv <;> rfl) (Eqv.refl _) ?_
  refine AnyE.tk enOps_tidy tok 53 184 18014398509481983 (by kernel_rfl) (by kernel_rfl) (by cbv <;> rfl) (Eqv.refl _) ?_
  refine AnyE.tk enOps_tidy tok 54 185 36028797018963967 (by kernel_rfl) (by kernel_rfl) (by cbv <;> rfl) (Eqv.refl _) ?_
  refine AnyE.tk enOps_tidy tok 55 186 72057594037927935 (by kernel_rfl) (by kernel_rfl) (lv_of hO (by cbv <;> rfl) (by first | exact hc2 | exact ⟨hc2, trivial⟩)) (Eqv.refl _) ?_
  refine AnyE.tk enOps_tidy tok 56 187 144115188075855871 (by kernel_rfl) (by kernel_rfl) (by cbv <;> rfl) (Eqv.refl _) ?_
  refine AnyE.tk enOps_tidy tok 57 188 288230376151711743 (by kernel_rfl) (by kernel_rfl) (by cbv <;> rfl) (Eqv.refl _) ?_
  refine AnyE.tk enOps_tidy tok 58 189 576460752303423487 (by kernel_rfl) (by kernel_rfl) (by cbv <;> rfl) (Eqv.refl _) ?_
  refine AnyE.tk enOps_tidy tok 59 190 1152921504606846975 (by kernel_rfl) (by kernel_rfl) (by cbv <;> rfl) (Eqv.refl _) ?_
  refine AnyE.tk enOps_tidy tok 60 191 2305843009213693951 (by kernel_rfl) (by kernel_rfl) (lv_of hO (by cbv <;> rfl) (by first | exact hc2 | exact ⟨hc2, trivial⟩)) (Eqv.refl _) ?_
  refine AnyE.tk enOps_tidy tok 61 192 4611686018427387903 (by kernel_rfl) (by kernel_rfl) (by cbv <;> rfl) (Eqv.refl _) ?_
  refine AnyE.tk enOps_tidy tok 62 193 9223372036854775807 (by kernel_rfl) (by kernel_rfl) (by cbv <;> rfl) (Eqv.refl _) ?_
  refine AnyE.tk enOps_tidy tok 63 194 18446744073709551615 (by kernel_rfl) (by kernel_rfl) (lv_of hO (by cbv <;> rfl) (by trivial)) (Eqv.refl _) ?_
  refine AnyE.tk enOps_tidy tok 64 195 36893488147419103231 (by kernel_rfl) (by kernel_rfl) (by cbv <;> rfl) (Eqv.refl _) ?_
  refine AnyE.tk enOps_tidy tok 65 196 73786976294838206463 (by kernel_rfl) (by kernel_rfl) (by cbv <;> rfl) (Eqv.refl _) ?_
  refine AnyE.tk enOps_tidy tok 66 197 147573952589676412927 (by kernel_rfl) (by kernel_rfl) (by cbv <;> rfl) (Eqv.refl _) ?_
  refine AnyE.tk enOps_tidy tok 67 198 295147905179352825855 (by kernel_rfl) (by kernel_rfl) (by cbv <;> rfl) (Eqv.refl _) ?_
  refine AnyE.tk enOps_tidy tok 68 199 590295810358705651711 (by kernel_rfl) (by kernel_rfl) (by cbv <;> rfl) (Eqv.refl _) ?_
  refine AnyE.tk enOps_tidy tok 69 200 1180591620717411303423 (by kernel_rfl) (by kernel_rfl) (lv_of hO (by cbv <;> rfl) (by trivial)) (Eqv.refl _) ?_
  refine AnyE.tk enOps_tidy tok 70 201 2361183241434822606847 (by kernel_rfl) (by kernel_rfl) (by cbv <;> rfl) (Eqv.refl _) ?_
  refine AnyE.tk enOps_tidy tok 71 202 4722366482869645213695 (by kernel_rfl) (by kernel_rfl) (by cbv <;> rfl) (Eqv.refl _) ?_
  refine AnyE.tk enOps_tidy tok 72 203 9444732965739290427391 (by kernel_rfl) (by kernel_rfl) (by cbv <;> rfl) (Eqv.refl _) ?_
  refine AnyE.tk enOps_tidy tok 73 204 18889465931478580854783 (by kernel_rfl) (by kernel_rfl) (by cbv <;> rfl) (Eqv.refl _) ?_
  refine AnyE.tk enOps_tidy tok 74 205 37778931862957161709567 (by kernel_rfl) (by kernel_rfl) (by cbv <;> rfl) (Eqv.refl _) ?_
  refine AnyE.tk enOps_tidy tok 75 206 75557863725914323419135 (by kernel_rfl) (by kernel_rfl) (lv_of hO (by cbv <;> rfl) (by trivial)) (Eqv.refl _) ?_
  refine AnyE.tk enOps_tidy tok 76 207 151115727451828646838271 (by kernel_rfl) (by kernel_rfl) (by cbv <;> rfl) (Eqv.refl _) ?_
  refine AnyE.tk enOps_tidy tok 77 208 302231454903657293676543 (by kernel_rfl) (by kernel_rfl) (by cbv <;> rfl) (Eqv.refl _) ?_
  refine AnyE.tk enOps_tidy tok 78 209 604462909807314587353087 (by kernel_rfl) (by kernel_rfl) (by cbv <;> rfl) (Eqv.refl _) ?_
  refine AnyE.tk enOps_tidy tok 79 210 1208925819614629174706175 (by kernel_rfl) (by kernel_rfl) (by cbv <;> rfl) (Eqv.refl _) ?_
  refine AnyE.tk enOps_tidy tok 80 211 2417851639229258349412351 (by kernel_rfl) (by kernel_rfl) (by cbv <;> rfl) (Eqv.refl _) ?_
  refine AnyE.tk enOps_tidy tok 81 212 4835703278458516698824703 (by kernel_rfl) (by kernel_rfl) (lv_of hO (by cbv <;> rfl) (by trivial)) (Eqv.refl _) ?_
  refine AnyE.tk enOps_tidy tok 82 213 9671406556917033397649407 (by kernel_rfl) (by kernel_rfl) (by cbv <;> rfl) (Eqv.refl _) ?_
  refine AnyE.tk enOps_tidy tok 83 214 19342813113834066795298815 (by kernel_rfl) (by kernel_rfl) (by cbv <;> rfl) (Eqv.refl _) ?_
  refine AnyE.tk enOps_tidy tok 84 215 38685626227668133590597631 (by kernel_rfl) (by kernel_rfl) (by cbv <;> rfl) (Eqv.refl _) ?_
  refine AnyE.tk enOps_tidy tok 85 216 77371252455336267181195263 (by kernel_rfl) (by kernel_rfl) (by cbv <;> rfl) (Eqv.refl _) ?_
  refine AnyE.tk enOps_tidy tok 86 217 154742504910672534362390527 (by kernel_rfl) (by kernel_rfl) (by cbv <;> rfl) (Eqv.refl _) ?_
  refine AnyE.tk enOps_tidy tok 87 218 309485009821345068724781055 (by kernel_rfl) (by kernel_rfl) (lv_of hO (by cbv <;> rfl) (by trivial)) (Eqv.refl _) ?_
  refine AnyE.tk enOps_tidy tok 88 219 618970019642690137449562111 (by kernel_rfl) (by kernel_rfl) (by cbv <;> rfl) (Eqv.refl _) ?_
  refine AnyE.many [89] (by kernel_rfl) (by rfl) ⟨?_, trivial⟩
  refine PickE.eff tok hO (by cbv <;> rfl) (by cbv <;> rfl) (by trivial) ?_ ?_
  · exact ⟨(by cbv <;> rfl), (lv_of hO (by cbv <;> rfl) (by trivial)), (by cbv <;> rfl), (by cbv <;> rfl), (by cbv <;> rfl), (by cbv <;> rfl), (by cbv <;> rfl), (lv_of hO (by cbv <;> rfl) (by trivial)), (by cbv <;> rfl), (by cbv <;> rfl), (by cbv <;> rfl), (by cbv <;> rfl), (by cbv <;> rfl), (lv_of hO (by cbv <;> rfl) (by trivial)), (by cbv <;> rfl), (by cbv <;> rfl), (by cbv <;> rfl), (by cbv <;> rfl), (by cbv <;> rfl), (lv_of hO (by cbv <;> rfl) (by trivial)), (by cbv <;> rfl), (by cbv <;> rfl), (by cbv <;> rfl), (by cbv <;> rfl), (by cbv <;> rfl), (lv_of hO (by cbv <;> rfl) (by trivial)), (by cbv <;> rfl), (by cbv <;> rfl), (lv_of hO (by cbv <;> rfl) (by first | exact hc2 | exact ⟨hc2, trivial⟩)), (by cbv <;> rfl), (by cbv <;> rfl), (by cbv <;> rfl), (by cbv <;> rfl), (lv_of hO (by cbv <;> rfl) (by first | exact hc2 | exact ⟨hc2, trivial⟩)), (by cbv <;> rfl), (by cbv <;> rfl), (by cbv <;> rfl), (lv_of hO (by cbv <;> rfl) (by trivial)), (by cbv <;> rfl), (by cbv <;> rfl), (lv_of hO (by cbv <;> rfl) (by first | exact hc2 | exact ⟨hc2, trivial⟩)), (by cbv <;> rfl), (by cbv <;> rfl), (by cbv <;> rfl), (by cbv <;> rfl), (lv_of hO (by cbv <;> rfl) (by first | exact hc2 | exact ⟨hc2, trivial⟩)), (by cbv <;> rfl), (by cbv <;> rfl), (by cbv <;> rfl), (lv_of hO (by cbv <;> rfl) (by trivial)), (by cbv <;> rfl), (by cbv <;> rfl), (lv_of hO (by cbv <;> rfl) (by first | exact hc2 | exact ⟨hc2, trivial⟩)), (by cbv <;> rfl), (by cbv <;> rfl), (by cbv <;> rfl), (by cbv <;> rfl), (lv_of hO (by cbv <;> rfl) (by first | exact hc2 | exact ⟨hc2, trivial⟩)), (by cbv <;> rfl), (by cbv <;> rfl), (by cbv <;> rfl), (lv_of hO (by cbv <;> rfl) (by trivial)), (by cbv <;> rfl), (by cbv <;> rfl), (lv_of hO (by cbv <;> rfl) (by first | exact hc2 | exact ⟨hc2, trivial⟩)), (by cbv <;> rfl), (by cbv <;> rfl), (by cbv <;> rfl), (by cbv <;> rfl), (lv_of hO (by cbv <;> rfl) (by first | exact hc2 | exact ⟨hc2, trivial⟩)), (by cbv <;> rfl), (by cbv <;> rfl), (by cbv <;> rfl), (lv_of hO (by cbv <;> rfl) (by trivial)), (by cbv <;> rfl), (by cbv <;> rfl), (lv_of hO (by cbv <;> rfl) (by first | exact hc2 | exact ⟨hc2, trivial⟩)), (by cbv <;> rfl), (by cbv <;> rfl), (by cbv <;> rfl), (by cbv <;> rfl), (lv_of hO (by cbv <;> rfl) (by trivial)), (by cbv <;> rfl), (by cbv <;> rfl), (lv_of hO (by cbv <;> rfl) (by first | exact hc2 | exact ⟨hc2, trivial⟩)), (by cbv <;> rfl), (by cbv <;> rfl), (by cbv <;> rfl), (by cbv <;> rfl), trivial⟩
  refine AnyE.ls (n := 91) 1237940039285380274899124223 (by kernel_rfl) rfl ?_
  refine AnyE.many [90] (by kernel_rfl) (by rfl) ⟨?_, trivial⟩
  refine PickE.eff tok hO (by cbv <;> rfl) (by cbv <;> rfl) (by trivial) ?_ ?_
  · exact (by repeat (first | exact trivial | refine And.intro (by cbv <;> rfl) ?_))
  refine AnyE.ls (n := 91) 2475880078570760549798248447 (by kernel_rfl) rfl ?_
  refine AnyE.done (by kernel_rfl) ?_
  exact ⟨rfl, _, rfl, ⟨rfl, rfl, rfl, rfl, rfl, rfl, rfl, rfl, rfl, trivial⟩, rfl⟩
end Go.Fz
