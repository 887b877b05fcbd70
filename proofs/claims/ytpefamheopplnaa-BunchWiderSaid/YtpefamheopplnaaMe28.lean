/- Own work of the verifier of watercress: FzW3l, FzW3c, FzW6, FzL3a, FzW1x, FzW2a. -/
import Derived.Test.YtpefamheopplnaaMe27
import Derived.Test.YtpefamheopplnaaMe18
set_option linter.unusedVariables false
set_option linter.unusedSimpArgs false
namespace Go.Fz
open Go.Proofs
set_option maxRecDepth 100000
set_option linter.unusedVariables false
set_option maxHeartbeats 16000000 in
theorem wi_6l (d : DayD) (x0 lw hg : Int) (W C : AV) (k : Nat) (hk : k < d.nl) (hN : d.nl < 1000) (a b : Int) (G G2 : List AV) (hG : G = flatG 3 (lotC d) d.nl) (hG2 : G2 = flatG 3 (lotC (d.wL k a b)) d.nl) (g : Nat → AV) (O : Ar) (hO : O = std)
    (hs : O.cmp .eql (O.bin .rem .u8 x0 3) 1 = true) (hK : O.bin .rem .i64 (O.bin .quo .i64 (O.conv .i64 x0) 3) (Int.ofNat d.nl) = Int.ofNat k) (ha : O.mx 0 (O.bin .sub .i64 (d.llo k) lw) = a) (hb : O.mn 5000 (O.bin .add .i64 (d.lhi k) hg) = b) (h : AllP (fun p => g p.1 = p.2) (wiM x0 lw hg)) :
    SW Try.prog none (nthC 6 (bodyF Try.f11)) (midK 223 (wiM x0 lw hg) (wiS d [(3, .cells none false G2)] W (.sl 3 0 d.nl 3 false) C 5)) ⟨⟨223, g⟩, []⟩ (wiS d [(3, .cells none false G)] W (.sl 3 0 d.nl 3 false) C 5) := by
  obtain ⟨g1, g3, g7, g8, g9, _⟩ := h
  simp only at g1 g3 g7 g8 g9
  rw [← updT_self g1, ← updT_self g3, ← updT_self g7, ← updT_self g8, ← updT_self g9]
  have hlen : G.length = d.nl * 3 := by rw [hG, flatG_length]
  have hle : k * 3 + 3 ≤ d.nl * 3 := by
    have := Nat.mul_le_mul_right 3 (show k + 1 ≤ d.nl from hk)
    omega
  have hc0 : G[k * 3 + 1]? = some (iV (d.llo k)) := by rw [hG]; exact flatG_get 3 _ _ k 1 hk (by omega)
  have hc1 : G[k * 3 + 2]? = some (iV (d.lhi k)) := by rw [hG]; exact flatG_get 3 _ _ k 2 hk (by omega)
  have hl0 : ∀ q, q = 0 + k * 3 → G[q + 1 + 0]? = some (iV (d.llo k)) := fun q h => by rw [← hc0, h]; congr 1; omega
  have hl1 : ∀ q, q = 0 + k * 3 → G[q + 1 + 1]? = some (iV (d.lhi k)) := fun q h => by rw [← hc1, h]; congr 1; omega
  have hb0 : ∀ q, q = 0 + k * 3 → q + 1 + 0 < G.length := fun q h => by rw [hlen, h]; omega
  have hb1 : ∀ q, q = 0 + k * 3 → q + 1 + 1 < G.length := fun q h => by rw [hlen, h]; omega
  have hz : O.cmp .gtr (Int.ofNat d.nl) 0 = true := by subst hO; simp [std]; omega
  refine SW.seqRun tok hO (by cbv <;> rfl) (by trivial) ?_
  refine SW.seqRun tok hO (by cbv <;> rfl) (by repeat (first | exact trivial | (show (_ : Int) ≠ 0; decide) | refine ⟨?_, ?_⟩)) ?_
  refine OpsW.splitG (by cbv <;> rfl) (fun _ => ?_) (fun h => absurd (show true = false from hs.symm.trans h) (by decide))
  refine OpsW.run tok hO (by cbv <;> rfl) (by trivial) ?_
  refine SW.condS (by cbv <;> rfl) (fun _ => ?_) (fun h => absurd (show true = false from hz.symm.trans h) (by decide))
  have hfin : ∀ q, q = 0 + k * 3 → ∀ G1, G1 = G.set (q + 1 + 0) (iV (O.mx 0 (O.bin .sub .i64 (d.llo k) lw))) → ∀ G3, G3 = G1.set (q + 1 + 1) (iV (O.mn 5000 (O.bin .add .i64 (d.lhi k) hg))) → G3 = G2 := fun q hq G1 h1 G3 h3 => by
    rw [h3, h1, ha, hb, hG, hG2, show q + 1 + 1 = k * 3 + 2 by omega, show q + 1 + 0 = k * 3 + 1 by omega]
    exact flat_wL d k a b hk
  have hne : Int.ofNat d.nl ≠ 0 := by
    have : (d.nl : Int) ≠ 0 := by omega
    exact this
  refine SW.seqRunD tok mixed hO (by kernel_rfl) (by cbv <;> rfl) (by repeat (first | exact trivial | exact hne | (show (_ : Int) ≠ 0; decide) | refine ⟨?_, ?_⟩)) ?_
  refine AnyE.idxSl tok 7 (n := k) (by rfl) ((show idxAt _ 7 _ = some (23, .sl 3 0 d.nl 3 false, .lit (.int .i64 (O.bin .rem .i64 (O.bin .quo .i64 (O.conv .i64 x0) 3) (Int.ofNat d.nl)))) from by cbv <;> rfl).trans (congrArg (fun z => some (23, AV.sl 3 0 d.nl 3 false, AV.lit (.int .i64 z))) hK)) (by kernel_rfl) hk (by cbv <;> rfl) fun q hq => ?_
  refine AnyE.run tok hO (by rfl) (by cbv <;> rfl) (by trivial) ?_
  refine SW.runD tok mixed hO (by kernel_rfl) (by cbv <;> rfl) (by trivial) ?_
  refine AnyE.many [3, 10] (by cbv <;> rfl) (by rfl) ⟨?_, ?_, trivial⟩
  · refine PickE.nilC (by cbv <;> rfl) (by cbv <;> rfl) ?_ ?_
    · exact (by repeat (first | exact trivial | refine And.intro (by first | exact lv_of hO (by cbv <;> rfl) (by trivial) | (cbv <;> rfl)) ?_))
    refine AnyE.runN tok hO 1 (by rfl) (by cbv <;> rfl) (by trivial) ?_
    refine AnyE.ldD tok (by rfl) 5 (by cbv <;> rfl) (load_at (by kernel_rfl) (by rfl) (hl0 _ hq)) (by kernel_rfl) ?_
    refine AnyE.run tok hO (by rfl) (by cbv <;> rfl) (by trivial) ?_
    refine AnyE.nilC (by cbv <;> rfl) (by cbv <;> rfl) ?_
    refine AnyE.runN tok hO 1 (by rfl) (by cbv <;> rfl) (by trivial) ?_
    refine AnyE.ldD tok (by rfl) 12 (by cbv <;> rfl) (load_at (by kernel_rfl) (by rfl) (hl1 _ hq)) (by kernel_rfl) ?_
    refine AnyE.run tok hO (by rfl) (by cbv <;> rfl) (by trivial) ?_
    refine AnyE.nilC (by cbv <;> rfl) (by cbv <;> rfl) ?_
    refine AnyE.run tok hO (by rfl) (by cbv <;> rfl) (by trivial) ?_
    refine AnyE.stoK (id := 3) (G := G) tok (by cbv <;> rfl) (by cbv <;> rfl) (by kernel_rfl) (by rfl) ?_ fun G1 hG1 => ⟨?_, ?_⟩
    · exact hb0 _ hq
    · exact (by repeat (first | exact trivial | refine And.intro (by first | exact lv_of hO (by cbv <;> rfl) (by trivial) | (cbv <;> rfl)) ?_))
    refine AnyE.run tok hO (by rfl) (by cbv <;> rfl) (by trivial) ?_
    refine AnyE.nilC (by cbv <;> rfl) (by cbv <;> rfl) ?_
    refine AnyE.run tok hO (by rfl) (by cbv <;> rfl) (by trivial) ?_
    refine AnyE.sto (id := 3) (G := G1) tok (by cbv <;> rfl) (by cbv <;> rfl) (by kernel_rfl) (by rfl) ?_ fun G3 hG3 => ?_
    · rw [hG1, List.length_set]; exact hb1 _ hq
    refine AnyE.done (by rfl) ?_
    refine ⟨rfl, _, rfl, ⟨rfl, rfl, rfl, rfl, rfl, trivial⟩, ?_⟩
    rw [← hfin _ hq G1 hG1 G3 hG3]
    rfl
  · refine PickE.nilC (by cbv <;> rfl) (by cbv <;> rfl) ?_ ?_
    · exact (by repeat (first | exact trivial | refine And.intro (by first | exact lv_of hO (by cbv <;> rfl) (by trivial) | (cbv <;> rfl)) ?_))
    refine AnyE.runN tok hO 1 (by rfl) (by cbv <;> rfl) (by trivial) ?_
    refine AnyE.ldD tok (by rfl) 12 (by cbv <;> rfl) (load_at (by kernel_rfl) (by rfl) (hl1 _ hq)) (by kernel_rfl) ?_
    refine AnyE.run tok hO (by rfl) (by cbv <;> rfl) (by trivial) ?_
    refine AnyE.nilC (by cbv <;> rfl) (by cbv <;> rfl) ?_
    refine AnyE.runN tok hO 1 (by rfl) (by cbv <;> rfl) (by trivial) ?_
    refine AnyE.ldD tok (by rfl) 5 (by cbv <;> rfl) (load_at (by kernel_rfl) (by rfl) (hl0 _ hq)) (by kernel_rfl) ?_
    refine AnyE.run tok hO (by rfl) (by cbv <;> rfl) (by trivial) ?_
    refine AnyE.nilC (by cbv <;> rfl) (by cbv <;> rfl) ?_
    refine AnyE.run tok hO (by rfl) (by cbv <;> rfl) (by trivial) ?_
    refine AnyE.stoK (id := 3) (G := G) tok (by cbv <;> rfl) (by cbv <;> rfl) (by kernel_rfl) (by rfl) ?_ fun G1 hG1 => ⟨?_, ?_⟩
    · exact hb0 _ hq
    · exact (by repeat (first | exact trivial | refine And.intro (by first | exact lv_of hO (by cbv <;> rfl) (by trivial) | (cbv <;> rfl)) ?_))
    refine AnyE.run tok hO (by rfl) (by cbv <;> rfl) (by trivial) ?_
    refine AnyE.nilC (by cbv <;> rfl) (by cbv <;> rfl) ?_
    refine AnyE.run tok hO (by rfl) (by cbv <;> rfl) (by trivial) ?_
    refine AnyE.sto (id := 3) (G := G1) tok (by cbv <;> rfl) (by cbv <;> rfl) (by kernel_rfl) (by rfl) ?_ fun G3 hG3 => ?_
    · rw [hG1, List.length_set]; exact hb1 _ hq
    refine AnyE.done (by rfl) ?_
    refine ⟨rfl, _, rfl, ⟨rfl, rfl, rfl, rfl, rfl, trivial⟩, ?_⟩
    rw [← hfin _ hq G1 hG1 G3 hG3]
    rfl
end Go.Fz
namespace Go.Fz
open Go.Proofs
set_option maxRecDepth 100000
set_option linter.unusedVariables false
set_option maxHeartbeats 16000000 in
theorem wi_7c (d : DayD) (x0 lw hg : Int) (W L : AV) (k : Nat) (hk : k < d.nc) (hN : d.nc < 1000) (a b : Int) (G G2 : List AV) (hG : G = flatG 4 (cntC d) d.nc) (hG2 : G2 = flatG 4 (cntC (d.wC k a b)) d.nc) (g : Nat → AV) (O : Ar) (hO : O = std)
    (hs : O.cmp .eql (O.bin .rem .u8 x0 3) 2 = true) (hK : O.bin .rem .i64 (O.bin .quo .i64 (O.conv .i64 x0) 3) (Int.ofNat d.nc) = Int.ofNat k) (ha : O.mx 0 (O.bin .sub .i64 (d.clo k) lw) = a) (hb : O.mn 20000 (O.bin .add .i64 (d.chi k) hg) = b) (h : AllP (fun p => g p.1 = p.2) (wiM x0 lw hg)) :
    SW Try.prog none (nthC 7 (bodyF Try.f11)) (midK 223 (wiM x0 lw hg) (wiS d [(4, .cells none false G2)] W L (.sl 4 0 d.nc 4 false) 5)) ⟨⟨223, g⟩, []⟩ (wiS d [(4, .cells none false G)] W L (.sl 4 0 d.nc 4 false) 5) := by
  obtain ⟨g1, g3, g7, g8, g9, _⟩ := h
  simp only at g1 g3 g7 g8 g9
  rw [← updT_self g1, ← updT_self g3, ← updT_self g7, ← updT_self g8, ← updT_self g9]
  have hlen : G.length = d.nc * 4 := by rw [hG, flatG_length]
  have hle : k * 4 + 4 ≤ d.nc * 4 := by
    have := Nat.mul_le_mul_right 4 (show k + 1 ≤ d.nc from hk)
    omega
  have hc0 : G[k * 4 + 2]? = some (iV (d.clo k)) := by rw [hG]; exact flatG_get 4 _ _ k 2 hk (by omega)
  have hc1 : G[k * 4 + 3]? = some (iV (d.chi k)) := by rw [hG]; exact flatG_get 4 _ _ k 3 hk (by omega)
  have hl0 : ∀ q, q = 0 + k * 4 → G[q + 2 + 0]? = some (iV (d.clo k)) := fun q h => by rw [← hc0, h]; congr 1; omega
  have hl1 : ∀ q, q = 0 + k * 4 → G[q + 2 + 1]? = some (iV (d.chi k)) := fun q h => by rw [← hc1, h]; congr 1; omega
  have hb0 : ∀ q, q = 0 + k * 4 → q + 2 + 0 < G.length := fun q h => by rw [hlen, h]; omega
  have hb1 : ∀ q, q = 0 + k * 4 → q + 2 + 1 < G.length := fun q h => by rw [hlen, h]; omega
  have hz : O.cmp .gtr (Int.ofNat d.nc) 0 = true := by subst hO; simp [std]; omega
  refine SW.seqRun tok hO (by cbv <;> rfl) (by trivial) ?_
  refine SW.seqRun tok hO (by cbv <;> rfl) (by repeat (first | exact trivial | (show (_ : Int) ≠ 0; decide) | refine ⟨?_, ?_⟩)) ?_
  refine OpsW.splitG (by cbv <;> rfl) (fun _ => ?_) (fun h => absurd (show true = false from hs.symm.trans h) (by decide))
  refine OpsW.run tok hO (by cbv <;> rfl) (by trivial) ?_
  refine SW.condS (by cbv <;> rfl) (fun _ => ?_) (fun h => absurd (show true = false from hz.symm.trans h) (by decide))
  have hfin : ∀ q, q = 0 + k * 4 → ∀ G1, G1 = G.set (q + 2 + 0) (iV (O.mx 0 (O.bin .sub .i64 (d.clo k) lw))) → ∀ G3, G3 = G1.set (q + 2 + 1) (iV (O.mn 20000 (O.bin .add .i64 (d.chi k) hg))) → G3 = G2 := fun q hq G1 h1 G3 h3 => by
    rw [h3, h1, ha, hb, hG, hG2, show q + 2 + 1 = k * 4 + 3 by omega, show q + 2 + 0 = k * 4 + 2 by omega]
    exact flat_wC d k a b hk
  have hne : Int.ofNat d.nc ≠ 0 := by
    have : (d.nc : Int) ≠ 0 := by omega
    exact this
  refine SW.seqRunD tok mixed hO (by kernel_rfl) (by cbv <;> rfl) (by repeat (first | exact trivial | exact hne | (show (_ : Int) ≠ 0; decide) | refine ⟨?_, ?_⟩)) ?_
  refine AnyE.idxSl tok 7 (n := k) (by rfl) ((show idxAt _ 7 _ = some (24, .sl 4 0 d.nc 4 false, .lit (.int .i64 (O.bin .rem .i64 (O.bin .quo .i64 (O.conv .i64 x0) 3) (Int.ofNat d.nc)))) from by cbv <;> rfl).trans (congrArg (fun z => some (24, AV.sl 4 0 d.nc 4 false, AV.lit (.int .i64 z))) hK)) (by kernel_rfl) hk (by cbv <;> rfl) fun q hq => ?_
  refine AnyE.run tok hO (by rfl) (by cbv <;> rfl) (by trivial) ?_
  refine SW.runD tok mixed hO (by kernel_rfl) (by cbv <;> rfl) (by trivial) ?_
  refine AnyE.many [3, 10] (by cbv <;> rfl) (by rfl) ⟨?_, ?_, trivial⟩
  · refine PickE.nilC (by cbv <;> rfl) (by cbv <;> rfl) ?_ ?_
    · exact (by repeat (first | exact trivial | refine And.intro (by first | exact lv_of hO (by cbv <;> rfl) (by trivial) | (cbv <;> rfl)) ?_))
    refine AnyE.runN tok hO 1 (by rfl) (by cbv <;> rfl) (by trivial) ?_
    refine AnyE.ldD tok (by rfl) 5 (by cbv <;> rfl) (load_at (by kernel_rfl) (by rfl) (hl0 _ hq)) (by kernel_rfl) ?_
    refine AnyE.run tok hO (by rfl) (by cbv <;> rfl) (by trivial) ?_
    refine AnyE.nilC (by cbv <;> rfl) (by cbv <;> rfl) ?_
    refine AnyE.runN tok hO 1 (by rfl) (by cbv <;> rfl) (by trivial) ?_
    refine AnyE.ldD tok (by rfl) 12 (by cbv <;> rfl) (load_at (by kernel_rfl) (by rfl) (hl1 _ hq)) (by kernel_rfl) ?_
    refine AnyE.run tok hO (by rfl) (by cbv <;> rfl) (by trivial) ?_
    refine AnyE.nilC (by cbv <;> rfl) (by cbv <;> rfl) ?_
    refine AnyE.run tok hO (by rfl) (by cbv <;> rfl) (by trivial) ?_
    refine AnyE.stoK (id := 4) (G := G) tok (by cbv <;> rfl) (by cbv <;> rfl) (by kernel_rfl) (by rfl) ?_ fun G1 hG1 => ⟨?_, ?_⟩
    · exact hb0 _ hq
    · exact (by repeat (first | exact trivial | refine And.intro (by first | exact lv_of hO (by cbv <;> rfl) (by trivial) | (cbv <;> rfl)) ?_))
    refine AnyE.run tok hO (by rfl) (by cbv <;> rfl) (by trivial) ?_
    refine AnyE.nilC (by cbv <;> rfl) (by cbv <;> rfl) ?_
    refine AnyE.run tok hO (by rfl) (by cbv <;> rfl) (by trivial) ?_
    refine AnyE.sto (id := 4) (G := G1) tok (by cbv <;> rfl) (by cbv <;> rfl) (by kernel_rfl) (by rfl) ?_ fun G3 hG3 => ?_
    · rw [hG1, List.length_set]; exact hb1 _ hq
    refine AnyE.done (by rfl) ?_
    refine ⟨rfl, _, rfl, ⟨rfl, rfl, rfl, rfl, rfl, trivial⟩, ?_⟩
    rw [← hfin _ hq G1 hG1 G3 hG3]
    rfl
  · refine PickE.nilC (by cbv <;> rfl) (by cbv <;> rfl) ?_ ?_
    · exact (by repeat (first | exact trivial | refine And.intro (by first | exact lv_of hO (by cbv <;> rfl) (by trivial) | (cbv <;> rfl)) ?_))
    refine AnyE.runN tok hO 1 (by rfl) (by cbv <;> rfl) (by trivial) ?_
    refine AnyE.ldD tok (by rfl) 12 (by cbv <;> rfl) (load_at (by kernel_rfl) (by rfl) (hl1 _ hq)) (by kernel_rfl) ?_
    refine AnyE.run tok hO (by rfl) (by cbv <;> rfl) (by trivial) ?_
    refine AnyE.nilC (by cbv <;> rfl) (by cbv <;> rfl) ?_
    refine AnyE.runN tok hO 1 (by rfl) (by cbv <;> rfl) (by trivial) ?_
    refine AnyE.ldD tok (by rfl) 5 (by cbv <;> rfl) (load_at (by kernel_rfl) (by rfl) (hl0 _ hq)) (by kernel_rfl) ?_
    refine AnyE.run tok hO (by rfl) (by cbv <;> rfl) (by trivial) ?_
    refine AnyE.nilC (by cbv <;> rfl) (by cbv <;> rfl) ?_
    refine AnyE.run tok hO (by rfl) (by cbv <;> rfl) (by trivial) ?_
    refine AnyE.stoK (id := 4) (G := G) tok (by cbv <;> rfl) (by cbv <;> rfl) (by kernel_rfl) (by rfl) ?_ fun G1 hG1 => ⟨?_, ?_⟩
    · exact hb0 _ hq
    · exact (by repeat (first | exact trivial | refine And.intro (by first | exact lv_of hO (by cbv <;> rfl) (by trivial) | (cbv <;> rfl)) ?_))
    refine AnyE.run tok hO (by rfl) (by cbv <;> rfl) (by trivial) ?_
    refine AnyE.nilC (by cbv <;> rfl) (by cbv <;> rfl) ?_
    refine AnyE.run tok hO (by rfl) (by cbv <;> rfl) (by trivial) ?_
    refine AnyE.sto (id := 4) (G := G1) tok (by cbv <;> rfl) (by cbv <;> rfl) (by kernel_rfl) (by rfl) ?_ fun G3 hG3 => ?_
    · rw [hG1, List.length_set]; exact hb1 _ hq
    refine AnyE.done (by rfl) ?_
    refine ⟨rfl, _, rfl, ⟨rfl, rfl, rfl, rfl, rfl, trivial⟩, ?_⟩
    rw [← hfin _ hq G1 hG1 G3 hG3]
    rfl
end Go.Fz
namespace Go.Fz
open Go.Proofs
set_option maxRecDepth 100000
set_option linter.unusedVariables false
section
variable {P : Program}
theorem AllP.mk {α : Type} {p : α → Prop} : ∀ {l : List α}, (∀ a ∈ l, p a) → AllP p l
  | [], _ => trivial
  | a :: l, h => ⟨h a List.mem_cons_self, AllP.mk fun b hb => h b (List.mem_cons_of_mem _ hb)⟩
theorem SW.frzB {rd : Option Nat} {c : Code} {Q : Exit → Fm → St → Prop} {len : Nat} {g : Nat → AV} {S S2 : St} {l : List (Nat × AV)} (D : Nat → Bool) (hf : freeB S.h D = true) (hS : S.keepZ D 3 = S2) (hl : AllP (fun p => frz S.h D 3 p.2 = p.2) l) (h : AllP (fun p => g p.1 = p.2) l)
    (H : ∀ g', AllP (fun p => g' p.1 = p.2) l → SW P rd c Q ⟨⟨len, g'⟩, []⟩ S2) : SW P rd c Q ⟨⟨len, g⟩, []⟩ S := by
  refine SW.freezeZ D 3 hf ?_
  show SW P rd c Q ⟨⟨len, fun i => frz S.h D 3 (g i)⟩, []⟩ (S.keepZ D 3)
  rw [hS]
  refine H _ (AllP.mk fun p hp => ?_)
  show frz S.h D 3 (g p.1) = p.2
  rw [h.ok p hp]
  exact hl.ok p hp
end
theorem flatG_lit {sz : Nat} {g : Nat → Nat → AV} (h : ∀ i k, ∃ n, g i k = iV n) : ∀ n, ∀ a ∈ flatG sz g n, ∃ z, a = iV z
  | 0, a, ha => by cases ha
  | n + 1, a, ha => by
    simp only [flatG, List.mem_append] at ha
    rcases ha with ha | ha
    · exact flatG_lit h n a ha
    · obtain ⟨i, hi⟩ := List.mem_iff_getElem?.1 ha
      rw [cellsFrom_get] at hi
      split at hi
      · cases hi; exact h n _
      · cases hi
theorem frz_map {H : Hp} {D : Nat → Bool} {sz n : Nat} {g : Nat → Nat → AV} {G : List AV} (hG : G = flatG sz g n) (h : ∀ i k, ∃ n, g i k = iV n) : G.map (frz H D 3) = G := by
  have : ∀ a ∈ G, frz H D 3 a = a := fun a ha => by
    rw [hG] at ha
    obtain ⟨z, rfl⟩ := flatG_lit h n a ha
    rfl
  clear hG
  induction G with
  | nil => rfl
  | cons a G ih => rw [List.map_cons, this a List.mem_cons_self, ih fun b hb => this b (List.mem_cons_of_mem _ hb)]
theorem frz_list {H : Hp} {D : Nat → Bool} {id sz n : Nat} {ex : Bool} {g : Nat → Nat → AV} {G : List AV} (hd : D id = true) (hg : H.get id = some (.cells none false G)) (hG : G = flatG sz g n) (h : ∀ i k, ∃ n, g i k = iV n) :
    ∃ f, frz H D 3 (.sl id 0 n sz ex) = .isl n sz ex f ∧ Eqv (.isl n sz ex f) (.isl n sz false g) := by
  refine ⟨_, frz_slX hd hg (by rw [hG, flatG_length]; exact Nat.le_refl _), fun φ u hv => ?_⟩
  have h1 : Eqv (.isl n sz ex (fun i k => frz H D 2 (G.getD (0 + i * sz + k) .any))) (.isl n sz false (fun i k => frz H D 2 (G.getD (0 + i * sz + k) .any))) := by
    cases ex
    · exact Eqv.refl _
    · exact Eqv.room
  refine Eqv.isl rfl (fun i k hi hk => Eqv.of ?_) φ u (h1 φ u hv)
  rw [hG]
  exact frz_flat hi hk (by obtain ⟨z, hz⟩ := h i k; rw [hz]; rfl)
theorem womC_lit (d : DayD) (i k : Nat) : ∃ n, womC d i k = iV n := by unfold womC; split <;> exact ⟨_, rfl⟩
theorem lotC_lit (d : DayD) (i k : Nat) : ∃ n, lotC d i k = iV n := by unfold lotC; split <;> exact ⟨_, rfl⟩
theorem cntC_lit (d : DayD) (i k : Nat) : ∃ n, cntC d i k = iV n := by unfold cntC; split <;> exact ⟨_, rfl⟩
theorem res3 {O : Ar} (hO : O = std) {x : Int} (h0 : 0 ≤ x) (h1 : x ≤ 255) : (O.cmp .eql (O.bin .rem .u8 x 3) 0 = true ∧ O.cmp .eql (O.bin .rem .u8 x 3) 1 = false ∧ O.cmp .eql (O.bin .rem .u8 x 3) 2 = false) ∨
    (O.cmp .eql (O.bin .rem .u8 x 3) 0 = false ∧ O.cmp .eql (O.bin .rem .u8 x 3) 1 = true ∧ O.cmp .eql (O.bin .rem .u8 x 3) 2 = false) ∨ (O.cmp .eql (O.bin .rem .u8 x 3) 0 = false ∧ O.cmp .eql (O.bin .rem .u8 x 3) 1 = false ∧ O.cmp .eql (O.bin .rem .u8 x 3) 2 = true) := by
  subst hO
  have hr : std.bin .rem .u8 x 3 = x.tmod 3 := rfl
  rw [hr]
  obtain ⟨m1, m2⟩ := tmod_in (q := x) (z := 3) h0 (by omega)
  generalize x.tmod 3 = r at m1 m2
  have : r = 0 ∨ r = 1 ∨ r = 2 := by omega
  rcases this with rfl | rfl | rfl
  · exact .inl ⟨rfl, rfl, rfl⟩
  · exact .inr (.inl ⟨rfl, rfl, rfl⟩)
  · exact .inr (.inr ⟨rfl, rfl, rfl⟩)
theorem quo_in {a z : Int} (h0 : 0 ≤ a) (h1 : a ≤ 255) (hz : 1 ≤ z) : std.bin .quo .i64 (std.conv .i64 a) z = a / z := by
  show wrp .i64 ((wrp .i64 a).tdiv z) = _
  have h2 : 0 ≤ a / z := Int.ediv_nonneg h0 (by omega)
  have h3 : a / z ≤ a := Int.ediv_le_self z h0
  rw [wrp_in (n := a) (by simp only [IntKind.lo]; omega) (by simp only [IntKind.hi]; omega), Int.tdiv_eq_ediv_of_nonneg h0]
  exact wrp_in (by simp only [IntKind.lo]; omega) (by simp only [IntKind.hi]; omega)
theorem pick3 {O : Ar} (hO : O = std) {a : Int} {n : Nat} (h0 : 0 ≤ a) (h1 : a ≤ 255) (hn : 0 < n) : ∃ k : Nat, k < n ∧ O.bin .rem .i64 (O.bin .quo .i64 (O.conv .i64 a) 3) (Int.ofNat n) = Int.ofNat k := by
  subst hO
  rw [quo_in h0 h1 (by omega)]
  have h2 : 0 ≤ a / 3 := by omega
  have hn' : (1 : Int) ≤ Int.ofNat n := by
    have : (1 : Int) ≤ (n : Int) := by omega
    exact this
  obtain ⟨m1, m2⟩ := tmod_in (q := a / 3) (z := Int.ofNat n) h2 hn'
  obtain ⟨k, hk⟩ := Int.eq_ofNat_of_zero_le m1
  refine ⟨k, ?_, hk⟩
  rw [hk] at m2
  exact Int.ofNat_lt.1 m2
theorem low_in {O : Ar} (hO : O = std) {l lw c : Int} (hl : 0 ≤ lw ∧ lw ≤ 2) (hc : 0 ≤ c ∧ c ≤ l) (hz : l ≤ 20000) : O.mx c (O.bin .sub .i64 l lw) ≤ l := by
  subst hO
  have hw : std.bin .sub .i64 l lw = l - lw := wrp_in (by simp only [IntKind.lo]; omega) (by simp only [IntKind.hi]; omega)
  rw [hw]
  simp only [std]
  split <;> omega
theorem high_in {O : Ar} (hO : O = std) {h hg c : Int} (hl : 0 ≤ hg ∧ hg ≤ 2) (hc : 0 ≤ h ∧ h ≤ c) (hz : c ≤ 20000) : h ≤ O.mn c (O.bin .add .i64 h hg) := by
  subst hO
  have hw : std.bin .add .i64 h hg = h + hg := wrp_in (by simp only [IntKind.lo]; omega) (by simp only [IntKind.hi]; omega)
  rw [hw]
  simp only [std]
  split <;> omega
theorem part_in {O : Ar} (hO : O = std) {x : Int} (h0 : 0 ≤ x) (h1 : x ≤ 255) : (0 ≤ O.bin .rem .i64 (O.conv .i64 x) 3 ∧ O.bin .rem .i64 (O.conv .i64 x) 3 ≤ 2) ∧ (0 ≤ O.bin .rem .i64 (O.bin .quo .i64 (O.conv .i64 x) 4) 3 ∧ O.bin .rem .i64 (O.bin .quo .i64 (O.conv .i64 x) 4) 3 ≤ 2) := by
  subst hO
  rw [quo_in h0 h1 (by omega)]
  have hc : std.conv .i64 x = x := wrp_in (by simp only [IntKind.lo]; omega) (by simp only [IntKind.hi]; omega)
  rw [hc]
  have t1 := tmod_in (q := x) (z := 3) h0 (by omega)
  have t2 := tmod_in (q := x / 4) (z := 3) (by omega) (by omega)
  exact ⟨⟨t1.1, by have := t1.2; show x.tmod 3 ≤ 2; omega⟩, t2.1, by have := t2.2; show (x / 4).tmod 3 ≤ 2; omega⟩
theorem wider_W {d : DayD} {k : Nat} {a b : Int} (ha : a ≤ d.wlo k) (hb : d.whi k ≤ b) : Wider d (d.wW k a b) :=
  ⟨⟨rfl, rfl, rfl, rfl, rfl⟩, rfl, rfl, rfl, fun i _ => by
    show setI d.wlo k a i ≤ d.wlo i ∧ d.whi i ≤ setI d.whi k b i
    by_cases h : i = k
    · subst h; rw [setI_self, setI_self]; exact ⟨ha, hb⟩
    · rw [setI_ne h, setI_ne h]; exact ⟨Int.le_refl _, Int.le_refl _⟩, fun _ _ => ⟨Int.le_refl _, Int.le_refl _⟩, fun _ _ => ⟨Int.le_refl _, Int.le_refl _⟩⟩
theorem wider_L {d : DayD} {k : Nat} {a b : Int} (ha : a ≤ d.llo k) (hb : d.lhi k ≤ b) : Wider d (d.wL k a b) :=
  ⟨⟨rfl, rfl, rfl, rfl, rfl⟩, rfl, rfl, rfl, fun _ _ => ⟨Int.le_refl _, Int.le_refl _⟩, fun i _ => by
    show setI d.llo k a i ≤ d.llo i ∧ d.lhi i ≤ setI d.lhi k b i
    by_cases h : i = k
    · subst h; rw [setI_self, setI_self]; exact ⟨ha, hb⟩
    · rw [setI_ne h, setI_ne h]; exact ⟨Int.le_refl _, Int.le_refl _⟩, fun _ _ => ⟨Int.le_refl _, Int.le_refl _⟩⟩
theorem wider_C {d : DayD} {k : Nat} {a b : Int} (ha : a ≤ d.clo k) (hb : d.chi k ≤ b) : Wider d (d.wC k a b) :=
  ⟨⟨rfl, rfl, rfl, rfl, rfl⟩, rfl, rfl, rfl, fun _ _ => ⟨Int.le_refl _, Int.le_refl _⟩, fun _ _ => ⟨Int.le_refl _, Int.le_refl _⟩, fun i _ => by
    show setI d.clo k a i ≤ d.clo i ∧ d.chi i ≤ setI d.chi k b i
    by_cases h : i = k
    · subst h; rw [setI_self, setI_self]; exact ⟨ha, hb⟩
    · rw [setI_ne h, setI_ne h]; exact ⟨Int.le_refl _, Int.le_refl _⟩⟩
theorem wider_N (d : DayD) : Wider d d := ⟨⟨rfl, rfl, rfl, rfl, rfl⟩, rfl, rfl, rfl, fun _ _ => ⟨Int.le_refl _, Int.le_refl _⟩, fun _ _ => ⟨Int.le_refl _, Int.le_refl _⟩, fun _ _ => ⟨Int.le_refl _, Int.le_refl _⟩⟩
end Go.Fz
namespace Go.Fz
open Go.Proofs
set_option maxRecDepth 100000
section
variable {P : Program} {T : Ti}
def lsB (n m : Nat) : Array Bool := ((List.range n).map fun i => m.testBit i).toArray
def tkB (ops : Array Oper) (pend : List (Nat × AV)) (listed : Array Bool) (i d : Nat) : Bool := match ops[i]? with
  | some o => (match o.dst with | some x => Nat.beq x d | none => false) && ((Region.ready .any ops listed).contains i && noLookB ops pend o)
  | none => false
theorem AnyE.tk {ops : Array Oper} {M : List Nat} {rd : Option Nat} {K : Fm → St → Prop} {fuel : Nat} {pend : List (Nat × AV)} {f : Fm} {st : St} (hM : tidyB ops M = true) (hT : TOk P T) {n m : Nat} (i d m' : Nat) {r0 r : AV}
    (hb : tkB ops pend (lsB n m) i d = true) (hs : (lsB n m).setIfInBounds i true = lsB n m') (hl : lightV T ops st.h f i = some r0) (he : Eqv r0 r)
    (H : AnyE P T ops M rd K fuel ((i, r) :: pend) (lsB n m') (f.put (some d) r) st) : AnyE P T ops M rd K (fuel + 1) pend (lsB n m) f st := by
  unfold tkB at hb
  split at hb
  · rename_i o ho
    rw [Bool.and_eq_true] at hb
    obtain ⟨h1, h2⟩ := hb
    have hd : o.dst = some d := by
      split at h1
      · rename_i x hx; rw [hx, Nat.eq_of_beq_eq_true h1]
      · cases h1
    refine AnyE.takeE hM hT i ho h2 ⟨r0, hl, he⟩ ?_
    rw [hs, hd]
    exact H
  · cases hb
theorem AnyE.ls {ops : Array Oper} {M : List Nat} {rd : Option Nat} {K : Fm → St → Prop} {fuel : Nat} {pend : List (Nat × AV)} {f f' : Fm} {st : St} {listed : Array Bool} {n : Nat} (m' : Nat) (hs : listed = lsB n m') (hf : f' = f) (h : AnyE P T ops M rd K fuel pend (lsB n m') f st) : AnyE P T ops M rd K fuel pend listed f' st := by
  rw [hs, hf]; exact h
theorem SW.drawnB (_hT : TOk P T) {ops : Array Oper} {M : List Nat} (hm : P.follows .mixedOrders = true) {rd : Option Nat} {id : Nat} {Q : Exit → Fm → St → Prop} {f : Fm} {st : St} (n : Nat) (hM : tidyB ops M = true) (hn : ops.size = n) (h0 : Array.replicate n false = lsB n 0)
    (h : AnyE P T ops M rd (fun f' st' => Q .normal f' st') n [] (lsB n 0) f st) : SW P rd (.region id ops true) Q f st := by
  refine SW.drawnE (T := T) hm hM ?_
  rw [hn, h0]; exact h
end
end Go.Fz
namespace Go.Fz
open Go.Proofs
set_option maxRecDepth 100000
noncomputable def wd4P : {a : Array Oper // nthC 3 (bodyF Try.f11) = .region 4 a true} := ⟨_, by rfl⟩
noncomputable def wd4 : Array Oper := wd4P.1
def wd4M : List Nat := [0, 0, 2, 7, 0, 0, 32, 127, 0, 0, 512, 2047, 15, 8191, 16383, 32767, 65535, 131071]
theorem wd4_tidy : tidyB wd4 wd4M = true := by kernel_rfl
theorem wd4_size : wd4.size = 18 := by kernel_rfl
section
variable {P : Program} {T : Ti}
theorem PickE.ef (hT : TOk P T) {O : Ar} (hO : O = std) {rd : Option Nat} {ops : Array Oper} {M : List Nat} {K : Fm → St → Prop} {fuel : Nat} {pend pend' : List (Nat × AV)} {f f' : Fm} {st st' : St} {n m j : Nat} (m' : Nat) {cs : List Cond}
    (hd : dropP M j pend = pend') (hR : runO O T ops [j] [] f st = .done cs f' st') (hc : allC cs) (hs : (lsB n m).setIfInBounds j true = lsB n m') (hk : AllP (fun p => lightV T ops st'.h f' p.1 = some p.2) pend') (h : AnyE P T ops M rd K fuel pend' (lsB n m') f' st') :
    PickE P T ops M rd K fuel pend (lsB n m) f st j := PickE.eff hT hO hd hR hc hk (by rw [hs]; exact h)
theorem AnyE.ef (hT : TOk P T) {O : Ar} (hO : O = std) {rd : Option Nat} {ops : Array Oper} {M : List Nat} {K : Fm → St → Prop} {fuel : Nat} {pend pend' : List (Nat × AV)} {f f' : Fm} {st st' : St} {n m : Nat} (j m' : Nat) {cs : List Cond}
    (hr : Region.ready .any ops (lsB n m) = [j]) (hd : dropP M j pend = pend') (hR : runO O T ops [j] [] f st = .done cs f' st') (hc : allC cs) (hs : (lsB n m).setIfInBounds j true = lsB n m') (hk : AllP (fun p => lightV T ops st'.h f' p.1 = some p.2) pend') (h : AnyE P T ops M rd K fuel pend' (lsB n m') f' st') :
    AnyE P T ops M rd K (fuel + 1) pend (lsB n m) f st := AnyE.many [j] hr rfl ⟨PickE.ef hT hO m' hd hR hc hs hk h, trivial⟩
theorem PickE.ap (hT : TOk P T) {rd : Option Nat} {ops : Array Oper} {M : List Nat} {K : Fm → St → Prop} {fuel : Nat} {pend pend' : List (Nat × AV)} {f : Fm} {st st' : St} {n m j t : Nat} {s x r : AV} (m' d : Nat)
    (hd : dropP M j pend = pend') (ha : appAt ops j f = some (t, s, x)) (hr : appendA T st t t s x = some (r, st')) (hs : (lsB n m).setIfInBounds j true = lsB n m') (hf : putAt ops j f r = f.put (some d) r) (hk : AllP (fun p => lightV T ops st'.h (putAt ops j f r) p.1 = some p.2) pend')
    (h : AnyE P T ops M rd K fuel pend' (lsB n m') (f.put (some d) r) st') : PickE P T ops M rd K fuel pend (lsB n m) f st j := PickE.app hT hd ha hr hk (by rw [hs, hf]; exact h)
theorem AnyE.ap (hT : TOk P T) {rd : Option Nat} {ops : Array Oper} {M : List Nat} {K : Fm → St → Prop} {fuel : Nat} {pend pend' : List (Nat × AV)} {f : Fm} {st st' : St} {n m t : Nat} {s x r : AV} (j m' d : Nat) (hq : Region.ready .any ops (lsB n m) = [j])
    (hd : dropP M j pend = pend') (ha : appAt ops j f = some (t, s, x)) (hr : appendA T st t t s x = some (r, st')) (hs : (lsB n m).setIfInBounds j true = lsB n m') (hf : putAt ops j f r = f.put (some d) r) (hk : AllP (fun p => lightV T ops st'.h (putAt ops j f r) p.1 = some p.2) pend')
    (h : AnyE P T ops M rd K fuel pend' (lsB n m') (f.put (some d) r) st') : AnyE P T ops M rd K (fuel + 1) pend (lsB n m) f st := AnyE.many [j] hq rfl ⟨PickE.ap hT m' d hd ha hr hs hf hk h, trivial⟩
end
theorem wide_fin {d : DayD} {x0 x1 : Int} {nL nC : Nat} {eL eC : Bool} {GW GL GC : List AV} {f1 : Fm} {st1 : St} (hWb : ∀ a ∈ GW, Below 0 a) (hLb : ∀ a ∈ GL, Below 0 a) (hCb : ∀ a ∈ GC, Below 0 a) (a b c : Nat)
    (hinj : ([4, 3, 2, 1, 0].all fun p => [4, 3, 2, 1, 0].all fun q => !(Nat.beq (tabR [(2, a), (3, b), (4, c)] p) (tabR [(2, a), (3, b), (4, c)] q)) || Nat.beq p q) = true)
    (h1 : 223 = f1.ts.len) (h2 : [] = f1.dm) (e1 : f1.ts.get 1 = .lit (.int .u8 x0)) (e2 : f1.ts.get 2 = .lit (.int .u8 x1)) (e3 : f1.ts.get 3 = .ptr 0 0) (e7 : f1.ts.get 7 = .ptr 1 0)
    (s4 : st1.h.get c = some (.cells none false GC)) (s3 : st1.h.get b = some (.cells none false GL)) (s2 : st1.h.get a = some (.cells none false GW)) (s1 : st1.h.get 1 = some (.cells none false [iV d.hand, iV d.flat, .sl a 0 d.nw 2 false, .sl b 0 nL 3 eL, .sl c 0 nC 4 eC])) (s0 : st1.h.get 0 = some (.cells none false (dayC d))) :
    ∃ ρ f2 st2, WeakR 2 ρ f1 st1 f2 st2 ∧ midK 223 (wiL x0 x1) (wiS d [(4, .cells none false GC), (3, .cells none false GL), (2, .cells none false GW)] (.sl 2 0 d.nw 2 false) (.sl 3 0 nL 3 eL) (.sl 4 0 nC 4 eC) 5) .normal f2 st2 := by
  refine ⟨tabR [(2, a), (3, b), (4, c)], ⟨⟨223, getT (wiL x0 x1)⟩, []⟩, wiS d [(4, .cells none false GC), (3, .cells none false GL), (2, .cells none false GW)] (.sl 2 0 d.nw 2 false) (.sl 3 0 nL 3 eL) (.sl 4 0 nC 4 eC) 5, ?_, rfl, _, rfl, ⟨rfl, rfl, rfl, rfl, trivial⟩, rfl⟩
  refine WeakR.tab h1 h2 (by simp) (by rfl) (by show 2 ≤ 5; omega) hinj ⟨by show RenV _ 5 (.lit (.int .u8 x0)) (f1.ts.get 1); rw [e1]; exact RenV.closed Below.lit, by show RenV _ 5 (.lit (.int .u8 x1)) (f1.ts.get 2); rw [e2]; exact RenV.closed Below.lit, by show RenV _ 5 (.ptr 0 0) (f1.ts.get 3); rw [e3]; exact RenV.ptr (ρ := tabR [(2, a), (3, b), (4, c)]) (j := 0) (by omega), by show RenV _ 5 (.ptr 1 0) (f1.ts.get 7); rw [e7]; exact RenV.ptr (ρ := tabR [(2, a), (3, b), (4, c)]) (j := 1) (by omega), trivial⟩ ⟨⟨by omega, _, s4, .cells (RenVs.closed hCb), rfl⟩, ⟨by omega, _, s3, .cells (RenVs.closed hLb), rfl⟩, ⟨by omega, _, s2, .cells (RenVs.closed hWb), rfl⟩, ⟨by omega, _, s1, .cells (.cons (RenV.closed Below.lit) (.cons (RenV.closed Below.lit) (.cons (RenV.sl (ρ := tabR [(2, a), (3, b), (4, c)]) (j := 2) (by omega)) (.cons (RenV.sl (ρ := tabR [(2, a), (3, b), (4, c)]) (j := 3) (by omega)) (.cons (RenV.sl (ρ := tabR [(2, a), (3, b), (4, c)]) (j := 4) (by omega)) .nil))))), rfl⟩, ⟨by omega, _, s0, .cells (RenVs.closed (dayC_below d)), rfl⟩, trivial⟩
end Go.Fz
namespace Go.Fz
open Go.Proofs
set_option maxRecDepth 100000
set_option linter.unusedVariables false
set_option maxHeartbeats 64000000 in
theorem wide_4zz (d : DayD) (x0 x1 : Int) (GW : List AV) (hGW : GW = flatG 2 (womC d) d.nw) (h0 : 0 < d.nw) (hnw : d.nw < 1048576) (hl : d.nl = 0) (hc : d.nc = 0) (g : Nat → AV) (O : Ar) (hO : O = std) (h : AllP (fun p => g p.1 = p.2) (wiL x0 x1)) :
    SW Try.prog none (nthC 3 (bodyF Try.f11)) (midK 223 (wiL x0 x1) (wiS d [(4, .cells none false []), (3, .cells none false []), (2, .cells none false GW)] (.sl 2 0 d.nw 2 false) (.sl 3 0 0 3 true) (.sl 4 0 0 4 true) 5)) ⟨⟨223, g⟩, []⟩ (wiS d [] (womsV d) (lotsV d) (cntsV d) 2) := by
  obtain ⟨g1, g2, g3, g7, _⟩ := h
  simp only at g1 g2 g3 g7
  rw [← updT_self g1, ← updT_self g2, ← updT_self g3, ← updT_self g7]
  have hWb : ∀ a ∈ GW, Below 0 a := by rw [hGW]; exact flatG_below (fun i j => by unfold womC; split <;> exact Below.lit) _
  have hLb : ∀ a ∈ ([] : List AV), Below 0 a := fun a h => by cases h
  have hCb : ∀ a ∈ ([] : List AV), Below 0 a := fun a h => by cases h
  refine SW.ren ?_
  refine (show SW Try.prog none (.region 4 wd4 true) _ _ _ from ?_)
  refine SW.drawnB tok (M := wd4M) mixed 18 wd4_tidy wd4_size (by kernel_rfl) ?_
  refine AnyE.tk wd4_tidy tok 1 29 2 (by kernel_rfl) (by kernel_rfl) (by cbv <;> rfl) (Eqv.refl _) ?_
  refine AnyE.tk wd4_tidy tok 2 30 6 (by kernel_rfl) (by kernel_rfl) (by cbv <;> rfl) (Eqv.refl _) ?_
  refine AnyE.tk wd4_tidy tok 5 33 38 (by kernel_rfl) (by kernel_rfl) (by cbv <;> rfl) (Eqv.refl _) ?_
  refine AnyE.tk wd4_tidy tok 6 34 102 (by kernel_rfl) (by kernel_rfl) (by cbv <;> rfl) (Eqv.refl _) ?_
  refine AnyE.tk wd4_tidy tok 9 37 614 (by kernel_rfl) (by kernel_rfl) (by cbv <;> rfl) (Eqv.refl _) ?_
  refine AnyE.tk wd4_tidy tok 10 38 1638 (by kernel_rfl) (by kernel_rfl) (by cbv <;> rfl) (Eqv.refl _) ?_
  refine AnyE.many [0, 4, 8] (by kernel_rfl) (by rfl) ⟨?_, ?_, ?_, trivial⟩
  · refine PickE.ef tok hO 1639 (by cbv <;> rfl) (by cbv <;> rfl) (by trivial) (by kernel_rfl) (by repeat (first | exact trivial | refine And.intro (by cbv <;> rfl) ?_)) ?_
    refine AnyE.many [3, 4, 8] (by kernel_rfl) (by rfl) ⟨?_, ?_, ?_, trivial⟩
    · refine PickE.ap tok 1647 31 (by cbv <;> rfl) (by cbv <;> rfl) (append_emptyG (by kernel_rfl) (by rfl) hnw h0 (fun i k => womC_one d i k) hGW) (by kernel_rfl) rfl (by repeat (first | exact trivial | refine And.intro (by cbv <;> rfl) ?_)) ?_
      refine AnyE.tk wd4_tidy tok 12 40 5743 (by kernel_rfl) (by kernel_rfl) (by cbv <;> rfl) (Eqv.refl _) ?_
      refine AnyE.many [4, 8] (by kernel_rfl) (by rfl) ⟨?_, ?_, trivial⟩
      · refine PickE.ef tok hO 5759 (by cbv <;> rfl) (by cbv <;> rfl) (by trivial) (by kernel_rfl) (by repeat (first | exact trivial | refine And.intro (by cbv <;> rfl) ?_)) ?_
        refine AnyE.many [7, 8] (by kernel_rfl) (by rfl) ⟨?_, ?_, trivial⟩
        · refine PickE.ap tok 5887 35 (by cbv <;> rfl) (by cbv <;> rfl) (append_noneZ hl (by kernel_rfl) (by rfl)) (by kernel_rfl) rfl (by repeat (first | exact trivial | refine And.intro (by cbv <;> rfl) ?_)) ?_
          refine AnyE.ef tok hO 8 6143 (by kernel_rfl) (by cbv <;> rfl) (by cbv <;> rfl) (by trivial) (by kernel_rfl) (by repeat (first | exact trivial | refine And.intro (by cbv <;> rfl) ?_)) ?_
          refine AnyE.ap tok 11 8191 39 (by kernel_rfl) (by cbv <;> rfl) (by cbv <;> rfl) (append_noneZ hc (by kernel_rfl) (by rfl)) (by kernel_rfl) rfl (by repeat (first | exact trivial | refine And.intro (by cbv <;> rfl) ?_)) ?_
          refine AnyE.ef tok hO 13 16383 (by kernel_rfl) (by cbv <;> rfl) (by cbv <;> rfl) (by trivial) (by kernel_rfl) (by repeat (first | exact trivial | refine And.intro (by cbv <;> rfl) ?_)) ?_
          refine AnyE.tk wd4_tidy tok 14 41 32767 (by kernel_rfl) (by kernel_rfl) (by cbv <;> rfl) (Eqv.refl _) ?_
          refine AnyE.ef tok hO 15 65535 (by kernel_rfl) (by cbv <;> rfl) (by cbv <;> rfl) (by trivial) (by kernel_rfl) (by repeat (first | exact trivial | refine And.intro (by cbv <;> rfl) ?_)) ?_
          refine AnyE.tk wd4_tidy tok 16 42 131071 (by kernel_rfl) (by kernel_rfl) (by cbv <;> rfl) (Eqv.refl _) ?_
          refine AnyE.ef tok hO 17 262143 (by kernel_rfl) (by cbv <;> rfl) (by cbv <;> rfl) (by trivial) (by kernel_rfl) (by repeat (first | exact trivial | refine And.intro (by cbv <;> rfl) ?_)) ?_
          refine AnyE.done (by kernel_rfl) ?_
          exact wide_fin hWb hLb hCb 3 4 5 rfl rfl rfl rfl rfl rfl rfl rfl rfl rfl rfl rfl
        · refine PickE.ef tok hO 6015 (by cbv <;> rfl) (by cbv <;> rfl) (by trivial) (by kernel_rfl) (by repeat (first | exact trivial | refine And.intro (by cbv <;> rfl) ?_)) ?_
          refine AnyE.ap tok 7 6143 35 (by kernel_rfl) (by cbv <;> rfl) (by cbv <;> rfl) (append_noneZ hl (by kernel_rfl) (by rfl)) (by kernel_rfl) rfl (by repeat (first | exact trivial | refine And.intro (by cbv <;> rfl) ?_)) ?_
          refine AnyE.ap tok 11 8191 39 (by kernel_rfl) (by cbv <;> rfl) (by cbv <;> rfl) (append_noneZ hc (by kernel_rfl) (by rfl)) (by kernel_rfl) rfl (by repeat (first | exact trivial | refine And.intro (by cbv <;> rfl) ?_)) ?_
          refine AnyE.ef tok hO 13 16383 (by kernel_rfl) (by cbv <;> rfl) (by cbv <;> rfl) (by trivial) (by kernel_rfl) (by repeat (first | exact trivial | refine And.intro (by cbv <;> rfl) ?_)) ?_
          refine AnyE.tk wd4_tidy tok 14 41 32767 (by kernel_rfl) (by kernel_rfl) (by cbv <;> rfl) (Eqv.refl _) ?_
          refine AnyE.ef tok hO 15 65535 (by kernel_rfl) (by cbv <;> rfl) (by cbv <;> rfl) (by trivial) (by kernel_rfl) (by repeat (first | exact trivial | refine And.intro (by cbv <;> rfl) ?_)) ?_
          refine AnyE.tk wd4_tidy tok 16 42 131071 (by kernel_rfl) (by kernel_rfl) (by cbv <;> rfl) (Eqv.refl _) ?_
          refine AnyE.ef tok hO 17 262143 (by kernel_rfl) (by cbv <;> rfl) (by cbv <;> rfl) (by trivial) (by kernel_rfl) (by repeat (first | exact trivial | refine And.intro (by cbv <;> rfl) ?_)) ?_
          refine AnyE.done (by kernel_rfl) ?_
          exact wide_fin hWb hLb hCb 3 4 5 rfl rfl rfl rfl rfl rfl rfl rfl rfl rfl rfl rfl
      · refine PickE.ef tok hO 5999 (by cbv <;> rfl) (by cbv <;> rfl) (by trivial) (by kernel_rfl) (by repeat (first | exact trivial | refine And.intro (by cbv <;> rfl) ?_)) ?_
        refine AnyE.ef tok hO 4 6015 (by kernel_rfl) (by cbv <;> rfl) (by cbv <;> rfl) (by trivial) (by kernel_rfl) (by repeat (first | exact trivial | refine And.intro (by cbv <;> rfl) ?_)) ?_
        refine AnyE.ap tok 7 6143 35 (by kernel_rfl) (by cbv <;> rfl) (by cbv <;> rfl) (append_noneZ hl (by kernel_rfl) (by rfl)) (by kernel_rfl) rfl (by repeat (first | exact trivial | refine And.intro (by cbv <;> rfl) ?_)) ?_
        refine AnyE.ap tok 11 8191 39 (by kernel_rfl) (by cbv <;> rfl) (by cbv <;> rfl) (append_noneZ hc (by kernel_rfl) (by rfl)) (by kernel_rfl) rfl (by repeat (first | exact trivial | refine And.intro (by cbv <;> rfl) ?_)) ?_
        refine AnyE.ef tok hO 13 16383 (by kernel_rfl) (by cbv <;> rfl) (by cbv <;> rfl) (by trivial) (by kernel_rfl) (by repeat (first | exact trivial | refine And.intro (by cbv <;> rfl) ?_)) ?_
        refine AnyE.tk wd4_tidy tok 14 41 32767 (by kernel_rfl) (by kernel_rfl) (by cbv <;> rfl) (Eqv.refl _) ?_
        refine AnyE.ef tok hO 15 65535 (by kernel_rfl) (by cbv <;> rfl) (by cbv <;> rfl) (by trivial) (by kernel_rfl) (by repeat (first | exact trivial | refine And.intro (by cbv <;> rfl) ?_)) ?_
        refine AnyE.tk wd4_tidy tok 16 42 131071 (by kernel_rfl) (by kernel_rfl) (by cbv <;> rfl) (Eqv.refl _) ?_
        refine AnyE.ef tok hO 17 262143 (by kernel_rfl) (by cbv <;> rfl) (by cbv <;> rfl) (by trivial) (by kernel_rfl) (by repeat (first | exact trivial | refine And.intro (by cbv <;> rfl) ?_)) ?_
        refine AnyE.done (by kernel_rfl) ?_
        exact wide_fin hWb hLb hCb 3 5 4 rfl rfl rfl rfl rfl rfl rfl rfl rfl rfl rfl rfl
    · refine PickE.ef tok hO 1655 (by cbv <;> rfl) (by cbv <;> rfl) (by trivial) (by kernel_rfl) (by repeat (first | exact trivial | refine And.intro (by cbv <;> rfl) ?_)) ?_
      refine AnyE.many [3, 8] (by kernel_rfl) (by rfl) ⟨?_, ?_, trivial⟩
      · refine PickE.ap tok 1663 31 (by cbv <;> rfl) (by cbv <;> rfl) (append_emptyG (by kernel_rfl) (by rfl) hnw h0 (fun i k => womC_one d i k) hGW) (by kernel_rfl) rfl (by repeat (first | exact trivial | refine And.intro (by cbv <;> rfl) ?_)) ?_
        refine AnyE.tk wd4_tidy tok 12 40 5759 (by kernel_rfl) (by kernel_rfl) (by cbv <;> rfl) (Eqv.refl _) ?_
        refine AnyE.many [7, 8] (by kernel_rfl) (by rfl) ⟨?_, ?_, trivial⟩
        · refine PickE.ap tok 5887 35 (by cbv <;> rfl) (by cbv <;> rfl) (append_noneZ hl (by kernel_rfl) (by rfl)) (by kernel_rfl) rfl (by repeat (first | exact trivial | refine And.intro (by cbv <;> rfl) ?_)) ?_
          refine AnyE.ef tok hO 8 6143 (by kernel_rfl) (by cbv <;> rfl) (by cbv <;> rfl) (by trivial) (by kernel_rfl) (by repeat (first | exact trivial | refine And.intro (by cbv <;> rfl) ?_)) ?_
          refine AnyE.ap tok 11 8191 39 (by kernel_rfl) (by cbv <;> rfl) (by cbv <;> rfl) (append_noneZ hc (by kernel_rfl) (by rfl)) (by kernel_rfl) rfl (by repeat (first | exact trivial | refine And.intro (by cbv <;> rfl) ?_)) ?_
          refine AnyE.ef tok hO 13 16383 (by kernel_rfl) (by cbv <;> rfl) (by cbv <;> rfl) (by trivial) (by kernel_rfl) (by repeat (first | exact trivial | refine And.intro (by cbv <;> rfl) ?_)) ?_
          refine AnyE.tk wd4_tidy tok 14 41 32767 (by kernel_rfl) (by kernel_rfl) (by cbv <;> rfl) (Eqv.refl _) ?_
          refine AnyE.ef tok hO 15 65535 (by kernel_rfl) (by cbv <;> rfl) (by cbv <;> rfl) (by trivial) (by kernel_rfl) (by repeat (first | exact trivial | refine And.intro (by cbv <;> rfl) ?_)) ?_
          refine AnyE.tk wd4_tidy tok 16 42 131071 (by kernel_rfl) (by kernel_rfl) (by cbv <;> rfl) (Eqv.refl _) ?_
          refine AnyE.ef tok hO 17 262143 (by kernel_rfl) (by cbv <;> rfl) (by cbv <;> rfl) (by trivial) (by kernel_rfl) (by repeat (first | exact trivial | refine And.intro (by cbv <;> rfl) ?_)) ?_
          refine AnyE.done (by kernel_rfl) ?_
          exact wide_fin hWb hLb hCb 4 3 5 rfl rfl rfl rfl rfl rfl rfl rfl rfl rfl rfl rfl
        · refine PickE.ef tok hO 6015 (by cbv <;> rfl) (by cbv <;> rfl) (by trivial) (by kernel_rfl) (by repeat (first | exact trivial | refine And.intro (by cbv <;> rfl) ?_)) ?_
          refine AnyE.ap tok 7 6143 35 (by kernel_rfl) (by cbv <;> rfl) (by cbv <;> rfl) (append_noneZ hl (by kernel_rfl) (by rfl)) (by kernel_rfl) rfl (by repeat (first | exact trivial | refine And.intro (by cbv <;> rfl) ?_)) ?_
          refine AnyE.ap tok 11 8191 39 (by kernel_rfl) (by cbv <;> rfl) (by cbv <;> rfl) (append_noneZ hc (by kernel_rfl) (by rfl)) (by kernel_rfl) rfl (by repeat (first | exact trivial | refine And.intro (by cbv <;> rfl) ?_)) ?_
          refine AnyE.ef tok hO 13 16383 (by kernel_rfl) (by cbv <;> rfl) (by cbv <;> rfl) (by trivial) (by kernel_rfl) (by repeat (first | exact trivial | refine And.intro (by cbv <;> rfl) ?_)) ?_
          refine AnyE.tk wd4_tidy tok 14 41 32767 (by kernel_rfl) (by kernel_rfl) (by cbv <;> rfl) (Eqv.refl _) ?_
          refine AnyE.ef tok hO 15 65535 (by kernel_rfl) (by cbv <;> rfl) (by cbv <;> rfl) (by trivial) (by kernel_rfl) (by repeat (first | exact trivial | refine And.intro (by cbv <;> rfl) ?_)) ?_
          refine AnyE.tk wd4_tidy tok 16 42 131071 (by kernel_rfl) (by kernel_rfl) (by cbv <;> rfl) (Eqv.refl _) ?_
          refine AnyE.ef tok hO 17 262143 (by kernel_rfl) (by cbv <;> rfl) (by cbv <;> rfl) (by trivial) (by kernel_rfl) (by repeat (first | exact trivial | refine And.intro (by cbv <;> rfl) ?_)) ?_
          refine AnyE.done (by kernel_rfl) ?_
          exact wide_fin hWb hLb hCb 4 3 5 rfl rfl rfl rfl rfl rfl rfl rfl rfl rfl rfl rfl
      · refine PickE.ef tok hO 1911 (by cbv <;> rfl) (by cbv <;> rfl) (by trivial) (by kernel_rfl) (by repeat (first | exact trivial | refine And.intro (by cbv <;> rfl) ?_)) ?_
        refine AnyE.ap tok 3 1919 31 (by kernel_rfl) (by cbv <;> rfl) (by cbv <;> rfl) (append_emptyG (by kernel_rfl) (by rfl) hnw h0 (fun i k => womC_one d i k) hGW) (by kernel_rfl) rfl (by repeat (first | exact trivial | refine And.intro (by cbv <;> rfl) ?_)) ?_
        refine AnyE.tk wd4_tidy tok 12 40 6015 (by kernel_rfl) (by kernel_rfl) (by cbv <;> rfl) (Eqv.refl _) ?_
        refine AnyE.ap tok 7 6143 35 (by kernel_rfl) (by cbv <;> rfl) (by cbv <;> rfl) (append_noneZ hl (by kernel_rfl) (by rfl)) (by kernel_rfl) rfl (by repeat (first | exact trivial | refine And.intro (by cbv <;> rfl) ?_)) ?_
        refine AnyE.ap tok 11 8191 39 (by kernel_rfl) (by cbv <;> rfl) (by cbv <;> rfl) (append_noneZ hc (by kernel_rfl) (by rfl)) (by kernel_rfl) rfl (by repeat (first | exact trivial | refine And.intro (by cbv <;> rfl) ?_)) ?_
        refine AnyE.ef tok hO 13 16383 (by kernel_rfl) (by cbv <;> rfl) (by cbv <;> rfl) (by trivial) (by kernel_rfl) (by repeat (first | exact trivial | refine And.intro (by cbv <;> rfl) ?_)) ?_
        refine AnyE.tk wd4_tidy tok 14 41 32767 (by kernel_rfl) (by kernel_rfl) (by cbv <;> rfl) (Eqv.refl _) ?_
        refine AnyE.ef tok hO 15 65535 (by kernel_rfl) (by cbv <;> rfl) (by cbv <;> rfl) (by trivial) (by kernel_rfl) (by repeat (first | exact trivial | refine And.intro (by cbv <;> rfl) ?_)) ?_
        refine AnyE.tk wd4_tidy tok 16 42 131071 (by kernel_rfl) (by kernel_rfl) (by cbv <;> rfl) (Eqv.refl _) ?_
        refine AnyE.ef tok hO 17 262143 (by kernel_rfl) (by cbv <;> rfl) (by cbv <;> rfl) (by trivial) (by kernel_rfl) (by repeat (first | exact trivial | refine And.intro (by cbv <;> rfl) ?_)) ?_
        refine AnyE.done (by kernel_rfl) ?_
        exact wide_fin hWb hLb hCb 5 3 4 rfl rfl rfl rfl rfl rfl rfl rfl rfl rfl rfl rfl
    · refine PickE.ef tok hO 1895 (by cbv <;> rfl) (by cbv <;> rfl) (by trivial) (by kernel_rfl) (by repeat (first | exact trivial | refine And.intro (by cbv <;> rfl) ?_)) ?_
      refine AnyE.many [3, 4] (by kernel_rfl) (by rfl) ⟨?_, ?_, trivial⟩
      · refine PickE.ap tok 1903 31 (by cbv <;> rfl) (by cbv <;> rfl) (append_emptyG (by kernel_rfl) (by rfl) hnw h0 (fun i k => womC_one d i k) hGW) (by kernel_rfl) rfl (by repeat (first | exact trivial | refine And.intro (by cbv <;> rfl) ?_)) ?_
        refine AnyE.tk wd4_tidy tok 12 40 5999 (by kernel_rfl) (by kernel_rfl) (by cbv <;> rfl) (Eqv.refl _) ?_
        refine AnyE.ef tok hO 4 6015 (by kernel_rfl) (by cbv <;> rfl) (by cbv <;> rfl) (by trivial) (by kernel_rfl) (by repeat (first | exact trivial | refine And.intro (by cbv <;> rfl) ?_)) ?_
        refine AnyE.ap tok 7 6143 35 (by kernel_rfl) (by cbv <;> rfl) (by cbv <;> rfl) (append_noneZ hl (by kernel_rfl) (by rfl)) (by kernel_rfl) rfl (by repeat (first | exact trivial | refine And.intro (by cbv <;> rfl) ?_)) ?_
        refine AnyE.ap tok 11 8191 39 (by kernel_rfl) (by cbv <;> rfl) (by cbv <;> rfl) (append_noneZ hc (by kernel_rfl) (by rfl)) (by kernel_rfl) rfl (by repeat (first | exact trivial | refine And.intro (by cbv <;> rfl) ?_)) ?_
        refine AnyE.ef tok hO 13 16383 (by kernel_rfl) (by cbv <;> rfl) (by cbv <;> rfl) (by trivial) (by kernel_rfl) (by repeat (first | exact trivial | refine And.intro (by cbv <;> rfl) ?_)) ?_
        refine AnyE.tk wd4_tidy tok 14 41 32767 (by kernel_rfl) (by kernel_rfl) (by cbv <;> rfl) (Eqv.refl _) ?_
        refine AnyE.ef tok hO 15 65535 (by kernel_rfl) (by cbv <;> rfl) (by cbv <;> rfl) (by trivial) (by kernel_rfl) (by repeat (first | exact trivial | refine And.intro (by cbv <;> rfl) ?_)) ?_
        refine AnyE.tk wd4_tidy tok 16 42 131071 (by kernel_rfl) (by kernel_rfl) (by cbv <;> rfl) (Eqv.refl _) ?_
        refine AnyE.ef tok hO 17 262143 (by kernel_rfl) (by cbv <;> rfl) (by cbv <;> rfl) (by trivial) (by kernel_rfl) (by repeat (first | exact trivial | refine And.intro (by cbv <;> rfl) ?_)) ?_
        refine AnyE.done (by kernel_rfl) ?_
        exact wide_fin hWb hLb hCb 4 5 3 rfl rfl rfl rfl rfl rfl rfl rfl rfl rfl rfl rfl
      · refine PickE.ef tok hO 1911 (by cbv <;> rfl) (by cbv <;> rfl) (by trivial) (by kernel_rfl) (by repeat (first | exact trivial | refine And.intro (by cbv <;> rfl) ?_)) ?_
        refine AnyE.ap tok 3 1919 31 (by kernel_rfl) (by cbv <;> rfl) (by cbv <;> rfl) (append_emptyG (by kernel_rfl) (by rfl) hnw h0 (fun i k => womC_one d i k) hGW) (by kernel_rfl) rfl (by repeat (first | exact trivial | refine And.intro (by cbv <;> rfl) ?_)) ?_
        refine AnyE.tk wd4_tidy tok 12 40 6015 (by kernel_rfl) (by kernel_rfl) (by cbv <;> rfl) (Eqv.refl _) ?_
        refine AnyE.ap tok 7 6143 35 (by kernel_rfl) (by cbv <;> rfl) (by cbv <;> rfl) (append_noneZ hl (by kernel_rfl) (by rfl)) (by kernel_rfl) rfl (by repeat (first | exact trivial | refine And.intro (by cbv <;> rfl) ?_)) ?_
        refine AnyE.ap tok 11 8191 39 (by kernel_rfl) (by cbv <;> rfl) (by cbv <;> rfl) (append_noneZ hc (by kernel_rfl) (by rfl)) (by kernel_rfl) rfl (by repeat (first | exact trivial | refine And.intro (by cbv <;> rfl) ?_)) ?_
        refine AnyE.ef tok hO 13 16383 (by kernel_rfl) (by cbv <;> rfl) (by cbv <;> rfl) (by trivial) (by kernel_rfl) (by repeat (first | exact trivial | refine And.intro (by cbv <;> rfl) ?_)) ?_
        refine AnyE.tk wd4_tidy tok 14 41 32767 (by kernel_rfl) (by kernel_rfl) (by cbv <;> rfl) (Eqv.refl _) ?_
        refine AnyE.ef tok hO 15 65535 (by kernel_rfl) (by cbv <;> rfl) (by cbv <;> rfl) (by trivial) (by kernel_rfl) (by repeat (first | exact trivial | refine And.intro (by cbv <;> rfl) ?_)) ?_
        refine AnyE.tk wd4_tidy tok 16 42 131071 (by kernel_rfl) (by kernel_rfl) (by cbv <;> rfl) (Eqv.refl _) ?_
        refine AnyE.ef tok hO 17 262143 (by kernel_rfl) (by cbv <;> rfl) (by cbv <;> rfl) (by trivial) (by kernel_rfl) (by repeat (first | exact trivial | refine And.intro (by cbv <;> rfl) ?_)) ?_
        refine AnyE.done (by kernel_rfl) ?_
        exact wide_fin hWb hLb hCb 5 4 3 rfl rfl rfl rfl rfl rfl rfl rfl rfl rfl rfl rfl
  · refine PickE.ef tok hO 1654 (by cbv <;> rfl) (by cbv <;> rfl) (by trivial) (by kernel_rfl) (by repeat (first | exact trivial | refine And.intro (by cbv <;> rfl) ?_)) ?_
    refine AnyE.many [0, 8] (by kernel_rfl) (by rfl) ⟨?_, ?_, trivial⟩
    · refine PickE.ef tok hO 1655 (by cbv <;> rfl) (by cbv <;> rfl) (by trivial) (by kernel_rfl) (by repeat (first | exact trivial | refine And.intro (by cbv <;> rfl) ?_)) ?_
      refine AnyE.many [3, 8] (by kernel_rfl) (by rfl) ⟨?_, ?_, trivial⟩
      · refine PickE.ap tok 1663 31 (by cbv <;> rfl) (by cbv <;> rfl) (append_emptyG (by kernel_rfl) (by rfl) hnw h0 (fun i k => womC_one d i k) hGW) (by kernel_rfl) rfl (by repeat (first | exact trivial | refine And.intro (by cbv <;> rfl) ?_)) ?_
        refine AnyE.tk wd4_tidy tok 12 40 5759 (by kernel_rfl) (by kernel_rfl) (by cbv <;> rfl) (Eqv.refl _) ?_
        refine AnyE.many [7, 8] (by kernel_rfl) (by rfl) ⟨?_, ?_, trivial⟩
        · refine PickE.ap tok 5887 35 (by cbv <;> rfl) (by cbv <;> rfl) (append_noneZ hl (by kernel_rfl) (by rfl)) (by kernel_rfl) rfl (by repeat (first | exact trivial | refine And.intro (by cbv <;> rfl) ?_)) ?_
          refine AnyE.ef tok hO 8 6143 (by kernel_rfl) (by cbv <;> rfl) (by cbv <;> rfl) (by trivial) (by kernel_rfl) (by repeat (first | exact trivial | refine And.intro (by cbv <;> rfl) ?_)) ?_
          refine AnyE.ap tok 11 8191 39 (by kernel_rfl) (by cbv <;> rfl) (by cbv <;> rfl) (append_noneZ hc (by kernel_rfl) (by rfl)) (by kernel_rfl) rfl (by repeat (first | exact trivial | refine And.intro (by cbv <;> rfl) ?_)) ?_
          refine AnyE.ef tok hO 13 16383 (by kernel_rfl) (by cbv <;> rfl) (by cbv <;> rfl) (by trivial) (by kernel_rfl) (by repeat (first | exact trivial | refine And.intro (by cbv <;> rfl) ?_)) ?_
          refine AnyE.tk wd4_tidy tok 14 41 32767 (by kernel_rfl) (by kernel_rfl) (by cbv <;> rfl) (Eqv.refl _) ?_
          refine AnyE.ef tok hO 15 65535 (by kernel_rfl) (by cbv <;> rfl) (by cbv <;> rfl) (by trivial) (by kernel_rfl) (by repeat (first | exact trivial | refine And.intro (by cbv <;> rfl) ?_)) ?_
          refine AnyE.tk wd4_tidy tok 16 42 131071 (by kernel_rfl) (by kernel_rfl) (by cbv <;> rfl) (Eqv.refl _) ?_
          refine AnyE.ef tok hO 17 262143 (by kernel_rfl) (by cbv <;> rfl) (by cbv <;> rfl) (by trivial) (by kernel_rfl) (by repeat (first | exact trivial | refine And.intro (by cbv <;> rfl) ?_)) ?_
          refine AnyE.done (by kernel_rfl) ?_
          exact wide_fin hWb hLb hCb 4 2 5 rfl rfl rfl rfl rfl rfl rfl rfl rfl rfl rfl rfl
        · refine PickE.ef tok hO 6015 (by cbv <;> rfl) (by cbv <;> rfl) (by trivial) (by kernel_rfl) (by repeat (first | exact trivial | refine And.intro (by cbv <;> rfl) ?_)) ?_
          refine AnyE.ap tok 7 6143 35 (by kernel_rfl) (by cbv <;> rfl) (by cbv <;> rfl) (append_noneZ hl (by kernel_rfl) (by rfl)) (by kernel_rfl) rfl (by repeat (first | exact trivial | refine And.intro (by cbv <;> rfl) ?_)) ?_
          refine AnyE.ap tok 11 8191 39 (by kernel_rfl) (by cbv <;> rfl) (by cbv <;> rfl) (append_noneZ hc (by kernel_rfl) (by rfl)) (by kernel_rfl) rfl (by repeat (first | exact trivial | refine And.intro (by cbv <;> rfl) ?_)) ?_
          refine AnyE.ef tok hO 13 16383 (by kernel_rfl) (by cbv <;> rfl) (by cbv <;> rfl) (by trivial) (by kernel_rfl) (by repeat (first | exact trivial | refine And.intro (by cbv <;> rfl) ?_)) ?_
          refine AnyE.tk wd4_tidy tok 14 41 32767 (by kernel_rfl) (by kernel_rfl) (by cbv <;> rfl) (Eqv.refl _) ?_
          refine AnyE.ef tok hO 15 65535 (by kernel_rfl) (by cbv <;> rfl) (by cbv <;> rfl) (by trivial) (by kernel_rfl) (by repeat (first | exact trivial | refine And.intro (by cbv <;> rfl) ?_)) ?_
          refine AnyE.tk wd4_tidy tok 16 42 131071 (by kernel_rfl) (by kernel_rfl) (by cbv <;> rfl) (Eqv.refl _) ?_
          refine AnyE.ef tok hO 17 262143 (by kernel_rfl) (by cbv <;> rfl) (by cbv <;> rfl) (by trivial) (by kernel_rfl) (by repeat (first | exact trivial | refine And.intro (by cbv <;> rfl) ?_)) ?_
          refine AnyE.done (by kernel_rfl) ?_
          exact wide_fin hWb hLb hCb 4 2 5 rfl rfl rfl rfl rfl rfl rfl rfl rfl rfl rfl rfl
      · refine PickE.ef tok hO 1911 (by cbv <;> rfl) (by cbv <;> rfl) (by trivial) (by kernel_rfl) (by repeat (first | exact trivial | refine And.intro (by cbv <;> rfl) ?_)) ?_
        refine AnyE.ap tok 3 1919 31 (by kernel_rfl) (by cbv <;> rfl) (by cbv <;> rfl) (append_emptyG (by kernel_rfl) (by rfl) hnw h0 (fun i k => womC_one d i k) hGW) (by kernel_rfl) rfl (by repeat (first | exact trivial | refine And.intro (by cbv <;> rfl) ?_)) ?_
        refine AnyE.tk wd4_tidy tok 12 40 6015 (by kernel_rfl) (by kernel_rfl) (by cbv <;> rfl) (Eqv.refl _) ?_
        refine AnyE.ap tok 7 6143 35 (by kernel_rfl) (by cbv <;> rfl) (by cbv <;> rfl) (append_noneZ hl (by kernel_rfl) (by rfl)) (by kernel_rfl) rfl (by repeat (first | exact trivial | refine And.intro (by cbv <;> rfl) ?_)) ?_
        refine AnyE.ap tok 11 8191 39 (by kernel_rfl) (by cbv <;> rfl) (by cbv <;> rfl) (append_noneZ hc (by kernel_rfl) (by rfl)) (by kernel_rfl) rfl (by repeat (first | exact trivial | refine And.intro (by cbv <;> rfl) ?_)) ?_
        refine AnyE.ef tok hO 13 16383 (by kernel_rfl) (by cbv <;> rfl) (by cbv <;> rfl) (by trivial) (by kernel_rfl) (by repeat (first | exact trivial | refine And.intro (by cbv <;> rfl) ?_)) ?_
        refine AnyE.tk wd4_tidy tok 14 41 32767 (by kernel_rfl) (by kernel_rfl) (by cbv <;> rfl) (Eqv.refl _) ?_
        refine AnyE.ef tok hO 15 65535 (by kernel_rfl) (by cbv <;> rfl) (by cbv <;> rfl) (by trivial) (by kernel_rfl) (by repeat (first | exact trivial | refine And.intro (by cbv <;> rfl) ?_)) ?_
        refine AnyE.tk wd4_tidy tok 16 42 131071 (by kernel_rfl) (by kernel_rfl) (by cbv <;> rfl) (Eqv.refl _) ?_
        refine AnyE.ef tok hO 17 262143 (by kernel_rfl) (by cbv <;> rfl) (by cbv <;> rfl) (by trivial) (by kernel_rfl) (by repeat (first | exact trivial | refine And.intro (by cbv <;> rfl) ?_)) ?_
        refine AnyE.done (by kernel_rfl) ?_
        exact wide_fin hWb hLb hCb 5 2 4 rfl rfl rfl rfl rfl rfl rfl rfl rfl rfl rfl rfl
    · refine PickE.ef tok hO 1910 (by cbv <;> rfl) (by cbv <;> rfl) (by trivial) (by kernel_rfl) (by repeat (first | exact trivial | refine And.intro (by cbv <;> rfl) ?_)) ?_
      refine AnyE.ef tok hO 0 1911 (by kernel_rfl) (by cbv <;> rfl) (by cbv <;> rfl) (by trivial) (by kernel_rfl) (by repeat (first | exact trivial | refine And.intro (by cbv <;> rfl) ?_)) ?_
      refine AnyE.ap tok 3 1919 31 (by kernel_rfl) (by cbv <;> rfl) (by cbv <;> rfl) (append_emptyG (by kernel_rfl) (by rfl) hnw h0 (fun i k => womC_one d i k) hGW) (by kernel_rfl) rfl (by repeat (first | exact trivial | refine And.intro (by cbv <;> rfl) ?_)) ?_
      refine AnyE.tk wd4_tidy tok 12 40 6015 (by kernel_rfl) (by kernel_rfl) (by cbv <;> rfl) (Eqv.refl _) ?_
      refine AnyE.ap tok 7 6143 35 (by kernel_rfl) (by cbv <;> rfl) (by cbv <;> rfl) (append_noneZ hl (by kernel_rfl) (by rfl)) (by kernel_rfl) rfl (by repeat (first | exact trivial | refine And.intro (by cbv <;> rfl) ?_)) ?_
      refine AnyE.ap tok 11 8191 39 (by kernel_rfl) (by cbv <;> rfl) (by cbv <;> rfl) (append_noneZ hc (by kernel_rfl) (by rfl)) (by kernel_rfl) rfl (by repeat (first | exact trivial | refine And.intro (by cbv <;> rfl) ?_)) ?_
      refine AnyE.ef tok hO 13 16383 (by kernel_rfl) (by cbv <;> rfl) (by cbv <;> rfl) (by trivial) (by kernel_rfl) (by repeat (first | exact trivial | refine And.intro (by cbv <;> rfl) ?_)) ?_
      refine AnyE.tk wd4_tidy tok 14 41 32767 (by kernel_rfl) (by kernel_rfl) (by cbv <;> rfl) (Eqv.refl _) ?_
      refine AnyE.ef tok hO 15 65535 (by kernel_rfl) (by cbv <;> rfl) (by cbv <;> rfl) (by trivial) (by kernel_rfl) (by repeat (first | exact trivial | refine And.intro (by cbv <;> rfl) ?_)) ?_
      refine AnyE.tk wd4_tidy tok 16 42 131071 (by kernel_rfl) (by kernel_rfl) (by cbv <;> rfl) (Eqv.refl _) ?_
      refine AnyE.ef tok hO 17 262143 (by kernel_rfl) (by cbv <;> rfl) (by cbv <;> rfl) (by trivial) (by kernel_rfl) (by repeat (first | exact trivial | refine And.intro (by cbv <;> rfl) ?_)) ?_
      refine AnyE.done (by kernel_rfl) ?_
      exact wide_fin hWb hLb hCb 5 2 3 rfl rfl rfl rfl rfl rfl rfl rfl rfl rfl rfl rfl
  · refine PickE.ef tok hO 1894 (by cbv <;> rfl) (by cbv <;> rfl) (by trivial) (by kernel_rfl) (by repeat (first | exact trivial | refine And.intro (by cbv <;> rfl) ?_)) ?_
    refine AnyE.many [0, 4] (by kernel_rfl) (by rfl) ⟨?_, ?_, trivial⟩
    · refine PickE.ef tok hO 1895 (by cbv <;> rfl) (by cbv <;> rfl) (by trivial) (by kernel_rfl) (by repeat (first | exact trivial | refine And.intro (by cbv <;> rfl) ?_)) ?_
      refine AnyE.many [3, 4] (by kernel_rfl) (by rfl) ⟨?_, ?_, trivial⟩
      · refine PickE.ap tok 1903 31 (by cbv <;> rfl) (by cbv <;> rfl) (append_emptyG (by kernel_rfl) (by rfl) hnw h0 (fun i k => womC_one d i k) hGW) (by kernel_rfl) rfl (by repeat (first | exact trivial | refine And.intro (by cbv <;> rfl) ?_)) ?_
        refine AnyE.tk wd4_tidy tok 12 40 5999 (by kernel_rfl) (by kernel_rfl) (by cbv <;> rfl) (Eqv.refl _) ?_
        refine AnyE.ef tok hO 4 6015 (by kernel_rfl) (by cbv <;> rfl) (by cbv <;> rfl) (by trivial) (by kernel_rfl) (by repeat (first | exact trivial | refine And.intro (by cbv <;> rfl) ?_)) ?_
        refine AnyE.ap tok 7 6143 35 (by kernel_rfl) (by cbv <;> rfl) (by cbv <;> rfl) (append_noneZ hl (by kernel_rfl) (by rfl)) (by kernel_rfl) rfl (by repeat (first | exact trivial | refine And.intro (by cbv <;> rfl) ?_)) ?_
        refine AnyE.ap tok 11 8191 39 (by kernel_rfl) (by cbv <;> rfl) (by cbv <;> rfl) (append_noneZ hc (by kernel_rfl) (by rfl)) (by kernel_rfl) rfl (by repeat (first | exact trivial | refine And.intro (by cbv <;> rfl) ?_)) ?_
        refine AnyE.ef tok hO 13 16383 (by kernel_rfl) (by cbv <;> rfl) (by cbv <;> rfl) (by trivial) (by kernel_rfl) (by repeat (first | exact trivial | refine And.intro (by cbv <;> rfl) ?_)) ?_
        refine AnyE.tk wd4_tidy tok 14 41 32767 (by kernel_rfl) (by kernel_rfl) (by cbv <;> rfl) (Eqv.refl _) ?_
        refine AnyE.ef tok hO 15 65535 (by kernel_rfl) (by cbv <;> rfl) (by cbv <;> rfl) (by trivial) (by kernel_rfl) (by repeat (first | exact trivial | refine And.intro (by cbv <;> rfl) ?_)) ?_
        refine AnyE.tk wd4_tidy tok 16 42 131071 (by kernel_rfl) (by kernel_rfl) (by cbv <;> rfl) (Eqv.refl _) ?_
        refine AnyE.ef tok hO 17 262143 (by kernel_rfl) (by cbv <;> rfl) (by cbv <;> rfl) (by trivial) (by kernel_rfl) (by repeat (first | exact trivial | refine And.intro (by cbv <;> rfl) ?_)) ?_
        refine AnyE.done (by kernel_rfl) ?_
        exact wide_fin hWb hLb hCb 4 5 2 rfl rfl rfl rfl rfl rfl rfl rfl rfl rfl rfl rfl
      · refine PickE.ef tok hO 1911 (by cbv <;> rfl) (by cbv <;> rfl) (by trivial) (by kernel_rfl) (by repeat (first | exact trivial | refine And.intro (by cbv <;> rfl) ?_)) ?_
        refine AnyE.ap tok 3 1919 31 (by kernel_rfl) (by cbv <;> rfl) (by cbv <;> rfl) (append_emptyG (by kernel_rfl) (by rfl) hnw h0 (fun i k => womC_one d i k) hGW) (by kernel_rfl) rfl (by repeat (first | exact trivial | refine And.intro (by cbv <;> rfl) ?_)) ?_
        refine AnyE.tk wd4_tidy tok 12 40 6015 (by kernel_rfl) (by kernel_rfl) (by cbv <;> rfl) (Eqv.refl _) ?_
        refine AnyE.ap tok 7 6143 35 (by kernel_rfl) (by cbv <;> rfl) (by cbv <;> rfl) (append_noneZ hl (by kernel_rfl) (by rfl)) (by kernel_rfl) rfl (by repeat (first | exact trivial | refine And.intro (by cbv <;> rfl) ?_)) ?_
        refine AnyE.ap tok 11 8191 39 (by kernel_rfl) (by cbv <;> rfl) (by cbv <;> rfl) (append_noneZ hc (by kernel_rfl) (by rfl)) (by kernel_rfl) rfl (by repeat (first | exact trivial | refine And.intro (by cbv <;> rfl) ?_)) ?_
        refine AnyE.ef tok hO 13 16383 (by kernel_rfl) (by cbv <;> rfl) (by cbv <;> rfl) (by trivial) (by kernel_rfl) (by repeat (first | exact trivial | refine And.intro (by cbv <;> rfl) ?_)) ?_
        refine AnyE.tk wd4_tidy tok 14 41 32767 (by kernel_rfl) (by kernel_rfl) (by cbv <;> rfl) (Eqv.refl _) ?_
        refine AnyE.ef tok hO 15 65535 (by kernel_rfl) (by cbv <;> rfl) (by cbv <;> rfl) (by trivial) (by kernel_rfl) (by repeat (first | exact trivial | refine And.intro (by cbv <;> rfl) ?_)) ?_
        refine AnyE.tk wd4_tidy tok 16 42 131071 (by kernel_rfl) (by kernel_rfl) (by cbv <;> rfl) (Eqv.refl _) ?_
        refine AnyE.ef tok hO 17 262143 (by kernel_rfl) (by cbv <;> rfl) (by cbv <;> rfl) (by trivial) (by kernel_rfl) (by repeat (first | exact trivial | refine And.intro (by cbv <;> rfl) ?_)) ?_
        refine AnyE.done (by kernel_rfl) ?_
        exact wide_fin hWb hLb hCb 5 4 2 rfl rfl rfl rfl rfl rfl rfl rfl rfl rfl rfl rfl
    · refine PickE.ef tok hO 1910 (by cbv <;> rfl) (by cbv <;> rfl) (by trivial) (by kernel_rfl) (by repeat (first | exact trivial | refine And.intro (by cbv <;> rfl) ?_)) ?_
      refine AnyE.ef tok hO 0 1911 (by kernel_rfl) (by cbv <;> rfl) (by cbv <;> rfl) (by trivial) (by kernel_rfl) (by repeat (first | exact trivial | refine And.intro (by cbv <;> rfl) ?_)) ?_
      refine AnyE.ap tok 3 1919 31 (by kernel_rfl) (by cbv <;> rfl) (by cbv <;> rfl) (append_emptyG (by kernel_rfl) (by rfl) hnw h0 (fun i k => womC_one d i k) hGW) (by kernel_rfl) rfl (by repeat (first | exact trivial | refine And.intro (by cbv <;> rfl) ?_)) ?_
      refine AnyE.tk wd4_tidy tok 12 40 6015 (by kernel_rfl) (by kernel_rfl) (by cbv <;> rfl) (Eqv.refl _) ?_
      refine AnyE.ap tok 7 6143 35 (by kernel_rfl) (by cbv <;> rfl) (by cbv <;> rfl) (append_noneZ hl (by kernel_rfl) (by rfl)) (by kernel_rfl) rfl (by repeat (first | exact trivial | refine And.intro (by cbv <;> rfl) ?_)) ?_
      refine AnyE.ap tok 11 8191 39 (by kernel_rfl) (by cbv <;> rfl) (by cbv <;> rfl) (append_noneZ hc (by kernel_rfl) (by rfl)) (by kernel_rfl) rfl (by repeat (first | exact trivial | refine And.intro (by cbv <;> rfl) ?_)) ?_
      refine AnyE.ef tok hO 13 16383 (by kernel_rfl) (by cbv <;> rfl) (by cbv <;> rfl) (by trivial) (by kernel_rfl) (by repeat (first | exact trivial | refine And.intro (by cbv <;> rfl) ?_)) ?_
      refine AnyE.tk wd4_tidy tok 14 41 32767 (by kernel_rfl) (by kernel_rfl) (by cbv <;> rfl) (Eqv.refl _) ?_
      refine AnyE.ef tok hO 15 65535 (by kernel_rfl) (by cbv <;> rfl) (by cbv <;> rfl) (by trivial) (by kernel_rfl) (by repeat (first | exact trivial | refine And.intro (by cbv <;> rfl) ?_)) ?_
      refine AnyE.tk wd4_tidy tok 16 42 131071 (by kernel_rfl) (by kernel_rfl) (by cbv <;> rfl) (Eqv.refl _) ?_
      refine AnyE.ef tok hO 17 262143 (by kernel_rfl) (by cbv <;> rfl) (by cbv <;> rfl) (by trivial) (by kernel_rfl) (by repeat (first | exact trivial | refine And.intro (by cbv <;> rfl) ?_)) ?_
      refine AnyE.done (by kernel_rfl) ?_
      exact wide_fin hWb hLb hCb 5 3 2 rfl rfl rfl rfl rfl rfl rfl rfl rfl rfl rfl rfl
end Go.Fz
