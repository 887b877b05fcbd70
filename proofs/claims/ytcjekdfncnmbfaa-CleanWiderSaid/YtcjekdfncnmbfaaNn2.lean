/- Own work of the verifier of watercress: FzWi7. -/
import Derived.Below
import Derived.CallsIn
import Derived.Carry
import Derived.ChangeKeysEq
import Derived.ChangeSame
import Derived.Deep.Slices
import Derived.DeepKeys4
import Derived.JoinedCond
import Derived.Laws.AppendOwn
import Derived.Laws.Cells
import Derived.Laws.CopyRow
import Derived.Laws.Cover3
import Derived.Laws.Entries
import Derived.Laws.NewFold
import Derived.Laws.Sem
import Derived.Laws.Small
import Derived.Laws.StructEq
import Derived.Laws.Tables
import Derived.Laws.World
import Derived.Lib.SmallJoins
import Derived.Maps.Keyed
import Derived.Maps.RangeRun
import Derived.OpenShut
import Derived.OrdersHeld
import Derived.OrdersIn
import Derived.ProofKit
import Derived.RangeFuncLeaves
import Derived.RangeFuncRecord
import Derived.Shelf.Abstract
import Derived.WalkKit
import Derived.WideKeyArgs
import Derived.Test.YtcjekdfncnmbfaaNn0
import Derived.Test.YtcjekdfncnmbfaaNa10
import Derived.Test.YtcjekdfncnmbfaaNa11
import Derived.Test.YtcjekdfncnmbfaaNa13
import Derived.Test.YtcjekdfncnmbfaaNa16
import Derived.Test.YtcjekdfncnmbfaaNa14
import Derived.Test.YtcjekdfncnmbfaaNa18
import Derived.Test.YtcjekdfncnmbfaaNa15
import Derived.Test.YtcjekdfncnmbfaaNa19
import Derived.Test.YtcjekdfncnmbfaaNa20
import Derived.Test.YtcjekdfncnmbfaaNa21
import Derived.Test.YtcjekdfncnmbfaaNa22
import Derived.Test.YtcjekdfncnmbfaaNa12
import Derived.Test.YtcjekdfncnmbfaaNa17
import Derived.Test.YtcjekdfncnmbfaaNn1
import Derived.Test.YtcjekdfncnmbfaaNa0
import Derived.Test.YtcjekdfncnmbfaaNa1
import Derived.Test.YtcjekdfncnmbfaaNa2
import Derived.Test.YtcjekdfncnmbfaaNa3
import Derived.Test.YtcjekdfncnmbfaaNa4
import Derived.Test.YtcjekdfncnmbfaaNa5
import Derived.Test.YtcjekdfncnmbfaaNa6
import Derived.Test.YtcjekdfncnmbfaaNa7
import Derived.Test.YtcjekdfncnmbfaaNa8
import Derived.Test.YtcjekdfncnmbfaaNa9
import Derived.Test.YtcjekdfncnmbfaaProg
import Derived.Test.YtcjekdfncnmbfaaRows
set_option linter.unusedVariables false
set_option linter.unusedSimpArgs false
set_option linter.unusedVariables false
namespace Go.Fz
open Go.Proofs
set_option maxRecDepth 100000
theorem wd_vals {y : YardD} (hc : y.check = 0) {b2 : Int} (w0 : 0 ≤ b2) (w1 : b2 ≤ 255) {k : Nat} (hk : k < y.nb) :
    std.mx 1 (std.bin .sub .i64 (y.lng k) (std.bin .rem .i64 (std.bin .quo .i64 (std.conv .i64 b2) 4) 2)) ≤ y.lng k ∧ std.mx 0 (std.bin .sub .i64 (y.blo k) (std.bin .rem .i64 (std.conv .i64 b2) 2)) ≤ y.blo k ∧ y.bhi k ≤ std.mn y.last (std.bin .add .i64 (y.bhi k) (std.bin .rem .i64 (std.bin .quo .i64 (std.conv .i64 b2) 2) 2)) := by
  obtain ⟨_, l0, l9, _⟩ := y.fit_of_check hc
  obtain ⟨⟨v1, v2⟩, v3, v4, v5⟩ := (valid_iff.1 (check_zero.1 hc).2.1).2.2.1 k hk
  have hr := wd_rem ⟨b2.toNat, by omega⟩
  have e : ((b2.toNat : Nat) : Int) = b2 := by omega
  simp only [e] at hr
  obtain ⟨⟨r1, h1⟩, ⟨r2, h2⟩, ⟨r3, h3⟩, _, _⟩ := hr
  rw [h1, h2, h3]
  have a1 := wd_lg ⟨(y.lng k).toNat, by omega⟩ r3 (by show 1 ≤ (y.lng k).toNat; omega)
  have a2 := wd_lo ⟨(y.blo k).toNat, by omega⟩ r1
  have a3 := wd_hi ⟨y.last.toNat, by omega⟩ ⟨(y.bhi k).toNat, by omega⟩ r2 (by show (y.bhi k).toNat ≤ y.last.toNat; omega)
  have e1 : (((y.lng k).toNat : Nat) : Int) = y.lng k := by omega
  have e2 : (((y.blo k).toNat : Nat) : Int) = y.blo k := by omega
  have e3 : (((y.bhi k).toNat : Nat) : Int) = y.bhi k := by omega
  have e4 : ((y.last.toNat : Nat) : Int) = y.last := by omega
  simp only [e1] at a1
  simp only [e2] at a2
  simp only [e3, e4] at a3
  exact ⟨a1, a2, a3⟩
theorem wd_cvals {y : YardD} (hc : y.check = 0) {b2 : Int} (w0 : 0 ≤ b2) (w1 : b2 ≤ 255) {p : Nat} (hp : p < y.nc) :
    std.mx 0 (std.bin .sub .i64 (y.clo p) (std.bin .rem .i64 (std.bin .quo .i64 (std.conv .i64 b2) 8) 2)) ≤ y.clo p ∧ y.chi p ≤ std.mn y.last (std.bin .add .i64 (y.chi p) (std.bin .rem .i64 (std.bin .quo .i64 (std.conv .i64 b2) 16) 2)) := by
  obtain ⟨_, l0, l9, _⟩ := y.fit_of_check hc
  obtain ⟨_, v3, v4, v5⟩ := (valid_iff.1 (check_zero.1 hc).2.1).2.2.2 p hp
  have hr := wd_rem ⟨b2.toNat, by omega⟩
  have e : ((b2.toNat : Nat) : Int) = b2 := by omega
  simp only [e] at hr
  obtain ⟨_, _, _, ⟨r1, h1⟩, ⟨r2, h2⟩⟩ := hr
  rw [h1, h2]
  have a2 := wd_lo ⟨(y.clo p).toNat, by omega⟩ r1
  have a3 := wd_hi ⟨y.last.toNat, by omega⟩ ⟨(y.chi p).toNat, by omega⟩ r2 (by show (y.chi p).toNat ≤ y.last.toNat; omega)
  have e2 : (((y.clo p).toNat : Nat) : Int) = y.clo p := by omega
  have e3 : (((y.chi p).toNat : Nat) : Int) = y.chi p := by omega
  have e4 : ((y.last.toNat : Nat) : Int) = y.last := by omega
  simp only [e2] at a2
  simp only [e3, e4] at a3
  exact ⟨a2, a3⟩
theorem wd_kidx {n k : Nat} (hk : k < n) : k * 3 + 3 ≤ n * 3 := by
  have := Nat.mul_le_mul_right 3 (show k + 1 ≤ n from hk)
  omega
set_option maxHeartbeats 8000000 in
theorem cleanWider_ok (haw : Pure Try.prog 18 [] (.lit (.bool true))) (y : YardD) (b1 b2 b3 : Int) (u0 : 0 ≤ b1) (u1 : b1 ≤ 255) (w0 : 0 ≤ b2) (w1 : b2 ≤ 255) (v0 : 0 ≤ b3) (v1 : b3 ≤ 255) : Pure Try.prog 12 [yardV y, .lit (.int .u8 b1), .lit (.int .u8 b2), .lit (.int .u8 b3)] (.lit (.bool true)) := by
  have e45 := ready_any y
  cases hR : y.readyB with
  | false =>
    rw [hR] at e45
    exact wd_not haw y b1 b2 b3 e45
  | true =>
    rw [hR] at e45
    by_cases hz0 : y.nb = 0
    · exact wd_no haw y b1 b2 b3 hz0 e45
    · have hz : 0 < y.nb := Nat.pos_of_ne_zero hz0
      have hc := ready_check hR
      obtain ⟨hfit, l0, l9, _, _, h5, _⟩ := y.fit_of_check hc
      have hn := hfit.nb
      have hK := rem_rng u0 u1 hz hn
      obtain ⟨k, hk'⟩ : ∃ k : Nat, std.bin .rem .i64 (std.conv .i64 b1) (y.nb : Int) = (k : Int) := ⟨_, (Int.toNat_of_nonneg hK.1).symm⟩
      have hk : k < y.nb := by
        have := hK.2
        rw [hk'] at this
        exact Int.ofNat_lt.1 this
      obtain ⟨s1, s2, s3⟩ := wd_vals hc w0 w1 hk
      have hkb := wd_kidx hk
      obtain ⟨GB, hGB⟩ : ∃ G, G = flatG 3 (bedC y) y.nb := ⟨_, rfl⟩
      have lB : GB.length = y.nb * 3 := by rw [hGB, flatG_length]
      have cb : ∀ j, j < 3 → GB[k * 3 + j]? = some (bedC y k j) := fun j hj => by rw [hGB]; exact flatG_get 3 (bedC y) y.nb k j hk hj
      refine wd_pre y b1 b2 b3 hz0 e45 fun gg h => ?_
      rcases Nat.eq_zero_or_pos y.nc with hnc | hnc
      · refine (show SW Try.prog none (.seq (.region _ _ _) _) _ _ _ from ?_)
        refine SW.seq ((wd_4z y b1 b2 b3 GB hGB hz (by omega) hnc gg h).mono fun e f st hm => ?_)
        obtain ⟨rfl, g, rfl, hh, rfl⟩ := hm
        show SW _ _ _ _ _ _
        refine wd_5 y b1 b2 b3 0 true GB [] k hk std rfl hk' (fun q hq gg h => ?_) g hh
        refine wd_6 y b1 b2 b3 0 true GB [] q (y.blo k) (y.bhi k) (by rw [← show some (bedC y k 1) = some (iV (y.blo k)) from rfl, ← cb 1 (by omega)]; congr 1; omega) (by rw [← show some (bedC y k 2) = some (iV (y.bhi k)) from rfl, ← cb 2 (by omega)]; congr 1; omega) (by omega) std rfl (fun G1 hG1 gg h => ?_) gg h
        have l1 : G1.length = y.nb * 3 := by rw [hG1, List.length_set, List.length_set, lB]
        refine wd_7 y b1 b2 b3 0 true G1 [] q (y.lng k) (by rw [hG1, List.getElem?_set, List.getElem?_set, if_neg (by omega), if_neg (by omega), ← show some (bedC y k 0) = some (iV (y.lng k)) from rfl, ← cb 0 (by omega)]; congr 1; omega) (by omega) std rfl (fun G2 hG2 gg h => ?_) gg h
        refine wd_8z y b1 b2 b3 0 true hnc G2 [] std rfl (fun gg h => ?_) gg h
        refine wd_froz haw (x := y.wdX k _ _ _ 0 (y.clo 0) (y.chi 0)) (wdX_wide s1 s2 s3 (Int.le_refl _) (Int.le_refl _)) hR hz rfl rfl G2 [] 0 true hnc.symm rfl b3 v0 v1 (by rw [hG2, List.length_set, l1]; exact Nat.le_refl _) (by simp) (fun i j hi hj => ?_) (fun i j hi => absurd hi (Nat.not_lt_zero _)) gg h
        rw [hG2, hG1, hGB]
        exact wd_bcell hk hq hi hj
      · have hP := wd_pick ⟨b1.toNat, by omega⟩ ⟨y.nc, by omega⟩ hnc
        have eb : ((b1.toNat : Nat) : Int) = b1 := by omega
        simp only [eb] at hP
        obtain ⟨p, hp'⟩ : ∃ p : Nat, std.bin .rem .i64 (std.bin .quo .i64 (std.conv .i64 b1) 8) (y.nc : Int) = (p : Int) := ⟨_, (Int.toNat_of_nonneg hP.1).symm⟩
        have hp : p < y.nc := by
          have := hP.2
          rw [hp'] at this
          exact Int.ofNat_lt.1 this
        obtain ⟨t1, t2⟩ := wd_cvals hc w0 w1 hp
        obtain ⟨GC, hGC⟩ : ∃ G, G = flatG 3 (clmC y) y.nc := ⟨_, rfl⟩
        have lC : GC.length = y.nc * 3 := by rw [hGC, flatG_length]
        have cc : ∀ j, j < 3 → GC[p * 3 + j]? = some (clmC y p j) := fun j hj => by rw [hGC]; exact flatG_get 3 (clmC y) y.nc p j hp hj
        refine (show SW Try.prog none (.seq (.region _ _ _) _) _ _ _ from ?_)
        refine SW.seq ((wd_4n y b1 b2 b3 GB hGB hz (by omega) GC hGC hnc (by omega) gg h).mono fun e f st hm => ?_)
        obtain ⟨rfl, g, rfl, hh, rfl⟩ := hm
        show SW _ _ _ _ _ _
        refine wd_5 y b1 b2 b3 y.nc false GB GC k hk std rfl hk' (fun q hq gg h => ?_) g hh
        refine wd_6 y b1 b2 b3 y.nc false GB GC q (y.blo k) (y.bhi k) (by rw [← show some (bedC y k 1) = some (iV (y.blo k)) from rfl, ← cb 1 (by omega)]; congr 1; omega) (by rw [← show some (bedC y k 2) = some (iV (y.bhi k)) from rfl, ← cb 2 (by omega)]; congr 1; omega) (by omega) std rfl (fun G1 hG1 gg h => ?_) gg h
        have l1 : G1.length = y.nb * 3 := by rw [hG1, List.length_set, List.length_set, lB]
        refine wd_7 y b1 b2 b3 y.nc false G1 GC q (y.lng k) (by rw [hG1, List.getElem?_set, List.getElem?_set, if_neg (by omega), if_neg (by omega), ← show some (bedC y k 0) = some (iV (y.lng k)) from rfl, ← cb 0 (by omega)]; congr 1; omega) (by omega) std rfl (fun G2 hG2 gg h => ?_) gg h
        refine wd_8n y b1 b2 b3 hnc G2 GC p hp (y.clo p) (y.chi p) lC (cc 1 (by omega)) (cc 2 (by omega)) std rfl hp' (fun G3 hG3 gg h => ?_) gg h
        refine wd_froz haw (x := y.wdX k _ _ _ p _ _) (wdX_wide s1 s2 s3 t1 t2) hR hz rfl rfl G2 G3 y.nc false rfl rfl b3 v0 v1 (by rw [hG2, List.length_set, l1]; exact Nat.le_refl _) (by rw [hG3, List.length_set, List.length_set, lC]; exact Nat.le_refl _) (fun i j hi hj => ?_) (fun i j hi hj => ?_) gg h
        · rw [hG2, hG1, hGB]
          exact wd_bcell hk hq hi hj
        · rw [hG3, hGC]
          exact wd_ccell hp hi hj
end Go.Fz
