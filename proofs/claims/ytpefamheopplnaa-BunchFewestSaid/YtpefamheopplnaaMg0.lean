/- Own work of the verifier of watercress: FzP, FzY3, FzD10, FzK4, FzH1, FzH2, FzH3, FzO1, FzSe1, FzSe2, FzSe3, FzSe4, FzSe5. -/
import Derived.ChangeKeysEq
import Derived.Laws.AppendOwn
import Derived.Laws.Cells
import Derived.Laws.CopyRow
import Derived.Laws.Entries
import Derived.Laws.NewFold
import Derived.Laws.Sem
import Derived.Laws.Small
import Derived.Laws.StructEq
import Derived.Laws.Tables
import Derived.Laws.World
import Derived.OrdersHeld
import Derived.OrdersIn
import Derived.RangeFuncLeaves
import Derived.RangeFuncRecord
import Derived.Shelf.Abstract
import Derived.Test.YtpefamheopplnaaMf0
import Derived.Test.YtpefamheopplnaaMf1
import Derived.Test.YtpefamheopplnaaMf2
import Derived.Test.YtpefamheopplnaaMf3
import Derived.Test.YtpefamheopplnaaMf4
import Derived.Test.YtpefamheopplnaaMf5
import Derived.Test.YtpefamheopplnaaProg
import Derived.Test.YtpefamheopplnaaMf6
import Derived.Laws.Cover3
import Derived.Test.YtpefamheopplnaaMf7
import Derived.DeepKeys4
import Derived.Maps.Keyed
import Derived.Maps.RangeRun
import Derived.Test.YtpefamheopplnaaMf8
import Derived.Test.YtpefamheopplnaaMf12
import Derived.Test.YtpefamheopplnaaMf13
import Derived.Test.YtpefamheopplnaaMf14
import Derived.Test.YtpefamheopplnaaMf22
import Derived.Test.YtpefamheopplnaaMf9
import Derived.Test.YtpefamheopplnaaMf10
import Derived.Test.YtpefamheopplnaaMf11
import Derived.Test.YtpefamheopplnaaMf16
import Derived.Test.YtpefamheopplnaaMf18
import Derived.Test.YtpefamheopplnaaMf15
import Derived.Test.YtpefamheopplnaaMf19
import Derived.Test.YtpefamheopplnaaMf20
import Derived.Test.YtpefamheopplnaaMf21
import Derived.Test.YtpefamheopplnaaMf23
set_option linter.unusedVariables false
set_option linter.unusedSimpArgs false
namespace Go.Fz
open Go.Proofs
theorem en5 : Enters Try.prog 5 := fun args w => Go.Proofs.enters_of Try.func5 (by kernel_rfl) rfl args w
theorem en28 : Enters Try.prog 28 := fun args w => Go.Proofs.enters_of Try.func28 (by kernel_rfl) rfl args w
theorem en49 : Enters Try.prog 49 := fun args w => Go.Proofs.enters_of Try.func49 (by kernel_rfl) rfl args w
theorem en50 : Enters Try.prog 50 := fun args w => Go.Proofs.enters_of Try.func50 (by kernel_rfl) rfl args w
theorem en51 : Enters Try.prog 51 := fun args w => Go.Proofs.enters_of Try.func51 (by kernel_rfl) rfl args w
theorem en92 : Enters Try.prog 92 := fun args w => Go.Proofs.enters_of Try.func92 (by kernel_rfl) rfl args w
end Go.Fz
namespace Go.Fz
variable {P : Program} {T : Ti}
def runDN (O : Ar) (T : Ti) (ops : Array Oper) : Nat → Nat → List (Nat × AV) → Array Bool → List Cond → Fm → St → DOut
  | 0, fuel, pend, listed, cs, f, st => .stop cs fuel pend listed f st
  | _ + 1, 0, pend, listed, cs, f, st => .stop cs 0 pend listed f st
  | k + 1, fuel + 1, pend, listed, cs, f, st => match Region.ready .any ops listed with
    | [] => .done cs f st
    | rs => match pickD O T ops pend st.h f rs with
      | some (i, o, c, .sb b) => match isCmp o with
        | true => .stop cs (fuel + 1) pend listed f st
        | false => runDN O T ops k fuel ((i, .sb b) :: pend) (listed.setIfInBounds i true) (c ++ cs) (f.put o.dst (.sb b)) st
      | some (i, o, c, r) => runDN O T ops k fuel ((i, r) :: pend) (listed.setIfInBounds i true) (c ++ cs) (f.put o.dst r) st
      | none => .stop cs (fuel + 1) pend listed f st
theorem runDN_cs {O : Ar} {ops : Array Oper} : ∀ (k fuel : Nat) (pend : List (Nat × AV)) (listed : Array Bool) (cs : List Cond) (f : Fm) (st : St), ∀ c ∈ cs, c ∈ (runDN O T ops k fuel pend listed cs f st).cs
  | 0, _, _, _, _, _, _, c, h => h
  | _ + 1, 0, _, _, _, _, _, c, h => h
  | k + 1, fuel + 1, pend, listed, cs, f, st, c, h => by
    unfold runDN
    split
    · exact h
    · split
      · split
        · exact h
        · exact runDN_cs k fuel _ _ _ _ _ c (List.mem_append_right _ h)
      · exact runDN_cs k fuel _ _ _ _ _ c (List.mem_append_right _ h)
      · exact h
theorem runDN_ok (hT : TOk P T) {O : Ar} (hO : O = std) {rd : Option Nat} {ops : Array Oper} {K : Fm → St → Prop} (hM : tidyB ops (masks ops) = true) : ∀ (k fuel : Nat) (pend : List (Nat × AV)) (listed : Array Bool) (cs : List Cond) (f : Fm) (st : St),
    (∀ c ∈ (runDN O T ops k fuel pend listed cs f st).cs, c.holds) → (runDN O T ops k fuel pend listed cs f st).post P T rd ops K → AnyE P T ops (masks ops) rd K fuel pend listed f st
  | 0, _, _, _, _, _, _, _, h => h
  | _ + 1, 0, _, _, _, _, _, _, h => h
  | k + 1, fuel + 1, pend, listed, cs, f, st, hc, h => by
    unfold runDN at hc h
    split at h
    · rename_i hr
      exact .done (by rw [hr]; rfl) h
    · rename_i hr
      split at h
      · rename_i i o c b hp
        obtain ⟨h1, h2, h3, h4⟩ := pickD_ok hO hp
        simp only [hp] at hc
        split at h
        · exact h
        · rename_i hcmp
          simp only [hcmp] at hc
          have hl := h4 fun x hx => hc x (runDN_cs k fuel _ _ _ _ _ x (List.mem_append_left _ hx))
          refine .take hM hT i h2 ?_ hl (runDN_ok hT hO hM k fuel _ _ _ _ _ hc h)
          rw [h3, Bool.and_true]
          exact List.contains_iff_mem.2 h1
      · rename_i i o c r hnsb hp
        obtain ⟨h1, h2, h3, h4⟩ := pickD_ok hO hp
        simp only [hp] at hc
        have hl := h4 fun x hx => hc x (runDN_cs k fuel _ _ _ _ _ x (List.mem_append_left _ hx))
        refine .take hM hT i h2 ?_ hl (runDN_ok hT hO hM k fuel _ _ _ _ _ hc h)
        rw [h3, Bool.and_true]
        exact List.contains_iff_mem.2 h1
      · exact h
theorem AnyE.runN (hT : TOk P T) {O : Ar} (hO : O = std) (k : Nat) {rd : Option Nat} {ops : Array Oper} {K : Fm → St → Prop} {fuel : Nat} {pend : List (Nat × AV)} {listed : Array Bool} {f : Fm} {st : St} {R : DOut} (hM : tidyB ops (masks ops) = true)
    (hR : Fz.runDN O T ops k fuel pend listed [] f st = R) (hc : allC R.cs) (h : R.post P T rd ops K) : AnyE P T ops (masks ops) rd K fuel pend listed f st := by
  subst hR
  exact runDN_ok hT hO hM _ _ _ _ _ _ _ (allC_ok hc) h
end Go.Fz
namespace Go.Fz
open Go.Proofs
set_option maxRecDepth 100000
def bitB (bits : Int) (i : Nat) : Bool := std.cmp .eql (std.bin .rem .i64 (std.bin .shr .i64 bits (std.conv .u64 (Int.ofNat i))) 2) 1
def selL (bits : Int) : Nat → List Nat
  | 0 => []
  | i + 1 => if bitB bits i then selL bits i ++ [i] else selL bits i
theorem selL_len (bits : Int) : ∀ i, (selL bits i).length ≤ i
  | 0 => Nat.le_refl _
  | i + 1 => by
    have := selL_len bits i
    show (if bitB bits i then selL bits i ++ [i] else selL bits i).length ≤ i + 1
    split
    · rw [List.length_append, List.length_singleton]; omega
    · omega
end Go.Fz
namespace Go.Fz
open Go.Proofs
set_option maxRecDepth 100000
set_option maxHeartbeats 8000000 in
theorem fewest_err (d : DayD) (e : Int) (he : e ≠ 0) (h : Pure Try.prog 57 [dayV d, .lit (.bool true)] (.tup [.agg stZ, iV e])) : Pure Try.prog 27 [dayV d] (.tup [nl3, iV e]) := by
  obtain ⟨O, hO⟩ : ∃ O : Ar, O = std := ⟨_, rfl⟩
  refine pure_of_body tok 3 Try.func27 en27 rfl ⟨dayV_below d, trivial⟩ (Below.tup (AllB.ok ⟨Below.lit, Below.lit, trivial⟩)) ?_
  refine SW.seqRun tok hO (by cbv <;> rfl) (by trivial) ?_
  refine SW.seq (SW.runN tok hO 1 (by cbv <;> rfl) (by trivial) ?_)
  refine OpsW.callP h (by cbv <;> rfl) ?_
  refine OpsW.run tok hO (by cbv <;> rfl) (by trivial) ?_
  refine SW.seq ?_
  refine SW.seqRun tok hO (by cbv <;> rfl) (by trivial) ?_
  refine SW.condS (by cbv <;> rfl) (fun h1 => ?_) (fun h1 => ?_)
  · refine SW.seqRun tok hO (by cbv <;> rfl) (by trivial) ?_
    exact SW.ret ⟨_, _, rfl, rfl, Eqv.of rfl⟩
  · exfalso
    have : e = 0 := by subst hO; simpa [std] using h1
    exact he this
def DayD.fewL (d : DayD) : AV := if d.seen.outs = [] then nl3 else fewV (d.setQ d.seen.outs) d.nw
def DayD.fewN (d : DayD) : Int := if d.seen.outs = [] then 11 else fewE (d.setQ d.seen.outs) d.nw
theorem fewestA_ok (d : DayD) (hs : d.small) (hc : d.check = 0) : Pure Try.prog 27 [dayV d] (.tup [d.fewL, iV d.fewN]) := by
  unfold DayD.fewL DayD.fewN
  by_cases ho : d.seen.outs = []
  · rw [if_pos ho, if_pos ho]
    exact fewest_err d 11 (by decide) (open_none d hs hc ho)
  · rw [if_neg ho, if_neg ho]
    exact fewestP_ok d hs hc ho
end Go.Fz
namespace Go.Fz
open Go.Proofs
set_option maxRecDepth 100000
def befF (fa fb : Nat → Int) (na nb : Nat) : Nat → Nat → Bool
  | _, 0 => decide ((na : Int) < nb)
  | i, k + 1 => if i < na ∧ i < nb then (if fa i = fb i then befF fa fb na nb (i + 1) k else decide (fa i < fb i)) else decide ((na : Int) < nb)
set_option pp.deepTerms false
set_option pp.deepTerms.threshold 5
set_option maxHeartbeats 8000000 in
theorem before92_ok (na nb : Nat) (ea eb : Bool) (fa fb : Nat → Int) (hna : na < 1000) (hnb : nb < 1000) : Pure Try.prog 92 [intsV na ea fa, intsV nb eb fb] (.sb (befF fa fb na nb 0 (na + 1))) := by
  obtain ⟨O, hO⟩ : ∃ O : Ar, O = std := ⟨_, rfl⟩
  have hnat : ∀ i : Nat, O.nat (Int.ofNat i) = i := fun i => by subst hO; rfl
  refine pure_of_body tok 3 Try.func92 en92 rfl ⟨intsV_below _ _ _, intsV_below _ _ _, trivial⟩ Below.sb ?_
  refine SW.seqRun tok hO (by cbv <;> rfl) (by trivial) ?_
  refine SW.seq ?_
  refine SW.seqRun tok hO (by cbv <;> rfl) (by trivial) ?_
  refine (SW.block (SW.loopF (fun i : Nat => ⟨⟨41, getT [(0, intsV na ea fa), (1, intsV nb eb fb), (5, iV i)]⟩, []⟩) (fun _ => ⟨[], 0⟩) (fun i => na + 1 - i) (fun i => i ≤ na ∧ befF fa fb na nb 0 (na + 1) = befF fa fb na nb i (na + 1 - i)) 0
    (fun _ => rfl) ⟨Nat.zero_le _, rfl⟩ (Weak.by rfl rfl (by simp) (Nat.le_refl _) (Nat.le_refl _) ⟨⟨rfl, .inl rfl⟩, ⟨rfl, .inl rfl⟩, ⟨rfl, .inl rfl⟩, trivial⟩ trivial) fun i ⟨hi, hB⟩ => ?_))
  have hun : befF fa fb na nb i (na + 1 - i) = if i < na ∧ i < nb then (if fa i = fb i then befF fa fb na nb (i + 1) (na - i) else decide (fa i < fb i)) else decide ((na : Int) < nb) := by
    rw [show na + 1 - i = (na - i) + 1 by omega]; rfl
  rw [hun] at hB
  have h0 : (0 : Int) ≤ Int.ofNat i := Int.natCast_nonneg i
  generalize befF fa fb na nb 0 (na + 1) = B at hB ⊢
  refine SW.seq ?_
  refine SW.seqRun tok hO (by cbv <;> rfl) (by trivial) ?_
  have hend : ¬ (i < na ∧ i < nb) → B = decide ((na : Int) < nb) := fun h => by rw [hB, if_neg h]
  refine OpsW.splitG (by cbv <;> rfl) (fun h => ?_) (fun h => ?_)
  · have hlt : i < na := by subst hO; simpa [std] using h
    refine OpsW.run tok hO (by cbv <;> rfl) (by trivial) ?_
    refine SW.condS (by cbv <;> rfl) (fun h3 => SW.skip ?_) (fun h3 => SW.exit ?_)
    · have hlt2 : i < nb := by subst hO; simpa [std] using h3
      rw [if_pos ⟨hlt, hlt2⟩] at hB
      refine SW.seq (SW.block ?_)
      refine SW.seqRunD tok mixed hO (by rfl) (by cbv <;> rfl) ?_ ?_
      · exact ⟨⟨h0, Int.ofNat_lt.2 hlt2⟩, ⟨h0, Int.ofNat_lt.2 hlt⟩⟩
      refine AnyE.dec tok hO (by rfl) (by cbv <;> rfl) (by trivial) (fun h4 => ?_) (fun h4 => ?_) <;> refine AnyE.run tok hO (by rfl) (by cbv <;> rfl) (by trivial) ?_
      · have hne : fa i ≠ fb i := by subst hO; simpa [std] using h4
        rw [if_neg hne] at hB
        refine SW.cond (t := true) (by cbv <;> rfl) ?_
        refine SW.seqRunD tok mixed hO (by rfl) (by cbv <;> rfl) ?_ ?_
        · exact ⟨⟨h0, Int.ofNat_lt.2 hlt2⟩, ⟨h0, Int.ofNat_lt.2 hlt⟩⟩
        refine AnyE.dec tok hO (by rfl) (by cbv <;> rfl) (by trivial) (fun h5 => ?_) (fun h5 => ?_) <;> refine AnyE.run tok hO (by rfl) (by cbv <;> rfl) (by trivial) ?_
        · have h6 : fa i < fb i := by subst hO; simpa [std] using h5
          refine SW.ret ⟨_, _, rfl, rfl, Eqv.bool ?_⟩
          rw [hB, decide_eq_true h6]
        · have h6 : ¬ fa i < fb i := by subst hO; simpa [std] using h5
          refine SW.ret ⟨_, _, rfl, rfl, Eqv.bool ?_⟩
          rw [hB, decide_eq_false h6]
      · have he : fa i = fb i := by subst hO; simpa [std] using h4
        rw [if_pos he] at hB
        refine SW.cond (t := false) (by cbv <;> rfl) (SW.skip ?_)
        refine SW.run tok hO (by cbv <;> rfl) (by trivial) ?_
        exact ⟨i + 1, by omega, ⟨by omega, by rw [hB]; congr 1; omega⟩, Weak.by rfl rfl (by simp) (Nat.le_refl _) (Nat.zero_le _) ⟨⟨rfl, .inr (intsV_below _ _ _)⟩, ⟨rfl, .inr (intsV_below _ _ _)⟩, ⟨inc_ok hO (by omega), .inr Below.lit⟩, trivial⟩ trivial⟩
    · have hge : ¬ i < nb := by subst hO; simpa [std] using h3
      refine SW.seqRun tok hO (by cbv <;> rfl) (by trivial) ?_
      refine SW.ret ⟨_, _, rfl, rfl, Eqv.sb ?_⟩
      rw [hend (fun h => hge h.2)]; subst hO; rfl
  · have hge : ¬ i < na := by subst hO; simpa [std] using h
    refine OpsW.run tok hO (by cbv <;> rfl) (by trivial) ?_
    refine SW.cond (t := false) (by cbv <;> rfl) (SW.exit ?_)
    refine SW.seqRun tok hO (by cbv <;> rfl) (by trivial) ?_
    refine SW.ret ⟨_, _, rfl, rfl, Eqv.sb ?_⟩
    rw [hend (fun h => hge h.1)]; subst hO; rfl
def shortB (na nb : Nat) (fa fb : Nat → Int) : Bool := decide ((na : Int) < nb) || (decide ((na : Int) = nb) && befF fa fb na nb 0 (na + 1))
theorem shorter_ok (na nb : Nat) (ea eb : Bool) (fa fb : Nat → Int) (hna : na < 1000) (hnb : nb < 1000) : Pure Try.prog 50 [intsV na ea fa, intsV nb eb fb] (.sb (shortB na nb fa fb)) := by
  obtain ⟨O, hO⟩ : ∃ O : Ar, O = std := ⟨_, rfl⟩
  have hbef := before92_ok na nb ea eb fa fb hna hnb
  obtain ⟨S, hS⟩ : ∃ S, shortB na nb fa fb = S := ⟨_, rfl⟩
  unfold shortB at hS
  rw [show shortB na nb fa fb = S from hS]
  generalize befF fa fb na nb 0 (na + 1) = B at hbef hS
  refine pure_of_body tok 3 Try.func50 en50 rfl ⟨intsV_below _ _ _, intsV_below _ _ _, trivial⟩ Below.sb ?_
  refine SW.seqRun tok hO (by cbv <;> rfl) (by trivial) ?_
  refine SW.seqRun tok hO (by cbv <;> rfl) (by trivial) ?_
  refine OpsW.splitG (by cbv <;> rfl) (fun h => ?_) (fun h => ?_)
  · have hlt : (na : Int) < nb := by subst hO; simpa [std] using h
    refine OpsW.run tok hO (by cbv <;> rfl) (by trivial) ?_
    refine SW.ret ⟨_, _, rfl, rfl, Eqv.bool ?_⟩
    rw [← hS, decide_eq_true hlt]; rfl
  · have hlt : ¬ (na : Int) < nb := by subst hO; simpa [std] using h
    refine OpsW.run tok hO (by cbv <;> rfl) (by trivial) ?_
    refine OpsW.splitG (by cbv <;> rfl) (fun h2 => ?_) (fun h2 => ?_)
    · have he : (na : Int) = nb := by subst hO; simpa [std] using h2
      refine OpsW.run tok hO (by cbv <;> rfl) (by trivial) ?_
      refine OpsW.callP hbef (by cbv <;> rfl) ?_
      refine OpsW.run tok hO (by cbv <;> rfl) (by trivial) ?_
      refine SW.ret ⟨_, _, rfl, rfl, Eqv.sb ?_⟩
      rw [← hS, decide_eq_false hlt, decide_eq_true he]; rfl
    · have he : ¬ (na : Int) = nb := by subst hO; simpa [std] using h2
      refine OpsW.run tok hO (by cbv <;> rfl) (by trivial) ?_
      refine SW.ret ⟨_, _, rfl, rfl, Eqv.bool ?_⟩
      rw [← hS, decide_eq_false hlt, decide_eq_false he]; rfl
end Go.Fz
namespace Go.Fz
open Go.Proofs
set_option maxRecDepth 100000
def lI (l : List Nat) (i : Nat) : Int := ((l.getD i 0 : Nat) : Int)
theorem lI_snoc (l : List Nat) (i : Nat) : flatG 1 (intC (lI l)) l.length ++ [iV (i : Int)] = flatG 1 (intC (lI (l ++ [i]))) (l.length + 1) := by
  have h1 : flatG 1 (intC (lI (l ++ [i]))) l.length = flatG 1 (intC (lI l)) l.length := flatG_congr fun j k hj => by
    show iV (lI (l ++ [i]) j) = iV (lI l j)
    unfold lI
    rw [List.getD_eq_getElem?_getD, List.getElem?_append_left hj, ← List.getD_eq_getElem?_getD]
  have h2 : lI (l ++ [i]) l.length = (i : Int) := by unfold lI; simp
  show _ = flatG 1 (intC (lI (l ++ [i]))) l.length ++ [iV (lI (l ++ [i]) l.length)]
  rw [h1, h2]
theorem bits_fin : ∀ (n : Fin 32) (i : Fin 6), (std.cmp .gtr (std.bin .shr .i64 (n.1 : Int) (std.conv .u64 (i.1 : Int))) 0 = true → i.1 < 5) ∧ (std.cmp .gtr (std.bin .shr .i64 (n.1 : Int) (std.conv .u64 (i.1 : Int))) 0 = false → selL (n.1 : Int) i.1 = selL (n.1 : Int) 5) := by
  decide +kernel
set_option maxHeartbeats 16000000 in
theorem bits51_ok (o : Int) (o0 : 0 ≤ o) (o32 : o < 32) : Pure Try.prog 51 [iV o] (lsV (selL o 5)) := by
  obtain ⟨O, hO⟩ : ∃ O : Ar, O = std := ⟨_, rfl⟩
  have hfin : ∀ i : Nat, i ≤ 5 → (std.cmp .gtr (std.bin .shr .i64 o (std.conv .u64 (i : Int))) 0 = true → i < 5) ∧ (std.cmp .gtr (std.bin .shr .i64 o (std.conv .u64 (i : Int))) 0 = false → selL o i = selL o 5) := fun i hi => by
    have h1 := bits_fin ⟨o.toNat, by omega⟩ ⟨i, by omega⟩
    have h2 : ((o.toNat : Nat) : Int) = o := by omega
    rw [h2] at h1
    exact h1
  refine pure_of_body tok 3 Try.func51 en51 rfl ⟨Below.lit, trivial⟩ (lsV_below _) ?_
  refine SW.seqRun tok hO (by cbv <;> rfl) (by trivial) ?_
  refine SW.seqRun tok hO (by cbv <;> rfl) (by trivial) ?_
  refine SW.seq ?_
  refine SW.seqRun tok hO (by cbv <;> rfl) (by trivial) ?_
  refine (SW.block (SW.loopR (fun i : Nat => ⟨⟨23, getT [(0, iV o), (3, slG 0 1 (selL o i).length), (4, iV i)]⟩, []⟩) (fun i => ⟨[] ++ objG 0 1 (intC (lI (selL o i))) (selL o i).length, 1⟩) (fun i => 5 - i) (fun i => i ≤ 5) 0 (Nat.zero_le _) (ren1 0 0) ?_ fun i hi => ?_))
  · exact WeakR.up rfl rfl (by simp) (Nat.le_refl _) (.inl rfl) (by show 0 ≤ 1; omega) ⟨RenV.closed Below.lit, RenV.closed Below.lit, RenV.closed Below.lit, trivial⟩ trivial (fun p hp => by cases hp)
  have hlen := selL_len o i
  have hsn := lI_snoc (selL o i) i
  have hsu : selL o (i + 1) = if bitB o i then selL o i ++ [i] else selL o i := rfl
  obtain ⟨f1, f2⟩ := hfin i hi
  have hc0 : 0 ≤ O.conv .u64 (Int.ofNat i) := by
    subst hO
    show 0 ≤ wrp .u64 ((i : Nat) : Int)
    rw [wrp_in (by simp only [IntKind.lo]; omega) (by simp only [IntKind.hi]; omega)]
    omega
  cases hm : (selL o i).length with
  | zero =>
    have hl0 : selL o i = [] := List.length_eq_zero_iff.1 hm
    show SW _ _ _ _ ⟨⟨23, getT [(0, iV o), (3, nl3), (4, iV i)]⟩, []⟩ ⟨[], 1⟩
    refine SW.seq ?_
    refine SW.seqRun tok hO (by cbv <;> rfl) (by first | exact hc0 | exact ⟨hc0, trivial⟩) ?_
    refine SW.condS (by cbv <;> rfl) (fun h => SW.skip ?_) (fun h => SW.exit ?_)
    · have hlt : i < 5 := f1 (by subst hO; exact h)
      refine SW.seq (SW.block ?_)
      refine SW.seqRun tok hO (by cbv <;> rfl) (by first | exact ⟨hc0, (by decide : (2 : Int) ≠ 0)⟩ | exact ⟨(by decide : (2 : Int) ≠ 0), hc0⟩) ?_
      refine SW.condS (by cbv <;> rfl) (fun h2 => ?_) (fun h2 => SW.skip ?_)
      · have hb : bitB o i = true := by subst hO; exact h2
        rw [if_pos hb] at hsu
        rw [hl0] at hsn hsu
        refine SW.runN tok hO 3 (by cbv <;> rfl) (by trivial) ?_
        refine OpsW.appNil tok (by cbv <;> rfl) (by rfl) (by kernel_rfl) (by rfl) (by rfl) ?_
        refine OpsW.run tok hO (by cbv <;> rfl) (by trivial) ?_
        refine SW.run tok hO (by cbv <;> rfl) (by trivial) ?_
        refine ⟨i + 1, by omega, by omega, ren1 0 2, ?_⟩
        rw [hsu]
        refine WeakR.up rfl rfl (by simp) (Nat.le_refl _) (.inr (by omega)) (by show 0 ≤ 1; omega) ⟨RenV.closed Below.lit, RenV.sl (by omega), RenV.inc hO (by omega), trivial⟩ trivial (fun p hp => ?_)
        obtain rfl := objG_mem hp
        exact ⟨by omega, _, rfl, .cells (RenVs.of_eq hsn (flatG_below (fun _ _ => Below.lit) _)), .inl rfl⟩
      · have hb : bitB o i = false := by subst hO; exact h2
        rw [if_neg (by rw [hb]; decide)] at hsu
        refine SW.run tok hO (by cbv <;> rfl) (by trivial) ?_
        refine ⟨i + 1, by omega, by omega, ren1 0 0, ?_⟩
        rw [hsu, hm]
        exact WeakR.up rfl rfl (by simp) (Nat.le_refl _) (.inl rfl) (by show 0 ≤ 1; omega) ⟨RenV.closed Below.lit, RenV.closed Below.lit, RenV.inc hO (by omega), trivial⟩ trivial (fun p hp => by cases hp)
    · have he := f2 (by subst hO; exact h)
      refine SW.seqRun tok hO (by cbv <;> rfl) (by trivial) ?_
      refine SW.ret ⟨_, _, rfl, rfl, ?_⟩
      rw [← he, hl0]
      exact Eqv.nil
  | succ m =>
    obtain ⟨G, hG⟩ : ∃ G, G = flatG 1 (intC (lI (selL o i))) (m + 1) := ⟨_, rfl⟩
    show SW _ _ _ _ ⟨⟨23, getT [(0, iV o), (3, .sl 0 0 (m + 1) 1 false), (4, iV i)]⟩, []⟩ ⟨[(0, .cells none false (flatG 1 (intC (lI (selL o i))) (m + 1)))], 1⟩
    rw [← hG]
    refine SW.seq ?_
    refine SW.seqRun tok hO (by cbv <;> rfl) (by first | exact hc0 | exact ⟨hc0, trivial⟩) ?_
    refine SW.condS (by cbv <;> rfl) (fun h => SW.skip ?_) (fun h => SW.exit ?_)
    · have hlt : i < 5 := f1 (by subst hO; exact h)
      refine SW.seq (SW.block ?_)
      refine SW.seqRun tok hO (by cbv <;> rfl) (by first | exact ⟨hc0, (by decide : (2 : Int) ≠ 0)⟩ | exact ⟨(by decide : (2 : Int) ≠ 0), hc0⟩) ?_
      refine SW.condS (by cbv <;> rfl) (fun h2 => ?_) (fun h2 => SW.skip ?_)
      · have hb : bitB o i = true := by subst hO; exact h2
        rw [if_pos hb] at hsu
        rw [hm, ← hG] at hsn
        refine SW.runN tok hO 3 (by cbv <;> rfl) (by trivial) ?_
        refine OpsW.appOne (g := intC (lI (selL o i))) (len := m + 1) tok (by cbv <;> rfl) (by rfl) (by rfl) hG (by kernel_rfl) (by rfl) (by rfl) (by omega) fun G' hG' => ?_
        refine OpsW.run tok hO (by cbv <;> rfl) (by trivial) ?_
        refine SW.run tok hO (by cbv <;> rfl) (by trivial) ?_
        refine ⟨i + 1, by omega, by omega, ren1 0 2, ?_⟩
        rw [hsu, List.length_append, List.length_singleton, hm]
        refine WeakR.up rfl rfl (by simp) (Nat.le_refl _) (.inr (by omega)) (by show 0 ≤ 1; omega) ⟨RenV.closed Below.lit, RenV.sl (by omega), RenV.inc hO (by omega), trivial⟩ trivial (fun p hp => ?_)
        obtain rfl := objG_mem hp
        exact ⟨by omega, _, rfl, .cells (RenVs.of_eq (by rw [hG', ← hG]; exact hsn) (flatG_below (fun _ _ => Below.lit) _)), .inl rfl⟩
      · have hb : bitB o i = false := by subst hO; exact h2
        rw [if_neg (by rw [hb]; decide)] at hsu
        refine SW.run tok hO (by cbv <;> rfl) (by trivial) ?_
        refine ⟨i + 1, by omega, by omega, ren1 0 0, ?_⟩
        rw [hsu, hm]
        refine WeakR.up rfl rfl (by simp) (Nat.le_refl _) (.inl rfl) (by show 0 ≤ 1; omega) ⟨RenV.closed Below.lit, RenV.sl (by omega), RenV.inc hO (by omega), trivial⟩ trivial (fun p hp => ?_)
        obtain rfl := objG_mem hp
        exact ⟨by omega, _, rfl, .cells (RenVs.of_eq hG (flatG_below (fun _ _ => Below.lit) _)), .inl rfl⟩
    · have he := f2 (by subst hO; exact h)
      refine SW.seqRun tok hO (by cbv <;> rfl) (by trivial) ?_
      refine SW.ret ⟨_, _, rfl, rfl, ?_⟩
      rw [← he]
      show Eqv (frz _ _ 3 (.sl 0 0 (m + 1) 1 false)) (.isl (selL o i).length 1 false _)
      rw [frz_slE (fm := none) (G := G) rfl rfl (by rw [hG, flatG_length]; omega), hm]
      refine Eqv.isl rfl fun j k hj hk => Eqv.of ?_
      rw [hG, frz_flat hj hk rfl]
      rfl
end Go.Fz
namespace Go.Fz
open Go.Proofs
set_option maxRecDepth 100000
theorem oth_fin : ∀ (many : Fin 6) (o : Fin 32), o.1 < 2 ^ many.1 → (selL (o.1 : Int) 5 ∈ risL many.1) ∧ (∀ j : Fin 5, bitB (std.bin .andNot .i64 (fullI many.1) (o.1 : Int)) j.1 = (decide (j.1 < many.1) && !bitB (o.1 : Int) j.1)) := by
  decide +kernel
def shL (a b : List Nat) : Bool := shortB a.length b.length (lI a) (lI b)
theorem ord_fin : ∀ many : Fin 6, (risL many.1).Pairwise (fun x y => shL y x = false) ∧ (∀ l ∈ risL many.1, shL l l = false) ∧ List.range many.1 ∈ risL many.1 := by
  decide +kernel
theorem ris_before {many : Nat} (hm : many ≤ 5) {pre post : List (List Nat)} {l a : List Nat} (hE : risL many = pre ++ l :: post) (ha : a ∈ risL many) (hs : shL a l = true) : a ∈ pre := by
  obtain ⟨h1, h2, _⟩ := ord_fin ⟨many, by omega⟩
  simp only at h1 h2
  have hl := h2 l (by rw [hE]; simp)
  rw [hE] at h1 ha
  rcases List.mem_append.1 ha with ha | ha
  · exact ha
  · rcases List.mem_cons.1 ha with rfl | ha
    · rw [hl] at hs; cases hs
    · have := (List.pairwise_append.1 h1).2.1
      have := (List.pairwise_cons.1 this).1 a ha
      rw [this] at hs; cases hs
end Go.Fz
namespace Go.Fz
open Go.Proofs
set_option maxRecDepth 100000
theorem find_split {α : Type} {p : α → Bool} : ∀ {l : List α} {a : α}, l.find? p = some a → ∃ pre post, l = pre ++ a :: post ∧ (∀ b ∈ pre, p b = false) ∧ p a = true
  | [], _, h => by cases h
  | x :: l, a, h => by
    rw [List.find?_cons] at h
    split at h
    · rename_i hx
      cases h
      exact ⟨[], l, rfl, (fun b hb => by cases hb), hx⟩
    · rename_i hx
      obtain ⟨pre, post, h1, h2, h3⟩ := find_split h
      refine ⟨x :: pre, post, by rw [h1]; rfl, fun b hb => ?_, h3⟩
      rcases List.mem_cons.1 hb with rfl | hb
      · simpa using hx
      · exact h2 b hb
theorem find_in {many : Nat} {p : List Nat → Bool} {l : List Nat} (h : (risL many).find? p = some l) : l ∈ risL many ∧ p l = true := by
  obtain ⟨pre, post, h1, _, h3⟩ := find_split h
  exact ⟨by rw [h1]; simp, h3⟩
theorem find_ex {many : Nat} {p : List Nat → Bool} {a : List Nat} (ha : a ∈ risL many) (hp : p a = true) : ∃ l, (risL many).find? p = some l := by
  cases h : (risL many).find? p with
  | some l => exact ⟨l, rfl⟩
  | none =>
    have := List.find?_eq_none.1 h a ha
    rw [hp] at this; exact absurd rfl this
section
variable (d : DayD) (k w lo hi : Int)
end
end Go.Fz
namespace Go.Fz
open Go.Proofs
set_option maxRecDepth 100000
set_option linter.unusedVariables false
section
variable {P : Program}
theorem SW.eqvF {rd : Option Nat} {c : Code} {Q : Exit → Fm → St → Prop} {len : Nat} {g g' : Nat → AV} {dm : List Nat} {S : St} (h : ∀ i, Eqv (g i) (g' i)) (H : SW P rd c Q ⟨⟨len, g'⟩, dm⟩ S) : SW P rd c Q ⟨⟨len, g⟩, dm⟩ S := by
  intro φ w a n h1 h2 h3
  exact H φ w a n h1 h2 ⟨⟨h3.ts.size, fun i => h i φ _ (h3.ts.get i)⟩, h3.dm, h3.lt⟩
theorem updT_eqv {g : Nat → AV} {k : Nat} {v v' : AV} (hk : g k = v) (he : Eqv v v') (i : Nat) : Eqv (g i) (updT g k v' i) := by
  unfold updT
  split
  · rename_i h
    rw [← Nat.eq_of_beq_eq_true h, hk]; exact he
  · exact Eqv.refl _
theorem SW.slot {rd : Option Nat} {c : Code} {Q : Exit → Fm → St → Prop} {len : Nat} {g : Nat → AV} {dm : List Nat} {S : St} (k : Nat) (v v' : AV) (hk : g k = v) (he : Eqv v v') (H : SW P rd c Q ⟨⟨len, updT g k v'⟩, dm⟩ S) : SW P rd c Q ⟨⟨len, g⟩, dm⟩ S :=
  SW.eqvF (updT_eqv hk he) H
end
def seFl (e : Exit) (fm : Fm) (st : St) (T B : AV) (M : Nat) (FL : Nat → Int) (S : St) : Prop :=
  e = .normal ∧ ∃ g X, fm = ⟨⟨85, g⟩, []⟩ ∧ g 1 = T ∧ g 2 = B ∧ g 3 = .ptr 0 0 ∧ g 7 = X ∧ Eqv X (intsV M false FL) ∧ st = S
set_option maxHeartbeats 16000000 in
theorem se_flats (d : DayD) (M : Nat) (F S : Nat → Nat → Int) (b : Int) (hM : M < 100000) (FL hh ll sp : Nat → Int) (bu le : Nat → Nat → Int) (hplay : ∀ i, i < M → Pure Try.prog 47 [dayV d, .agg [intsV d.nw false (F i), intsV d.nl false (S i)]] (.agg [intsV d.nw false (bu i), intsV d.nw false (le i), iV (hh i), iV (ll i), iV (FL i), iV (sp i)]))
    (g : Nat → AV) (O : Ar) (hO : O = std) (h : AllP (fun p => g p.1 = p.2) [(1, trsV M d.nw d.nl F S), (2, iV b), (3, .ptr 0 0), (7, nl3)]) :
    SW Try.prog none (nthC 2 (bodyF Try.f49)) (fun e f st => seFl e f st (trsV M d.nw d.nl F S) (iV b) M FL ⟨[(0, .cells none false (dayC d))], 2⟩) ⟨⟨85, g⟩, []⟩ ⟨[(0, .cells none false (dayC d))], 1⟩ := by
  have hnat : ∀ i : Nat, O.nat (Int.ofNat i) = i := fun i => by subst hO; rfl
  have hT0 := trsV_below M d.nw d.nl F S
  obtain ⟨g1, g2, g3, g7, _⟩ := h
  simp only at g1 g2 g3 g7
  rw [← updT_self g1, ← updT_self g2, ← updT_self g3, ← updT_self g7]
  refine SW.seqRun tok hO (by cbv <;> rfl) (by trivial) ?_
  refine (SW.block (SW.loopR (fun i : Nat => ⟨⟨85, getT [(1, trsV M d.nw d.nl F S), (2, iV b), (3, .ptr 0 0), (7, slG 1 1 i), (8, iV (Int.ofNat i))]⟩, []⟩) (fun i => ⟨[(0, .cells none false (dayC d))] ++ objG 1 1 (intC FL) i, 2⟩) (fun i => M - i) (fun i => i ≤ M) 0 (Nat.zero_le _) (tabR []) ?_ fun i hi => ?_))
  · exact WeakR.tab rfl rfl (by simp) (by rfl) (by show 1 ≤ 2; omega) (by rfl) ⟨RenV.closed hT0, RenV.closed Below.lit, RenV.ptr (by omega), RenV.closed Below.lit, RenV.closed Below.lit, trivial⟩ ⟨⟨by omega, _, rfl, .cells (RenVs.closed (dayC_below d)), rfl⟩, trivial⟩
  have hc : i < M → 0 ≤ Int.ofNat i ∧ Int.ofNat i < (M : Int) := fun h => ⟨Int.natCast_nonneg i, Int.ofNat_lt.2 h⟩
  cases i with
  | zero =>
    show SW _ _ _ _ _ ⟨[(0, .cells none false (dayC d))], 2⟩
    refine SW.seq ?_
    refine SW.seqRun tok hO (by cbv <;> rfl) (by trivial) ?_
    refine SW.condS (by cbv <;> rfl) (fun h => SW.skip ?_) (fun h => SW.exit ?_)
    · have hlt : 0 < M := by
        have : (Int.ofNat 0 : Int) < Int.ofNat M := by subst hO; simpa [std] using h
        exact Int.ofNat_lt.1 this
      have hc := hc hlt
      have call := hplay 0 hlt
      obtain ⟨z0, hz0⟩ : ∃ z, FL 0 = z := ⟨_, rfl⟩
      rw [hz0, ← hnat 0] at call
      refine SW.seq (SW.block ?_)
      refine SW.runD tok mixed hO (by kernel_rfl) (by cbv <;> rfl) (by first | exact hc | exact ⟨hc, trivial⟩) ?_
      refine AnyE.callP call (by cbv <;> rfl) (by cbv <;> rfl) ?_
      refine AnyE.run tok hO (by rfl) (by cbv <;> rfl) (by trivial) ?_
      refine AnyE.effK tok hO (by cbv <;> rfl) (by cbv <;> rfl) (by trivial) ?_ ?_
      · exact (by repeat (first | exact trivial | refine And.intro (by first | exact lv_of hO (by cbv <;> rfl) (by trivial) | (cbv <;> rfl)) ?_))
      refine AnyE.appNilK tok (by cbv <;> rfl) (by cbv <;> rfl) (by rfl) (by kernel_rfl) (by rfl) (by rfl) ?_ ?_
      · exact (by repeat (first | exact trivial | refine And.intro (by first | exact lv_of hO (by cbv <;> rfl) (by trivial) | (cbv <;> rfl)) ?_))
      refine AnyE.run tok hO (by rfl) (by cbv <;> rfl) (by trivial) ?_
      refine SW.run tok hO (by cbv <;> rfl) (by trivial) ?_
      refine ⟨1, by omega, by omega, ren1 1 3, ?_⟩
      refine WeakR.up rfl rfl (by simp) (Nat.le_refl _) (.inr (by omega)) (by show 1 ≤ 2; omega) ⟨RenV.closed hT0, RenV.closed Below.lit, RenV.ptr (by omega), RenV.sl (by omega), RenV.inc hO (by omega), trivial⟩ ⟨⟨by omega, _, rfl, .cells (RenVs.closed (dayC_below d)), .inr rfl⟩, trivial⟩ (fun p hp => ?_)
      obtain rfl := objG_mem hp
      exact ⟨by omega, _, rfl, .cells (RenVs.of_eq (congrArg (fun v => [iV v]) hz0.symm) (flatG_below (intC_below FL) 1)), .inl rfl⟩
    · have hz : M = 0 := by
        have : ¬ (Int.ofNat 0 : Int) < Int.ofNat M := by subst hO; simpa [std] using h
        have h2 : ¬ 0 < M := fun h => this (Int.ofNat_lt.2 h)
        omega
      subst hz
      exact ⟨rfl, _, _, rfl, rfl, rfl, rfl, rfl, Eqv.nil, rfl⟩
  | succ i =>
    obtain ⟨G, hG⟩ : ∃ G, G = flatG 1 (intC FL) (i + 1) := ⟨_, rfl⟩
    have hGo : objG 1 1 (intC FL) (i + 1) = [(1, .cells none false G)] := by rw [hG]; rfl
    rw [hGo]
    show SW _ _ _ _ ⟨⟨85, getT [(1, trsV M d.nw d.nl F S), (2, iV b), (3, .ptr 0 0), (7, .sl 1 0 (i + 1) 1 false), (8, iV (Int.ofNat (i + 1)))]⟩, []⟩ _
    refine SW.seq ?_
    refine SW.seqRun tok hO (by cbv <;> rfl) (by trivial) ?_
    refine SW.condS (by cbv <;> rfl) (fun h => SW.skip ?_) (fun h => ?_)
    · have hlt : i + 1 < M := by
        have : (Int.ofNat (i + 1) : Int) < Int.ofNat M := by subst hO; simpa [std] using h
        exact Int.ofNat_lt.1 this
      have hc := hc hlt
      have call := hplay (i + 1) hlt
      obtain ⟨z0, hz0⟩ : ∃ z, FL (i + 1) = z := ⟨_, rfl⟩
      rw [hz0, ← hnat (i + 1)] at call
      refine SW.seq (SW.block ?_)
      refine SW.runD tok mixed hO (by kernel_rfl) (by cbv <;> rfl) (by first | exact hc | exact ⟨hc, trivial⟩) ?_
      refine AnyE.callP call (by cbv <;> rfl) (by cbv <;> rfl) ?_
      refine AnyE.run tok hO (by rfl) (by cbv <;> rfl) (by trivial) ?_
      refine AnyE.effK tok hO (by cbv <;> rfl) (by cbv <;> rfl) (by trivial) ?_ ?_
      · exact (by repeat (first | exact trivial | refine And.intro (by first | exact lv_of hO (by cbv <;> rfl) (by trivial) | (cbv <;> rfl)) ?_))
      refine AnyE.appOneK (g := intC FL) tok (by cbv <;> rfl) (by cbv <;> rfl) (by rfl) (by rfl) hG (by kernel_rfl) (by rfl) (by rfl) (by omega) fun G' hG' => ⟨?_, ?_⟩
      · exact (by repeat (first | exact trivial | refine And.intro (by first | exact lv_of hO (by cbv <;> rfl) (by trivial) | (cbv <;> rfl)) ?_))
      refine AnyE.run tok hO (by rfl) (by cbv <;> rfl) (by trivial) ?_
      refine SW.run tok hO (by cbv <;> rfl) (by trivial) ?_
      refine ⟨i + 1 + 1, by omega, by omega, ren1 1 3, ?_⟩
      refine WeakR.up rfl rfl (by simp) (Nat.le_refl _) (.inr (by omega)) (by show 1 ≤ 2; omega) ⟨RenV.closed hT0, RenV.closed Below.lit, RenV.ptr (by omega), RenV.sl (by omega), RenV.inc hO (by omega), trivial⟩ ⟨⟨by omega, _, rfl, .cells (RenVs.closed (dayC_below d)), .inr rfl⟩, trivial⟩ (fun p hp => ?_)
      obtain rfl := objG_mem hp
      exact ⟨by omega, _, rfl, .cells (RenVs.of_eq (hG'.trans (flatG_snoc FL (i + 1) _ hz0.symm)) (flatG_below (intC_below FL) (i + 1 + 1))), .inl rfl⟩
    · have hz : M = i + 1 := by
        have : ¬ (Int.ofNat (i + 1) : Int) < Int.ofNat M := by subst hO; simpa [std] using h
        have h2 : ¬ i + 1 < M := fun h => this (Int.ofNat_lt.2 h)
        omega
      have hlG : (i + 1) * 1 ≤ G.length := by rw [hG, flatG_length]; omega
      refine SW.freezeZ (fun j => Nat.beq j 1) 3 (by rfl) (SW.exit ⟨rfl, _, _, rfl, ?_, rfl, rfl, rfl, ?_, rfl⟩)
      · exact rfl
      show Eqv (frz _ _ 3 (.sl 1 0 (i + 1) 1 false)) (.isl M 1 false (intC FL))
      rw [frz_slE (fm := none) (G := G) rfl rfl hlG]
      exact Eqv.isl hz.symm fun a k ha hk => Eqv.of (by rw [hG]; exact frz_flat ha hk rfl)
end Go.Fz
namespace Go.Fz
open Go.Proofs
set_option maxRecDepth 100000
set_option linter.unusedVariables false
noncomputable def seL3 : Code := match nthC 3 (bodyF Try.f49) with
  | .seq _ (.block _ (.loop (.seq _ (.seq (.block _ (.seq _ (.block _ (.loop c)))) _)))) => c
  | _ => .skip
noncomputable def seB3 : Code := match seL3 with
  | .seq _ (.seq (.block _ b) _) => b
  | _ => .skip
def bitZ (b : Int) (w : Nat) : Bool := decide ((std.bin .rem .i64 (std.bin .shr .i64 b (std.conv .u64 (Int.ofNat w))) 2) = 0)
def smN (FL : Nat → Int) (F : Nat → Nat → Int) (b : Int) (i k w : Nat) : Bool := decide (FL i ≠ FL k) && allN w fun w => bitZ b w || decide (F i w = F k w)
theorem smN_succ {FL : Nat → Int} {F : Nat → Nat → Int} {b : Int} {i k w : Nat} (h : smN FL F b i k w = true) : smN FL F b i k (w + 1) = (bitZ b w || decide (F i w = F k w)) := by
  unfold smN at *
  rw [Bool.and_eq_true] at h
  obtain ⟨h1, h2⟩ := h
  rw [h1, Bool.true_and]
  cases hb : (bitZ b w || decide (F i w = F k w)) with
  | false => exact allN_false (Nat.lt_succ_self w) hb
  | true =>
    refine allN_true fun j hj => ?_
    rcases Nat.lt_succ_iff_lt_or_eq.1 hj with h | rfl
    · exact of_decide_eq_true h2 j h
    · exact hb
theorem smN_false {FL : Nat → Int} {F : Nat → Nat → Int} {b : Int} {i k w n : Nat} (hw : w ≤ n) (h : smN FL F b i k w = false) : smN FL F b i k n = false := by
  cases hn : smN FL F b i k n with
  | false => rfl
  | true =>
    unfold smN at *
    rw [Bool.and_eq_true] at hn
    rw [hn.1, Bool.true_and] at h
    rw [allN_true fun j hj => of_decide_eq_true hn.2 j (by omega)] at h
    cases h
def seK (d : DayD) (M : Nat) (F S : Nat → Nat → Int) (b : Int) (FL : Nat → Int) (i k : Nat) : List (Nat × AV) := [(1, trsV M d.nw d.nl F S), (2, iV b), (3, .ptr 0 0), (7, intsV M false FL), (9, iV (Int.ofNat i)), (10, iV (Int.ofNat k))]
def seS (d : DayD) : St := ⟨[(0, .cells none false (dayC d))], 2⟩
set_option maxHeartbeats 16000000 in
theorem se_a (d : DayD) (M : Nat) (F S : Nat → Nat → Int) (b : Int) (FL : Nat → Int) (i k : Nat) (hi : i < M) (hk : k < M)
    (g : Nat → AV) (O : Ar) (hO : O = std) (h : AllP (fun p => g p.1 = p.2) (seK d M F S b FL i k)) :
    SW Try.prog none (nthC 0 seB3) (midK 85 (seK d M F S b FL i k ++ [(11, .lit (.bool (smN FL F b i k 0)))]) (seS d)) ⟨⟨85, g⟩, []⟩ (seS d) := by
  have hnat : ∀ i : Nat, O.nat (Int.ofNat i) = i := fun i => by subst hO; rfl
  have hci : 0 ≤ Int.ofNat i ∧ Int.ofNat i < (M : Int) := ⟨Int.natCast_nonneg i, Int.ofNat_lt.2 hi⟩
  have hck : 0 ≤ Int.ofNat k ∧ Int.ofNat k < (M : Int) := ⟨Int.natCast_nonneg k, Int.ofNat_lt.2 hk⟩
  have hv : ∀ B, O.cmp .neq (FL (O.nat (Int.ofNat i))) (FL (O.nat (Int.ofNat k))) = B → B = smN FL F b i k 0 := fun B hB => by
    rw [hnat, hnat] at hB
    have h1 : smN FL F b i k 0 = decide (FL i ≠ FL k) := by
      unfold smN; rw [allN_true fun j hj => absurd hj (Nat.not_lt_zero j), Bool.and_true]
    rw [← hB, h1]; subst hO
    show (FL i != FL k) = decide (FL i ≠ FL k)
    by_cases e : FL i = FL k
    · rw [e, decide_eq_false (fun h => h rfl)]; simp
    · rw [decide_eq_true e]; simpa using e
  obtain ⟨g1, g2, g3, g7, g9, g10, _⟩ := h
  simp only at g1 g2 g3 g7 g9 g10
  rw [← updT_self g1, ← updT_self g2, ← updT_self g3, ← updT_self g7, ← updT_self g9, ← updT_self g10]
  refine SW.runD tok mixed hO (by kernel_rfl) (by cbv <;> rfl) (by repeat (first | exact trivial | exact hci | exact hck | refine ⟨?_, ?_⟩)) ?_
  first
    | exact ⟨rfl, _, rfl, ⟨rfl, rfl, rfl, rfl, rfl, rfl, (by rw [← hv _ rfl]; rfl), trivial⟩, rfl⟩
    | (refine AnyE.dec tok hO (by rfl) (by cbv <;> rfl) (by trivial) (fun h1 => ?_) (fun h1 => ?_) <;> refine AnyE.run tok hO (by rfl) (by cbv <;> rfl) (by trivial) ?_
       all_goals exact ⟨rfl, _, rfl, ⟨rfl, rfl, rfl, rfl, rfl, rfl, (by rw [← hv _ h1]; rfl), trivial⟩, rfl⟩)
set_option maxHeartbeats 32000000 in
theorem se_b (d : DayD) (hnw : d.nw ≤ 4) (M : Nat) (F S : Nat → Nat → Int) (b : Int) (FL : Nat → Int) (i k : Nat) (hi : i < M) (hk : k < M)
    (g : Nat → AV) (O : Ar) (hO : O = std) (h : AllP (fun p => g p.1 = p.2) (seK d M F S b FL i k ++ [(11, .lit (.bool (smN FL F b i k 0)))])) :
    SW Try.prog none (nthC 1 seB3) (midK 85 (seK d M F S b FL i k ++ [(11, .lit (.bool (smN FL F b i k d.nw)))]) (seS d)) ⟨⟨85, g⟩, []⟩ (seS d) := by
  have hnat : ∀ i : Nat, O.nat (Int.ofNat i) = i := fun i => by subst hO; rfl
  have hci : 0 ≤ Int.ofNat i ∧ Int.ofNat i < (M : Int) := ⟨Int.natCast_nonneg i, Int.ofNat_lt.2 hi⟩
  have hck : 0 ≤ Int.ofNat k ∧ Int.ofNat k < (M : Int) := ⟨Int.natCast_nonneg k, Int.ofNat_lt.2 hk⟩
  have h2 : (2 : Int) ≠ 0 := by decide
  obtain ⟨sm, hsm⟩ : ∃ sm, sm = smN FL F b i k := ⟨_, rfl⟩
  have hss : ∀ w, sm w = true → sm (w + 1) = (bitZ b w || decide (F i w = F k w)) := fun w h => by rw [hsm] at *; exact smN_succ h
  have hsf : ∀ w, w ≤ d.nw → sm w = false → sm d.nw = false := fun w hw h => by rw [hsm] at *; exact smN_false hw h
  rw [← hsm] at h ⊢
  obtain ⟨g1, g2, g3, g7, g9, g10, g11, _⟩ := h
  simp only at g1 g2 g3 g7 g9 g10 g11
  rw [← updT_self g1, ← updT_self g2, ← updT_self g3, ← updT_self g7, ← updT_self g9, ← updT_self g10, ← updT_self g11]
  unfold seK seS
  refine SW.seqRun tok hO (by cbv <;> rfl) (by trivial) ?_
  refine (SW.block (SW.loopF (fun w : Nat => ⟨⟨85, getT [(1, trsV M d.nw d.nl F S), (2, iV b), (3, .ptr 0 0), (7, intsV M false FL), (9, iV (Int.ofNat i)), (10, iV (Int.ofNat k)), (11, .lit (.bool (sm w))), (12, iV (Int.ofNat w))]⟩, []⟩) (fun _ => ⟨[(0, .cells none false (dayC d))], 2⟩) (fun w => d.nw - w) (fun w => w ≤ d.nw) 0
    (fun _ => rfl) (Nat.zero_le _) (Weak.by rfl rfl (by simp) (Nat.le_refl _) (Nat.le_refl _) ⟨⟨rfl, .inl rfl⟩, ⟨rfl, .inl rfl⟩, ⟨rfl, .inl rfl⟩, ⟨rfl, .inl rfl⟩, ⟨rfl, .inl rfl⟩, ⟨rfl, .inl rfl⟩, ⟨rfl, .inl rfl⟩, ⟨rfl, .inl rfl⟩, trivial⟩ ⟨⟨rfl, by show 0 < 2; omega, .inl rfl⟩, trivial⟩) fun w hw => ?_))
  have hnn : 0 ≤ O.conv .u64 (Int.ofNat w) := by
    subst hO
    show 0 ≤ wrp .u64 (w : Int)
    rw [wrp_in (by simp only [IntKind.lo]; omega) (by simp only [IntKind.hi]; omega)]; omega
  have hbz : ∀ B, O.cmp .eql (O.bin .rem .i64 (O.bin .shr .i64 b (O.conv .u64 (Int.ofNat w))) 2) 0 = B → bitZ b w = B := fun B hB => by
    rw [← hB]; subst hO; rfl
  have heq : ∀ B, O.cmp .eql (F (O.nat (Int.ofNat i)) (O.nat (Int.ofNat w))) (F (O.nat (Int.ofNat k)) (O.nat (Int.ofNat w))) = B → decide (F i w = F k w) = B := fun B hB => by
    rw [hnat, hnat, hnat] at hB
    rw [← hB]; subst hO; rfl
  refine SW.seq ?_
  refine SW.seqRun tok hO (by cbv <;> rfl) (by trivial) ?_
  refine OpsW.splitG (by cbv <;> rfl) (fun h1 => ?_) (fun h1 => ?_) <;> refine OpsW.run tok hO (by cbv <;> rfl) (by trivial) ?_
  · have hlt : w < d.nw := by
      have : (Int.ofNat w : Int) < Int.ofNat d.nw := by subst hO; simpa [std] using h1
      exact Int.ofNat_lt.1 this
    have hcw : 0 ≤ Int.ofNat w ∧ Int.ofNat w < (d.nw : Int) := ⟨Int.natCast_nonneg w, Int.ofNat_lt.2 hlt⟩
    refine SW.condS (by cbv <;> rfl) (fun h3 => SW.skip ?_) (fun h3 => SW.exit ?_)
    · have hs := hss w h3
      refine SW.seq (SW.block ?_)
      refine SW.runD tok mixed hO (by kernel_rfl) (by cbv <;> rfl) (by repeat (first | exact trivial | exact h2 | exact hnn | refine ⟨?_, ?_⟩)) ?_
      refine AnyE.dec tok hO (by rfl) (by cbv <;> rfl) (by repeat (first | exact trivial | exact h2 | exact hnn | refine ⟨?_, ?_⟩)) (fun h4 => ?_) (fun h4 => ?_)
      · skip
        refine AnyE.runN tok hO 5 (by rfl) (by cbv <;> rfl) (by trivial) ?_
        refine AnyE.runN tok hO 5 (by rfl) (by cbv <;> rfl) (by trivial) ?_
        refine AnyE.runN tok hO 5 (by rfl) (by cbv <;> rfl) (by trivial) ?_
        refine AnyE.run tok hO (by rfl) (by cbv <;> rfl) (by trivial) ?_
        refine SW.run tok hO (by cbv <;> rfl) (by trivial) ?_
        rw [hbz _ h4, Bool.true_or] at hs
        exact ⟨w + 1, by omega, hlt, Weak.by rfl rfl (by simp) (Nat.le_refl _) (Nat.le_refl _) ⟨⟨rfl, .inl rfl⟩, ⟨rfl, .inl rfl⟩, ⟨rfl, .inl rfl⟩, ⟨rfl, .inl rfl⟩, ⟨rfl, .inl rfl⟩, ⟨rfl, .inl rfl⟩, ⟨by rw [hs]; rfl, .inl rfl⟩, ⟨inc_ok hO (by omega), .inl rfl⟩, trivial⟩ ⟨⟨rfl, by show 0 < 2; omega, .inl rfl⟩, trivial⟩⟩
      · skip
        refine AnyE.runN tok hO 5 (by rfl) (by cbv <;> rfl) (by repeat (first | exact trivial | exact hci | exact hck | exact hcw | refine ⟨?_, ?_⟩)) ?_
        refine AnyE.runN tok hO 5 (by rfl) (by cbv <;> rfl) (by repeat (first | exact trivial | exact hci | exact hck | exact hcw | refine ⟨?_, ?_⟩)) ?_
        refine AnyE.runN tok hO 5 (by rfl) (by cbv <;> rfl) (by repeat (first | exact trivial | exact hci | exact hck | exact hcw | refine ⟨?_, ?_⟩)) ?_
        refine AnyE.run tok hO (by rfl) (by cbv <;> rfl) (by repeat (first | exact trivial | exact hci | exact hck | exact hcw | refine ⟨?_, ?_⟩)) ?_
        rw [hbz _ h4, Bool.false_or] at hs
        refine AnyE.dec tok hO (by rfl) (by cbv <;> rfl) (by repeat (first | exact trivial | exact hci | exact hck | exact hcw | refine ⟨?_, ?_⟩)) (fun h5 => ?_) (fun h5 => ?_) <;> refine AnyE.run tok hO (by rfl) (by cbv <;> rfl) (by trivial) ?_
        all_goals
          refine SW.run tok hO (by cbv <;> rfl) (by trivial) ?_
          exact ⟨w + 1, by omega, hlt, Weak.by rfl rfl (by simp) (Nat.le_refl _) (Nat.le_refl _) ⟨⟨rfl, .inl rfl⟩, ⟨rfl, .inl rfl⟩, ⟨rfl, .inl rfl⟩, ⟨rfl, .inl rfl⟩, ⟨rfl, .inl rfl⟩, ⟨rfl, .inl rfl⟩, ⟨by rw [hs, heq _ h5]; rfl, .inl rfl⟩, ⟨inc_ok hO (by omega), .inl rfl⟩, trivial⟩ ⟨⟨rfl, by show 0 < 2; omega, .inl rfl⟩, trivial⟩⟩
    · have hs := hsf w (by omega) h3
      exact ⟨rfl, _, rfl, ⟨rfl, rfl, rfl, rfl, rfl, rfl, (by rw [hs, ← h3]; rfl), trivial⟩, rfl⟩
  · have hge : w = d.nw := by
      have : ¬ (Int.ofNat w : Int) < Int.ofNat d.nw := by subst hO; simpa [std] using h1
      have h2 : ¬ w < d.nw := fun h => this (Int.ofNat_lt.2 h)
      omega
    subst hge
    refine SW.condS (by cbv <;> rfl) (fun h3 => absurd h3 (by decide)) (fun h3 => SW.exit ?_)
    exact ⟨rfl, _, rfl, ⟨rfl, rfl, rfl, rfl, rfl, rfl, rfl, trivial⟩, rfl⟩
end Go.Fz
namespace Go.Fz
open Go.Proofs
set_option maxRecDepth 100000
set_option linter.unusedVariables false
def setR (FL : Nat → Int) (F : Nat → Nat → Int) (b : Int) (nw M : Nat) : Bool := allN M fun i => allN i fun k => !smN FL F b i k nw
theorem setR_false {FL : Nat → Int} {F : Nat → Nat → Int} {b : Int} {nw M i k : Nat} (hi : i < M) (hk : k < i) (h : smN FL F b i k nw = true) : setR FL F b nw M = false :=
  allN_false hi (allN_false hk (by rw [h]; rfl))
theorem setR_true {FL : Nat → Int} {F : Nat → Nat → Int} {b : Int} {nw M : Nat} (h : ∀ i, i < M → ∀ k, k < i → smN FL F b i k nw = false) : setR FL F b nw M = true :=
  allN_true fun i hi => allN_true fun k hk => by rw [h i hi k hk]; rfl
set_option maxHeartbeats 32000000 in
theorem settle49_ok (d : DayD) (hnw : d.nw ≤ 4) (M : Nat) (F S : Nat → Nat → Int) (b : Int) (hM : M < 100000) (FL hh ll sp : Nat → Int) (bu le : Nat → Nat → Int) (hplay : ∀ i, i < M → Pure Try.prog 47 [dayV d, .agg [intsV d.nw false (F i), intsV d.nl false (S i)]] (.agg [intsV d.nw false (bu i), intsV d.nw false (le i), iV (hh i), iV (ll i), iV (FL i), iV (sp i)])) :
    Pure Try.prog 49 [dayV d, trsV M d.nw d.nl F S, iV b] (.sb (setR FL F b d.nw M)) := by
  obtain ⟨O, hO⟩ : ∃ O : Ar, O = std := ⟨_, rfl⟩
  obtain ⟨B, hB⟩ : ∃ B, setR FL F b d.nw M = B := ⟨_, rfl⟩
  have hBf : ∀ i, i < M → ∀ k, k < i → smN FL F b i k d.nw = true → B = false := fun i hi k hk h => by rw [← hB]; exact setR_false hi hk h
  have hBt : (∀ i, i < M → ∀ k, k < i → smN FL F b i k d.nw = false) → B = true := fun h => by rw [← hB]; exact setR_true h
  rw [hB]
  refine pure_of_body tok 3 Try.func49 en49 rfl ⟨dayV_below d, trsV_below _ _ _ _ _, Below.lit, trivial⟩ Below.sb ?_
  refine SW.seqRun tok hO (by cbv <;> rfl) (by trivial) ?_
  refine SW.seqRun tok hO (by cbv <;> rfl) (by trivial) ?_
  refine SW.seq ((se_flats d M F S b hM FL hh ll sp bu le hplay _ O hO ⟨rfl, rfl, rfl, rfl, trivial⟩).mono fun e f st hm => ?_)
  obtain ⟨rfl, g, X, rfl, g1, g2, g3, g7, hX, rfl⟩ := hm
  show SW _ _ _ _ _ _
  refine SW.slot 7 X _ g7 hX ?_
  obtain ⟨G, hG⟩ : ∃ G, G = updT g 7 (intsV M false FL) := ⟨_, rfl⟩
  have k1 : G 1 = trsV M d.nw d.nl F S := by rw [hG]; exact g1
  have k2 : G 2 = iV b := by rw [hG]; exact g2
  have k3 : G 3 = .ptr 0 0 := by rw [hG]; exact g3
  have k7 : G 7 = intsV M false FL := by rw [hG]; rfl
  rw [← hG]
  clear hG hX g1 g2 g3 g7
  rw [← updT_self k1, ← updT_self k2, ← updT_self k3, ← updT_self k7]
  clear k1 k2 k3 k7
  refine SW.seq ?_
  refine SW.seqRun tok hO (by cbv <;> rfl) (by trivial) ?_
  refine (SW.block (SW.loopF (fun i : Nat => ⟨⟨85, getT [(1, trsV M d.nw d.nl F S), (2, iV b), (3, .ptr 0 0), (7, intsV M false FL), (9, iV (Int.ofNat i))]⟩, []⟩) (fun _ => ⟨[(0, .cells none false (dayC d))], 2⟩) (fun i => M - i) (fun i => i ≤ M ∧ ∀ i', i' < i → ∀ k, k < i' → smN FL F b i' k d.nw = false) 0
    (fun _ => rfl) ⟨Nat.zero_le _, fun i' h => absurd h (Nat.not_lt_zero _)⟩ (Weak.by rfl rfl (by simp) (Nat.le_refl _) (Nat.le_refl _) ⟨⟨rfl, .inl rfl⟩, ⟨rfl, .inl rfl⟩, ⟨rfl, .inl rfl⟩, ⟨rfl, .inl rfl⟩, ⟨rfl, .inl rfl⟩, trivial⟩ ⟨⟨rfl, by show 0 < 2; omega, .inl rfl⟩, trivial⟩) fun i ⟨hi, hall⟩ => ?_))
  refine SW.seq ?_
  refine SW.seqRun tok hO (by cbv <;> rfl) (by trivial) ?_
  refine SW.condS (by cbv <;> rfl) (fun h => SW.skip ?_) (fun h => SW.exit ?_)
  · have hlt : i < M := by
      have : (Int.ofNat i : Int) < Int.ofNat M := by subst hO; simpa [std] using h
      exact Int.ofNat_lt.1 this
    clear h
    refine SW.seq (SW.block ?_)
    refine SW.seqRun tok hO (by cbv <;> rfl) (by trivial) ?_
    refine (SW.block (SW.loopF (fun k : Nat => ⟨⟨85, getT [(1, trsV M d.nw d.nl F S), (2, iV b), (3, .ptr 0 0), (7, intsV M false FL), (9, iV (Int.ofNat i)), (10, iV (Int.ofNat k))]⟩, []⟩) (fun _ => ⟨[(0, .cells none false (dayC d))], 2⟩) (fun k => i - k) (fun k => k ≤ i ∧ ∀ k', k' < k → smN FL F b i k' d.nw = false) 0
      (fun _ => rfl) ⟨Nat.zero_le _, fun k' h => absurd h (Nat.not_lt_zero _)⟩ (Weak.by rfl rfl (by simp) (Nat.le_refl _) (Nat.le_refl _) ⟨⟨rfl, .inl rfl⟩, ⟨rfl, .inl rfl⟩, ⟨rfl, .inl rfl⟩, ⟨rfl, .inl rfl⟩, ⟨rfl, .inl rfl⟩, ⟨rfl, .inl rfl⟩, trivial⟩ ⟨⟨rfl, by show 0 < 2; omega, .inl rfl⟩, trivial⟩) fun k ⟨hk, hal2⟩ => ?_))
    refine SW.seq ?_
    refine SW.seqRun tok hO (by cbv <;> rfl) (by trivial) ?_
    refine SW.condS (by cbv <;> rfl) (fun h => SW.skip ?_) (fun h => SW.exit ?_)
    · have hkt : k < i := by
        have : (Int.ofNat k : Int) < Int.ofNat i := by subst hO; simpa [std] using h
        exact Int.ofNat_lt.1 this
      clear h
      refine SW.seq (SW.block ?_)
      refine SW.seq ((se_a d M F S b FL i k hlt (by omega) _ O hO ⟨rfl, rfl, rfl, rfl, rfl, rfl, trivial⟩).mono fun e f st hm => ?_)
      obtain ⟨rfl, g, rfl, h, rfl⟩ := hm
      refine SW.seq ((se_b d hnw M F S b FL i k hlt (by omega) _ O hO h).mono fun e f st hm => ?_)
      clear h
      obtain ⟨rfl, g, rfl, ⟨g1, g2, g3, g7, g9, g10, g11, _⟩, rfl⟩ := hm
      simp only at g1 g2 g3 g7 g9 g10 g11
      have hbf := hBf i hlt k hkt
      generalize hs : smN FL F b i k d.nw = sm at g11 hbf
      rw [← updT_self g1, ← updT_self g2, ← updT_self g3, ← updT_self g7, ← updT_self g9, ← updT_self g10, ← updT_self g11]
      show SW _ _ _ _ _ _
      refine SW.seqRun tok hO (by cbv <;> rfl) (by trivial) ?_
      refine SW.condS (by cbv <;> rfl) (fun h4 => ?_) (fun h4 => SW.skip ?_)
      · refine SW.seqRun tok hO (by cbv <;> rfl) (by trivial) ?_
        refine SW.ret ⟨_, _, rfl, rfl, Eqv.bool ?_⟩
        exact (hbf h4).symm
      · refine SW.run tok hO (by cbv <;> rfl) (by trivial) ?_
        refine ⟨k + 1, by omega, ⟨by omega, fun k' hk' => ?_⟩, Weak.by rfl rfl (by simp) (Nat.le_refl _) (Nat.le_refl _) ⟨⟨rfl, .inl rfl⟩, ⟨rfl, .inl rfl⟩, ⟨rfl, .inl rfl⟩, ⟨rfl, .inl rfl⟩, ⟨rfl, .inl rfl⟩, ⟨inc_ok hO (by omega), .inl rfl⟩, trivial⟩ ⟨⟨rfl, by show 0 < 2; omega, .inl rfl⟩, trivial⟩⟩
        rcases Nat.lt_succ_iff_lt_or_eq.1 hk' with h5 | rfl
        · exact hal2 k' h5
        · rw [hs, h4]
    · have hge : k = i := by
        have : ¬ (Int.ofNat k : Int) < Int.ofNat i := by subst hO; simpa [std] using h
        have h2 : ¬ k < i := fun h => this (Int.ofNat_lt.2 h)
        omega
      subst hge
      refine SW.run tok hO (by cbv <;> rfl) (by trivial) ?_
      refine ⟨k + 1, by omega, ⟨hlt, fun i' hi' => ?_⟩, Weak.by rfl rfl (by simp) (Nat.le_refl _) (Nat.le_refl _) ⟨⟨rfl, .inl rfl⟩, ⟨rfl, .inl rfl⟩, ⟨rfl, .inl rfl⟩, ⟨rfl, .inl rfl⟩, ⟨inc_ok hO (by omega), .inl rfl⟩, trivial⟩ ⟨⟨rfl, by show 0 < 2; omega, .inl rfl⟩, trivial⟩⟩
      rcases Nat.lt_succ_iff_lt_or_eq.1 hi' with h5 | rfl
      · exact hall i' h5
      · exact hal2
  · have hge : i = M := by
      have : ¬ (Int.ofNat i : Int) < Int.ofNat M := by subst hO; simpa [std] using h
      have h2 : ¬ i < M := fun h => this (Int.ofNat_lt.2 h)
      omega
    subst hge
    refine SW.seqRun tok hO (by cbv <;> rfl) (by trivial) ?_
    refine SW.ret ⟨_, _, rfl, rfl, Eqv.bool ?_⟩
    exact (hBt hall).symm
end Go.Fz
namespace Go.Fz
open Go.Proofs
set_option maxRecDepth 100000
set_option linter.unusedVariables false
def rkL (b : Nat) : Nat := (risL 5).idxOf (selL (b : Int) 5)
theorem rk_fin : ∀ a b : Fin 32, shL (selL (a.1 : Int) 5) (selL (b.1 : Int) 5) = decide (rkL a.1 < rkL b.1) ∧ (rkL a.1 = rkL b.1 → a = b) := by decide +kernel
theorem onto_fin : ∀ n : Fin 6, ∀ l ∈ risL n.1, ∃ b : Fin 32, b.1 < 2 ^ n.1 ∧ selL (b.1 : Int) 5 = l := by decide +kernel
theorem pow_le32 {n : Nat} (hn : n ≤ 5) : 2 ^ n ≤ 32 := Nat.pow_le_pow_right (n := 2) (by decide) hn
theorem rk_lt {a b : Nat} (ha : a < 32) (hb : b < 32) : shL (selL (a : Int) 5) (selL (b : Int) 5) = decide (rkL a < rkL b) := (rk_fin ⟨a, ha⟩ ⟨b, hb⟩).1
theorem rk_inj {a b : Nat} (ha : a < 32) (hb : b < 32) (h : rkL a = rkL b) : a = b := congrArg Fin.val ((rk_fin ⟨a, ha⟩ ⟨b, hb⟩).2 h)
def fewS (P : Nat → Bool) : Nat → Option (List Nat)
  | 0 => none
  | m + 1 => match fewS P m with
    | none => if P m then some (selL (m : Int) 5) else none
    | some l => if shL (selL (m : Int) 5) l && P m then some (selL (m : Int) 5) else some l
def minB (P : Nat → Bool) (m b : Nat) : Prop := b < 32 ∧ P b = true ∧ ∀ b', b' < m → P b' = true → rkL b ≤ rkL b'
theorem fewS_min (P : Nat → Bool) : ∀ m, m ≤ 32 → (fewS P m = none ∧ ∀ b, b < m → P b = false) ∨ ∃ b, b < m ∧ fewS P m = some (selL (b : Int) 5) ∧ minB P m b
  | 0, _ => .inl ⟨rfl, fun b h => absurd h (Nat.not_lt_zero b)⟩
  | m + 1, hm => by
    rcases fewS_min P m (by omega) with ⟨h1, h2⟩ | ⟨b, h0, h1, h2, h3, h4⟩
    · unfold fewS
      rw [h1]
      cases hp : P m with
      | false =>
        refine .inl ⟨rfl, fun b hb => ?_⟩
        rcases Nat.lt_succ_iff_lt_or_eq.1 hb with h | rfl
        · exact h2 b h
        · exact hp
      | true =>
        refine .inr ⟨m, Nat.lt_succ_self m, rfl, by omega, hp, fun b' hb' hp' => ?_⟩
        rcases Nat.lt_succ_iff_lt_or_eq.1 hb' with h | rfl
        · rw [h2 b' h] at hp'; cases hp'
        · exact Nat.le_refl _
    · unfold fewS
      rw [h1]
      simp only
      rw [rk_lt (by omega) h2]
      by_cases hlt : rkL m < rkL b ∧ P m = true
      · rw [decide_eq_true hlt.1, hlt.2]
        refine .inr ⟨m, Nat.lt_succ_self m, rfl, by omega, hlt.2, fun b' hb' hp' => ?_⟩
        rcases Nat.lt_succ_iff_lt_or_eq.1 hb' with h | rfl
        · exact Nat.le_trans (Nat.le_of_lt hlt.1) (h4 b' h hp')
        · exact Nat.le_refl _
      · have hf : (decide (rkL m < rkL b) && P m) = false := by
          cases hb : (decide (rkL m < rkL b) && P m) with
          | false => rfl
          | true =>
            rw [Bool.and_eq_true, decide_eq_true_eq] at hb
            exact absurd hb hlt
        rw [hf]
        refine .inr ⟨b, by omega, rfl, h2, h3, fun b' hb' hp' => ?_⟩
        rcases Nat.lt_succ_iff_lt_or_eq.1 hb' with h | rfl
        · exact h4 b' h hp'
        · by_cases h5 : rkL b' < rkL b
          · exact absurd ⟨h5, hp'⟩ hlt
          · omega
theorem min_find {n : Nat} (hn : n ≤ 5) {P : Nat → Bool} {Q : List Nat → Bool} (h : ∀ b : Nat, b < 2 ^ n → Q (selL (b : Int) 5) = P b) {b : Nat} (hb : b < 2 ^ n) (hm : minB P (2 ^ n) b) : (risL n).find? Q = some (selL (b : Int) 5) := by
  obtain ⟨m1, m2, m3⟩ := hm
  have h32 := pow_le32 hn
  have hin : selL (b : Int) 5 ∈ risL n := (oth_fin ⟨n, by omega⟩ ⟨b, m1⟩ hb).1
  obtain ⟨l, hl⟩ := find_ex hin (by rw [h b hb]; exact m2 : Q (selL (b : Int) 5) = true)
  rw [hl]
  obtain ⟨pre, post, hE, hpre, hq⟩ := find_split hl
  have hlin := (find_in hl).1
  obtain ⟨c, hc, hc2⟩ := onto_fin ⟨n, by omega⟩ l hlin
  have hc3 : c.1 < 2 ^ n := hc
  have hPc : P c.1 = true := by rw [← h c.1 hc3, hc2]; exact hq
  have h1 := m3 c.1 hc3 hPc
  have h2 : ¬ rkL b < rkL c.1 := fun hlt => by
    have hs : shL (selL (b : Int) 5) l = true := by rw [← hc2, rk_lt m1 c.2]; exact decide_eq_true hlt
    have := hpre _ (ris_before hn hE hin hs)
    rw [h b hb, m2] at this; cases this
  have h3 : b = c.1 := rk_inj m1 c.2 (by omega)
  rw [← hc2, h3]
theorem none_find {n : Nat} (hn : n ≤ 5) {P : Nat → Bool} {Q : List Nat → Bool} (h : ∀ b : Nat, b < 2 ^ n → Q (selL (b : Int) 5) = P b) (hP : ∀ b : Nat, b < 2 ^ n → P b = false) : (risL n).find? Q = none := by
  rw [List.find?_eq_none]
  intro l hl
  obtain ⟨c, hc, hc2⟩ := onto_fin ⟨n, by omega⟩ l hl
  have hc3 : c.1 < 2 ^ n := hc
  rw [← hc2, h c.1 hc3, hP c.1 hc3]
  simp
theorem fewS_find {n : Nat} (hn : n ≤ 5) {P : Nat → Bool} {Q : List Nat → Bool} (h : ∀ b : Nat, b < 2 ^ n → Q (selL (b : Int) 5) = P b) : fewS P (2 ^ n) = (risL n).find? Q := by
  rcases fewS_min P (2 ^ n) (pow_le32 hn) with ⟨h1, h2⟩ | ⟨b, hb, h1, hm⟩
  · rw [h1, none_find hn h h2]
  · rw [h1, min_find hn h hb hm]
end Go.Fz
namespace Go.Fz
open Go.Proofs
set_option maxRecDepth 100000
set_option linter.unusedVariables false
def optV : Option (List Nat) → AV
  | none => nl3
  | some l => lsV l
theorem optV_below (o : Option (List Nat)) : Below 0 (optV o) := by
  cases o with
  | none => exact Below.lit
  | some l => exact lsV_below l
theorem fewS_len (P : Nat → Bool) (m : Nat) (hm : m ≤ 32) {l : List Nat} (h : fewS P m = some l) : l.length < 1000 := by
  rcases fewS_min P m hm with ⟨h1, _⟩ | ⟨b, _, h1, _⟩
  · rw [h1] at h; cases h
  · rw [h1] at h; cases h
    have := (selL_len (b : Int) 5)
    omega
set_option maxHeartbeats 32000000 in
theorem refFewest_ok (d : DayD) (hnw : d.nw ≤ 4) (TR : AV) (hTR : Below 0 TR) (P : Nat → Bool) (hP : ∀ n, n < 2 ^ d.nw → Pure Try.prog 49 [dayV d, TR, iV (Int.ofNat n)] (.sb (P n))) :
    Pure Try.prog 28 [dayV d, TR] (.tup [optV (fewS P (2 ^ d.nw)), .lit (.bool (fewS P (2 ^ d.nw)).isSome)]) := by
  obtain ⟨O, hO⟩ : ∃ O : Ar, O = std := ⟨_, rfl⟩
  have hW : 2 ^ d.nw ≤ 16 := Nat.pow_le_pow_right (n := 2) (by decide) hnw
  have hcv : 0 ≤ O.conv .u64 (Int.ofNat d.nw) := by
    subst hO
    show 0 ≤ wrp .u64 (d.nw : Int)
    rw [wrp_in (by simp only [IntKind.lo]; omega) (by simp only [IntKind.hi]; omega)]; omega
  have hsh : O.bin .shl .i64 1 (O.conv .u64 (Int.ofNat d.nw)) = Int.ofNat (2 ^ d.nw) := by
    subst hO
    have : ∀ n : Fin 5, std.bin .shl .i64 1 (std.conv .u64 (Int.ofNat n.1)) = Int.ofNat (2 ^ n.1) := by decide +kernel
    exact this ⟨d.nw, by omega⟩
  obtain ⟨W, hWd⟩ : ∃ W, W = 2 ^ d.nw := ⟨_, rfl⟩
  rw [← hWd] at hW hsh hP ⊢
  refine pure_of_body tok 3 Try.func28 en28 rfl ⟨dayV_below d, hTR, trivial⟩ (Below.tup (AllB.ok ⟨optV_below _, Below.lit, trivial⟩)) ?_
  refine SW.seqRun tok hO (by cbv <;> rfl) (by trivial) ?_
  refine SW.seqRun tok hO (by cbv <;> rfl) (by trivial) ?_
  refine SW.seqRun tok hO (by cbv <;> rfl) (by trivial) ?_
  refine SW.seq ?_
  refine SW.seqRun tok hO (by cbv <;> rfl) (by trivial) ?_
  refine (SW.block (SW.loopF (fun m : Nat => ⟨⟨37, getT [(1, TR), (2, .ptr 0 0), (6, optV (fewS P m)), (7, .lit (.bool (fewS P m).isSome)), (8, iV (Int.ofNat m))]⟩, []⟩) (fun _ => ⟨[(0, .cells none false (dayC d))], 1⟩) (fun m => W - m) (fun m => m ≤ W) 0
    (fun _ => rfl) (Nat.zero_le _) (Weak.by rfl rfl (by simp) (Nat.le_refl _) (Nat.le_refl _) ⟨⟨rfl, .inl rfl⟩, ⟨rfl, .inl rfl⟩, ⟨rfl, .inl rfl⟩, ⟨rfl, .inl rfl⟩, ⟨rfl, .inl rfl⟩, trivial⟩ ⟨⟨rfl, by show 0 < 1; omega, .inl rfl⟩, trivial⟩) fun m hm => ?_))
  show SW _ _ _ _ ⟨⟨37, getT [(1, TR), (2, .ptr 0 0), (6, optV (fewS P m)), (7, .lit (.bool (fewS P m).isSome)), (8, iV (Int.ofNat m))]⟩, []⟩ ⟨[(0, .cells none false (dayC d))], 1⟩
  obtain ⟨o, ho⟩ : ∃ o, fewS P m = o := ⟨_, rfl⟩
  rw [ho]
  obtain ⟨Bv, hBv⟩ : ∃ v, optV o = v := ⟨_, rfl⟩
  obtain ⟨fd, hfd⟩ : ∃ v, o.isSome = v := ⟨_, rfl⟩
  rw [hBv, hfd]
  refine SW.seq ?_
  refine SW.seqRun tok hO (by cbv <;> rfl) (by first | exact hcv | exact ⟨hcv, trivial⟩) ?_
  refine SW.condS (by cbv <;> rfl) (fun h => SW.skip ?_) (fun h => SW.exit ?_)
  · have hlt : m < W := by
      have h' : O.cmp .lss (Int.ofNat m) (O.bin .shl .i64 1 (O.conv .u64 (Int.ofNat d.nw))) = true := h
      rw [hsh] at h'
      have : (Int.ofNat m : Int) < Int.ofNat W := by subst hO; simpa [std] using h'
      exact Int.ofNat_lt.1 this
    clear h
    have hbits := bits51_ok (Int.ofNat m) (Int.natCast_nonneg m) (by show (m : Int) < 32; omega)
    have hset := hP m hlt
    have hs1 : fewS P (m + 1) = (match fewS P m with
      | none => if P m then some (selL (m : Int) 5) else none
      | some l => if shL (selL (m : Int) 5) l && P m then some (selL (m : Int) 5) else some l) := rfl
    have hlen := fun l h => fewS_len P m (by omega) (l := l) h
    have hl5 := selL_len (m : Int) 5
    generalize hPm : P m = p at hset hs1
    obtain ⟨x, hx⟩ : ∃ x, selL (m : Int) 5 = x := ⟨_, rfl⟩
    rw [show selL (Int.ofNat m) 5 = x from hx] at hbits
    rw [hx] at hs1 hl5
    obtain ⟨X, hX⟩ : ∃ v, lsV x = v := ⟨_, rfl⟩
    have hXo : optV (some x) = X := hX
    rw [hX] at hbits
    refine SW.seq (SW.block ?_)
    refine SW.seqRun tok hO (by cbv <;> rfl) (by trivial) ?_
    refine OpsW.callP hbits (by cbv <;> rfl) ?_
    refine OpsW.run tok hO (by cbv <;> rfl) (by trivial) ?_
    show SW _ _ _ _ _ _
    rw [ho] at hs1 hlen
    cases o with
    | none =>
      simp only at hs1
      have hfd' : fd = false := hfd.symm
      have hBv' : Bv = nl3 := hBv.symm
      subst hfd' hBv'
      refine SW.seqRun tok hO (by cbv <;> rfl) (by trivial) ?_
      refine OpsW.callP hset (by cbv <;> rfl) ?_
      refine OpsW.run tok hO (by cbv <;> rfl) (by trivial) ?_
      refine SW.condS (by cbv <;> rfl) (fun h4 => ?_) (fun h4 => SW.skip ?_)
      · rw [h4, if_pos rfl] at hs1
        refine SW.run tok hO (by cbv <;> rfl) (by trivial) ?_
        refine SW.run tok hO (by cbv <;> rfl) (by trivial) ?_
        exact ⟨m + 1, by omega, hlt, Weak.by rfl rfl (by simp) (Nat.le_refl _) (Nat.le_refl _) ⟨⟨rfl, .inl rfl⟩, ⟨rfl, .inl rfl⟩, ⟨by rw [hs1]; first | exact hXo.symm | exact hBv.symm | rfl, .inl rfl⟩, ⟨by rw [hs1]; rfl, .inl rfl⟩, ⟨inc_ok hO (by omega), .inl rfl⟩, trivial⟩ ⟨⟨rfl, by show 0 < 1; omega, .inl rfl⟩, trivial⟩⟩
      · rw [h4, if_neg (by decide)] at hs1
        refine SW.run tok hO (by cbv <;> rfl) (by trivial) ?_
        exact ⟨m + 1, by omega, hlt, Weak.by rfl rfl (by simp) (Nat.le_refl _) (Nat.le_refl _) ⟨⟨rfl, .inl rfl⟩, ⟨rfl, .inl rfl⟩, ⟨by rw [hs1]; first | exact hXo.symm | exact hBv.symm | rfl, .inl rfl⟩, ⟨by rw [hs1]; rfl, .inl rfl⟩, ⟨inc_ok hO (by omega), .inl rfl⟩, trivial⟩ ⟨⟨rfl, by show 0 < 1; omega, .inl rfl⟩, trivial⟩⟩
    | some l =>
      simp only at hs1
      have hfd' : fd = true := hfd.symm
      subst hfd'
      have hsho : Pure Try.prog 50 [lsV x, lsV l] (.sb (shL x l)) := shorter_ok x.length l.length false false (lI x) (lI l) (by omega) (hlen l rfl)
      rw [show lsV l = Bv from hBv, hX] at hsho
      generalize shL x l = s at hsho hs1
      refine SW.seqRun tok hO (by cbv <;> rfl) (by trivial) ?_
      refine OpsW.callP hsho (by cbv <;> rfl) ?_
      refine OpsW.run tok hO (by cbv <;> rfl) (by trivial) ?_
      refine OpsW.splitG (by cbv <;> rfl) (fun h5 => ?_) (fun h5 => ?_) <;> refine OpsW.run tok hO (by cbv <;> rfl) (by trivial) ?_
      · rw [h5, Bool.true_and] at hs1
        refine OpsW.callP hset (by cbv <;> rfl) ?_
        refine OpsW.run tok hO (by cbv <;> rfl) (by trivial) ?_
        refine SW.condS (by cbv <;> rfl) (fun h4 => ?_) (fun h4 => SW.skip ?_)
        · rw [h4, if_pos rfl] at hs1
          refine SW.run tok hO (by cbv <;> rfl) (by trivial) ?_
          refine SW.run tok hO (by cbv <;> rfl) (by trivial) ?_
          exact ⟨m + 1, by omega, hlt, Weak.by rfl rfl (by simp) (Nat.le_refl _) (Nat.le_refl _) ⟨⟨rfl, .inl rfl⟩, ⟨rfl, .inl rfl⟩, ⟨by rw [hs1]; first | exact hXo.symm | exact hBv.symm | rfl, .inl rfl⟩, ⟨by rw [hs1]; rfl, .inl rfl⟩, ⟨inc_ok hO (by omega), .inl rfl⟩, trivial⟩ ⟨⟨rfl, by show 0 < 1; omega, .inl rfl⟩, trivial⟩⟩
        · rw [h4, if_neg (by decide)] at hs1
          refine SW.run tok hO (by cbv <;> rfl) (by trivial) ?_
          exact ⟨m + 1, by omega, hlt, Weak.by rfl rfl (by simp) (Nat.le_refl _) (Nat.le_refl _) ⟨⟨rfl, .inl rfl⟩, ⟨rfl, .inl rfl⟩, ⟨by rw [hs1]; first | exact hXo.symm | exact hBv.symm | rfl, .inl rfl⟩, ⟨by rw [hs1]; rfl, .inl rfl⟩, ⟨inc_ok hO (by omega), .inl rfl⟩, trivial⟩ ⟨⟨rfl, by show 0 < 1; omega, .inl rfl⟩, trivial⟩⟩
      · rw [h5, Bool.false_and, if_neg (by decide)] at hs1
        refine SW.condS (by cbv <;> rfl) (fun h4 => absurd h4 (by decide)) (fun h4 => SW.skip ?_)
        refine SW.run tok hO (by cbv <;> rfl) (by trivial) ?_
        exact ⟨m + 1, by omega, hlt, Weak.by rfl rfl (by simp) (Nat.le_refl _) (Nat.le_refl _) ⟨⟨rfl, .inl rfl⟩, ⟨rfl, .inl rfl⟩, ⟨by rw [hs1]; first | exact hXo.symm | exact hBv.symm | rfl, .inl rfl⟩, ⟨by rw [hs1]; rfl, .inl rfl⟩, ⟨inc_ok hO (by omega), .inl rfl⟩, trivial⟩ ⟨⟨rfl, by show 0 < 1; omega, .inl rfl⟩, trivial⟩⟩
  · have hge : m = W := by
      have h' : O.cmp .lss (Int.ofNat m) (O.bin .shl .i64 1 (O.conv .u64 (Int.ofNat d.nw))) = false := h
      rw [hsh] at h'
      have : ¬ (Int.ofNat m : Int) < Int.ofNat W := by subst hO; simpa [std] using h'
      have h2 : ¬ m < W := fun h => this (Int.ofNat_lt.2 h)
      omega
    subst hge
    rw [ho]
    cases o with
    | none =>
      have hfd' : fd = false := hfd.symm
      have hBv' : Bv = nl3 := hBv.symm
      subst hfd' hBv'
      refine SW.seqRun tok hO (by cbv <;> rfl) (by trivial) ?_
      exact SW.ret ⟨_, _, rfl, rfl, Eqv.of rfl⟩
    | some l =>
      have hfd' : fd = true := hfd.symm
      subst hfd'
      have hBv' : Bv = intsV l.length false (lI l) := hBv.symm
      generalize l.length = L at hBv'
      generalize lI l = fl at hBv'
      rw [hBv]
      subst hBv'
      refine SW.seqRun tok hO (by cbv <;> rfl) (by trivial) ?_
      exact SW.ret ⟨_, _, rfl, rfl, Eqv.of rfl⟩
end Go.Fz
