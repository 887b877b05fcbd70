/- Own work of the verifier of watercress: FzP, FzC20, FzC22, FzD10, FzH1, FzH2, FzD11, FzH3, FzO1, FzSe4, FzLe1, FzLe2, FzLe3. -/
import Derived.ChangeKeysEq
import Derived.Laws.AppendOwn
import Derived.Laws.Cells
import Derived.Laws.CopyRow
import Derived.Laws.Entries
import Derived.Laws.NewFold
import Derived.Laws.Sem
import Derived.Laws.Small
import Derived.Laws.StructEq
import Derived.Laws.Tables
import Derived.Laws.World
import Derived.OrdersHeld
import Derived.OrdersIn
import Derived.RangeFuncLeaves
import Derived.RangeFuncRecord
import Derived.Shelf.Abstract
import Derived.Test.YtpefamheopplnaaMf0
import Derived.Test.YtpefamheopplnaaMf1
import Derived.Test.YtpefamheopplnaaMf2
import Derived.Test.YtpefamheopplnaaMf3
import Derived.Test.YtpefamheopplnaaMf4
import Derived.Test.YtpefamheopplnaaMf5
import Derived.Test.YtpefamheopplnaaProg
import Derived.Test.YtpefamheopplnaaMf6
import Derived.DeepKeys4
import Derived.Laws.Cover3
import Derived.Maps.Keyed
import Derived.Maps.RangeRun
import Derived.Test.YtpefamheopplnaaMf8
import Derived.Test.YtpefamheopplnaaMf12
import Derived.Test.YtpefamheopplnaaMf13
import Derived.Test.YtpefamheopplnaaMf14
import Derived.Test.YtpefamheopplnaaMf9
import Derived.Test.YtpefamheopplnaaMf10
import Derived.Test.YtpefamheopplnaaMf11
import Derived.Test.YtpefamheopplnaaMf16
import Derived.Test.YtpefamheopplnaaMf18
import Derived.Test.YtpefamheopplnaaMf15
import Derived.Test.YtpefamheopplnaaMf7
import Derived.Test.YtpefamheopplnaaMf22
import Derived.Test.YtpefamheopplnaaMf19
import Derived.Test.YtpefamheopplnaaMf20
import Derived.Test.YtpefamheopplnaaMf21
import Derived.Test.YtpefamheopplnaaMf23
import Derived.Test.YtpefamheopplnaaMf24
import Derived.Test.YtpefamheopplnaaMf25
set_option linter.unusedVariables false
set_option linter.unusedSimpArgs false
namespace Go.Fz
open Go.Proofs
theorem en6 : Enters Try.prog 6 := fun args w => Go.Proofs.enters_of Try.func6 (by kernel_rfl) rfl args w
theorem en33 : Enters Try.prog 33 := fun args w => Go.Proofs.enters_of Try.func33 (by kernel_rfl) rfl args w
theorem en34 : Enters Try.prog 34 := fun args w => Go.Proofs.enters_of Try.func34 (by kernel_rfl) rfl args w
theorem en50 : Enters Try.prog 50 := fun args w => Go.Proofs.enters_of Try.func50 (by kernel_rfl) rfl args w
theorem en51 : Enters Try.prog 51 := fun args w => Go.Proofs.enters_of Try.func51 (by kernel_rfl) rfl args w
theorem en81 : Enters Try.prog 81 := fun args w => Go.Proofs.enters_of Try.func81 (by kernel_rfl) rfl args w
theorem en92 : Enters Try.prog 92 := fun args w => Go.Proofs.enters_of Try.func92 (by kernel_rfl) rfl args w
end Go.Fz
namespace Go.Fz
open Go.Proofs
set_option maxRecDepth 100000
section
variable {α : Type} {next : α → (Nat → Int) → α} {N : Nat} {lo hi : Nat → Int}
end
theorem seen_key (d : DayD) (b : Mk) : b ∈ d.seen.E.map (·.1) ↔ ∃ t, d.inR t ∧ wrongOf d (cutF (d.nw + d.nl) t) = b := by
  rw [seen_ex (S := fun a => b ∈ a.E.map (·.1)) (g := fun f => wrongOf d f = b) fun a f => by
    show b ∈ (updE _ _ _).map (·.1) ↔ _
    rw [updE_mem]
    exact ⟨fun h => h.imp id Eq.symm, fun h => h.imp id Eq.symm⟩]
  exact ⟨fun h => h.elim (fun h => by cases h) id, .inr⟩
end Go.Fz
namespace Go.Fz
open Go.Proofs
set_option maxRecDepth 100000
theorem firstM_nn (b : Mk) : 0 ≤ firstM b := by
  obtain ⟨b0, b1, b2, b3, b4⟩ := b
  cases b0 <;> cases b1 <;> cases b2 <;> cases b3 <;> cases b4 <;> decide
theorem mem_firsts (d : DayD) (v : Int) : v ∈ firsts d.seen.E ↔ ∃ t, d.inR t ∧ firstM (wrongOf d (cutF (d.nw + d.nl) t)) = v := by
  unfold firsts
  constructor
  · intro h
    obtain ⟨p, hp, rfl⟩ := List.mem_map.1 h
    obtain ⟨t, h1, h2⟩ := (seen_key d p.1).1 (List.mem_map.2 ⟨p, hp, rfl⟩)
    exact ⟨t, h1, by rw [h2]⟩
  · rintro ⟨t, h1, rfl⟩
    obtain ⟨p, hp, h2⟩ := List.mem_map.1 ((seen_key d _).2 ⟨t, h1, rfl⟩)
    exact List.mem_map.2 ⟨p, hp, by rw [h2]⟩
theorem firstV_le (d : DayD) {t : Nat → Int} (h : d.inR t) : firstM (wrongOf d (cutF (d.nw + d.nl) t)) ≤ d.firstV := mxL_le ((mem_firsts d _).2 ⟨t, h, rfl⟩)
theorem firstV_mem (d : DayD) (hc : d.check = 0) : ∃ t, d.inR t ∧ firstM (wrongOf d (cutF (d.nw + d.nl) t)) = d.firstV := by
  rcases mxL_mem (firsts d.seen.E) with h | h
  · have g := unk_in (good_of_check hc)
    have hin : d.inR d.ulo := fun m hm => ⟨Int.le_refl _, (g m hm).2.1⟩
    refine ⟨d.ulo, hin, ?_⟩
    have h1 := firstV_le d hin
    have h2 : d.firstV = 0 := h
    have h3 := firstM_nn (wrongOf d (cutF (d.nw + d.nl) d.ulo))
    omega
  · exact (mem_firsts d _).1 h
end Go.Fz
namespace Go.Fz
open Go.Proofs
set_option maxRecDepth 100000
def bitB (bits : Int) (i : Nat) : Bool := std.cmp .eql (std.bin .rem .i64 (std.bin .shr .i64 bits (std.conv .u64 (Int.ofNat i))) 2) 1
def selL (bits : Int) : Nat → List Nat
  | 0 => []
  | i + 1 => if bitB bits i then selL bits i ++ [i] else selL bits i
theorem selL_len (bits : Int) : ∀ i, (selL bits i).length ≤ i
  | 0 => Nat.le_refl _
  | i + 1 => by
    have := selL_len bits i
    show (if bitB bits i then selL bits i ++ [i] else selL bits i).length ≤ i + 1
    split
    · rw [List.length_append, List.length_singleton]; omega
    · omega
end Go.Fz
namespace Go.Fz
open Go.Proofs
set_option maxRecDepth 100000
def befF (fa fb : Nat → Int) (na nb : Nat) : Nat → Nat → Bool
  | _, 0 => decide ((na : Int) < nb)
  | i, k + 1 => if i < na ∧ i < nb then (if fa i = fb i then befF fa fb na nb (i + 1) k else decide (fa i < fb i)) else decide ((na : Int) < nb)
set_option pp.deepTerms false
set_option pp.deepTerms.threshold 5
set_option maxHeartbeats 8000000 in
theorem before92_ok (na nb : Nat) (ea eb : Bool) (fa fb : Nat → Int) (hna : na < 1000) (hnb : nb < 1000) : Pure Try.prog 92 [intsV na ea fa, intsV nb eb fb] (.sb (befF fa fb na nb 0 (na + 1))) := by
  obtain ⟨O, hO⟩ : ∃ O : Ar, O = std := ⟨_, rfl⟩
  have hnat : ∀ i : Nat, O.nat (Int.ofNat i) = i := fun i => by subst hO; rfl
  refine pure_of_body tok 3 Try.func92 en92 rfl ⟨intsV_below _ _ _, intsV_below _ _ _, trivial⟩ Below.sb ?_
  refine SW.seqRun tok hO (by cbv <;> rfl) (by trivial) ?_
  refine SW.seq ?_
  refine SW.seqRun tok hO (by cbv <;> rfl) (by trivial) ?_
  refine (SW.block (SW.loopF (fun i : Nat => ⟨⟨41, getT [(0, intsV na ea fa), (1, intsV nb eb fb), (5, iV i)]⟩, []⟩) (fun _ => ⟨[], 0⟩) (fun i => na + 1 - i) (fun i => i ≤ na ∧ befF fa fb na nb 0 (na + 1) = befF fa fb na nb i (na + 1 - i)) 0
    (fun _ => rfl) ⟨Nat.zero_le _, rfl⟩ (Weak.by rfl rfl (by simp) (Nat.le_refl _) (Nat.le_refl _) ⟨⟨rfl, .inl rfl⟩, ⟨rfl, .inl rfl⟩, ⟨rfl, .inl rfl⟩, trivial⟩ trivial) fun i ⟨hi, hB⟩ => ?_))
  have hun : befF fa fb na nb i (na + 1 - i) = if i < na ∧ i < nb then (if fa i = fb i then befF fa fb na nb (i + 1) (na - i) else decide (fa i < fb i)) else decide ((na : Int) < nb) := by
    rw [show na + 1 - i = (na - i) + 1 by omega]; rfl
  rw [hun] at hB
  have h0 : (0 : Int) ≤ Int.ofNat i := Int.natCast_nonneg i
  generalize befF fa fb na nb 0 (na + 1) = B at hB ⊢
  refine SW.seq ?_
  refine SW.seqRun tok hO (by cbv <;> rfl) (by trivial) ?_
  have hend : ¬ (i < na ∧ i < nb) → B = decide ((na : Int) < nb) := fun h => by rw [hB, if_neg h]
  refine OpsW.splitG (by cbv <;> rfl) (fun h => ?_) (fun h => ?_)
  · have hlt : i < na := by subst hO; simpa [std] using h
    refine OpsW.run tok hO (by cbv <;> rfl) (by trivial) ?_
    refine SW.condS (by cbv <;> rfl) (fun h3 => SW.skip ?_) (fun h3 => SW.exit ?_)
    · have hlt2 : i < nb := by subst hO; simpa [std] using h3
      rw [if_pos ⟨hlt, hlt2⟩] at hB
      refine SW.seq (SW.block ?_)
      refine SW.seqRunD tok mixed hO (by rfl) (by cbv <;> rfl) ?_ ?_
      · exact ⟨⟨h0, Int.ofNat_lt.2 hlt2⟩, ⟨h0, Int.ofNat_lt.2 hlt⟩⟩
      refine AnyE.dec tok hO (by rfl) (by cbv <;> rfl) (by trivial) (fun h4 => ?_) (fun h4 => ?_) <;> refine AnyE.run tok hO (by rfl) (by cbv <;> rfl) (by trivial) ?_
      · have hne : fa i ≠ fb i := by subst hO; simpa [std] using h4
        rw [if_neg hne] at hB
        refine SW.cond (t := true) (by cbv <;> rfl) ?_
        refine SW.seqRunD tok mixed hO (by rfl) (by cbv <;> rfl) ?_ ?_
        · exact ⟨⟨h0, Int.ofNat_lt.2 hlt2⟩, ⟨h0, Int.ofNat_lt.2 hlt⟩⟩
        refine AnyE.dec tok hO (by rfl) (by cbv <;> rfl) (by trivial) (fun h5 => ?_) (fun h5 => ?_) <;> refine AnyE.run tok hO (by rfl) (by cbv <;> rfl) (by trivial) ?_
        · have h6 : fa i < fb i := by subst hO; simpa [std] using h5
          refine SW.ret ⟨_, _, rfl, rfl, Eqv.bool ?_⟩
          rw [hB, decide_eq_true h6]
        · have h6 : ¬ fa i < fb i := by subst hO; simpa [std] using h5
          refine SW.ret ⟨_, _, rfl, rfl, Eqv.bool ?_⟩
          rw [hB, decide_eq_false h6]
      · have he : fa i = fb i := by subst hO; simpa [std] using h4
        rw [if_pos he] at hB
        refine SW.cond (t := false) (by cbv <;> rfl) (SW.skip ?_)
        refine SW.run tok hO (by cbv <;> rfl) (by trivial) ?_
        exact ⟨i + 1, by omega, ⟨by omega, by rw [hB]; congr 1; omega⟩, Weak.by rfl rfl (by simp) (Nat.le_refl _) (Nat.zero_le _) ⟨⟨rfl, .inr (intsV_below _ _ _)⟩, ⟨rfl, .inr (intsV_below _ _ _)⟩, ⟨inc_ok hO (by omega), .inr Below.lit⟩, trivial⟩ trivial⟩
    · have hge : ¬ i < nb := by subst hO; simpa [std] using h3
      refine SW.seqRun tok hO (by cbv <;> rfl) (by trivial) ?_
      refine SW.ret ⟨_, _, rfl, rfl, Eqv.sb ?_⟩
      rw [hend (fun h => hge h.2)]; subst hO; rfl
  · have hge : ¬ i < na := by subst hO; simpa [std] using h
    refine OpsW.run tok hO (by cbv <;> rfl) (by trivial) ?_
    refine SW.cond (t := false) (by cbv <;> rfl) (SW.exit ?_)
    refine SW.seqRun tok hO (by cbv <;> rfl) (by trivial) ?_
    refine SW.ret ⟨_, _, rfl, rfl, Eqv.sb ?_⟩
    rw [hend (fun h => hge h.1)]; subst hO; rfl
def shortB (na nb : Nat) (fa fb : Nat → Int) : Bool := decide ((na : Int) < nb) || (decide ((na : Int) = nb) && befF fa fb na nb 0 (na + 1))
theorem shorter_ok (na nb : Nat) (ea eb : Bool) (fa fb : Nat → Int) (hna : na < 1000) (hnb : nb < 1000) : Pure Try.prog 50 [intsV na ea fa, intsV nb eb fb] (.sb (shortB na nb fa fb)) := by
  obtain ⟨O, hO⟩ : ∃ O : Ar, O = std := ⟨_, rfl⟩
  have hbef := before92_ok na nb ea eb fa fb hna hnb
  obtain ⟨S, hS⟩ : ∃ S, shortB na nb fa fb = S := ⟨_, rfl⟩
  unfold shortB at hS
  rw [show shortB na nb fa fb = S from hS]
  generalize befF fa fb na nb 0 (na + 1) = B at hbef hS
  refine pure_of_body tok 3 Try.func50 en50 rfl ⟨intsV_below _ _ _, intsV_below _ _ _, trivial⟩ Below.sb ?_
  refine SW.seqRun tok hO (by cbv <;> rfl) (by trivial) ?_
  refine SW.seqRun tok hO (by cbv <;> rfl) (by trivial) ?_
  refine OpsW.splitG (by cbv <;> rfl) (fun h => ?_) (fun h => ?_)
  · have hlt : (na : Int) < nb := by subst hO; simpa [std] using h
    refine OpsW.run tok hO (by cbv <;> rfl) (by trivial) ?_
    refine SW.ret ⟨_, _, rfl, rfl, Eqv.bool ?_⟩
    rw [← hS, decide_eq_true hlt]; rfl
  · have hlt : ¬ (na : Int) < nb := by subst hO; simpa [std] using h
    refine OpsW.run tok hO (by cbv <;> rfl) (by trivial) ?_
    refine OpsW.splitG (by cbv <;> rfl) (fun h2 => ?_) (fun h2 => ?_)
    · have he : (na : Int) = nb := by subst hO; simpa [std] using h2
      refine OpsW.run tok hO (by cbv <;> rfl) (by trivial) ?_
      refine OpsW.callP hbef (by cbv <;> rfl) ?_
      refine OpsW.run tok hO (by cbv <;> rfl) (by trivial) ?_
      refine SW.ret ⟨_, _, rfl, rfl, Eqv.sb ?_⟩
      rw [← hS, decide_eq_false hlt, decide_eq_true he]; rfl
    · have he : ¬ (na : Int) = nb := by subst hO; simpa [std] using h2
      refine OpsW.run tok hO (by cbv <;> rfl) (by trivial) ?_
      refine SW.ret ⟨_, _, rfl, rfl, Eqv.bool ?_⟩
      rw [← hS, decide_eq_false hlt, decide_eq_false he]; rfl
end Go.Fz
namespace Go.Fz
open Go.Proofs
set_option maxRecDepth 100000
def lI (l : List Nat) (i : Nat) : Int := ((l.getD i 0 : Nat) : Int)
theorem lI_snoc (l : List Nat) (i : Nat) : flatG 1 (intC (lI l)) l.length ++ [iV (i : Int)] = flatG 1 (intC (lI (l ++ [i]))) (l.length + 1) := by
  have h1 : flatG 1 (intC (lI (l ++ [i]))) l.length = flatG 1 (intC (lI l)) l.length := flatG_congr fun j k hj => by
    show iV (lI (l ++ [i]) j) = iV (lI l j)
    unfold lI
    rw [List.getD_eq_getElem?_getD, List.getElem?_append_left hj, ← List.getD_eq_getElem?_getD]
  have h2 : lI (l ++ [i]) l.length = (i : Int) := by unfold lI; simp
  show _ = flatG 1 (intC (lI (l ++ [i]))) l.length ++ [iV (lI (l ++ [i]) l.length)]
  rw [h1, h2]
theorem bits_fin : ∀ (n : Fin 32) (i : Fin 6), (std.cmp .gtr (std.bin .shr .i64 (n.1 : Int) (std.conv .u64 (i.1 : Int))) 0 = true → i.1 < 5) ∧ (std.cmp .gtr (std.bin .shr .i64 (n.1 : Int) (std.conv .u64 (i.1 : Int))) 0 = false → selL (n.1 : Int) i.1 = selL (n.1 : Int) 5) := by
  decide +kernel
set_option maxHeartbeats 16000000 in
theorem bits51_ok (o : Int) (o0 : 0 ≤ o) (o32 : o < 32) : Pure Try.prog 51 [iV o] (lsV (selL o 5)) := by
  obtain ⟨O, hO⟩ : ∃ O : Ar, O = std := ⟨_, rfl⟩
  have hfin : ∀ i : Nat, i ≤ 5 → (std.cmp .gtr (std.bin .shr .i64 o (std.conv .u64 (i : Int))) 0 = true → i < 5) ∧ (std.cmp .gtr (std.bin .shr .i64 o (std.conv .u64 (i : Int))) 0 = false → selL o i = selL o 5) := fun i hi => by
    have h1 := bits_fin ⟨o.toNat, by omega⟩ ⟨i, by omega⟩
    have h2 : ((o.toNat : Nat) : Int) = o := by omega
    rw [h2] at h1
    exact h1
  refine pure_of_body tok 3 Try.func51 en51 rfl ⟨Below.lit, trivial⟩ (lsV_below _) ?_
  refine SW.seqRun tok hO (by cbv <;> rfl) (by trivial) ?_
  refine SW.seqRun tok hO (by cbv <;> rfl) (by trivial) ?_
  refine SW.seq ?_
  refine SW.seqRun tok hO (by cbv <;> rfl) (by trivial) ?_
  refine (SW.block (SW.loopR (fun i : Nat => ⟨⟨23, getT [(0, iV o), (3, slG 0 1 (selL o i).length), (4, iV i)]⟩, []⟩) (fun i => ⟨[] ++ objG 0 1 (intC (lI (selL o i))) (selL o i).length, 1⟩) (fun i => 5 - i) (fun i => i ≤ 5) 0 (Nat.zero_le _) (ren1 0 0) ?_ fun i hi => ?_))
  · exact WeakR.up rfl rfl (by simp) (Nat.le_refl _) (.inl rfl) (by show 0 ≤ 1; omega) ⟨RenV.closed Below.lit, RenV.closed Below.lit, RenV.closed Below.lit, trivial⟩ trivial (fun p hp => by cases hp)
  have hlen := selL_len o i
  have hsn := lI_snoc (selL o i) i
  have hsu : selL o (i + 1) = if bitB o i then selL o i ++ [i] else selL o i := rfl
  obtain ⟨f1, f2⟩ := hfin i hi
  have hc0 : 0 ≤ O.conv .u64 (Int.ofNat i) := by
    subst hO
    show 0 ≤ wrp .u64 ((i : Nat) : Int)
    rw [wrp_in (by simp only [IntKind.lo]; omega) (by simp only [IntKind.hi]; omega)]
    omega
  cases hm : (selL o i).length with
  | zero =>
    have hl0 : selL o i = [] := List.length_eq_zero_iff.1 hm
    show SW _ _ _ _ ⟨⟨23, getT [(0, iV o), (3, nl3), (4, iV i)]⟩, []⟩ ⟨[], 1⟩
    refine SW.seq ?_
    refine SW.seqRun tok hO (by cbv <;> rfl) (by first | exact hc0 | exact ⟨hc0, trivial⟩) ?_
    refine SW.condS (by cbv <;> rfl) (fun h => SW.skip ?_) (fun h => SW.exit ?_)
    · have hlt : i < 5 := f1 (by subst hO; exact h)
      refine SW.seq (SW.block ?_)
      refine SW.seqRun tok hO (by cbv <;> rfl) (by first | exact ⟨hc0, (by decide : (2 : Int) ≠ 0)⟩ | exact ⟨(by decide : (2 : Int) ≠ 0), hc0⟩) ?_
      refine SW.condS (by cbv <;> rfl) (fun h2 => ?_) (fun h2 => SW.skip ?_)
      · have hb : bitB o i = true := by subst hO; exact h2
        rw [if_pos hb] at hsu
        rw [hl0] at hsn hsu
        refine SW.runN tok hO 3 (by cbv <;> rfl) (by trivial) ?_
        refine OpsW.appNil tok (by cbv <;> rfl) (by rfl) (by kernel_rfl) (by rfl) (by rfl) ?_
        refine OpsW.run tok hO (by cbv <;> rfl) (by trivial) ?_
        refine SW.run tok hO (by cbv <;> rfl) (by trivial) ?_
        refine ⟨i + 1, by omega, by omega, ren1 0 2, ?_⟩
        rw [hsu]
        refine WeakR.up rfl rfl (by simp) (Nat.le_refl _) (.inr (by omega)) (by show 0 ≤ 1; omega) ⟨RenV.closed Below.lit, RenV.sl (by omega), RenV.inc hO (by omega), trivial⟩ trivial (fun p hp => ?_)
        obtain rfl := objG_mem hp
        exact ⟨by omega, _, rfl, .cells (RenVs.of_eq hsn (flatG_below (fun _ _ => Below.lit) _)), .inl rfl⟩
      · have hb : bitB o i = false := by subst hO; exact h2
        rw [if_neg (by rw [hb]; decide)] at hsu
        refine SW.run tok hO (by cbv <;> rfl) (by trivial) ?_
        refine ⟨i + 1, by omega, by omega, ren1 0 0, ?_⟩
        rw [hsu, hm]
        exact WeakR.up rfl rfl (by simp) (Nat.le_refl _) (.inl rfl) (by show 0 ≤ 1; omega) ⟨RenV.closed Below.lit, RenV.closed Below.lit, RenV.inc hO (by omega), trivial⟩ trivial (fun p hp => by cases hp)
    · have he := f2 (by subst hO; exact h)
      refine SW.seqRun tok hO (by cbv <;> rfl) (by trivial) ?_
      refine SW.ret ⟨_, _, rfl, rfl, ?_⟩
      rw [← he, hl0]
      exact Eqv.nil
  | succ m =>
    obtain ⟨G, hG⟩ : ∃ G, G = flatG 1 (intC (lI (selL o i))) (m + 1) := ⟨_, rfl⟩
    show SW _ _ _ _ ⟨⟨23, getT [(0, iV o), (3, .sl 0 0 (m + 1) 1 false), (4, iV i)]⟩, []⟩ ⟨[(0, .cells none false (flatG 1 (intC (lI (selL o i))) (m + 1)))], 1⟩
    rw [← hG]
    refine SW.seq ?_
    refine SW.seqRun tok hO (by cbv <;> rfl) (by first | exact hc0 | exact ⟨hc0, trivial⟩) ?_
    refine SW.condS (by cbv <;> rfl) (fun h => SW.skip ?_) (fun h => SW.exit ?_)
    · have hlt : i < 5 := f1 (by subst hO; exact h)
      refine SW.seq (SW.block ?_)
      refine SW.seqRun tok hO (by cbv <;> rfl) (by first | exact ⟨hc0, (by decide : (2 : Int) ≠ 0)⟩ | exact ⟨(by decide : (2 : Int) ≠ 0), hc0⟩) ?_
      refine SW.condS (by cbv <;> rfl) (fun h2 => ?_) (fun h2 => SW.skip ?_)
      · have hb : bitB o i = true := by subst hO; exact h2
        rw [if_pos hb] at hsu
        rw [hm, ← hG] at hsn
        refine SW.runN tok hO 3 (by cbv <;> rfl) (by trivial) ?_
        refine OpsW.appOne (g := intC (lI (selL o i))) (len := m + 1) tok (by cbv <;> rfl) (by rfl) (by rfl) hG (by kernel_rfl) (by rfl) (by rfl) (by omega) fun G' hG' => ?_
        refine OpsW.run tok hO (by cbv <;> rfl) (by trivial) ?_
        refine SW.run tok hO (by cbv <;> rfl) (by trivial) ?_
        refine ⟨i + 1, by omega, by omega, ren1 0 2, ?_⟩
        rw [hsu, List.length_append, List.length_singleton, hm]
        refine WeakR.up rfl rfl (by simp) (Nat.le_refl _) (.inr (by omega)) (by show 0 ≤ 1; omega) ⟨RenV.closed Below.lit, RenV.sl (by omega), RenV.inc hO (by omega), trivial⟩ trivial (fun p hp => ?_)
        obtain rfl := objG_mem hp
        exact ⟨by omega, _, rfl, .cells (RenVs.of_eq (by rw [hG', ← hG]; exact hsn) (flatG_below (fun _ _ => Below.lit) _)), .inl rfl⟩
      · have hb : bitB o i = false := by subst hO; exact h2
        rw [if_neg (by rw [hb]; decide)] at hsu
        refine SW.run tok hO (by cbv <;> rfl) (by trivial) ?_
        refine ⟨i + 1, by omega, by omega, ren1 0 0, ?_⟩
        rw [hsu, hm]
        refine WeakR.up rfl rfl (by simp) (Nat.le_refl _) (.inl rfl) (by show 0 ≤ 1; omega) ⟨RenV.closed Below.lit, RenV.sl (by omega), RenV.inc hO (by omega), trivial⟩ trivial (fun p hp => ?_)
        obtain rfl := objG_mem hp
        exact ⟨by omega, _, rfl, .cells (RenVs.of_eq hG (flatG_below (fun _ _ => Below.lit) _)), .inl rfl⟩
    · have he := f2 (by subst hO; exact h)
      refine SW.seqRun tok hO (by cbv <;> rfl) (by trivial) ?_
      refine SW.ret ⟨_, _, rfl, rfl, ?_⟩
      rw [← he]
      show Eqv (frz _ _ 3 (.sl 0 0 (m + 1) 1 false)) (.isl (selL o i).length 1 false _)
      rw [frz_slE (fm := none) (G := G) rfl rfl (by rw [hG, flatG_length]; omega), hm]
      refine Eqv.isl rfl fun j k hj hk => Eqv.of ?_
      rw [hG, frz_flat hj hk rfl]
      rfl
end Go.Fz
namespace Go.Fz
open Go.Proofs
set_option maxRecDepth 100000
theorem first_ge {d : DayD} (hn : d.nc ≤ 5) (f : Nat → Int) (n : Nat) (h5 : n ≤ 5) : (n : Int) ≤ firstM (wrongOf d f) ↔ ∀ j, j < n → j < d.nc → d.okC f j = true := by
  have hw : wrongOf d f = (wrM (d.okC f) d.nc 0, wrM (d.okC f) d.nc 1, wrM (d.okC f) d.nc 2, wrM (d.okC f) d.nc 3, wrM (d.okC f) d.nc 4) := rfl
  rw [hw]
  generalize d.okC f = r
  have hm : ∀ j, wrM r d.nc j = false ↔ (j < d.nc → r j = true) := fun j => by
    unfold wrM
    cases r j <;> simp
  have key : ∀ (b0 b1 b2 b3 b4 : Bool) (n : Fin 6), ((n.1 : Int) ≤ firstM (b0, b1, b2, b3, b4) ↔ ((0 < n.1 → b0 = false) ∧ (1 < n.1 → b1 = false) ∧ (2 < n.1 → b2 = false) ∧ (3 < n.1 → b3 = false) ∧ (4 < n.1 → b4 = false))) := by
    intro b0 b1 b2 b3 b4
    cases b0 <;> cases b1 <;> cases b2 <;> cases b3 <;> cases b4 <;> decide
  rw [key _ _ _ _ _ ⟨n, by omega⟩]
  simp only [hm]
  constructor
  · rintro ⟨k0, k1, k2, k3, k4⟩ j hj hc
    have hj5 : j < 5 := by omega
    match j, hj5 with
    | 0, _ => exact k0 hj hc
    | 1, _ => exact k1 hj hc
    | 2, _ => exact k2 hj hc
    | 3, _ => exact k3 hj hc
    | 4, _ => exact k4 hj hc
  · exact fun h => ⟨fun a => h 0 a, fun a => h 1 a, fun a => h 2 a, fun a => h 3 a, fun a => h 4 a⟩
end Go.Fz
namespace Go.Fz
open Go.Proofs
set_option maxRecDepth 100000
theorem oth_fin : ∀ (many : Fin 6) (o : Fin 32), o.1 < 2 ^ many.1 → (selL (o.1 : Int) 5 ∈ risL many.1) ∧ (∀ j : Fin 5, bitB (std.bin .andNot .i64 (fullI many.1) (o.1 : Int)) j.1 = (decide (j.1 < many.1) && !bitB (o.1 : Int) j.1)) := by
  decide +kernel
def shL (a b : List Nat) : Bool := shortB a.length b.length (lI a) (lI b)
theorem ord_fin : ∀ many : Fin 6, (risL many.1).Pairwise (fun x y => shL y x = false) ∧ (∀ l ∈ risL many.1, shL l l = false) ∧ List.range many.1 ∈ risL many.1 := by
  decide +kernel
theorem ris_before {many : Nat} (hm : many ≤ 5) {pre post : List (List Nat)} {l a : List Nat} (hE : risL many = pre ++ l :: post) (ha : a ∈ risL many) (hs : shL a l = true) : a ∈ pre := by
  obtain ⟨h1, h2, _⟩ := ord_fin ⟨many, by omega⟩
  simp only at h1 h2
  have hl := h2 l (by rw [hE]; simp)
  rw [hE] at h1 ha
  rcases List.mem_append.1 ha with ha | ha
  · exact ha
  · rcases List.mem_cons.1 ha with rfl | ha
    · rw [hl] at hs; cases hs
    · have := (List.pairwise_append.1 h1).2.1
      have := (List.pairwise_cons.1 this).1 a ha
      rw [this] at hs; cases hs
theorem hasN_lI (l : List Nat) (i : Nat) : hasN l.length (lI l) (i : Int) = decide (i ∈ l) := by
  unfold hasN
  refine decide_eq_decide.2 ⟨fun ⟨k, hk, h⟩ => ?_, fun h => ?_⟩
  · unfold lI at h
    have : l.getD k 0 = i := by omega
    rw [← this, List.getD_eq_getElem?_getD, List.getElem?_eq_getElem hk]
    exact List.getElem_mem hk
  · obtain ⟨k, hk, h⟩ := List.getElem_of_mem h
    exact ⟨k, hk, by unfold lI; rw [List.getD_eq_getElem?_getD, List.getElem?_eq_getElem hk, Option.getD_some, h]⟩
theorem mkB_wrong {d : DayD} (f : Nat → Int) {j : Nat} (hj : j < 5) : mkB (wrongOf d f) j = wrM (d.okC f) d.nc j := by
  match j, hj with
  | 0, _ | 1, _ | 2, _ | 3, _ | 4, _ => rfl
theorem within_wrong {d : DayD} (hn : d.nc ≤ 5) (f : Nat → Int) (l : List Nat) : withinL (wrongOf d f) l.length (lI l) = true ↔ ∀ j, j < d.nc → j ∉ l → d.okC f j = true := by
  unfold withinL
  simp only [allN, decide_eq_true_eq, Bool.or_eq_true, Bool.not_eq_true']
  constructor
  · intro h j hj hl
    have h1 := h j (by omega)
    rw [mkB_wrong f (by omega), hasN_lI] at h1
    rcases h1 with h1 | h1
    · unfold wrM at h1
      cases hr : d.okC f j with
      | true => rfl
      | false => rw [hr] at h1; simp [hj] at h1
    · exact absurd (of_decide_eq_true h1) hl
  · intro h j hj
    rw [mkB_wrong f hj, hasN_lI]
    by_cases hl : j ∈ l
    · exact .inr (decide_eq_true hl)
    · refine .inl ?_
      unfold wrM
      by_cases hjn : j < d.nc
      · rw [h j hjn hl]; simp
      · simp [hjn]
theorem leaveQ_iff {d : DayD} (hn : d.nc ≤ 5) (l : List Nat) : leaveQ d.seen.E l = true ↔ ∃ t, d.inR t ∧ ∀ j, j < d.nc → j ∉ l → d.okC (cutF (d.nw + d.nl) t) j = true := by
  unfold leaveQ
  rw [List.any_eq_true]
  constructor
  · rintro ⟨p, hp, h⟩
    obtain ⟨t, h1, h2⟩ := (seen_key d p.1).1 (List.mem_map.2 ⟨p, hp, rfl⟩)
    rw [← h2] at h
    exact ⟨t, h1, (within_wrong hn _ l).1 h⟩
  · rintro ⟨t, h1, h2⟩
    obtain ⟨p, hp, h3⟩ := List.mem_map.1 ((seen_key d _).2 ⟨t, h1, rfl⟩)
    exact ⟨p, hp, by rw [h3]; exact (within_wrong hn _ l).2 h2⟩
theorem left_found {d : DayD} (hc : d.check = 0) (hn : d.nc ≤ 5) : ∃ pre l post, risL d.nc = pre ++ l :: post ∧ (∀ l' ∈ pre, leaveQ d.seen.E l' = false) ∧ leaveQ d.seen.E l = true ∧ leaveV d.seen.E d.nc = lsV l := by
  have hr : List.range d.nc ∈ risL d.nc := (ord_fin ⟨d.nc, by omega⟩).2.2
  have hq : leaveQ d.seen.E (List.range d.nc) = true := by
    have g := unk_in (good_of_check hc)
    refine (leaveQ_iff hn _).2 ⟨d.ulo, fun m hm => ⟨Int.le_refl _, (g m hm).2.1⟩, fun j hj hl => absurd (List.mem_range.2 hj) hl⟩
  obtain ⟨l, hf⟩ : ∃ l, (risL d.nc).find? (leaveQ d.seen.E) = some l := by
    cases h : (risL d.nc).find? (leaveQ d.seen.E) with
    | some l => exact ⟨l, rfl⟩
    | none =>
      have := List.find?_eq_none.1 h _ hr
      rw [hq] at this
      exact absurd rfl this
  obtain ⟨hl, pre, post, hE, hpre⟩ := List.find?_eq_some_iff_append.1 hf
  refine ⟨pre, l, post, hE, fun l' hl' => by simpa using hpre l' hl', hl, ?_⟩
  unfold leaveV
  rw [hf]
end Go.Fz
namespace Go.Fz
open Go.Proofs
set_option maxRecDepth 100000
theorem find_split {α : Type} {p : α → Bool} : ∀ {l : List α} {a : α}, l.find? p = some a → ∃ pre post, l = pre ++ a :: post ∧ (∀ b ∈ pre, p b = false) ∧ p a = true
  | [], _, h => by cases h
  | x :: l, a, h => by
    rw [List.find?_cons] at h
    split at h
    · rename_i hx
      cases h
      exact ⟨[], l, rfl, (fun b hb => by cases hb), hx⟩
    · rename_i hx
      obtain ⟨pre, post, h1, h2, h3⟩ := find_split h
      refine ⟨x :: pre, post, by rw [h1]; rfl, fun b hb => ?_, h3⟩
      rcases List.mem_cons.1 hb with rfl | hb
      · simpa using hx
      · exact h2 b hb
theorem find_in {many : Nat} {p : List Nat → Bool} {l : List Nat} (h : (risL many).find? p = some l) : l ∈ risL many ∧ p l = true := by
  obtain ⟨pre, post, h1, _, h3⟩ := find_split h
  exact ⟨by rw [h1]; simp, h3⟩
theorem find_ex {many : Nat} {p : List Nat → Bool} {a : List Nat} (ha : a ∈ risL many) (hp : p a = true) : ∃ l, (risL many).find? p = some l := by
  cases h : (risL many).find? p with
  | some l => exact ⟨l, rfl⟩
  | none =>
    have := List.find?_eq_none.1 h a ha
    rw [hp] at this; exact absurd rfl this
theorem leave_find {d : DayD} (hc : d.check = 0) (hn : d.nc ≤ 5) : ∃ l, (risL d.nc).find? (leaveQ d.seen.E) = some l ∧ leaveV d.seen.E d.nc = lsV l := by
  obtain ⟨pre, l, post, h1, h2, h3, h4⟩ := left_found hc hn
  have hf : (risL d.nc).find? (leaveQ d.seen.E) = some l := by
    rw [h1]
    clear h1
    induction pre with
    | nil => rw [List.nil_append, List.find?_cons, h3]
    | cons x pre ih =>
      rw [List.cons_append, List.find?_cons, h2 x (by simp)]
      exact ih fun l' hl' => h2 l' (by simp [hl'])
  exact ⟨l, hf, h4⟩
section
variable (d : DayD) (k w lo hi : Int)
end
end Go.Fz
namespace Go.Fz
open Go.Proofs
set_option maxRecDepth 100000
set_option linter.unusedVariables false
def rkL (b : Nat) : Nat := (risL 5).idxOf (selL (b : Int) 5)
theorem rk_fin : ∀ a b : Fin 32, shL (selL (a.1 : Int) 5) (selL (b.1 : Int) 5) = decide (rkL a.1 < rkL b.1) ∧ (rkL a.1 = rkL b.1 → a = b) := by decide +kernel
theorem onto_fin : ∀ n : Fin 6, ∀ l ∈ risL n.1, ∃ b : Fin 32, b.1 < 2 ^ n.1 ∧ selL (b.1 : Int) 5 = l := by decide +kernel
theorem pow_le32 {n : Nat} (hn : n ≤ 5) : 2 ^ n ≤ 32 := Nat.pow_le_pow_right (n := 2) (by decide) hn
theorem rk_lt {a b : Nat} (ha : a < 32) (hb : b < 32) : shL (selL (a : Int) 5) (selL (b : Int) 5) = decide (rkL a < rkL b) := (rk_fin ⟨a, ha⟩ ⟨b, hb⟩).1
theorem rk_inj {a b : Nat} (ha : a < 32) (hb : b < 32) (h : rkL a = rkL b) : a = b := congrArg Fin.val ((rk_fin ⟨a, ha⟩ ⟨b, hb⟩).2 h)
def fewS (P : Nat → Bool) : Nat → Option (List Nat)
  | 0 => none
  | m + 1 => match fewS P m with
    | none => if P m then some (selL (m : Int) 5) else none
    | some l => if shL (selL (m : Int) 5) l && P m then some (selL (m : Int) 5) else some l
def minB (P : Nat → Bool) (m b : Nat) : Prop := b < 32 ∧ P b = true ∧ ∀ b', b' < m → P b' = true → rkL b ≤ rkL b'
theorem min_find {n : Nat} (hn : n ≤ 5) {P : Nat → Bool} {Q : List Nat → Bool} (h : ∀ b : Nat, b < 2 ^ n → Q (selL (b : Int) 5) = P b) {b : Nat} (hb : b < 2 ^ n) (hm : minB P (2 ^ n) b) : (risL n).find? Q = some (selL (b : Int) 5) := by
  obtain ⟨m1, m2, m3⟩ := hm
  have h32 := pow_le32 hn
  have hin : selL (b : Int) 5 ∈ risL n := (oth_fin ⟨n, by omega⟩ ⟨b, m1⟩ hb).1
  obtain ⟨l, hl⟩ := find_ex hin (by rw [h b hb]; exact m2 : Q (selL (b : Int) 5) = true)
  rw [hl]
  obtain ⟨pre, post, hE, hpre, hq⟩ := find_split hl
  have hlin := (find_in hl).1
  obtain ⟨c, hc, hc2⟩ := onto_fin ⟨n, by omega⟩ l hlin
  have hc3 : c.1 < 2 ^ n := hc
  have hPc : P c.1 = true := by rw [← h c.1 hc3, hc2]; exact hq
  have h1 := m3 c.1 hc3 hPc
  have h2 : ¬ rkL b < rkL c.1 := fun hlt => by
    have hs : shL (selL (b : Int) 5) l = true := by rw [← hc2, rk_lt m1 c.2]; exact decide_eq_true hlt
    have := hpre _ (ris_before hn hE hin hs)
    rw [h b hb, m2] at this; cases this
  have h3 : b = c.1 := rk_inj m1 c.2 (by omega)
  rw [← hc2, h3]
def lvS (P : Nat → Bool) (l0 : List Nat) : Nat → List Nat
  | 0 => l0
  | m + 1 => if shL (selL (m : Int) 5) (lvS P l0 m) && P m then selL (m : Int) 5 else lvS P l0 m
theorem leS_min {P : Nat → Bool} {b0 N : Nat} (hb0 : b0 < N) (hN : N ≤ 32) (hP0 : P b0 = true) : ∀ m, m ≤ N → ∃ b, b < N ∧ lvS P (selL (b0 : Int) 5) m = selL (b : Int) 5 ∧ minB P m b
  | 0, _ => ⟨b0, hb0, rfl, by omega, hP0, fun b' h => absurd h (Nat.not_lt_zero b')⟩
  | m + 1, hm => by
    obtain ⟨b, h0, h1, h2, h3, h4⟩ := leS_min hb0 hN hP0 m (by omega)
    unfold lvS
    rw [h1, rk_lt (by omega) h2]
    by_cases hlt : rkL m < rkL b ∧ P m = true
    · rw [decide_eq_true hlt.1, hlt.2]
      refine ⟨m, by omega, rfl, by omega, hlt.2, fun b' hb' hp' => ?_⟩
      rcases Nat.lt_succ_iff_lt_or_eq.1 hb' with h | rfl
      · exact Nat.le_trans (Nat.le_of_lt hlt.1) (h4 b' h hp')
      · exact Nat.le_refl _
    · have hf : (decide (rkL m < rkL b) && P m) = false := by
        cases hb : (decide (rkL m < rkL b) && P m) with
        | false => rfl
        | true =>
          rw [Bool.and_eq_true, decide_eq_true_eq] at hb
          exact absurd hb hlt
      rw [hf]
      refine ⟨b, h0, rfl, h2, h3, fun b' hb' hp' => ?_⟩
      rcases Nat.lt_succ_iff_lt_or_eq.1 hb' with h | rfl
      · exact h4 b' h hp'
      · by_cases h5 : rkL b' < rkL b
        · exact absurd ⟨h5, hp'⟩ hlt
        · omega
theorem leS_find {n : Nat} (hn : n ≤ 5) {P : Nat → Bool} {Q : List Nat → Bool} (h : ∀ b : Nat, b < 2 ^ n → Q (selL (b : Int) 5) = P b) {b0 : Nat} (hb0 : b0 < 2 ^ n) (hP0 : P b0 = true) : (risL n).find? Q = some (lvS P (selL (b0 : Int) 5) (2 ^ n)) := by
  obtain ⟨b, hb, h1, hm⟩ := leS_min hb0 (pow_le32 hn) hP0 (2 ^ n) (Nat.le_refl _)
  rw [h1, min_find hn h hb hm]
end Go.Fz
namespace Go.Fz
open Go.Proofs
set_option maxRecDepth 100000
set_option linter.unusedVariables false
def canB (A : Nat → Int) (c : Int) (N : Nat) : Bool := decide (∃ i, i < N ∧ std.cmp .eql (std.bin .and .i64 (A i) c) c = true)
set_option maxHeartbeats 8000000 in
theorem can81_ok (N : Nat) (A : Nat → Int) (c : Int) (hN : N < 100000) : Pure Try.prog 81 [intsV N false A, iV c] (.sb (canB A c N)) := by
  obtain ⟨O, hO⟩ : ∃ O : Ar, O = std := ⟨_, rfl⟩
  have hnat : ∀ i : Nat, O.nat (Int.ofNat i) = i := fun i => by subst hO; rfl
  obtain ⟨B, hB⟩ : ∃ B, canB A c N = B := ⟨_, rfl⟩
  have hBt : ∀ i, i < N → O.cmp .eql (O.bin .and .i64 (A i) c) c = true → B = true := fun i hi h => by rw [← hB]; subst hO; exact decide_eq_true ⟨i, hi, h⟩
  have hBf : (∀ i, i < N → O.cmp .eql (O.bin .and .i64 (A i) c) c = false) → B = false := fun h => by
    rw [← hB]; subst hO
    exact decide_eq_false fun ⟨i, hi, h2⟩ => by rw [h i hi] at h2; cases h2
  rw [hB]
  refine pure_of_body tok 3 Try.func81 en81 rfl ⟨intsV_below _ _ _, Below.lit, trivial⟩ Below.sb ?_
  refine SW.seqRun tok hO (by cbv <;> rfl) (by trivial) ?_
  refine SW.seq ?_
  refine SW.seqRun tok hO (by cbv <;> rfl) (by trivial) ?_
  refine (SW.block (SW.loopF (fun i : Nat => ⟨⟨20, getT [(0, intsV N false A), (1, iV c), (5, iV (Int.ofNat i))]⟩, []⟩) (fun _ => ⟨[], 0⟩) (fun i => N - i) (fun i => i ≤ N ∧ ∀ j, j < i → O.cmp .eql (O.bin .and .i64 (A j) c) c = false) 0
    (fun _ => rfl) ⟨Nat.zero_le _, fun j h => absurd h (Nat.not_lt_zero j)⟩ (Weak.by rfl rfl (by simp) (Nat.le_refl _) (Nat.le_refl _) ⟨⟨rfl, .inl rfl⟩, ⟨rfl, .inl rfl⟩, ⟨rfl, .inl rfl⟩, trivial⟩ trivial) fun i ⟨hi, hall⟩ => ?_))
  refine SW.seq ?_
  refine SW.seqRun tok hO (by cbv <;> rfl) (by trivial) ?_
  refine SW.condS (by cbv <;> rfl) (fun h => SW.skip ?_) (fun h => SW.exit ?_)
  · have hlt : i < N := by
      have : (Int.ofNat i : Int) < Int.ofNat N := by subst hO; simpa [std] using h
      exact Int.ofNat_lt.1 this
    have hc : 0 ≤ Int.ofNat i ∧ Int.ofNat i < (N : Int) := ⟨Int.natCast_nonneg i, Int.ofNat_lt.2 hlt⟩
    refine SW.seq (SW.block ?_)
    refine SW.seqRun tok hO (by cbv <;> rfl) (by first | exact hc | exact ⟨hc, trivial⟩) ?_
    refine SW.condS (by cbv <;> rfl) (fun h2 => ?_) (fun h2 => SW.skip ?_)
    · refine SW.seqRun tok hO (by cbv <;> rfl) (by trivial) ?_
      refine SW.ret ⟨_, _, rfl, rfl, Eqv.bool ?_⟩
      have h3 : O.cmp .eql (O.bin .and .i64 (A (O.nat (Int.ofNat i))) c) c = true := h2
      rw [hnat] at h3
      exact (hBt i hlt h3).symm
    · have h3 : O.cmp .eql (O.bin .and .i64 (A (O.nat (Int.ofNat i))) c) c = false := h2
      rw [hnat] at h3
      refine SW.run tok hO (by cbv <;> rfl) (by trivial) ?_
      refine ⟨i + 1, by omega, ⟨hlt, fun j hj => ?_⟩, Weak.by rfl rfl (by simp) (Nat.le_refl _) (Nat.le_refl _) ⟨⟨rfl, .inl rfl⟩, ⟨rfl, .inl rfl⟩, ⟨inc_ok hO (by omega), .inl rfl⟩, trivial⟩ trivial⟩
      rcases Nat.lt_succ_iff_lt_or_eq.1 hj with h4 | rfl
      · exact hall j h4
      · exact h3
  · have hge : i = N := by
      have : ¬ (Int.ofNat i : Int) < Int.ofNat N := by subst hO; simpa [std] using h
      have h2 : ¬ i < N := fun h => this (Int.ofNat_lt.2 h)
      omega
    subst hge
    refine SW.seqRun tok hO (by cbv <;> rfl) (by trivial) ?_
    refine SW.ret ⟨_, _, rfl, rfl, Eqv.bool ?_⟩
    exact (hBf hall).symm
def upTo (k : Nat) : Int := std.bin .sub .i64 (std.bin .shl .i64 2 (std.conv .u64 (Int.ofNat k))) 1
set_option maxHeartbeats 8000000 in
theorem refFirst_ok (d : DayD) (hnc : d.nc ≤ 7) (AL : AV) (hAL : Below 0 AL) (P : Nat → Bool) (hcan : ∀ k, k < d.nc → Pure Try.prog 81 [AL, iV (upTo k)] (.sb (P k))) (V : Int) (hV1 : ∀ k : Nat, k < d.nc → P k = false → (∀ j, j < k → P j = true) → V = k) (hV2 : (∀ j, j < d.nc → P j = true) → V = -1) :
    Pure Try.prog 34 [dayV d, AL] (iV V) := by
  obtain ⟨O, hO⟩ : ∃ O : Ar, O = std := ⟨_, rfl⟩
  have hcan' : ∀ k, k < d.nc → Pure Try.prog 81 [AL, iV (O.bin .sub .i64 (O.bin .shl .i64 2 (O.conv .u64 (Int.ofNat k))) 1)] (.sb (P k)) := fun k hk => by subst hO; exact hcan k hk
  refine pure_of_body tok 3 Try.func34 en34 rfl ⟨dayV_below d, hAL, trivial⟩ Below.lit ?_
  refine SW.seqRun tok hO (by cbv <;> rfl) (by trivial) ?_
  refine SW.seq ?_
  refine SW.seqRun tok hO (by cbv <;> rfl) (by trivial) ?_
  refine (SW.block (SW.loopF (fun i : Nat => ⟨⟨21, getT [(1, AL), (2, .ptr 0 0), (5, iV (Int.ofNat i))]⟩, []⟩) (fun _ => ⟨[(0, .cells none false (dayC d))], 1⟩) (fun i => d.nc - i) (fun i => i ≤ d.nc ∧ ∀ j, j < i → P j = true) 0
    (fun _ => rfl) ⟨Nat.zero_le _, fun j h => absurd h (Nat.not_lt_zero j)⟩ (Weak.by rfl rfl (by simp) (Nat.le_refl _) (Nat.le_refl _) ⟨⟨rfl, .inl rfl⟩, ⟨rfl, .inl rfl⟩, ⟨rfl, .inl rfl⟩, trivial⟩ ⟨⟨rfl, by show 0 < 1; omega, .inl rfl⟩, trivial⟩) fun i ⟨hi, hall⟩ => ?_))
  refine SW.seq ?_
  refine SW.seqRun tok hO (by cbv <;> rfl) (by trivial) ?_
  refine SW.condS (by cbv <;> rfl) (fun h => SW.skip ?_) (fun h => SW.exit ?_)
  · have hlt : i < d.nc := by
      have : (Int.ofNat i : Int) < Int.ofNat d.nc := by subst hO; simpa [std] using h
      exact Int.ofNat_lt.1 this
    have hnn : 0 ≤ O.conv .u64 (Int.ofNat i) := by
      subst hO
      show 0 ≤ wrp .u64 (i : Int)
      rw [wrp_in (by simp only [IntKind.lo]; omega) (by simp only [IntKind.hi]; omega)]; omega
    have call := hcan' i hlt
    generalize hp : P i = p at call
    refine SW.seq (SW.block ?_)
    refine SW.seqRun tok hO (by cbv <;> rfl) (by first | exact hnn | exact ⟨hnn, trivial⟩) ?_
    refine OpsW.callP call (by cbv <;> rfl) ?_
    have hnot : O.not p = !p := by subst hO; rfl
    refine OpsW.run tok hO (by cbv <;> rfl) (by trivial) ?_
    refine SW.condS (by cbv <;> rfl) (fun h2 => ?_) (fun h2 => SW.skip ?_)
    · have hp2 : p = false := by have := hnot.symm.trans h2; simpa using this
      refine SW.seqRun tok hO (by cbv <;> rfl) (by trivial) ?_
      refine SW.ret ⟨_, _, rfl, rfl, Eqv.int ?_⟩
      exact (hV1 i hlt (hp.trans hp2) hall).symm
    · have hp2 : p = true := by have := hnot.symm.trans h2; simpa using this
      refine SW.run tok hO (by cbv <;> rfl) (by trivial) ?_
      refine ⟨i + 1, by omega, ⟨hlt, fun j hj => ?_⟩, Weak.by rfl rfl (by simp) (Nat.le_refl _) (Nat.le_refl _) ⟨⟨rfl, .inl rfl⟩, ⟨rfl, .inl rfl⟩, ⟨inc_ok hO (by omega), .inl rfl⟩, trivial⟩ ⟨⟨rfl, by show 0 < 1; omega, .inl rfl⟩, trivial⟩⟩
      rcases Nat.lt_succ_iff_lt_or_eq.1 hj with h4 | rfl
      · exact hall j h4
      · exact hp.trans hp2
  · have hge : i = d.nc := by
      have : ¬ (Int.ofNat i : Int) < Int.ofNat d.nc := by subst hO; simpa [std] using h
      have h2 : ¬ i < d.nc := fun h => this (Int.ofNat_lt.2 h)
      omega
    subst hge
    refine SW.seqRun tok hO (by cbv <;> rfl) (by trivial) ?_
    refine SW.ret ⟨_, _, rfl, rfl, Eqv.int ?_⟩
    exact (hV2 hall).symm
theorem full_fin2 : ∀ n : Fin 6, fullI n.1 = Int.ofNat (2 ^ n.1 - 1) := by decide +kernel
set_option maxHeartbeats 16000000 in
theorem refLeave_ok (d : DayD) (hnc : d.nc ≤ 5) (AL : AV) (hAL : Below 0 AL) (P : Nat → Bool) (hcan : ∀ n, n < 2 ^ d.nc → Pure Try.prog 81 [AL, iV (std.bin .andNot .i64 (fullI d.nc) (Int.ofNat n))] (.sb (P n))) (h0 : P (2 ^ d.nc - 1) = true) :
    Pure Try.prog 33 [dayV d, AL] (lsV (lvS P (selL ((2 ^ d.nc - 1 : Nat) : Int) 5) (2 ^ d.nc))) := by
  obtain ⟨O, hO⟩ : ∃ O : Ar, O = std := ⟨_, rfl⟩
  have hfull := full_ok d (by omega)
  have hF : fullI d.nc = Int.ofNat (2 ^ d.nc - 1) := full_fin2 ⟨d.nc, by omega⟩
  rw [hF] at hfull hcan
  have hW : 2 ^ d.nc ≤ 32 := pow_le32 hnc
  have hWp : 0 < 2 ^ d.nc := Nat.pow_pos (by decide)
  obtain ⟨W, hWd⟩ : ∃ W, W = 2 ^ d.nc := ⟨_, rfl⟩
  rw [← hWd] at hW hWp hfull hcan h0 ⊢
  have hcan' : ∀ n, n < W → Pure Try.prog 81 [AL, iV (O.bin .andNot .i64 (Int.ofNat (W - 1)) (Int.ofNat n))] (.sb (P n)) := fun n hn => by subst hO; exact hcan n hn
  have hbits0 := bits51_ok (Int.ofNat (W - 1)) (Int.natCast_nonneg _) (by show ((W - 1 : Nat) : Int) < 32; omega)
  have hmin := fun m hm => leS_min (P := P) (b0 := W - 1) (N := W) (by omega) hW h0 m hm
  have hs : ∀ m, lvS P (selL ((W - 1 : Nat) : Int) 5) (m + 1) = if shL (selL (m : Int) 5) (lvS P (selL ((W - 1 : Nat) : Int) 5) m) && P m then selL (m : Int) 5 else lvS P (selL ((W - 1 : Nat) : Int) 5) m := fun m => rfl
  have hz : lvS P (selL ((W - 1 : Nat) : Int) 5) 0 = selL ((W - 1 : Nat) : Int) 5 := rfl
  obtain ⟨L, hL⟩ : ∃ L, L = lvS P (selL ((W - 1 : Nat) : Int) 5) := ⟨_, rfl⟩
  rw [← hL] at hmin hs hz ⊢
  have hlen : ∀ m, m ≤ W → (L m).length < 1000 := fun m hm => by
    obtain ⟨b, _, h1, _⟩ := hmin m hm
    rw [h1]
    have := selL_len (b : Int) 5
    omega
  rw [show selL (Int.ofNat (W - 1)) 5 = L 0 from hz.symm] at hbits0
  refine pure_of_body tok 3 Try.func33 en33 rfl ⟨dayV_below d, hAL, trivial⟩ (lsV_below _) ?_
  obtain ⟨X0, hX0⟩ : ∃ X, lsV (L 0) = X := ⟨_, rfl⟩
  rw [hX0] at hbits0
  obtain ⟨W1, hW1⟩ : ∃ W1, W - 1 = W1 := ⟨_, rfl⟩
  rw [hW1] at hfull hcan' hbits0
  refine SW.seqRun tok hO (by cbv <;> rfl) (by trivial) ?_
  refine SW.seqRun tok hO (by cbv <;> rfl) (by trivial) ?_
  refine OpsW.callP hfull (by cbv <;> rfl) ?_
  refine OpsW.run tok hO (by cbv <;> rfl) (by trivial) ?_
  refine OpsW.callP hbits0 (by cbv <;> rfl) ?_
  refine OpsW.run tok hO (by cbv <;> rfl) (by trivial) ?_
  refine SW.seq ?_
  refine SW.seqRun tok hO (by cbv <;> rfl) (by trivial) ?_
  refine (SW.block (SW.loopF (fun m : Nat => ⟨⟨32, getT [(1, AL), (2, .ptr 0 0), (5, lsV (L m)), (6, iV (Int.ofNat m))]⟩, []⟩) (fun _ => ⟨[(0, .cells none false (dayC d))], 1⟩) (fun m => W - m) (fun m => m ≤ W) 0
    (fun _ => rfl) (Nat.zero_le _) (Weak.by rfl rfl (by simp) (Nat.le_refl _) (Nat.le_refl _) ⟨⟨rfl, .inl rfl⟩, ⟨rfl, .inl rfl⟩, ⟨hX0.symm, .inl rfl⟩, ⟨rfl, .inl rfl⟩, trivial⟩ ⟨⟨rfl, by show 0 < 1; omega, .inl rfl⟩, trivial⟩) fun m hm => ?_))
  show SW _ _ _ _ ⟨⟨32, getT [(1, AL), (2, .ptr 0 0), (5, lsV (L m)), (6, iV (Int.ofNat m))]⟩, []⟩ ⟨[(0, .cells none false (dayC d))], 1⟩
  obtain ⟨Bv, hBv⟩ : ∃ X, lsV (L m) = X := ⟨_, rfl⟩
  rw [hBv]
  refine SW.seq ?_
  refine SW.seqRun tok hO (by cbv <;> rfl) (by trivial) ?_
  refine OpsW.callP hfull (by cbv <;> rfl) ?_
  refine OpsW.run tok hO (by cbv <;> rfl) (by trivial) ?_
  refine SW.condS (by cbv <;> rfl) (fun h => SW.skip ?_) (fun h => SW.exit ?_)
  · have hlt : m < W := by
      have : (Int.ofNat m : Int) ≤ Int.ofNat W1 := by subst hO; simpa [std] using h
      have := Int.ofNat_le.1 this
      omega
    clear h
    have hbits := bits51_ok (Int.ofNat m) (Int.natCast_nonneg m) (by show (m : Int) < 32; omega)
    have hl5 := selL_len (m : Int) 5
    have hs1 := hs m
    have hcn := hcan' m hlt
    have hlm := hlen m hm
    generalize hPm : P m = p at hcn hs1
    obtain ⟨x, hx⟩ : ∃ x, selL (m : Int) 5 = x := ⟨_, rfl⟩
    rw [show selL (Int.ofNat m) 5 = x from hx] at hbits
    rw [hx] at hs1 hl5
    have hsho : Pure Try.prog 50 [lsV x, lsV (L m)] (.sb (shL x (L m))) := shorter_ok x.length (L m).length false false (lI x) (lI (L m)) (by omega) hlm
    rw [hBv] at hsho
    generalize shL x (L m) = s at hsho hs1
    obtain ⟨X, hX⟩ : ∃ v, lsV x = v := ⟨_, rfl⟩
    rw [hX] at hbits hsho
    refine SW.seq (SW.block ?_)
    refine SW.seqRun tok hO (by cbv <;> rfl) (by trivial) ?_
    refine OpsW.callP hbits (by cbv <;> rfl) ?_
    refine OpsW.run tok hO (by cbv <;> rfl) (by trivial) ?_
    refine SW.seqRun tok hO (by cbv <;> rfl) (by trivial) ?_
    refine OpsW.callP hsho (by cbv <;> rfl) ?_
    refine OpsW.run tok hO (by cbv <;> rfl) (by trivial) ?_
    refine OpsW.splitG (by cbv <;> rfl) (fun h5 => ?_) (fun h5 => ?_) <;> refine OpsW.run tok hO (by cbv <;> rfl) (by trivial) ?_
    · rw [h5, Bool.true_and] at hs1
      refine OpsW.callP hfull (by cbv <;> rfl) ?_
      refine OpsW.run tok hO (by cbv <;> rfl) (by trivial) ?_
      refine OpsW.callP hcn (by cbv <;> rfl) ?_
      refine OpsW.run tok hO (by cbv <;> rfl) (by trivial) ?_
      refine SW.condS (by cbv <;> rfl) (fun h4 => ?_) (fun h4 => SW.skip ?_)
      · rw [h4, if_pos rfl] at hs1
        refine SW.run tok hO (by cbv <;> rfl) (by trivial) ?_
        refine SW.run tok hO (by cbv <;> rfl) (by trivial) ?_
        exact ⟨m + 1, by omega, hlt, Weak.by rfl rfl (by simp) (Nat.le_refl _) (Nat.le_refl _) ⟨⟨rfl, .inl rfl⟩, ⟨rfl, .inl rfl⟩, ⟨by rw [hs1]; exact hX.symm, .inl rfl⟩, ⟨inc_ok hO (by omega), .inl rfl⟩, trivial⟩ ⟨⟨rfl, by show 0 < 1; omega, .inl rfl⟩, trivial⟩⟩
      · rw [h4, if_neg (by decide)] at hs1
        refine SW.run tok hO (by cbv <;> rfl) (by trivial) ?_
        exact ⟨m + 1, by omega, hlt, Weak.by rfl rfl (by simp) (Nat.le_refl _) (Nat.le_refl _) ⟨⟨rfl, .inl rfl⟩, ⟨rfl, .inl rfl⟩, ⟨by rw [hs1]; exact hBv.symm, .inl rfl⟩, ⟨inc_ok hO (by omega), .inl rfl⟩, trivial⟩ ⟨⟨rfl, by show 0 < 1; omega, .inl rfl⟩, trivial⟩⟩
    · rw [h5, Bool.false_and, if_neg (by decide)] at hs1
      refine SW.condS (by cbv <;> rfl) (fun h4 => absurd h4 (by decide)) (fun h4 => SW.skip ?_)
      refine SW.run tok hO (by cbv <;> rfl) (by trivial) ?_
      exact ⟨m + 1, by omega, hlt, Weak.by rfl rfl (by simp) (Nat.le_refl _) (Nat.le_refl _) ⟨⟨rfl, .inl rfl⟩, ⟨rfl, .inl rfl⟩, ⟨by rw [hs1]; exact hBv.symm, .inl rfl⟩, ⟨inc_ok hO (by omega), .inl rfl⟩, trivial⟩ ⟨⟨rfl, by show 0 < 1; omega, .inl rfl⟩, trivial⟩⟩
  · have hge : m = W := by
      have : ¬ (Int.ofNat m : Int) ≤ Int.ofNat W1 := by subst hO; simpa [std] using h
      have h2 : ¬ m ≤ W1 := fun h => this (Int.ofNat_le.2 h)
      omega
    subst hge
    have hBv' : Bv = intsV (L m).length false (lI (L m)) := hBv.symm
    rw [show lsV (L m) = Bv from hBv]
    generalize (L m).length = n1 at hBv'
    generalize lI (L m) = f1 at hBv'
    subst hBv'
    refine SW.seqRun tok hO (by cbv <;> rfl) (by trivial) ?_
    exact SW.ret ⟨_, _, rfl, rfl, Eqv.of rfl⟩
end Go.Fz
namespace Go.Fz
open Go.Proofs
set_option maxRecDepth 100000
set_option linter.unusedVariables false
theorem inR_nth {d : DayD} (hc : d.check = 0) {N : Nat} (hN : N < d.nT) : d.inR (numT d (d.nthI N)) := fun m hm => by
  obtain ⟨_, _, k1, k2⟩ := fits_true (nth_fit hc hN)
  unfold numT DayD.ulo DayD.uhi
  by_cases hmw : m < d.nw
  · rw [if_pos hmw, if_pos hmw, if_pos hmw]; exact k1 m hmw
  · rw [if_neg hmw, if_neg hmw, if_neg hmw]; exact k2 (m - d.nw) (by omega)
theorem okC_nth {d : DayD} (hc : d.check = 0) (N : Nat) {j : Nat} (hj : j < d.nc) : d.okC (cutF (d.nw + d.nl) (numT d (d.nthI N))) j = d.okB N j :=
  right_congr (good_of_check hc) rfl rfl (fun w hw => by
    show cutF (d.nw + d.nl) (numT d (d.nthI N)) w = _
    unfold cutF numT; rw [if_pos (by omega), if_pos hw]) (fun i hi => by
    show cutF (d.nw + d.nl) (numT d (d.nthI N)) (d.nw + i) = _
    unfold cutF numT; rw [if_pos (by omega), if_neg (by omega), Nat.add_sub_cancel_left]) hj
theorem ex_nth {d : DayD} (hc : d.check = 0) (c : (Nat → Int) → Prop) : (∃ t, d.inR t ∧ c (cutF (d.nw + d.nl) t)) ↔ ∃ N, N < d.nT ∧ c (cutF (d.nw + d.nl) (numT d (d.nthI N))) := by
  constructor
  · rintro ⟨t, ht, h⟩
    obtain ⟨N, hN, h1, h2⟩ := nth_onto hc ht
    refine ⟨N, hN, ?_⟩
    have he : cutF (d.nw + d.nl) (numT d (d.nthI N)) = cutF (d.nw + d.nl) t := cutF_congr fun m hm => by
      unfold numT
      by_cases hmw : m < d.nw
      · rw [if_pos hmw]; exact h1 m hmw
      · rw [if_neg hmw, h2 (m - d.nw) (by omega)]
        congr 1; omega
    rw [he]; exact h
  · rintro ⟨N, hN, h⟩
    exact ⟨_, inR_nth hc hN, h⟩
theorem mask_fin1 : ∀ (b0 b1 b2 b3 b4 : Bool) (n : Fin 6) (o : Fin 32), o.1 < 2 ^ n.1 → (std.cmp .eql (std.bin .and .i64 (bitsN (mkB (b0, b1, b2, b3, b4)) n.1) (std.bin .andNot .i64 (fullI n.1) (Int.ofNat o.1))) (std.bin .andNot .i64 (fullI n.1) (Int.ofNat o.1)) = true ↔ ∀ j : Fin 5, j.1 < n.1 → j.1 ∉ selL (o.1 : Int) 5 → mkB (b0, b1, b2, b3, b4) j.1 = true) := by decide +kernel
theorem mask_fin2 : ∀ (b0 b1 b2 b3 b4 : Bool) (n : Fin 6) (k : Fin 5), k.1 < n.1 → (std.cmp .eql (std.bin .and .i64 (bitsN (mkB (b0, b1, b2, b3, b4)) n.1) (upTo k.1)) (upTo k.1) = true ↔ ∀ j : Fin 5, j.1 ≤ k.1 → mkB (b0, b1, b2, b3, b4) j.1 = true) := by decide +kernel
theorem mkB_of (b : Nat → Bool) : ∀ j, j < 5 → mkB (b 0, b 1, b 2, b 3, b 4) j = b j := fun j hj => by
  match j, hj with
  | 0, _ => rfl
  | 1, _ => rfl
  | 2, _ => rfl
  | 3, _ => rfl
  | 4, _ => rfl
theorem mask1 (b : Nat → Bool) {n o : Nat} (hn : n ≤ 5) (ho : o < 2 ^ n) : std.cmp .eql (std.bin .and .i64 (bitsN b n) (std.bin .andNot .i64 (fullI n) (Int.ofNat o))) (std.bin .andNot .i64 (fullI n) (Int.ofNat o)) = true ↔ ∀ j, j < n → j ∉ selL (o : Int) 5 → b j = true := by
  have h := mask_fin1 (b 0) (b 1) (b 2) (b 3) (b 4) ⟨n, by omega⟩ ⟨o, Nat.lt_of_lt_of_le ho (pow_le32 hn)⟩ ho
  rw [bits_congr (n := n) fun j hj => mkB_of b j (by omega)] at h
  rw [h]
  constructor
  · intro k j hj hm
    have := k ⟨j, by omega⟩ hj hm
    rw [mkB_of b j (by omega)] at this; exact this
  · intro k j hj hm
    rw [mkB_of b j.1 j.2]; exact k j.1 hj hm
theorem mask2 (b : Nat → Bool) {n k : Nat} (hn : n ≤ 5) (hk : k < n) : std.cmp .eql (std.bin .and .i64 (bitsN b n) (upTo k)) (upTo k) = true ↔ ∀ j, j ≤ k → b j = true := by
  have h := mask_fin2 (b 0) (b 1) (b 2) (b 3) (b 4) ⟨n, by omega⟩ ⟨k, by omega⟩ hk
  rw [bits_congr (n := n) fun j hj => mkB_of b j (by omega)] at h
  rw [h]
  constructor
  · intro q j hj
    have := q ⟨j, by omega⟩ hj
    rw [mkB_of b j (by omega)] at this; exact this
  · intro q j hj
    rw [mkB_of b j.1 j.2]; exact q j.1 hj
def DayD.allI (d : DayD) (i : Nat) : Int := bitsN (d.okB i) d.nc
def DayD.canL (d : DayD) (o : Nat) : Bool := canB d.allI (std.bin .andNot .i64 (fullI d.nc) (Int.ofNat o)) d.nT
def DayD.canF (d : DayD) (k : Nat) : Bool := canB d.allI (upTo k) d.nT
theorem canL_same {d : DayD} (hc : d.check = 0) {o : Nat} (ho : o < 2 ^ d.nc) : leaveQ d.seen.E (selL (o : Int) 5) = d.canL o := by
  have hn := (good_of_check hc).nc
  rw [Bool.eq_iff_iff, leaveQ_iff hn, ex_nth hc (fun f => ∀ j, j < d.nc → j ∉ selL (o : Int) 5 → d.okC f j = true)]
  unfold DayD.canL canB
  rw [decide_eq_true_eq]
  constructor
  · rintro ⟨N, hN, h⟩
    exact ⟨N, hN, (mask1 _ hn ho).2 fun j hj hm => by rw [← okC_nth hc N hj]; exact h j hj hm⟩
  · rintro ⟨N, hN, h⟩
    exact ⟨N, hN, fun j hj hm => by rw [okC_nth hc N hj]; exact (mask1 _ hn ho).1 h j hj hm⟩
theorem canF_iff {d : DayD} (hc : d.check = 0) {k : Nat} (hk : k < d.nc) : d.canF k = true ↔ ∃ t, d.inR t ∧ ((k + 1 : Nat) : Int) ≤ firstM (wrongOf d (cutF (d.nw + d.nl) t)) := by
  have hn := (good_of_check hc).nc
  have h1 : (∃ t, d.inR t ∧ ((k + 1 : Nat) : Int) ≤ firstM (wrongOf d (cutF (d.nw + d.nl) t))) ↔ ∃ t, d.inR t ∧ ∀ j, j < k + 1 → j < d.nc → d.okC (cutF (d.nw + d.nl) t) j = true := by
    constructor
    · rintro ⟨t, ht, h⟩; exact ⟨t, ht, (first_ge hn _ (k + 1) (by omega)).1 h⟩
    · rintro ⟨t, ht, h⟩; exact ⟨t, ht, (first_ge hn _ (k + 1) (by omega)).2 h⟩
  rw [h1, ex_nth hc (fun f => ∀ j, j < k + 1 → j < d.nc → d.okC f j = true)]
  unfold DayD.canF canB
  rw [decide_eq_true_eq]
  constructor
  · rintro ⟨N, hN, h⟩
    exact ⟨N, hN, fun j hj hj2 => by rw [okC_nth hc N hj2]; exact (mask2 _ hn hk).1 h j (by omega)⟩
  · rintro ⟨N, hN, h⟩
    exact ⟨N, hN, (mask2 _ hn hk).2 fun j hj => by rw [← okC_nth hc N (by omega)]; exact h j (by omega) (by omega)⟩
theorem all_fin : ∀ n : Fin 6, ∀ j : Fin 5, j.1 < n.1 → j.1 ∈ selL ((2 ^ n.1 - 1 : Nat) : Int) 5 := by decide +kernel
theorem canL_all {d : DayD} (hc : d.check = 0) : d.canL (2 ^ d.nc - 1) = true := by
  have hn := (good_of_check hc).nc
  have hp : 0 < 2 ^ d.nc := Nat.pow_pos (by decide)
  rw [← canL_same hc (by omega), leaveQ_iff hn]
  obtain ⟨t, ht, _⟩ := firstV_mem d hc
  exact ⟨t, ht, fun j hj hm => absurd (all_fin ⟨d.nc, by omega⟩ ⟨j, by omega⟩ hj) hm⟩
def DayD.fstR (d : DayD) : Int := if (d.nc : Int) ≤ d.firstV then -1 else d.firstV
theorem fst_wrong {d : DayD} (hc : d.check = 0) {k : Nat} (hk : k < d.nc) (hf : d.canF k = false) (ht : ∀ j, j < k → d.canF j = true) : d.fstR = k := by
  obtain ⟨t0, ht0, hm0⟩ := firstV_mem d hc
  have h1 : d.firstV ≤ k := by
    by_cases h : ((k + 1 : Nat) : Int) ≤ d.firstV
    · have := (canF_iff hc hk).2 ⟨t0, ht0, by rw [hm0]; exact h⟩
      rw [hf] at this; cases this
    · omega
  have h2 : (k : Int) ≤ d.firstV := by
    cases k with
    | zero => exact mxL_nn _
    | succ k =>
      obtain ⟨t, ht1, h3⟩ := (canF_iff hc (by omega)).1 (ht k (Nat.lt_succ_self k))
      exact Int.le_trans h3 (firstV_le d ht1)
  unfold DayD.fstR
  rw [if_neg (by omega)]; omega
theorem fst_none {d : DayD} (hc : d.check = 0) (ht : ∀ j, j < d.nc → d.canF j = true) : d.fstR = -1 := by
  unfold DayD.fstR
  rw [if_pos]
  cases hn : d.nc with
  | zero => exact mxL_nn _
  | succ k =>
    obtain ⟨t, ht1, h3⟩ := (canF_iff hc (by omega)).1 (ht k (by omega))
    exact Int.le_trans h3 (firstV_le d ht1)
set_option maxHeartbeats 8000000 in
theorem first_err (d : DayD) (e : Int) (he : e ≠ 0) (h : Pure Try.prog 40 [dayV d] (iV e)) : Pure Try.prog 30 [dayV d] (.tup [iV 0, iV e]) := by
  obtain ⟨O, hO⟩ : ∃ O : Ar, O = std := ⟨_, rfl⟩
  have hz : O.cmp .neq e 0 = true := by subst hO; simpa [std] using he
  refine pure_of_body tok 3 Try.func30 en30 rfl ⟨dayV_below d, trivial⟩ (Below.tup (AllB.ok ⟨Below.lit, Below.lit, trivial⟩)) ?_
  refine SW.seqRun tok hO (by cbv <;> rfl) (by trivial) ?_
  refine SW.seq ?_
  refine SW.seqRun tok hO (by cbv <;> rfl) (by trivial) ?_
  refine OpsW.callP h (by cbv <;> rfl) ?_
  refine OpsW.run tok hO (by cbv <;> rfl) (by trivial) ?_
  refine SW.seqRun tok hO (by cbv <;> rfl) (by trivial) ?_
  refine SW.condS (by cbv <;> rfl) (fun _ => ?_) (fun h => absurd (show true = false from hz.symm.trans h) (by decide))
  refine SW.seqRun tok hO (by cbv <;> rfl) (by trivial) ?_
  exact SW.ret ⟨_, _, rfl, rfl, Eqv.of rfl⟩
set_option maxHeartbeats 8000000 in
theorem leave_err (d : DayD) (e : Int) (he : e ≠ 0) (h : Pure Try.prog 40 [dayV d] (iV e)) : Pure Try.prog 31 [dayV d] (.tup [nl3, iV e]) := by
  obtain ⟨O, hO⟩ : ∃ O : Ar, O = std := ⟨_, rfl⟩
  have hz : O.cmp .neq e 0 = true := by subst hO; simpa [std] using he
  refine pure_of_body tok 3 Try.func31 en31 rfl ⟨dayV_below d, trivial⟩ (Below.tup (AllB.ok ⟨Below.lit, Below.lit, trivial⟩)) ?_
  refine SW.seqRun tok hO (by cbv <;> rfl) (by trivial) ?_
  refine SW.scope ?_
  refine SW.seq ?_
  refine SW.seqRun tok hO (by cbv <;> rfl) (by trivial) ?_
  refine OpsW.callP h (by cbv <;> rfl) ?_
  refine OpsW.run tok hO (by cbv <;> rfl) (by trivial) ?_
  refine SW.seqRun tok hO (by cbv <;> rfl) (by trivial) ?_
  refine SW.condS (by cbv <;> rfl) (fun _ => ?_) (fun h => absurd (show true = false from hz.symm.trans h) (by decide))
  refine SW.seqRun tok hO (by cbv <;> rfl) (by trivial) ?_
  exact SW.ret ⟨_, _, rfl, rfl, Eqv.of rfl⟩
end Go.Fz
namespace Go.Fz
open Go.Proofs
set_option maxRecDepth 100000
set_option linter.unusedVariables false
set_option maxHeartbeats 8000000 in
theorem lea_2 (d : DayD) (n e : Int) (X : AV) (e2 : Int) (g : Nat → AV) (O : Ar) (hO : O = std) (hday : Pure Try.prog 19 [dayV d] (dayV d)) (hf : Pure Try.prog 30 [dayV d] (.tup [iV n, iV e])) (h : AllP (fun p => g p.1 = p.2) [(1, .ptr 0 0)]) :
    SW Try.prog none (nthC 2 (bodyF Try.f6)) (midK 86 [(1, .ptr 0 0), (3, iV n), (4, iV e)] ⟨[(0, .cells none false (dayC d))], 1⟩) ⟨⟨86, g⟩, []⟩ ⟨[(0, .cells none false (dayC d))], 1⟩ := by
  obtain ⟨g1, _⟩ := h
  simp only at g1
  rw [← updT_self g1]
  refine SW.run tok hO (by cbv <;> rfl) (by trivial) ?_
  refine OpsW.callP hday (by cbv <;> rfl) ?_
  refine OpsW.run tok hO (by cbv <;> rfl) (by trivial) ?_
  refine OpsW.callP hf (by cbv <;> rfl) ?_
  refine OpsW.run tok hO (by cbv <;> rfl) (by trivial) ?_
  exact ⟨rfl, _, rfl, ⟨rfl, rfl, rfl, trivial⟩, rfl⟩
set_option maxHeartbeats 8000000 in
theorem lea_3 (d : DayD) (n e : Int) (X : AV) (e2 : Int) (g : Nat → AV) (O : Ar) (hO : O = std) (hday : Pure Try.prog 19 [dayV d] (dayV d)) (hl : Pure Try.prog 31 [dayV d] (.tup [X, iV e2])) (h : AllP (fun p => g p.1 = p.2) [(1, .ptr 0 0), (3, iV n), (4, iV e)]) :
    SW Try.prog none (nthC 3 (bodyF Try.f6)) (midK 86 [(1, .ptr 0 0), (3, iV n), (4, iV e), (5, X), (6, iV e2)] ⟨[(0, .cells none false (dayC d))], 1⟩) ⟨⟨86, g⟩, []⟩ ⟨[(0, .cells none false (dayC d))], 1⟩ := by
  obtain ⟨g1, g3, g4, _⟩ := h
  simp only at g1 g3 g4
  rw [← updT_self g1, ← updT_self g3, ← updT_self g4]
  refine SW.run tok hO (by cbv <;> rfl) (by trivial) ?_
  refine OpsW.callP hday (by cbv <;> rfl) ?_
  refine OpsW.run tok hO (by cbv <;> rfl) (by trivial) ?_
  refine OpsW.callP hl (by cbv <;> rfl) ?_
  refine OpsW.run tok hO (by cbv <;> rfl) (by trivial) ?_
  exact ⟨rfl, _, rfl, ⟨rfl, rfl, rfl, rfl, rfl, trivial⟩, rfl⟩
set_option maxHeartbeats 8000000 in
theorem lea_4a (d : DayD) (n e : Int) (X : AV) (e2 : Int) (g : Nat → AV) (O : Ar) (hO : O = std) (haw : Pure Try.prog 17 [] (.lit (.bool true))) (c : Int) (hc : c ≠ 0) (hc2 : Pure Try.prog 24 [dayV d] (iV c)) (h : AllP (fun p => g p.1 = p.2) [(1, .ptr 0 0), (3, iV 0), (4, iV c), (5, nl3), (6, iV c)]) :
    SW Try.prog none (restC 4 (bodyF Try.f6)) (retQ T Try.f6 (fun v st' => Eqv (frz st'.h (fun _ => true) 3 v) (.lit (.bool true)))) ⟨⟨86, g⟩, []⟩ ⟨[(0, .cells none false (dayC d))], 1⟩ := by
  have hp : O.cmp .neq c 0 = true := by subst hO; simpa [std] using hc
  have hq : O.cmp .eql c c = true := by subst hO; simp [std]
  have hz : O.cmp .eql 0 0 = true := by subst hO; rfl
  obtain ⟨g1, g3, g4, g5, g6, _⟩ := h
  simp only at g1 g3 g4 g5 g6
  rw [← updT_self g1, ← updT_self g3, ← updT_self g4, ← updT_self g5, ← updT_self g6]
  refine SW.seq ?_
  refine SW.seqRun tok hO (by cbv <;> rfl) (by trivial) ?_
  refine OpsW.callP hc2 (by cbv <;> rfl) ?_
  refine OpsW.run tok hO (by cbv <;> rfl) (by trivial) ?_
  refine SW.seqRun tok hO (by cbv <;> rfl) (by trivial) ?_
  refine SW.condS (by cbv <;> rfl) (fun _ => ?_) (fun h => absurd (show true = false from hp.symm.trans h) (by decide))
  refine SW.seqRun tok hO (by cbv <;> rfl) (by trivial) ?_
  refine OpsW.splitG (by cbv <;> rfl) (fun _ => ?_) (fun h => absurd (show true = false from hq.symm.trans h) (by decide))
  refine OpsW.run tok hO (by cbv <;> rfl) (by trivial) ?_
  refine OpsW.splitG (by cbv <;> rfl) (fun _ => ?_) (fun h => absurd (show true = false from hq.symm.trans h) (by decide))
  refine OpsW.run tok hO (by cbv <;> rfl) (by trivial) ?_
  refine OpsW.splitG (by cbv <;> rfl) (fun _ => ?_) (fun h => absurd (show true = false from hz.symm.trans h) (by decide))
  refine OpsW.run tok hO (by cbv <;> rfl) (by trivial) ?_
  refine OpsW.splitG (by cbv <;> rfl) (fun _ => ?_) (fun h => absurd (show true = false from hz.symm.trans h) (by decide))
  refine OpsW.run tok hO (by cbv <;> rfl) (by trivial) ?_
  refine OpsW.callP haw (by cbv <;> rfl) ?_
  refine OpsW.run tok hO (by cbv <;> rfl) (by trivial) ?_
  exact SW.ret ⟨_, _, rfl, rfl, Eqv.refl _⟩
set_option maxHeartbeats 8000000 in
theorem lea_4b (d : DayD) (n e : Int) (X : AV) (e2 : Int) (g : Nat → AV) (O : Ar) (hO : O = std) (hc2 : Pure Try.prog 24 [dayV d] (iV 0)) (h : AllP (fun p => g p.1 = p.2) [(1, .ptr 0 0), (3, iV n), (4, iV e), (5, X), (6, iV e2)]) :
    SW Try.prog none (nthC 4 (bodyF Try.f6)) (midK 86 [(1, .ptr 0 0), (3, iV n), (4, iV e), (5, X), (6, iV e2)] ⟨[(0, .cells none false (dayC d))], 1⟩) ⟨⟨86, g⟩, []⟩ ⟨[(0, .cells none false (dayC d))], 1⟩ := by
  have hz : O.cmp .neq 0 0 = false := by subst hO; rfl
  obtain ⟨g1, g3, g4, g5, g6, _⟩ := h
  simp only at g1 g3 g4 g5 g6
  rw [← updT_self g1, ← updT_self g3, ← updT_self g4, ← updT_self g5, ← updT_self g6]
  refine SW.seqRun tok hO (by cbv <;> rfl) (by trivial) ?_
  refine OpsW.callP hc2 (by cbv <;> rfl) ?_
  refine OpsW.run tok hO (by cbv <;> rfl) (by trivial) ?_
  refine SW.seqRun tok hO (by cbv <;> rfl) (by trivial) ?_
  refine SW.condS (by cbv <;> rfl) (fun h => absurd (show false = true from hz.symm.trans h) (by decide)) (fun _ => SW.skip ?_)
  exact ⟨rfl, _, rfl, ⟨rfl, rfl, rfl, rfl, rfl, trivial⟩, rfl⟩
set_option maxHeartbeats 8000000 in
theorem lea_5 (d : DayD) (n e : Int) (X : AV) (e2 : Int) (g : Nat → AV) (O : Ar) (hO : O = std) (AL : AV) (ha : Pure Try.prog 32 [dayV d] AL) (h : AllP (fun p => g p.1 = p.2) [(1, .ptr 0 0), (3, iV n), (4, iV e), (5, X), (6, iV e2)]) :
    SW Try.prog none (nthC 5 (bodyF Try.f6)) (midK 86 [(1, .ptr 0 0), (3, iV n), (4, iV e), (5, X), (6, iV e2), (8, AL)] ⟨[(0, .cells none false (dayC d))], 1⟩) ⟨⟨86, g⟩, []⟩ ⟨[(0, .cells none false (dayC d))], 1⟩ := by
  obtain ⟨g1, g3, g4, g5, g6, _⟩ := h
  simp only at g1 g3 g4 g5 g6
  rw [← updT_self g1, ← updT_self g3, ← updT_self g4, ← updT_self g5, ← updT_self g6]
  refine SW.run tok hO (by cbv <;> rfl) (by trivial) ?_
  refine OpsW.callP ha (by cbv <;> rfl) ?_
  refine OpsW.run tok hO (by cbv <;> rfl) (by trivial) ?_
  exact ⟨rfl, _, rfl, ⟨rfl, rfl, rfl, rfl, rfl, rfl, trivial⟩, rfl⟩
set_option maxHeartbeats 8000000 in
theorem lea_6 (d : DayD) (n e : Int) (X : AV) (e2 : Int) (g : Nat → AV) (O : Ar) (hO : O = std) (AL : AV) (hr : Pure Try.prog 33 [dayV d, AL] X) (hi : Pure Try.prog 29 [X, X] (.lit (.bool true))) (h : AllP (fun p => g p.1 = p.2) [(1, .ptr 0 0), (3, iV n), (4, iV e), (5, X), (6, iV 0), (8, AL)]) :
    SW Try.prog none (nthC 6 (bodyF Try.f6)) (midK 86 [(1, .ptr 0 0), (3, iV n), (4, iV e), (8, AL)] ⟨[(0, .cells none false (dayC d))], 1⟩) ⟨⟨86, g⟩, []⟩ ⟨[(0, .cells none false (dayC d))], 1⟩ := by
  have hz : O.cmp .neq 0 0 = false := by subst hO; rfl
  obtain ⟨g1, g3, g4, g5, g6, g8, _⟩ := h
  simp only at g1 g3 g4 g5 g6 g8
  rw [← updT_self g1, ← updT_self g3, ← updT_self g4, ← updT_self g5, ← updT_self g6, ← updT_self g8]
  refine SW.seqRun tok hO (by cbv <;> rfl) (by trivial) ?_
  refine OpsW.splitG (by cbv <;> rfl) (fun h => absurd (show false = true from hz.symm.trans h) (by decide)) (fun _ => ?_)
  refine OpsW.run tok hO (by cbv <;> rfl) (by trivial) ?_
  refine OpsW.callP hr (by cbv <;> rfl) ?_
  refine OpsW.run tok hO (by cbv <;> rfl) (by trivial) ?_
  refine OpsW.callP hi (by cbv <;> rfl) ?_
  refine OpsW.run tok hO (by cbv <;> rfl) (by trivial) ?_
  refine SW.condS (by cbv <;> rfl) (fun h => absurd h (by decide)) (fun _ => SW.skip ?_)
  exact ⟨rfl, _, rfl, ⟨rfl, rfl, rfl, rfl, trivial⟩, rfl⟩
set_option maxHeartbeats 8000000 in
theorem lea_7a (d : DayD) (n e : Int) (X : AV) (e2 : Int) (g : Nat → AV) (O : Ar) (hO : O = std) (haw : Pure Try.prog 17 [] (.lit (.bool true))) (AL : AV) (hn : 0 ≤ n) (hr : Pure Try.prog 34 [dayV d, AL] (iV n)) (h : AllP (fun p => g p.1 = p.2) [(1, .ptr 0 0), (3, iV n), (4, iV 0), (8, AL)]) :
    SW Try.prog none (restC 7 (bodyF Try.f6)) (retQ T Try.f6 (fun v st' => Eqv (frz st'.h (fun _ => true) 3 v) (.lit (.bool true)))) ⟨⟨86, g⟩, []⟩ ⟨[(0, .cells none false (dayC d))], 1⟩ := by
  have hg : O.cmp .geq n 0 = true := by subst hO; simpa [std] using hn
  have hq : O.cmp .eql 0 0 = true := by subst hO; rfl
  have hn2 : O.cmp .eql n n = true := by subst hO; simp [std]
  obtain ⟨g1, g3, g4, g8, _⟩ := h
  simp only at g1 g3 g4 g8
  rw [← updT_self g1, ← updT_self g3, ← updT_self g4, ← updT_self g8]
  refine SW.seq ?_
  refine SW.seqRun tok hO (by cbv <;> rfl) (by trivial) ?_
  refine OpsW.callP hr (by cbv <;> rfl) ?_
  refine OpsW.run tok hO (by cbv <;> rfl) (by trivial) ?_
  refine SW.seqRun tok hO (by cbv <;> rfl) (by trivial) ?_
  refine SW.condS (by cbv <;> rfl) (fun _ => ?_) (fun h => absurd (show true = false from hg.symm.trans h) (by decide))
  refine SW.seqRun tok hO (by cbv <;> rfl) (by trivial) ?_
  refine OpsW.splitG (by cbv <;> rfl) (fun _ => ?_) (fun h => absurd (show true = false from hq.symm.trans h) (by decide))
  refine OpsW.run tok hO (by cbv <;> rfl) (by trivial) ?_
  refine OpsW.splitG (by cbv <;> rfl) (fun _ => ?_) (fun h => absurd (show true = false from hn2.symm.trans h) (by decide))
  refine OpsW.run tok hO (by cbv <;> rfl) (by trivial) ?_
  refine OpsW.callP haw (by cbv <;> rfl) ?_
  refine OpsW.run tok hO (by cbv <;> rfl) (by trivial) ?_
  exact SW.ret ⟨_, _, rfl, rfl, Eqv.refl _⟩
set_option maxHeartbeats 8000000 in
theorem lea_7b (d : DayD) (n e : Int) (X : AV) (e2 : Int) (g : Nat → AV) (O : Ar) (hO : O = std) (haw : Pure Try.prog 17 [] (.lit (.bool true))) (AL : AV) (hr : Pure Try.prog 34 [dayV d, AL] (iV (-1))) (h : AllP (fun p => g p.1 = p.2) [(1, .ptr 0 0), (3, iV 0), (4, iV 7), (8, AL)]) :
    SW Try.prog none (restC 7 (bodyF Try.f6)) (retQ T Try.f6 (fun v st' => Eqv (frz st'.h (fun _ => true) 3 v) (.lit (.bool true)))) ⟨⟨86, g⟩, []⟩ ⟨[(0, .cells none false (dayC d))], 1⟩ := by
  have hg : O.cmp .geq (-1) 0 = false := by subst hO; rfl
  have hq : O.cmp .eql 7 7 = true := by subst hO; rfl
  have hz : O.cmp .eql 0 0 = true := by subst hO; rfl
  obtain ⟨g1, g3, g4, g8, _⟩ := h
  simp only at g1 g3 g4 g8
  rw [← updT_self g1, ← updT_self g3, ← updT_self g4, ← updT_self g8]
  refine SW.seq ?_
  refine SW.seqRun tok hO (by cbv <;> rfl) (by trivial) ?_
  refine OpsW.callP hr (by cbv <;> rfl) ?_
  refine OpsW.run tok hO (by cbv <;> rfl) (by trivial) ?_
  refine SW.seqRun tok hO (by cbv <;> rfl) (by trivial) ?_
  refine SW.condS (by cbv <;> rfl) (fun h => absurd (show false = true from hg.symm.trans h) (by decide)) (fun _ => SW.skip ?_)
  refine SW.seqRun tok hO (by cbv <;> rfl) (by trivial) ?_
  refine OpsW.splitG (by cbv <;> rfl) (fun _ => ?_) (fun h => absurd (show true = false from hq.symm.trans h) (by decide))
  refine OpsW.run tok hO (by cbv <;> rfl) (by trivial) ?_
  refine OpsW.splitG (by cbv <;> rfl) (fun _ => ?_) (fun h => absurd (show true = false from hz.symm.trans h) (by decide))
  refine OpsW.run tok hO (by cbv <;> rfl) (by trivial) ?_
  refine OpsW.callP haw (by cbv <;> rfl) ?_
  refine OpsW.run tok hO (by cbv <;> rfl) (by trivial) ?_
  exact SW.ret ⟨_, _, rfl, rfl, Eqv.refl _⟩
set_option maxHeartbeats 32000000 in
theorem bunchLeaves_ok (haw : Pure Try.prog 17 [] (.lit (.bool true))) (d : DayD) : Pure Try.prog 6 [dayV d] (.lit (.bool true)) := by
  obtain ⟨O, hO⟩ : ∃ O : Ar, O = std := ⟨_, rfl⟩
  refine pure_of_body tok 3 Try.func6 en6 rfl ⟨dayV_below d, trivial⟩ Below.lit ?_
  refine SW.seqRun tok hO (by cbv <;> rfl) (by trivial) ?_
  refine SW.seq ?_
  refine SW.seqRun tok hO (by cbv <;> rfl) (by trivial) ?_
  have call := thin_ok d
  generalize hR : d.thinB = r at call
  refine OpsW.callP call (by cbv <;> rfl) ?_
  have hnot : O.not r = !r := by subst hO; rfl
  refine OpsW.run tok hO (by cbv <;> rfl) (by trivial) ?_
  refine SW.condS (by cbv <;> rfl) (fun h1 => ?_) (fun h1 => SW.skip ?_)
  · refine SW.seqRun tok hO (by cbv <;> rfl) (by trivial) ?_
    refine OpsW.callP haw (by cbv <;> rfl) ?_
    refine OpsW.run tok hO (by cbv <;> rfl) (by trivial) ?_
    exact SW.ret ⟨_, _, rfl, rfl, Eqv.refl _⟩
  have hr : r = true := by have := hnot.symm.trans h1; simpa using this
  rw [hr] at hR
  obtain ⟨k1, k2, k3⟩ := thin_small hR
  have hsm : d.small := ⟨by omega, by omega, by omega⟩
  have hday := day_ok d k1 k2 k3
  have hf := fault13_ok d hsm
  have hce := checkDay_ok d hsm
  rw [← check_eq d] at hf
  clear call hnot h1 hr
  by_cases hc : d.check = 0
  · have gd := good_of_check hc
    have hnc := gd.nc
    rw [hc] at hf hce
    have hfi := firstP_ok d hsm hc
    have hle := leaveA_ok d hsm hc
    obtain ⟨l, hl, hlV⟩ := leave_find hc hnc
    rw [hlV] at hle
    have hN2 : d.nT < 100000 := by
      have h2 := nT_in hc
      have h3 : (d.nT : Int) = d.manyL d.nl := by
        show ((d.manyL d.nl).toNat : Int) = _
        omega
      omega
    have hall : Pure Try.prog 32 [dayV d] (intsV d.nT false d.allI) := all_ok d gd (nT_in hc).1 (nT_in hc).2
    have hrl := refLeave_ok d hnc (intsV d.nT false d.allI) (intsV_below _ _ _) d.canL (fun n hn => can81_ok d.nT d.allI _ hN2) (canL_all hc)
    have hfind := leS_find (n := d.nc) hnc (P := d.canL) (Q := leaveQ d.seen.E) (fun b hb => canL_same hc hb) (b0 := 2 ^ d.nc - 1) (by have : 0 < 2 ^ d.nc := Nat.pow_pos (by decide); omega) (canL_all hc)
    rw [hl] at hfind
    rw [← Option.some.inj hfind] at hrl
    have hrf := refFirst_ok d (by omega) (intsV d.nT false d.allI) (intsV_below _ _ _) d.canF (fun k hk => can81_ok d.nT d.allI _ hN2) d.fstR (fun k hk hf ht => fst_wrong hc hk hf ht) (fun ht => fst_none hc ht)
    have hlen : l.length < 1000 := by
      have h1 := risL_len (find_in hl).1
      omega
    have hi : Pure Try.prog 29 [lsV l, lsV l] (.lit (.bool true)) := (ints_ok l.length false (lI l) l.length false (lI l) hlen).res (Eqv.lit (by
      unfold intsEq
      rw [allN_true fun i hi => decide_eq_true rfl]; simp))
    obtain ⟨X, hX⟩ : ∃ X, lsV l = X := ⟨_, rfl⟩
    rw [hX] at hle hrl hi
    generalize intsV d.nT false d.allI = AL at hall hrl hrf
    have hE : d.firstE = if (d.nc : Int) ≤ d.firstV then 7 else 0 := rfl
    rw [hE] at hfi
    unfold DayD.fstR at hrf
    have hv0 : 0 ≤ d.firstV := mxL_nn _
    by_cases hcase : (d.nc : Int) ≤ d.firstV
    · rw [if_pos hcase, if_pos hcase] at hfi
      rw [if_pos hcase] at hrf
      refine SW.seq ((lea_2 d 0 7 X 0 _ O hO hday hfi ⟨rfl, trivial⟩).mono fun e f st hm => ?_)
      obtain ⟨rfl, g, rfl, h, rfl⟩ := hm
      refine SW.seq ((lea_3 d 0 7 X 0 _ O hO hday hle h).mono fun e f st hm => ?_)
      clear h; obtain ⟨rfl, g, rfl, h, rfl⟩ := hm
      refine SW.seq ((lea_4b d 0 7 X 0 _ O hO hf h).mono fun e f st hm => ?_)
      clear h; obtain ⟨rfl, g, rfl, h, rfl⟩ := hm
      refine SW.seq ((lea_5 d 0 7 X 0 _ O hO AL hall h).mono fun e f st hm => ?_)
      clear h; obtain ⟨rfl, g, rfl, h, rfl⟩ := hm
      refine SW.seq ((lea_6 d 0 7 X 0 _ O hO AL hrl hi h).mono fun e f st hm => ?_)
      clear h; obtain ⟨rfl, g, rfl, h, rfl⟩ := hm
      exact lea_7b d 0 7 X 0 _ O hO haw AL hrf h
    · rw [if_neg hcase, if_neg hcase] at hfi
      rw [if_neg hcase] at hrf
      generalize d.firstV = n at hfi hrf hv0
      refine SW.seq ((lea_2 d n 0 X 0 _ O hO hday hfi ⟨rfl, trivial⟩).mono fun e f st hm => ?_)
      obtain ⟨rfl, g, rfl, h, rfl⟩ := hm
      refine SW.seq ((lea_3 d n 0 X 0 _ O hO hday hle h).mono fun e f st hm => ?_)
      clear h; obtain ⟨rfl, g, rfl, h, rfl⟩ := hm
      refine SW.seq ((lea_4b d n 0 X 0 _ O hO hf h).mono fun e f st hm => ?_)
      clear h; obtain ⟨rfl, g, rfl, h, rfl⟩ := hm
      refine SW.seq ((lea_5 d n 0 X 0 _ O hO AL hall h).mono fun e f st hm => ?_)
      clear h; obtain ⟨rfl, g, rfl, h, rfl⟩ := hm
      refine SW.seq ((lea_6 d n 0 X 0 _ O hO AL hrl hi h).mono fun e f st hm => ?_)
      clear h; obtain ⟨rfl, g, rfl, h, rfl⟩ := hm
      exact lea_7a d n 0 X 0 _ O hO haw AL hv0 hrf h
  · have hfi := first_err d d.check hc hce
    have hle := leave_err d d.check hc hce
    generalize d.check = c at hc hf hce hfi hle
    refine SW.seq ((lea_2 d 0 c nl3 c _ O hO hday hfi ⟨rfl, trivial⟩).mono fun e f st hm => ?_)
    obtain ⟨rfl, g, rfl, h, rfl⟩ := hm
    refine SW.seq ((lea_3 d 0 c nl3 c _ O hO hday hle h).mono fun e f st hm => ?_)
    clear h; obtain ⟨rfl, g, rfl, h, rfl⟩ := hm
    exact lea_4a d 0 c nl3 c _ O hO haw c hc hf h
end Go.Fz
