/- Own work of the verifier of watercress: FzA17, FzA18, FzA19, FzA20. -/
import Derived.Test.YtpaifaemkoblcaaNa25
set_option linter.unusedVariables false
set_option linter.unusedSimpArgs false
set_option linter.unusedVariables false
namespace Go.Fz
open Go.Proofs
set_option maxRecDepth 100000
theorem bounds82 (g : FuncId) (val : WK → Int) (E : List (WK × Nat)) (cl : Nat) (hb : BornG E cl) (hE : E.length < 1000000) (hof : ∀ p ∈ E, Pure Try.prog g [flV p.1] (iV (val p.1))) (hent : Enters Try.prog g) (lo hi : Int)
    (hlo : ∃ p ∈ E, val p.1 = lo) (hlo' : ∀ p ∈ E, lo ≤ val p.1) (hhi : ∃ p ∈ E, val p.1 = hi) (hhi' : ∀ p ∈ E, val p.1 ≤ hi) {st : St} {mid : Nat} (hm : st.h.get mid = some (.map (mapE flV E) cl)) :
    CallW Try.prog 82 [.agg [.fn (.func g) [] []], .mp mid] st (fun v st' => v = rangeV lo hi ∧ st' = st) := by
  refine call_mp (args2 := [.agg [.fn (.func g) [] []], .mp 0]) hm (fun x hx => by obtain ⟨p, _, rfl⟩ := List.mem_map.1 hx; exact ⟨flV_below _, Below.lit⟩) rangeV_below (fun φ us h => ?_) (bounds82_core g val E cl hb hE hof hent lo hi hlo hlo' hhi hhi')
  cases h with
  | cons h1 h2 =>
    cases h2 with
    | cons h3 h4 =>
      cases h4
      obtain ⟨rfl, _⟩ := h3.mp_inv
      refine .cons ?_ (.cons ?_ .nil)
      · obtain ⟨us1, rfl, h5⟩ := h1.agg_inv
        cases h5 with
        | cons h6 h7 =>
          cases h7
          obtain ⟨us2, vs2, rfl, k1, k2⟩ := h6.fn_inv
          cases k1; cases k2
          exact .agg (.cons (.fn _ .nil .nil) .nil)
      · exact VR.mp (φ := ⟨fun _ => φ.f mid, 1, φ.z⟩) 0 (by show 0 < 1; omega)
def FarmD.wtr (f : FarmD) (b c : Nat) (l : List Int) : Int := f.water (zL l) b c
def FarmD.bLo (f : FarmD) (b c : Nat) : Int := mnF (fun i => f.wtr b c (f.trs.getD i [])) f.trs.length
def FarmD.bHi (f : FarmD) (b c : Nat) : Int := mxF (fun i => f.wtr b c (f.trs.getD i [])) f.trs.length
theorem getD_mem {s : List (List Int)} {i : Nat} (h : i < s.length) : s.getD i [] ∈ s := by
  rw [List.getD_eq_getElem?_getD, List.getElem?_eq_getElem h]; exact List.getElem_mem h
theorem FarmD.bLo_le {f : FarmD} {b c : Nat} {l : List Int} (h : l ∈ f.trs) : f.bLo b c ≤ f.wtr b c l := by
  obtain ⟨i, hi, e⟩ := List.getElem_of_mem h
  have := mnF_le (V := fun i => f.wtr b c (f.trs.getD i [])) hi
  simp only [List.getD_eq_getElem?_getD, List.getElem?_eq_getElem hi, Option.getD_some, e] at this
  unfold FarmD.bLo
  simpa [List.getD_eq_getElem?_getD] using this
theorem FarmD.bHi_ge {f : FarmD} {b c : Nat} {l : List Int} (h : l ∈ f.trs) : f.wtr b c l ≤ f.bHi b c := by
  obtain ⟨i, hi, e⟩ := List.getElem_of_mem h
  have := mxF_ge (V := fun i => f.wtr b c (f.trs.getD i [])) hi
  simp only [List.getD_eq_getElem?_getD, List.getElem?_eq_getElem hi, Option.getD_some, e] at this
  unfold FarmD.bHi
  simpa [List.getD_eq_getElem?_getD] using this
theorem FarmD.bLo_mem {f : FarmD} {b c : Nat} (h : f.trs ≠ []) : ∃ l ∈ f.trs, f.wtr b c l = f.bLo b c := by
  obtain ⟨i, hi, e⟩ := mnF_mem (V := fun i => f.wtr b c (f.trs.getD i [])) (len_pos h)
  exact ⟨_, getD_mem hi, e⟩
theorem FarmD.bHi_mem {f : FarmD} {b c : Nat} (h : f.trs ≠ []) : ∃ l ∈ f.trs, f.wtr b c l = f.bHi b c := by
  obtain ⟨i, hi, e⟩ := mxF_mem (V := fun i => f.wtr b c (f.trs.getD i [])) (len_pos h)
  exact ⟨_, getD_mem hi, e⟩
def cmp3 (p : WK) : Nat → Int
  | 0 => p.1.1
  | 1 => p.1.2.1
  | _ => p.1.2.2
theorem bnd_at {f : FarmD} (g : f.Good) (hne : f.trs ≠ []) {b : Nat} (hb : b < f.nb) (c : Nat) (hc : c < 3) {st : St} {mid : Nat} (hm : st.h.get mid = some (.map (mapE flV (pkP (f.hadK f.trs b) f.trs.length).1) (pkP (f.hadK f.trs b) f.trs.length).2)) :
    CallW Try.prog 82 [.agg [.fn (.func (78 + c)) [] []], .mp mid] st (fun v st' => v = rangeV (f.bLo b c) (f.bHi b c) ∧ st' = st) := by
  have hch : ∀ l ∈ f.trs, f.isCh l := fun l hl => f.trs_ch hl
  have hval : ∀ j, j < f.trs.length → cmp3 (f.hadK f.trs b j) c = f.wtr b c (f.trs.getD j []) := fun j hj => by
    have : (f.hadK f.trs b j).1 = f.bedF b (f.trs.getD j []) := toWK_val (FarmD.bed_in g (hch _ (getD_mem hj)) hb)
    rcases (by omega : c = 0 ∨ c = 1 ∨ c = 2) with rfl | rfl | rfl <;> simp only [cmp3, this] <;> rfl
  have hE1 : ∀ p ∈ (pkP (f.hadK f.trs b) f.trs.length).1, ∃ l ∈ f.trs, cmp3 p.1 c = f.wtr b c l := fun p hp => by
    obtain ⟨j, hj, e⟩ := (pkP_mem (f.hadK f.trs b) p.1 f.trs.length).1 (List.mem_map.2 ⟨p, hp, rfl⟩)
    exact ⟨_, getD_mem hj, by rw [← e]; exact hval j hj⟩
  have hE2 : ∀ l ∈ f.trs, ∃ p ∈ (pkP (f.hadK f.trs b) f.trs.length).1, cmp3 p.1 c = f.wtr b c l := fun l hl => by
    obtain ⟨j, hj, e⟩ := List.getElem_of_mem hl
    obtain ⟨p, hp, e2⟩ := List.mem_map.1 ((pkP_mem (f.hadK f.trs b) (f.hadK f.trs b j) f.trs.length).2 ⟨j, hj, rfl⟩)
    refine ⟨p, hp, ?_⟩
    rw [e2, hval j hj, List.getD_eq_getElem?_getD, List.getElem?_eq_getElem hj, e]; rfl
  refine bounds82 (78 + c) (fun p => cmp3 p c) _ _ (pkP_born _ _) (Nat.lt_of_le_of_lt (pkP_len _ _) (FarmD.trs_len g)) (fun p _ => ?_) ?_ (f.bLo b c) (f.bHi b c) ?_ (fun p hp => ?_) ?_ (fun p hp => ?_) hm
  · obtain ⟨⟨⟨a0, a1, a2⟩, _⟩, _⟩ := p
    rcases (by omega : c = 0 ∨ c = 1 ∨ c = 2) with rfl | rfl | rfl
    · exact of78_ok a0 a1 a2
    · exact of79_ok a0 a1 a2
    · exact of80_ok a0 a1 a2
  · rcases (by omega : c = 0 ∨ c = 1 ∨ c = 2) with rfl | rfl | rfl
    · exact en78
    · exact en79
    · exact en80
  · obtain ⟨l, hl, e⟩ := f.bLo_mem (b := b) (c := c) hne
    obtain ⟨p, hp, e2⟩ := hE2 l hl
    exact ⟨p, hp, e2.trans e⟩
  · obtain ⟨l, hl, e⟩ := hE1 p hp
    show _ ≤ cmp3 p.1 c
    rw [e]; exact f.bLo_le hl
  · obtain ⟨l, hl, e⟩ := f.bHi_mem (b := b) (c := c) hne
    obtain ⟨p, hp, e2⟩ := hE2 l hl
    exact ⟨p, hp, e2.trans e⟩
  · obtain ⟨l, hl, e⟩ := hE1 p hp
    show cmp3 p.1 c ≤ _
    rw [e]; exact f.bHi_ge hl
end Go.Fz
set_option linter.unusedVariables false
namespace Go.Fz
open Go.Proofs
set_option maxRecDepth 100000
def FarmD.bnC (f : FarmD) (b k : Nat) : AV := match k with
  | 0 => iV (f.bLo b 0)
  | 1 => iV (f.bHi b 0)
  | 2 => iV (f.bLo b 1)
  | 3 => iV (f.bHi b 1)
  | 4 => iV (f.bLo b 2)
  | _ => iV (f.bHi b 2)
theorem FarmD.bnC_below (f : FarmD) (b k : Nat) : Below 0 (f.bnC b k) := by unfold FarmD.bnC; split <;> exact Below.lit
def FarmD.bndE (f : FarmD) : Int := f.opnE true
def FarmD.bndL (f : FarmD) : AV := if f.bndE = 0 then .isl f.nb 6 false f.bnC else nl3
theorem fn_below (g : FuncId) : Below 0 (.fn (.func g) [] []) := Below.fn (fun _ h => nomatch h) (fun _ h => nomatch h)
theorem frz_gen {h : Hp} {D : Nat → Bool} {id L sz m : Nat} {fm : Option Nat} {G : List AV} {g : Nat → Nat → AV} (hd : D id = true) (hg : h.get id = some (.cells fm false G)) (hG : flatG sz g L = G) (hz : ∀ i k, frz h D (m + 1) (g i k) = g i k) : Eqv (frz h D (m + 2) (.sl id 0 L sz false)) (.isl L sz false g) := by
  rw [frz_slm hd hg (by rw [← hG, flatG_length]; exact Nat.le_refl _)]
  refine Eqv.isl rfl fun i k hi hk => Eqv.of ?_
  rw [← hG, List.getD_eq_getElem?_getD, show 0 + i * sz + k = i * sz + k by omega, flatG_get sz _ L i k hi hk]
  exact hz i k
set_option maxHeartbeats 16000000 in
theorem bnd_core {f : FarmD} (hs : f.small) (h0 : f.bndE = 0) : Pure Try.prog 29 [farmV f] (.tup [.isl f.nb 6 false f.bnC, iV 0]) := by
  obtain ⟨O, hO⟩ : ∃ O : Ar, O = std := ⟨_, rfl⟩
  obtain ⟨hck, _, hne⟩ := f.opn_ok h0
  have g := good_of_check hck
  have hnb := g.nb
  have e2 := (open_good hs h0).eqv (args := [farmV f, .lit (.bool true)]) (.cons (Eqv.refl _) (.cons (Eqv.litB true) .nil))
  have hch : ∀ l ∈ f.trs, f.isCh l := fun l hl => f.trs_ch hl
  have e3 := fun b (hb : b < f.nb) => had_ok g f.trs (FarmD.trs_len g) (fun l hl => (hch l hl).1) b hb (fun l hl => FarmD.bed_in g (hch l hl) hb)
  have hcl : ∀ b, ∀ x ∈ mapE flV (pkP (f.hadK f.trs b) f.trs.length).1, Below 0 x.1 ∧ Below 0 x.2.1 := fun b x hx => by
    obtain ⟨p, _, rfl⟩ := List.mem_map.1 hx
    exact ⟨flV_below _, Below.lit⟩
  have hw : ∀ b, b < f.nb → ∃ M c, (∀ x ∈ M, Below 0 x.1 ∧ Below 0 x.2.1) ∧ Fresh Try.prog 81 [workV f (llV f.trs) (f.k0 f.nb), iV (b : Int)] (fun k => .mp k) M c ∧
      ∀ k, k < 3 → ∀ {st : St} {mid : Nat}, st.h.get mid = some (.map M c) → CallW Try.prog 82 [.agg [.fn (.func (78 + k)) [] []], .mp mid] st (fun v st' => v = rangeV (f.bLo b k) (f.bHi b k) ∧ st' = st) := fun b hb => ⟨_, _, hcl b, e3 b hb, fun k hk {st} {mid} hm => bnd_at g hne hb k hk hm⟩
  have hlb := llV_below f.trs
  clear e3 hcl
  obtain ⟨N, gg, hll⟩ : ∃ N g, llV f.trs = .isl N 1 false g := ⟨_, _, rfl⟩
  rw [hll] at e2 hlb hw
  obtain ⟨KK, hKK⟩ : ∃ K, f.k0 f.nb = K := ⟨_, rfl⟩
  rw [hKK] at e2 hw
  have hcells := workC_below' f 0 (.isl N 1 false gg) KK hlb
  have hrw : ∀ b, flatG 6 f.bnC (b + 1) = flatG 6 f.bnC b ++ [iV (f.bLo b 0), iV (f.bHi b 0), iV (f.bLo b 1), iV (f.bHi b 1), iV (f.bLo b 2), iV (f.bHi b 2)] := fun b => rfl
  refine pure_of_body tok 3 Try.func29 en29 rfl ⟨farmV_below f, trivial⟩ (Below.tup (AllB.ok ⟨Below.isl fun i k _ _ => f.bnC_below i k, Below.lit, trivial⟩)) ?_
  refine SW.seqRun tok hO (by cbv <;> rfl) (by trivial) ?_
  refine SW.seqRun tok hO (by cbv <;> rfl) (by trivial) ?_
  refine OpsW.callP e2 (by cbv <;> rfl) ?_
  refine OpsW.run tok hO (by cbv <;> rfl) (by trivial) ?_
  refine SW.seq ?_
  refine SW.seqRun tok hO (by cbv <;> rfl) (by trivial) ?_
  refine SW.condS (by cbv <;> rfl) (fun h1 => ?_) (fun h1 => SW.skip ?_)
  · exfalso; subst hO; simp [std] at h1
  refine (show SW _ _ _ _ _ _ from ?_)
  refine SW.seqRun tok hO (by cbv <;> rfl) (by trivial) ?_
  refine SW.seqRun tok hO (by cbv <;> rfl) (by trivial) ?_
  refine SW.seq ?_
  refine SW.seqRun tok hO (by cbv <;> rfl) (by trivial) ?_
  refine (SW.block (SW.loopR (fun i : Nat => ⟨⟨47, getT [(1, .ptr 0 0), (4, .ptr 1 0), (6, .ptr 2 0), (7, .ptr 3 0), (8, .ptr 4 0), (9, slG 5 6 i), (25, iV f.nb), (26, iV i)]⟩, []⟩)
    (fun i => ⟨[(4, .cells none false [.fn (.func 80) [] []]), (3, .cells none false [.fn (.func 79) [] []]), (2, .cells none false [.fn (.func 78) [] []]), (1, .cells none false (workC f (.isl N 1 false gg) KK)), (0, .cells none false (farmL f))] ++ objG 5 6 f.bnC i, 6⟩) (fun i => f.nb - i) (fun i => i ≤ f.nb) 0 (Nat.zero_le _) (ren1 5 5) ?_ fun i hi => ?_))
  · exact WeakR.up rfl rfl (by simp) (Nat.le_refl _) (.inl rfl) (by show 5 ≤ 6; omega) ⟨RenV.ptr (by omega), RenV.ptr (by omega), RenV.ptr (by omega), RenV.ptr (by omega), RenV.ptr (by omega), RenV.closed Below.lit, RenV.closed Below.lit, RenV.closed Below.lit, trivial⟩
      ⟨⟨by omega, _, rfl, .cells (.cons (RenV.closed (fn_below _)) .nil), .inr rfl⟩, ⟨by omega, _, rfl, .cells (.cons (RenV.closed (fn_below _)) .nil), .inr rfl⟩, ⟨by omega, _, rfl, .cells (.cons (RenV.closed (fn_below _)) .nil), .inr rfl⟩, ⟨by omega, _, rfl, .cells (RenVs.closed hcells), .inr rfl⟩, ⟨by omega, _, rfl, .cells (RenVs.closed (farmL_below f)), .inr rfl⟩, trivial⟩ (fun p hp => by cases hp)
  have hgb := f.bnC_below
  have hrw := hrw i
  obtain ⟨a0, ha0⟩ : ∃ v, f.bLo i 0 = v := ⟨_, rfl⟩
  obtain ⟨b0, hb0⟩ : ∃ v, f.bHi i 0 = v := ⟨_, rfl⟩
  obtain ⟨a1, ha1⟩ : ∃ v, f.bLo i 1 = v := ⟨_, rfl⟩
  obtain ⟨b1, hb1⟩ : ∃ v, f.bHi i 1 = v := ⟨_, rfl⟩
  obtain ⟨a2, ha2⟩ : ∃ v, f.bLo i 2 = v := ⟨_, rfl⟩
  obtain ⟨b2, hb2⟩ : ∃ v, f.bHi i 2 = v := ⟨_, rfl⟩
  rw [ha0, hb0, ha1, hb1, ha2, hb2] at hrw
  have hwi := fun (h : i < f.nb) => hw i h
  obtain ⟨gc, hgc⟩ : ∃ x, f.bnC = x := ⟨_, rfl⟩
  have hfz : ∀ h D i k, frz h D 1 (gc i k) = gc i k := fun h D i k => by rw [← hgc]; unfold FarmD.bnC; split <;> rfl
  rw [hgc] at hgb hrw ⊢
  cases i with
  | zero =>
    refine SW.seqRun tok hO (by cbv <;> rfl) (by trivial) ?_
    refine SW.seq (SW.condS (by cbv <;> rfl) (fun h => SW.skip ?_) (fun h => ?_))
    · have hlt : 0 < f.nb := by
        have : ((0 : Nat) : Int) < (f.nb : Int) := by subst hO; simpa [std] using h
        omega
      obtain ⟨M, c, hMc, hhad, hbn⟩ := hwi hlt
      have k0 := fun {st : St} {mid : Nat} (h : st.h.get mid = some (.map M c)) => hbn 0 (show 0 < 3 by decide) (st := st) (mid := mid) h
      have k1 := fun {st : St} {mid : Nat} (h : st.h.get mid = some (.map M c)) => hbn 1 (show 1 < 3 by decide) (st := st) (mid := mid) h
      have k2 := fun {st : St} {mid : Nat} (h : st.h.get mid = some (.map M c)) => hbn 2 (show 2 < 3 by decide) (st := st) (mid := mid) h
      rw [ha0, hb0] at k0
      rw [ha1, hb1] at k1
      rw [ha2, hb2] at k2
      refine SW.seq (SW.block ?_)
      refine SW.seqRun tok hO (by cbv <;> rfl) (by trivial) ?_
      refine SW.seqRun tok hO (by cbv <;> rfl) (by trivial) ?_
      refine OpsW.callS hhad.ent (hhad.call _) (by cbv <;> rfl) fun v1 st' hk => ?_
      obtain ⟨rfl, rfl⟩ := hk
      refine OpsW.run tok hO (by cbv <;> rfl) (by trivial) ?_
      refine SW.runD tok mixed hO (by rfl) (by cbv <;> rfl) (by trivial) ?_
      refine AnyE.callS en82 (k0 (mid := 6) rfl) (by cbv <;> rfl) (by cbv <;> rfl) ?_
      refine AnyE.run tok hO (by rfl) (by cbv <;> rfl) (by trivial) ?_
      refine AnyE.callS en82 (k1 (mid := 6) rfl) (by cbv <;> rfl) (by cbv <;> rfl) ?_
      refine AnyE.run tok hO (by rfl) (by cbv <;> rfl) (by trivial) ?_
      refine AnyE.callS en82 (k2 (mid := 6) rfl) (by cbv <;> rfl) (by cbv <;> rfl) ?_
      refine AnyE.run tok hO (by rfl) (by cbv <;> rfl) (by trivial) ?_
      refine AnyE.effK tok hO (by cbv <;> rfl) (by cbv <;> rfl) (by trivial) ?_ ?_
      · exact (by repeat (first | exact trivial | refine And.intro (by first | exact lv_of hO (by cbv <;> rfl) (by trivial) | (cbv <;> rfl)) ?_))
      refine AnyE.run tok hO (by rfl) (by cbv <;> rfl) (by trivial) ?_
      refine AnyE.appNil tok (by cbv <;> rfl) (by cbv <;> rfl) (by rfl) (by kernel_rfl) (by rfl) (by rfl) ?_
      refine AnyE.run tok hO (by rfl) (by cbv <;> rfl) (by trivial) ?_
      refine SW.run tok hO (by cbv <;> rfl) (by trivial) ?_
      refine ⟨1, by omega, by omega, ren1 5 8, ?_⟩
      refine WeakR.up rfl rfl (by simp) (Nat.le_refl _) (.inr (by omega)) (by show 5 ≤ 6; omega) ⟨RenV.ptr (by omega), RenV.ptr (by omega), RenV.ptr (by omega), RenV.ptr (by omega), RenV.ptr (by omega), RenV.sl (by omega), RenV.closed Below.lit, RenV.inc hO (by omega), trivial⟩
        ⟨⟨by omega, _, rfl, .cells (.cons (RenV.closed (fn_below _)) .nil), .inr rfl⟩, ⟨by omega, _, rfl, .cells (.cons (RenV.closed (fn_below _)) .nil), .inr rfl⟩, ⟨by omega, _, rfl, .cells (.cons (RenV.closed (fn_below _)) .nil), .inr rfl⟩, ⟨by omega, _, rfl, .cells (RenVs.closed hcells), .inr rfl⟩, ⟨by omega, _, rfl, .cells (RenVs.closed (farmL_below f)), .inr rfl⟩, trivial⟩ (fun p hp => ?_)
      obtain rfl := objG_mem hp
      exact ⟨by omega, _, rfl, .cells (RenVs.of_eq hrw.symm (flatG_below hgb _)), .inl rfl⟩
    · exfalso
      have hp := g.pos
      have : (f.nb : Int) ≤ 0 := by subst hO; simpa [std] using h
      omega
  | succ m =>
    obtain ⟨G, hG⟩ : ∃ G, G = flatG 6 gc (m + 1) := ⟨_, rfl⟩
    refine (show SW _ _ _ _ _ ⟨(4, .cells none false [.fn (.func 80) [] []]) :: (3, .cells none false [.fn (.func 79) [] []]) :: (2, .cells none false [.fn (.func 78) [] []]) :: (1, .cells none false (workC f (.isl N 1 false gg) KK)) :: (0, .cells none false (farmL f)) :: [(5, .cells none false (flatG 6 gc (m + 1)))], 6⟩ from ?_)
    rw [← hG, show slG 5 6 (m + 1) = .sl 5 0 (m + 1) 6 false from rfl]
    rw [← hG] at hrw
    obtain ⟨j, hj⟩ : ∃ j, m + 1 = j := ⟨_, rfl⟩
    rw [hj] at hi hrw hwi ha0 hb0 ha1 hb1 ha2 hb2 hG ⊢
    refine SW.seqRun tok hO (by cbv <;> rfl) (by trivial) ?_
    refine SW.seq (SW.condS (by cbv <;> rfl) (fun h => SW.skip ?_) (fun h => ?_))
    · have hlt : j < f.nb := by
        have : ((j : Nat) : Int) < (f.nb : Int) := by subst hO; simpa [std] using h
        omega
      obtain ⟨M, c, hMc, hhad, hbn⟩ := hwi hlt
      have k0 := fun {st : St} {mid : Nat} (h : st.h.get mid = some (.map M c)) => hbn 0 (show 0 < 3 by decide) (st := st) (mid := mid) h
      have k1 := fun {st : St} {mid : Nat} (h : st.h.get mid = some (.map M c)) => hbn 1 (show 1 < 3 by decide) (st := st) (mid := mid) h
      have k2 := fun {st : St} {mid : Nat} (h : st.h.get mid = some (.map M c)) => hbn 2 (show 2 < 3 by decide) (st := st) (mid := mid) h
      rw [ha0, hb0] at k0
      rw [ha1, hb1] at k1
      rw [ha2, hb2] at k2
      refine SW.seq (SW.block ?_)
      refine SW.seqRun tok hO (by cbv <;> rfl) (by trivial) ?_
      refine SW.seqRun tok hO (by cbv <;> rfl) (by trivial) ?_
      refine OpsW.callS hhad.ent (hhad.call _) (by cbv <;> rfl) fun v1 st' hk => ?_
      obtain ⟨rfl, rfl⟩ := hk
      refine OpsW.run tok hO (by cbv <;> rfl) (by trivial) ?_
      refine SW.runD tok mixed hO (by rfl) (by cbv <;> rfl) (by trivial) ?_
      refine AnyE.callS en82 (k0 (mid := 6) rfl) (by cbv <;> rfl) (by cbv <;> rfl) ?_
      refine AnyE.run tok hO (by rfl) (by cbv <;> rfl) (by trivial) ?_
      refine AnyE.callS en82 (k1 (mid := 6) rfl) (by cbv <;> rfl) (by cbv <;> rfl) ?_
      refine AnyE.run tok hO (by rfl) (by cbv <;> rfl) (by trivial) ?_
      refine AnyE.callS en82 (k2 (mid := 6) rfl) (by cbv <;> rfl) (by cbv <;> rfl) ?_
      refine AnyE.run tok hO (by rfl) (by cbv <;> rfl) (by trivial) ?_
      refine AnyE.effK tok hO (by cbv <;> rfl) (by cbv <;> rfl) (by trivial) ?_ ?_
      · exact (by repeat (first | exact trivial | refine And.intro (by first | exact lv_of hO (by cbv <;> rfl) (by trivial) | (cbv <;> rfl)) ?_))
      refine AnyE.run tok hO (by rfl) (by cbv <;> rfl) (by trivial) ?_
      refine AnyE.appOne (g := gc) (len := j) tok (by cbv <;> rfl) (by cbv <;> rfl) (by rfl) (by rfl) hG (by kernel_rfl) (by rfl) (by rfl) (by omega) fun G' hG' => ?_
      refine AnyE.run tok hO (by rfl) (by cbv <;> rfl) (by trivial) ?_
      refine SW.run tok hO (by cbv <;> rfl) (by trivial) ?_
      refine ⟨j + 1, by omega, by omega, ren1 5 8, ?_⟩
      have hG2 : G' = flatG 6 gc (j + 1) := by rw [hrw, hG']; congr 1; exact hG.symm
      refine WeakR.up rfl rfl (by simp) (Nat.le_refl _) (.inr (by omega)) (by show 5 ≤ 6; omega) ⟨RenV.ptr (by omega), RenV.ptr (by omega), RenV.ptr (by omega), RenV.ptr (by omega), RenV.ptr (by omega), RenV.sl (by omega), RenV.closed Below.lit, RenV.inc hO (by omega), trivial⟩
        ⟨⟨by omega, _, rfl, .cells (.cons (RenV.closed (fn_below _)) .nil), .inr rfl⟩, ⟨by omega, _, rfl, .cells (.cons (RenV.closed (fn_below _)) .nil), .inr rfl⟩, ⟨by omega, _, rfl, .cells (.cons (RenV.closed (fn_below _)) .nil), .inr rfl⟩, ⟨by omega, _, rfl, .cells (RenVs.closed hcells), .inr rfl⟩, ⟨by omega, _, rfl, .cells (RenVs.closed (farmL_below f)), .inr rfl⟩, trivial⟩ (fun p hp => ?_)
      obtain rfl := objG_mem hp
      exact ⟨by omega, _, rfl, .cells (RenVs.of_eq hG2 (flatG_below hgb _)), .inl rfl⟩
    · have hz : f.nb = j := by
        have : (f.nb : Int) ≤ (j : Int) := by subst hO; simpa [std] using h
        omega
      refine SW.exit ?_
      refine (show SW _ _ _ _ _ _ from ?_)
      refine SW.seqRun tok hO (by cbv <;> rfl) (by trivial) ?_
      refine SW.ret ⟨_, _, rfl, rfl, ?_⟩
      rw [hz]
      exact Eqv.tup (.cons (frz_gen (m := 0) (fm := none) rfl rfl hG.symm (hfz _ _)) (.cons (Eqv.refl _) .nil))
set_option maxHeartbeats 8000000 in
theorem bnd_bad {f : FarmD} (hs : f.small) (h0 : f.bndE ≠ 0) : Pure Try.prog 29 [farmV f] (.tup [nl3, iV f.bndE]) := by
  obtain ⟨O, hO⟩ : ∃ O : Ar, O = std := ⟨_, rfl⟩
  have e2 := (open_bad hs h0).eqv (args := [farmV f, .lit (.bool true)]) (.cons (Eqv.refl _) (.cons (Eqv.litB true) .nil))
  have hE : f.opnE true = f.bndE := rfl
  rw [hE] at e2
  generalize f.bndE = E at h0 e2 ⊢
  refine pure_of_body tok 3 Try.func29 en29 rfl ⟨farmV_below f, trivial⟩ (Below.tup (AllB.ok ⟨Below.lit, Below.lit, trivial⟩)) ?_
  refine SW.seqRun tok hO (by cbv <;> rfl) (by trivial) ?_
  refine SW.seqRun tok hO (by cbv <;> rfl) (by trivial) ?_
  refine OpsW.callP e2 (by cbv <;> rfl) ?_
  refine OpsW.run tok hO (by cbv <;> rfl) (by trivial) ?_
  refine SW.seq ?_
  refine SW.seqRun tok hO (by cbv <;> rfl) (by trivial) ?_
  refine SW.condS (by cbv <;> rfl) (fun h1 => ?_) (fun h1 => ?_)
  · refine SW.seqRun tok hO (by cbv <;> rfl) (by trivial) ?_
    exact SW.ret ⟨_, _, rfl, rfl, Eqv.refl _⟩
  · exfalso
    exact h0 (by subst hO; simpa [std] using h1)
theorem bounds29 {f : FarmD} (hs : f.small) : Pure Try.prog 29 [farmV f] (.tup [f.bndL, iV f.bndE]) := by
  by_cases h : f.bndE = 0
  · rw [show f.bndL = .isl f.nb 6 false f.bnC from if_pos h, h]
    exact bnd_core hs h
  · rw [show f.bndL = nl3 from if_neg h]
    exact bnd_bad hs h
end Go.Fz
set_option linter.unusedVariables false
namespace Go.Fz
open Go.Proofs
set_option maxRecDepth 100000
set_option maxHeartbeats 4000000 in
theorem each125S (N : Nat) (gg : Nat → Nat → AV) (st : St) (g0 : FuncId) (he : Enters Try.prog g0) (caps : List AV) (p : Nat → Bool) (hn : N < 1000000)
    (hp : ∀ i, i < N → CallW Try.prog g0 ([iV (i : Int), gg i 0] ++ caps) st (fun v st' => v = .sb (p i) ∧ st' = st)) :
    CallW Try.prog 125 [.isl N 1 false gg, .fn (.func g0) [] caps] st (fun v st' => v = .lit (.bool (allN N p)) ∧ st' = st) := by
  obtain ⟨O, hO⟩ : ∃ O : Ar, O = std := ⟨_, rfl⟩
  have hnat : ∀ i : Nat, O.nat (Int.ofNat i) = i := fun i => by subst hO; rfl
  refine callW_of_body tok Try.func125 rfl ?_
  refine SW.seqRun tok hO (by cbv <;> rfl) (by trivial) ?_
  refine SW.seq ?_
  refine SW.seqRun tok hO (by cbv <;> rfl) (by trivial) ?_
  refine (SW.block (SW.loop (fun k f st' => ∃ (g : Nat → AV) (c : Nat), f = ⟨⟨20, g⟩, []⟩ ∧ AllP (fun p => g p.1 = p.2) [(1, .fn (.func g0) [] caps), (7, .isl N 1 false gg), (8, iV N), (9, iV c)] ∧ st' = st ∧ (∀ j, j < c → p j = true) ∧ c ≤ N ∧ k = N - c) (N - 0) ?_ ?_))
  · exact ⟨_, 0, rfl, ⟨rfl, rfl, rfl, rfl, trivial⟩, rfl, (fun j hj => absurd hj (Nat.not_lt_zero j)), Nat.zero_le _, rfl⟩
  · rintro k f st' ⟨g, c, rfl, ⟨g1, g7, g8, g9, _⟩, rfl, hall, hle, rfl⟩
    simp only at g1 g7 g8 g9
    rw [← updT_self g1, ← updT_self g7, ← updT_self g8, ← updT_self g9]
    refine SW.seqRun tok hO (by cbv <;> rfl) (by trivial) ?_
    refine SW.seq (SW.condS (by cbv <;> rfl) (fun h3 => SW.skip ?_) (fun h3 => SW.exit ?_))
    · have hlt : c < N := by
        have : (c : Int) < (N : Int) := by subst hO; simpa [std] using h3
        omega
      refine SW.seq (SW.block ?_)
      refine SW.seqRun tok hO (by cbv <;> rfl) ?_ ?_
      · exact ⟨Int.natCast_nonneg c, Int.ofNat_lt.2 hlt⟩
      have hc := hp c hlt
      obtain ⟨B, hB⟩ : ∃ B, p c = B := ⟨_, rfl⟩
      rw [hB] at hc
      rw [show gg c 0 = gg (O.nat (Int.ofNat c)) 0 by rw [hnat]] at hc
      refine SW.seq (SW.runN tok hO 3 (by cbv <;> rfl) (by trivial) ?_)
      refine OpsW.callS he hc (by cbv <;> rfl) fun r st'' hk => ?_
      obtain ⟨rfl, rfl⟩ := hk
      refine OpsW.run tok hO (by cbv <;> rfl) (by trivial) ?_
      refine SW.condS (by cbv <;> rfl) (fun h4 => ?_) (fun h4 => SW.skip ?_)
      · have hBf : B = false := by subst hO; simpa [std] using h4
        refine SW.seqRun tok hO (by cbv <;> rfl) (by trivial) ?_
        exact SW.ret ⟨_, _, rfl, rfl, by rw [allN_false hlt (hB.trans hBf)]; rfl, rfl⟩
      · have hBt : B = true := by subst hO; simpa [std] using h4
        refine SW.run tok hO (by cbv <;> rfl) (by trivial) ?_
        refine ⟨N - (c + 1), by omega, _, c + 1, rfl, ⟨rfl, rfl, rfl, inc_ok hO (by omega), trivial⟩, rfl, fun j hj => ?_, by omega, rfl⟩
        rcases Nat.lt_succ_iff_lt_or_eq.1 hj with hj | rfl
        · exact hall j hj
        · exact hB.trans hBt
    · have hz : c = N := by
        have : (N : Int) ≤ (c : Int) := by subst hO; simpa [std] using h3
        omega
      subst hz
      refine SW.seqRun tok hO (by cbv <;> rfl) (by trivial) ?_
      have ha : allN c p = true := by simp only [allN, decide_eq_true_eq]; exact hall
      exact SW.ret ⟨_, _, rfl, rfl, by rw [ha]; rfl, rfl⟩
def ixN (p : Nat → Bool) (N : Nat) : Int := match (List.range N).find? p with
  | some i => (i : Int)
  | none => -1
set_option maxHeartbeats 4000000 in
theorem index101S (N : Nat) (gg : Nat → Nat → AV) (st : St) (g0 : FuncId) (he : Enters Try.prog g0) (caps : List AV) (p : Nat → Bool) (hn : N < 1000000)
    (hp : ∀ i, i < N → CallW Try.prog g0 ([gg i 0] ++ caps) st (fun v st' => v = .sb (p i) ∧ st' = st)) :
    CallW Try.prog 101 [.isl N 1 false gg, .fn (.func g0) [] caps] st (fun v st' => v = iV (ixN p N) ∧ st' = st) := by
  obtain ⟨O, hO⟩ : ∃ O : Ar, O = std := ⟨_, rfl⟩
  have hnat : ∀ i : Nat, O.nat (Int.ofNat i) = i := fun i => by subst hO; rfl
  refine callW_of_body tok Try.func101 rfl ?_
  refine SW.seqRun tok hO (by cbv <;> rfl) (by trivial) ?_
  refine SW.seq ?_
  refine SW.seqRun tok hO (by cbv <;> rfl) (by trivial) ?_
  refine (SW.block (SW.loop (fun k f st' => ∃ (g : Nat → AV) (c : Nat), f = ⟨⟨19, g⟩, []⟩ ∧ AllP (fun p => g p.1 = p.2) [(0, .isl N 1 false gg), (1, .fn (.func g0) [] caps), (7, iV N), (8, iV c)] ∧ st' = st ∧ (∀ j, j < c → p j = false) ∧ c ≤ N ∧ k = N - c) (N - 0) ?_ ?_))
  · exact ⟨_, 0, rfl, ⟨rfl, rfl, rfl, rfl, trivial⟩, rfl, (fun j hj => absurd hj (Nat.not_lt_zero j)), Nat.zero_le _, rfl⟩
  · rintro k f st' ⟨g, c, rfl, ⟨g0', g1, g7, g8, _⟩, rfl, hall, hle, rfl⟩
    simp only at g0' g1 g7 g8
    rw [← updT_self g0', ← updT_self g1, ← updT_self g7, ← updT_self g8]
    refine SW.seqRun tok hO (by cbv <;> rfl) (by trivial) ?_
    refine SW.seq (SW.condS (by cbv <;> rfl) (fun h3 => SW.skip ?_) (fun h3 => SW.exit ?_))
    · have hlt : c < N := by
        have : (c : Int) < (N : Int) := by subst hO; simpa [std] using h3
        omega
      refine SW.seq (SW.block ?_)
      refine SW.seqRun tok hO (by cbv <;> rfl) (by trivial) ?_
      have hc := hp c hlt
      obtain ⟨B, hB⟩ : ∃ B, p c = B := ⟨_, rfl⟩
      rw [hB] at hc
      rw [show gg c 0 = gg (O.nat (Int.ofNat c)) 0 by rw [hnat]] at hc
      refine SW.seq (SW.runN tok hO 5 (by cbv <;> rfl) ?_ ?_)
      · exact ⟨Int.natCast_nonneg c, Int.ofNat_lt.2 hlt⟩
      refine OpsW.callS he hc (by cbv <;> rfl) fun r st'' hk => ?_
      obtain ⟨rfl, rfl⟩ := hk
      refine OpsW.run tok hO (by cbv <;> rfl) (by trivial) ?_
      refine SW.condS (by cbv <;> rfl) (fun h4 => ?_) (fun h4 => SW.skip ?_)
      · have hBt : B = true := h4
        refine SW.seqRun tok hO (by cbv <;> rfl) (by trivial) ?_
        exact SW.ret ⟨_, _, rfl, rfl, by unfold ixN; rw [find_range hlt hall (hB.trans hBt)]; rfl, rfl⟩
      · have hBf : B = false := h4
        refine SW.run tok hO (by cbv <;> rfl) (by trivial) ?_
        refine ⟨N - (c + 1), by omega, _, c + 1, rfl, ⟨rfl, rfl, rfl, inc_ok hO (by omega), trivial⟩, rfl, fun j hj => ?_, by omega, rfl⟩
        rcases Nat.lt_succ_iff_lt_or_eq.1 hj with hj | rfl
        · exact hall j hj
        · exact hB.trans hBf
    · have hz : c = N := by
        have : (N : Int) ≤ (c : Int) := by subst hO; simpa [std] using h3
        omega
      subst hz
      refine SW.seqRun tok hO (by cbv <;> rfl) (by trivial) ?_
      exact SW.ret ⟨_, _, rfl, rfl, by unfold ixN; rw [find_none hall]; rfl, rfl⟩
end Go.Fz
set_option linter.unusedVariables false
namespace Go.Fz
open Go.Proofs
set_option maxRecDepth 100000
def FarmD.cutQ (f : FarmD) (n i : Nat) : Bool := f.cutB n (zL (f.trs.getD i []))
def FarmD.cutAt (f : FarmD) (n : Nat) : Option Nat := (List.range f.trs.length).find? (f.cutQ n)
def FarmD.cutO (f : FarmD) : Option Nat := (List.range f.nb).find? fun n => (f.cutAt n).isSome
def FarmD.cutE (f : FarmD) : Int := if f.bndE = 0 then (match f.cutO with | some _ => 0 | none => 7) else f.bndE
def FarmD.cutV (f : FarmD) : Int := if f.bndE = 0 then (match f.cutO with | some n => (n : Int) | none => 0) else 0
def FarmD.cutL (f : FarmD) : AV := if f.bndE = 0 then (match f.cutO with | some n => (match f.cutAt n with | some i => zV (f.trs.getD i []) | none => nl3) | none => nl3) else nl3
theorem FarmD.cutL_below (f : FarmD) : Below 0 f.cutL := by
  unfold FarmD.cutL
  split
  · split
    · split
      · exact zV_below _
      · exact Below.lit
    · exact Below.lit
  · exact Below.lit
set_option maxHeartbeats 4000000 in
theorem cut1 {f : FarmD} (g : f.Good) {l : List Int} (hl : l.length = f.ns) (n : Nat) (hn : n < f.nb) (WC : List AV) : CallW Try.prog 100 [zV l, .ptr 0 0, .ptr 2 0] ⟨[(2, .cells none false [iV (n : Int)]), (1, .cells none false WC), (0, .cells none false (farmL f))], 3⟩ (fun v st' => v = .sb (f.cutB n (zL l)) ∧ st' = ⟨[(2, .cells none false [iV (n : Int)]), (1, .cells none false WC), (0, .cells none false (farmL f))], 3⟩) := by
  obtain ⟨O, hO⟩ : ∃ O : Ar, O = std := ⟨_, rfl⟩
  have hns := g.ns
  have e1 := isCut_ok f n l.length false (zL l) hn g.nb (by omega) (by omega) (fun s hs => ⟨(g.spring s hs).1.1, by have := (g.spring s hs).1.2; have := g.nb; omega⟩) (fun i hi => by have := (g.bed i hi).2.2; have := g.nb; omega)
  generalize f.cutB n (zL l) = Q at e1 ⊢
  obtain ⟨M, FL, hZ⟩ : ∃ M fl, zV l = intsV M false fl := ⟨_, _, rfl⟩
  change Pure Try.prog 88 [farmV f, iV n, zV l] _ at e1
  rw [hZ] at e1 ⊢
  refine callW_of_body tok Try.func100 rfl ?_
  refine SW.seqRun tok hO (by cbv <;> rfl) (by trivial) ?_
  refine SW.seqRun tok hO (by cbv <;> rfl) (by trivial) ?_
  refine OpsW.callP e1 (by cbv <;> rfl) ?_
  refine OpsW.run tok hO (by cbv <;> rfl) (by trivial) ?_
  exact SW.ret ⟨_, _, rfl, rfl, rfl, rfl⟩
set_option maxHeartbeats 16000000 in
theorem cut_core {f : FarmD} (hs : f.small) (h0 : f.bndE = 0) : Pure Try.prog 50 [farmV f] (.tup [iV f.cutV, f.cutL, iV f.cutE]) := by
  obtain ⟨O, hO⟩ : ∃ O : Ar, O = std := ⟨_, rfl⟩
  obtain ⟨hck, _, hne⟩ := f.opn_ok h0
  have g := good_of_check hck
  have hnb := g.nb
  have e2 := (open_good hs h0).eqv (args := [farmV f, .lit (.bool true)]) (.cons (Eqv.refl _) (.cons (Eqv.litB true) .nil))
  have hlen := FarmD.trs_len g
  have hc := fun (n : Nat) (hn : n < f.nb) (WC : List AV) => index101S f.trs.length (gT f.trs) ⟨[(2, .cells none false [iV (n : Int)]), (1, .cells none false WC), (0, .cells none false (farmL f))], 3⟩ 100 en100 [.ptr 0 0, .ptr 2 0] (f.cutQ n) hlen (fun i hi => cut1 g (f.trs_ch (getD_mem hi)).1 n hn WC)
  have hE2 : ∀ n, n < f.nb → (∀ j, j < n → f.cutAt j = none) → ∀ i, f.cutAt n = some i → f.cutE = 0 ∧ f.cutV = (n : Int) ∧ f.cutL = zV (f.trs.getD i []) := fun n h1 h2 i h3 => by
    have : f.cutO = some n := find_range h1 (fun j hj => by rw [h2 j hj]; rfl) (by rw [h3]; rfl)
    unfold FarmD.cutE FarmD.cutV FarmD.cutL
    rw [if_pos h0, if_pos h0, if_pos h0, this]
    simp only [h3]
    exact ⟨trivial, trivial, trivial⟩
  have hE3 : (∀ j, j < f.nb → f.cutAt j = none) → f.cutE = 7 ∧ f.cutV = 0 ∧ f.cutL = nl3 := fun h2 => by
    have : f.cutO = none := find_none fun j hj => by rw [h2 j hj]; rfl
    unfold FarmD.cutE FarmD.cutV FarmD.cutL
    rw [if_pos h0, if_pos h0, if_pos h0, this]
    exact ⟨rfl, rfl, rfl⟩
  have hix : ∀ n, (f.cutAt n = none ∧ ixN (f.cutQ n) f.trs.length = -1) ∨ ∃ i, f.cutAt n = some i ∧ i < f.trs.length ∧ ixN (f.cutQ n) f.trs.length = (i : Int) := fun n => by
    unfold ixN
    cases h : f.cutAt n with
    | none => exact .inl ⟨rfl, by rw [show (List.range f.trs.length).find? (f.cutQ n) = none from h]⟩
    | some i => exact .inr ⟨i, rfl, List.mem_range.1 (List.mem_of_find?_eq_some h), by rw [show (List.range f.trs.length).find? (f.cutQ n) = some i from h]⟩
  have hLb := f.cutL_below
  have hlb := llV_below f.trs
  generalize f.cutL = CL at hE2 hE3 hLb ⊢
  generalize f.cutV = CV at hE2 hE3 ⊢
  generalize f.cutE = CE at hE2 hE3 ⊢
  have hll : llV f.trs = .isl f.trs.length 1 false (gT f.trs) := rfl
  rw [hll] at e2 hlb
  have hgz : ∀ i, gT f.trs i 0 = zV (f.trs.getD i []) := fun i => rfl
  obtain ⟨ln, FL, hgg⟩ : ∃ (ln : Nat → Nat) (FL : Nat → Nat → Int), gT f.trs = fun i _ => intsV (ln i) false (FL i) := ⟨fun i => (f.trs.getD i []).length, fun i => zL (f.trs.getD i []), rfl⟩
  obtain ⟨N, hN⟩ : ∃ x, f.trs.length = x := ⟨_, rfl⟩
  rw [hgg] at e2 hlb hc hgz
  rw [hN] at e2 hlb hc hix hlen
  obtain ⟨KK, hKK⟩ : ∃ K, f.k0 f.nb = K := ⟨_, rfl⟩
  rw [hKK] at e2
  have hcells := workC_below' f 0 (.isl N 1 false fun i _ => intsV (ln i) false (FL i)) KK hlb
  refine pure_of_body tok 3 Try.func50 en50 rfl ⟨farmV_below f, trivial⟩ (Below.tup (AllB.ok ⟨Below.lit, hLb, Below.lit, trivial⟩)) ?_
  refine SW.seqRun tok hO (by cbv <;> rfl) (by trivial) ?_
  refine SW.seqRun tok hO (by cbv <;> rfl) (by trivial) ?_
  refine OpsW.callP e2 (by cbv <;> rfl) ?_
  refine OpsW.run tok hO (by cbv <;> rfl) (by trivial) ?_
  refine SW.seq ?_
  refine SW.seqRun tok hO (by cbv <;> rfl) (by trivial) ?_
  refine SW.condS (by cbv <;> rfl) (fun h1 => ?_) (fun h1 => SW.skip ?_)
  · exfalso; subst hO; simp [std] at h1
  refine (show SW _ _ _ _ _ _ from ?_)
  refine SW.seq ?_
  refine SW.seqRun tok hO (by cbv <;> rfl) (by trivial) ?_
  refine (SW.block (SW.loopF (fun i : Nat => ⟨⟨37, getT [(1, .ptr 0 0), (5, .ptr 1 0), (19, iV f.nb), (20, iV i)]⟩, []⟩) (fun _ => ⟨[(1, .cells none false (workC f (.isl N 1 false fun i _ => intsV (ln i) false (FL i)) KK)), (0, .cells none false (farmL f))], 2⟩) (fun i => f.nb - i) (fun i => i ≤ f.nb ∧ ∀ j, j < i → f.cutAt j = none) 0
    (fun _ => rfl) ⟨Nat.zero_le _, fun j hj => absurd hj (Nat.not_lt_zero j)⟩ (Weak.by rfl rfl (by simp) (Nat.le_refl _) (Nat.le_refl _) ⟨⟨rfl, .inl rfl⟩, ⟨rfl, .inl rfl⟩, ⟨rfl, .inl rfl⟩, ⟨rfl, .inl rfl⟩, trivial⟩ ⟨⟨rfl, by show 1 < 2; omega, .inl rfl⟩, ⟨rfl, by show 0 < 2; omega, .inl rfl⟩, trivial⟩) fun i ⟨hi, hall⟩ => ?_))
  refine SW.seqRun tok hO (by cbv <;> rfl) (by trivial) ?_
  refine SW.seq (SW.condS (by cbv <;> rfl) (fun h => SW.skip ?_) (fun h => SW.exit ?_))
  · have hlt : i < f.nb := by
      have : (i : Int) < (f.nb : Int) := by subst hO; simpa [std] using h
      omega
    have hci := hc i hlt (workC f (.isl N 1 false fun i _ => intsV (ln i) false (FL i)) KK)
    have hE2 := hE2 i hlt hall
    have hxi := hix i
    obtain ⟨X, hX⟩ : ∃ X, ixN (f.cutQ i) N = X := ⟨_, rfl⟩
    rw [hX] at hci hxi
    refine SW.seq (SW.block ?_)
    refine SW.seqRun tok hO (by cbv <;> rfl) (by trivial) ?_
    refine SW.seqRun tok hO (by cbv <;> rfl) (by trivial) ?_
    refine SW.seq (SW.runN tok hO 3 (by cbv <;> rfl) (by trivial) ?_)
    refine OpsW.callS en101 hci (by cbv <;> rfl) fun r st' hk => ?_
    obtain ⟨rfl, rfl⟩ := hk
    refine OpsW.run tok hO (by cbv <;> rfl) (by trivial) ?_
    refine SW.seqRun tok hO (by cbv <;> rfl) (by trivial) ?_
    refine SW.condS (by cbv <;> rfl) (fun h2 => ?_) (fun h2 => SW.skip ?_)
    · have hge : 0 ≤ X := by subst hO; simpa [std] using h2
      rcases hxi with ⟨_, hxi⟩ | ⟨k, hk1, hk2, hk3⟩
      · omega
      obtain ⟨rfl, rfl, rfl⟩ := hE2 k hk1
      have hXk : O.nat X = k := by rw [hk3]; subst hO; rfl
      rw [← hgz]
      refine SW.seqRunD tok mixed hO (by kernel_rfl) (by cbv <;> rfl) ?_ ?_
      · exact ⟨hge, by rw [hk3]; exact Int.ofNat_lt.2 hk2⟩
      refine SW.ret ⟨_, _, rfl, rfl, ?_⟩
      show Eqv (.tup [iV (i : Int), intsV (ln (O.nat X)) false (FL (O.nat X)), iV 0]) _
      rw [hXk]
      exact Eqv.refl _
    · have hxn : f.cutAt i = none := by
        rcases hxi with ⟨h3, _⟩ | ⟨k, _, _, hk3⟩
        · exact h3
        · exfalso
          have : ¬ 0 ≤ X := by subst hO; simpa [std] using h2
          omega
      refine SW.run tok hO (by cbv <;> rfl) (by trivial) ?_
      refine ⟨i + 1, by omega, ⟨by omega, fun j hj => ?_⟩, Weak.by rfl rfl (by simp) (Nat.le_refl _) (by show 2 ≤ 3; omega) ⟨⟨rfl, .inr (Below.ptr (by omega))⟩, ⟨rfl, .inr (Below.ptr (by omega))⟩, ⟨rfl, .inr Below.lit⟩, ⟨inc_ok hO (by omega), .inr Below.lit⟩, trivial⟩ ⟨⟨rfl, by show 1 < 2; omega, .inr ⟨fun x hx => Below.up (m := 0) (hcells x hx), fun _ h => nomatch h⟩⟩, ⟨rfl, by show 0 < 2; omega, .inr ⟨fun x hx => Below.up (m := 0) (farmL_below f x hx), fun _ h => nomatch h⟩⟩, trivial⟩⟩
      rcases Nat.lt_succ_iff_lt_or_eq.1 hj with hj | rfl
      · exact hall j hj
      · exact hxn
  · have hz : i = f.nb := by
      have : (f.nb : Int) ≤ (i : Int) := by subst hO; simpa [std] using h
      omega
    obtain ⟨rfl, rfl, rfl⟩ := hE3 (fun j hj => hall j (by omega))
    refine (show SW _ _ _ _ _ _ from ?_)
    refine SW.seqRun tok hO (by cbv <;> rfl) (by trivial) ?_
    exact SW.ret ⟨_, _, rfl, rfl, Eqv.refl _⟩
set_option maxHeartbeats 8000000 in
theorem cut_bad {f : FarmD} (hs : f.small) (h0 : f.bndE ≠ 0) : Pure Try.prog 50 [farmV f] (.tup [iV 0, nl3, iV f.bndE]) := by
  obtain ⟨O, hO⟩ : ∃ O : Ar, O = std := ⟨_, rfl⟩
  have e2 := (open_bad hs h0).eqv (args := [farmV f, .lit (.bool true)]) (.cons (Eqv.refl _) (.cons (Eqv.litB true) .nil))
  have hE : f.opnE true = f.bndE := rfl
  rw [hE] at e2
  generalize f.bndE = E at h0 e2 ⊢
  refine pure_of_body tok 3 Try.func50 en50 rfl ⟨farmV_below f, trivial⟩ (Below.tup (AllB.ok ⟨Below.lit, Below.lit, Below.lit, trivial⟩)) ?_
  refine SW.seqRun tok hO (by cbv <;> rfl) (by trivial) ?_
  refine SW.seqRun tok hO (by cbv <;> rfl) (by trivial) ?_
  refine OpsW.callP e2 (by cbv <;> rfl) ?_
  refine OpsW.run tok hO (by cbv <;> rfl) (by trivial) ?_
  refine SW.seq ?_
  refine SW.seqRun tok hO (by cbv <;> rfl) (by trivial) ?_
  refine SW.condS (by cbv <;> rfl) (fun h1 => ?_) (fun h1 => ?_)
  · refine SW.seqRun tok hO (by cbv <;> rfl) (by trivial) ?_
    exact SW.ret ⟨_, _, rfl, rfl, Eqv.refl _⟩
  · exfalso
    exact h0 (by subst hO; simpa [std] using h1)
theorem cut50 {f : FarmD} (hs : f.small) : Pure Try.prog 50 [farmV f] (.tup [iV f.cutV, f.cutL, iV f.cutE]) := by
  by_cases h : f.bndE = 0
  · exact cut_core hs h
  · rw [show f.cutV = 0 from if_neg h, show f.cutL = nl3 from if_neg h, show f.cutE = f.bndE from if_neg h]
    exact cut_bad hs h
end Go.Fz
