import Derived.Test.YtpncnionnfomeaaAwX
import Derived.Test.YtpncnionnfomeaaPlaceC
namespace Go.Proofs.Ytpncnionnfomeaa.Place
open Go Go.Proofs Go.Proofs.Ytpncnionnfomeaa.Aw Go.Proofs.Ytpncnionnfomeaa.Num Go.Proofs.Ytpncnionnfomeaa.DiskM Go.Proofs.Ytpncnionnfomeaa.DiskA Go.Proofs.Ytpncnionnfomeaa.DiskK Go.Proofs.Ytpncnionnfomeaa.DiskC Go.Proofs.Ytpncnionnfomeaa.Disk Go.Proofs.Ytpncnionnfomeaa.DiskL
set_option linter.unusedSimpArgs false
set_option linter.unusedVariables false
def S1 (w : Own) (bg : Nat) (i : Nat) : Prop := w.S i ∨ i = bg
def drop1P : PM := fun args L T K => ∃ n bd bg g M w, args = [.str n, .box bd 0, .box bg 0] ∧ L[bd]? = some [.box w.o 0] ∧ L[bg]? = some [.bool g] ∧ ¬ w.S bg ∧ dAt L T M w ∧ Small M ∧
  ∀ L' T' w', w'.o = w.o → dAt L' T' (M.remove n).1 w' → ¬ w'.S bg → L'[bg]? = some [.bool (g || decide ((M.remove n).2 = 0))] → Step (S1 w bg) w.R L T (S1 w' bg) w'.R L' T' → K (codeV (M.remove n).2) L' T'
theorem drop1_ok : PSound Try.prog 69 drop1P := by
  refine psound tysOk P1ok mix Try.func69 rfl ?_
  intro args L T K hm
  obtain ⟨n, bd, bg, g, M, w, rfl, h1, h2, hno, hd, hs, hK⟩ := hm
  simp (maxSteps:=2000000) only[bitvec_to_nat,seval,↓tcd,Try.f69,h1]
  refine op_at rfl hd hs fun L1 T1 w1 ho1 hd1 hst1 => ?_
  have h21 : L1[bg]? = some [.bool g] := by rw [hst1.keep _ (lt_at h2) hno]; exact h2
  have hlt1 := lt_at h21
  have hno1 : ¬ w1.S bg := fun h => (hst1.own _ h).elim hno (fun h => by have := lt_at h2; omega)
  obtain ⟨c, hc⟩ : ∃ c, (M.remove n).2 = c := ⟨_, rfl⟩
  have hsto : ∀ v : V, dAt (L1.set bg [v]) T1 (M.remove n).1 w1 := fun v =>
    hd1.frame (S := fun i => i = bg) (S' := fun i => i = bg) (R := noS) (R' := noS) ⟨by simp, fun i hi hb => by rw [List.getElem?_set]; simp only [if_neg (fun e : bg = i => hb e.symm)], fun i h => .inl h, Nat.le_refl _, fun _ _ _ => rfl, fun _ h => .inl h⟩ (fun i hs e => hno1 (e ▸ hs)) (fun _ _ h => h)
  have hstep : ∀ v : V, Step (S1 w bg) w.R L T (S1 w1 bg) w1.R (L1.set bg [v]) T1 := fun v =>
    ⟨by rw [List.length_set]; exact hst1.len, fun i hi hs => by rw [List.getElem?_set]; simp only [if_neg (fun e : bg = i => hs (.inr e.symm))]; exact hst1.keep i hi (fun h => hs (.inl h)), fun i h => h.elim (fun h => (hst1.own i h).imp .inl id) (fun h => .inl (.inr h)), hst1.tlen, hst1.tkeep, hst1.town⟩
  rw [hc] at hK
  simp only [hc, code_V] at *
  cases g
  · by_cases h0 : c = 0
    · have d0 : decide ((c : Int) = 0) = true := decide_eq_true (by omega)
      rw [decide_eq_true h0] at hK
      simp (maxSteps:=2000000) only[bitvec_to_nat,seval,↓tcd,h21,hlt1,d0]
      exact ret_of (hstep _) (hK _ _ w1 ho1 (hsto _) hno1 (by simp [hlt1]) (hstep _))
    · have d0 : decide ((c : Int) = 0) = false := decide_eq_false (by omega)
      rw [decide_eq_false h0] at hK
      simp (maxSteps:=2000000) only[bitvec_to_nat,seval,↓tcd,h21,hlt1,d0]
      exact ret_of (hstep _) (hK _ _ w1 ho1 (hsto _) hno1 (by simp [hlt1]) (hstep _))
  · simp (maxSteps:=2000000) only[bitvec_to_nat,seval,↓tcd,h21,hlt1]
    exact ret_of (hstep _) (hK _ _ w1 ho1 (hsto _) hno1 (by simp [hlt1]) (hstep _))
def HasG (cs : List (Nat × List V)) (L : LL) (w : Own) (bg : Nat) : Prop := ∀ p ∈ cs, L[p.1]? = some p.2 ∧ ¬ S1 w bg p.1
theorem HasG.step {cs : List (Nat × List V)} {L L' : LL} {T T' : TT} {w w' : Own} {bg : Nat} (h : HasG cs L w bg) (g : Step (S1 w bg) w.R L T (S1 w' bg) w'.R L' T') : HasG cs L' w' bg := fun p hp => by
  obtain ⟨h1, h2⟩ := h p hp
  have hlt := lt_at h1
  exact ⟨by rw [g.keep _ hlt h2]; exact h1, fun hs => (g.own _ hs).elim h2 (fun h => by omega)⟩
def StepG (H : FuncId → Option PM) (o bg : Nat) (cs : List (Nat × List V)) (n : Name) (v : V) : Prop :=
  ∀ L T M w g K, w.o = o → dAt L T M w → Small M → HasG cs L w bg → L[bg]? = some [.bool g] → ¬ w.S bg →
    (∀ L' T' w', w'.o = o → dAt L' T' (M.remove n).1 w' → ¬ w'.S bg → L'[bg]? = some [.bool (g || decide ((M.remove n).2 = 0))] → Step (S1 w bg) w.R L T (S1 w' bg) w'.R L' T' → K (codeV (if (M.remove n).2 = 2 then 0 else (M.remove n).2)) L' T') → callV H v [] L T K
theorem StepG.more {H : FuncId → Option PM} {o bg : Nat} {cs cs' : List (Nat × List V)} {n : Name} {v : V} (h : StepG H o bg cs n v) (hc : ∀ p ∈ cs, p ∈ cs') : StepG H o bg cs' n v :=
  fun L T M w g K ho hd hs hh h1 h2 hK => h L T M w g K ho hd hs (fun p hp => hh p (hc p hp)) h1 h2 hK
theorem drop_step {H0 H1 H2 : FuncId → Option PM} {o bg bv bc bu bn bd : Nat} {n : Name} (h2 : H2 91 = some (up (but1P H1))) (h1 : H1 92 = some (up (to1P H0))) (h0 : H0 69 = some (up drop1P)) :
    StepG H2 o bg [(bv, [.fn (.func 92) [] [.box bu 0, .box bn 0]]), (bc, [codeV 2]), (bu, [.fn (.func 69) [] [.box bd 0, .box bg 0]]), (bn, [.str n]), (bd, [.box o 0])] n (.fn (.func 91) [] [.box bv 0, .box bc 0]) := by
  intro L T M w g K ho hd hs hc hg hno hK
  simp only [callV, h2]
  refine ⟨K, fun _ _ _ h => h, bv, bc, 2, .fn (.func 92) [] [.box bu 0, .box bn 0], rfl, (hc (bv, _) (by simp)).1, rfl, (hc (bc, [codeV 2]) (by simp)).1, ?_⟩
  simp only [callV, h1]
  refine ⟨_, fun _ _ _ h => h, bu, bn, n, .fn (.func 69) [] [.box bd 0, .box bg 0], rfl, (hc (bu, _) (by simp)).1, rfl, (hc (bn, [.str n]) (by simp)).1, ?_⟩
  simp only [callV, h0]
  exact ⟨_, fun _ _ _ h => h, n, bd, bg, g, M, w, rfl, by rw [ho]; exact (hc (bd, [.box o 0]) (by simp)).1, hg, hno, hd, hs, fun L' T' w' ho' hd' hno' hg' hst => ⟨hst.len, hst.tlen, hst.len, hst.tlen, ((hc.step hst) (bc, [codeV 2]) (by simp)).1, (M.remove n).2, rfl, hK L' T' w' (ho'.trans ho) hd' hno' hg' hst⟩⟩
def runG : List Name → Bool → MD → MD × Nat × Bool
  | [], g, M => (M, 0, g)
  | n :: r, g, M => if (M.remove n).2 = 0 ∨ (M.remove n).2 = 2 then runG r (g || decide ((M.remove n).2 = 0)) (M.remove n).1 else ((M.remove n).1, (M.remove n).2, g)
def preG : List Name → Bool → MD → Prop
  | [], g, M => True
  | n :: r, g, M => Small M ∧ ((M.remove n).2 = 0 ∨ (M.remove n).2 = 2 → preG r (g || decide ((M.remove n).2 = 0)) (M.remove n).1)
theorem stepsG_run {H : FuncId → Option PM} {o bg : Nat} {cs : List (Nat × List V)} : ∀ (l : List (Name × V)), (∀ p ∈ l, StepG H o bg cs p.1 p.2) → ∀ (L : LL) (T : TT) (M : MD) (w : Own) (g : Bool) (K : V → LL → TT → Prop), w.o = o → dAt L T M w → preG (l.map (·.1)) g M → HasG cs L w bg → L[bg]? = some [.bool g] → ¬ w.S bg →
    (∀ L' T' w', w'.o = o → dAt L' T' (runG (l.map (·.1)) g M).1 w' → ¬ w'.S bg → L'[bg]? = some [.bool (runG (l.map (·.1)) g M).2.2] → Step (S1 w bg) w.R L T (S1 w' bg) w'.R L' T' → K (codeV (runG (l.map (·.1)) g M).2.1) L' T') → stepsK H (l.map (·.2)) L T K
  | [], _, L, T, M, w, g, K, ho, hd, _, _, hg, hno, hK => hK L T w ho hd hno hg (Step.refl _ _ _ _)
  | (n, v) :: r, hl, L, T, M, w, g, K, ho, hd, ⟨hp, hq⟩, hs, hg, hno, hK => by
    have e0 : runG (((n, v) :: r).map (·.1)) g M = if (M.remove n).2 = 0 ∨ (M.remove n).2 = 2 then runG (r.map (·.1)) (g || decide ((M.remove n).2 = 0)) (M.remove n).1 else ((M.remove n).1, (M.remove n).2, g) := rfl
    rw [e0] at hK
    refine hl (n, v) (by simp) L T M w g _ ho hd hp hs hg hno fun L' T' w' ho' hd' hno' hg' hst => ⟨hst.len, hst.tlen, _, rfl, ?_⟩
    by_cases h0 : (M.remove n).2 = 0 ∨ (M.remove n).2 = 2
    · have hz : (if (M.remove n).2 = 2 then 0 else (M.remove n).2) = 0 := by rcases h0 with h | h <;> simp [h]
      rw [if_pos hz]
      rw [if_pos h0] at hK
      exact stepsG_run r (fun p hp => hl p (List.mem_cons_of_mem _ hp)) L' T' _ w' _ K ho' hd' (hq h0) (hs.step hst) hg' hno' fun L2 T2 w2 ho2 hd2 hno2 hg2 hst2 => hK L2 T2 w2 ho2 hd2 hno2 hg2 (hst.trans hst2)
    · have h2 : ¬ (M.remove n).2 = 2 := fun h => h0 (.inr h)
      have h1 : ¬ (M.remove n).2 = 0 := fun h => h0 (.inl h)
      rw [if_neg h2, if_neg h1]
      rw [if_neg h0] at hK
      rw [decide_eq_false h1, Bool.or_false] at hg'
      exact hK L' T' w' ho' hd' hno' hg' hst
end Go.Proofs.Ytpncnionnfomeaa.Place
