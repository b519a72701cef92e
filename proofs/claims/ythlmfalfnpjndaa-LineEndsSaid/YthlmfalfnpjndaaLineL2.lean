import Derived.Test.YthlmfalfnpjndaaAwX
import Derived.Test.YthlmfalfnpjndaaLineL1
namespace Go.Proofs.Ythlmfalfnpjndaa.Line
open Go Go.Proofs Go.Proofs.Ythlmfalfnpjndaa.Aw Go.Proofs.Ythlmfalfnpjndaa.LineM Go.Proofs.Ythlmfalfnpjndaa.Num Go.Proofs.Ythlmfalfnpjndaa.LibB
set_option linter.unusedSimpArgs false
set_option linter.unusedVariables false
theorem runY_two {S : List (List V) → List (Nat × TypeId) → Prop} {Y : PM} {K : List (List V) → List (Nat × TypeId) → Prop} (hY : Mono Y) (xs : List (List V)) (J : Nat → List (List V) → List (Nat × TypeId) → Prop) (E : List (List V) → List (Nat × TypeId) → Prop) (hS : ∀ k L T, J k L T → S L T)
    (hstep : ∀ k (h : k < xs.length) L T, J k L T → Y xs[k] L T fun v L' T' => (v = .bool true ∧ J (k + 1) L' T') ∨ (v = .bool false ∧ E L' T')) (hend : ∀ L T, J xs.length L T → E L T) (hK : ∀ L T, E L T → K L T) {L : LL} {T : TT} (h0 : J 0 L T) : runY S Y K xs L T :=
  runY_inv hY xs J hS (fun k h L T hj => hY _ _ _ _ _ (fun v L' T' h => h.imp id fun ⟨h1, h2⟩ => ⟨h1, hK _ _ h2⟩) (hstep k h L T hj)) (fun L T h => hK L T (hend L T h)) xs.length 0 L T (by simp) h0
def Out (ls : List Ln) (k : Nat) (z : V) (T : TT) : Prop := (k = 0 ∧ z = .nils) ∨ ∃ tok, 0 < k ∧ z = .list 2 ((ls.take k).map lv) (some tok) ∧ T[tok]? = some (k, 31)
def endsM : FM
  | [.bytes b _, .int .u8 n] => some (0 ≤ n ∧ n ≤ 255, .bool true, [])
  | _ => none
set_option maxHeartbeats 8000000 in
theorem ends_ok : FSound Try.prog 6 endsM := by
  refine fsound tysOk G12ok mix Try.func6 rfl ?_
  intro args p r fr hm hp
  unfold endsM at hm
  split at hm
  · rename_i b t n
    cases hm
    obtain ⟨h0, h1⟩ := hp
    obtain ⟨n, rfl⟩ := Int.eq_ofNat_of_zero_le h0
    simp (maxSteps:=2000000) only[bitvec_to_nat,seval,↓tcd,Try.f6,shownM,fewM,lawListM]
    have hxl : (b.take 1000).length ≤ 1000 := by rw [List.length_take]; omega
    generalize b.take 1000 = x at *
    have hll := linesF_len 0 x
    have hcl := lv_clean (linesF 0 x)
    refine ⟨⟨hcl, by omega⟩, x, none, rfl, by omega, ?_⟩
    simp (maxSteps:=2000000) only[bitvec_to_nat,seval,↓tcd]
    refine awpRange_intro rfl ⟨Nat.zero_le _, Nat.zero_le _⟩ ?_
    intro yb r hrs hrp
    refine ⟨x, 3, rfl, by omega, ?_⟩
    obtain ⟨ls, hls⟩ : ∃ ls, ls = linesF 0 x := ⟨_, rfl⟩
    rw [← hls] at hll hcl ⊢
    obtain ⟨m, hm⟩ : ∃ m, m = min ls.length (n + 1) := ⟨_, rfl⟩
    refine runY_two (up_mono _) (yall ls) (fun k L1 T1 => k ≤ n ∧ 5 < L1.length ∧ L1[0]? = some [.int .u8 (n : Int)] ∧ L1[1]? = some [.bool false] ∧ L1[2]? = some [.bytes x none] ∧ L1[3]? = some [.bytes x none] ∧ L1[5]? = some [.loopc r] ∧ ∃ z, L1[4]? = some [z] ∧ Out ls k z T1)
      (fun L1 T1 => 5 < L1.length ∧ L1[0]? = some [.int .u8 (n : Int)] ∧ L1[1]? = some [.bool false] ∧ L1[2]? = some [.bytes x none] ∧ L1[3]? = some [.bytes x none] ∧ (∃ r', L1[5]? = some [.loopc r'] ∧ r'.state ≠ .busy ∧ (r'.pending = none ∨ r'.pending = some (.exit 0))) ∧ ∃ z, L1[4]? = some [z] ∧ Out ls m z T1) ?_ ?_ ?_ ?_ ⟨Nat.zero_le _, by simp, rfl, rfl, rfl, rfl, rfl, _, rfl, .inl ⟨rfl, rfl⟩⟩
    · rintro k L1 T1 ⟨hkn, hl, h0, h1, h2, h3, h5, z, h4, hz⟩
      exact ⟨⟨by simp only [List.length_append, List.length_cons, List.length_nil]; omega, Nat.zero_le _⟩, h3⟩
    · rintro k hk L1 T1 ⟨hkn, hl, h0, h1, h2, h3, h5, z, h4, hz⟩
      rw [yall_len] at hk
      rw [yall_at]
      refine ⟨_, fun _ _ _ h => h, rfl, h5, ?_⟩
      obtain ⟨p, w, hx⟩ : ∃ p w, ls.getD k (0, []) = (p, w) := ⟨_, _, rfl⟩
      have hxk : ls[k] = (p, w) := by rw [← hx]; simp [List.getD_eq_getElem?_getD, List.getElem?_eq_getElem hk]
      simp (maxSteps:=2000000) only[bitvec_to_nat,seval,↓tcd,yargs,lv,h5,hx]
      obtain ⟨L2, hL2⟩ : ∃ L2, L2 = (L1 ++ [[V.int IntKind.i64 (p : Int), V.bytes w none]]).set 5 [V.loopc (busyL r)] := ⟨_, rfl⟩
      have hl2 : L2.length = L1.length + 1 := by rw [hL2]; simp
      have a5 : (L1 ++ [[V.int IntKind.i64 (p : Int), V.bytes w none]])[5]? = some [V.loopc r] := by rw [List.getElem?_append_left hl]; exact h5
      have keep : ∀ i, i ≠ 5 → i < L1.length → L2[i]? = L1[i]? := fun i hi hil => by rw [hL2, List.getElem?_set_ne (Ne.symm hi), List.getElem?_append_left hil]
      have b0 : L2[0]? = some [.int .u8 (n : Int)] := by rw [keep 0 (by omega) (by omega)]; exact h0
      have b2 : L2[2]? = some [.bytes x none] := by rw [keep 2 (by omega) (by omega)]; exact h2
      have b5 : L2[5]? = some [V.loopc (busyL r)] := by rw [hL2]; exact List.getElem?_set_self (by simp; omega)
      have bX : L2[L1.length]? = some [V.int IntKind.i64 (p : Int), V.bytes w none] := by rw [hL2, List.getElem?_set_ne (by omega)]; simp
      have a2 : (L1 ++ [[V.int IntKind.i64 (p : Int), V.bytes w none]])[2]? = some [.bytes x none] := by rw [List.getElem?_append_left (by omega)]; exact h2
      have cgt : decide ((x.length : Int) < (k : Int)) = false := decide_eq_false (by omega)
      have htk1 : ls.take (k + 1) = ls.take k ++ [(p, w)] := by rw [List.take_succ_eq_append_getElem hk, hxk]
      have ev : ∀ l : List V, l ++ [V.agg [V.int IntKind.i64 (p : Int), V.bytes w none]] = l ++ [(p, w)].map lv := fun l => rfl
      have wn : IntKind.i64.wrap (n : Int) = (n : Int) := by rw [i64w (by omega) (by omega)]
      have fin : ∀ (z : V) (rr : Loop), 5 < ((L2.set 4 [z]).set 5 [.loopc rr]).length ∧ ((L2.set 4 [z]).set 5 [.loopc rr])[0]? = some [.int .u8 (n : Int)] ∧ ((L2.set 4 [z]).set 5 [.loopc rr])[1]? = some [.bool false] ∧ ((L2.set 4 [z]).set 5 [.loopc rr])[2]? = some [.bytes x none] ∧ ((L2.set 4 [z]).set 5 [.loopc rr])[3]? = some [.bytes x none] ∧ ((L2.set 4 [z]).set 5 [.loopc rr])[5]? = some [.loopc rr] ∧ ((L2.set 4 [z]).set 5 [.loopc rr])[4]? = some [z] := by
        intro z rr
        have g : ∀ i, i ≠ 4 → i ≠ 5 → i < L1.length → ((L2.set 4 [z]).set 5 [.loopc rr])[i]? = L1[i]? := fun i h1 h2 h3 => by
          rw [List.getElem?_set_ne (Ne.symm h2), List.getElem?_set_ne (Ne.symm h1)]; exact keep i h2 h3
        refine ⟨by simp only [List.length_set]; omega, by rw [g 0 (by omega) (by omega) (by omega)]; exact h0, by rw [g 1 (by omega) (by omega) (by omega)]; exact h1, by rw [g 2 (by omega) (by omega) (by omega)]; exact h2, by rw [g 3 (by omega) (by omega) (by omega)]; exact h3, List.getElem?_set_self (by simp only [List.length_set]; omega), ?_⟩
        rw [List.getElem?_set_ne (by omega), List.getElem?_set_self (by omega)]
      have s5 : ∀ z : V, (L2.set 4 [z])[5]? = some [V.loopc (busyL r)] := fun z => by rw [List.getElem?_set_ne (by omega)]; exact b5
      rcases hz with ⟨hk0, rfl⟩ | ⟨tok, hk0, rfl, htk⟩
      · have b4 : L2[4]? = some [V.nils] := by rw [keep 4 (by omega) (by omega)]; exact h4
        have c4 : ∀ z : V, (L2.set 4 [z])[4]? = some [z] := fun z => List.getElem?_set_self (by omega)
        have c0 : ∀ z : V, (L2.set 4 [z])[0]? = some [.int .u8 (n : Int)] := fun z => by rw [List.getElem?_set_ne (by omega)]; exact b0
        simp (maxSteps:=2000000) only[bitvec_to_nat,seval,↓tcd,a5,a2,← hL2,b2,b4,bX,cgt,c4,c0,wn]
        have e1 : [V.agg [V.int IntKind.i64 (p : Int), V.bytes w none]] = (ls.take (k + 1)).map lv := by rw [htk1, hk0]; rfl
        rw [e1]
        have hout : Out ls (k + 1) (.list 2 ((ls.take (k + 1)).map lv) (some (T1 ++ [(1, 31)]).length)) (T1 ++ [(1, 31)] ++ [(1, 31)]) := .inr ⟨_, by omega, rfl, by rw [List.getElem?_append_right (Nat.le_refl _)]; simp [hk0]⟩
        refine ⟨mb _ (by omega), awpIf_intro (fun hc => ?_) (fun hc => ?_)⟩ <;> simp only [decide_eq_true_eq, decide_eq_false_iff_not] at hc
        ·
          refine ⟨s5 _, _, _, St.le_self _, ⟨?_, ?_⟩, .inr ⟨rfl, (fin _ _).1, (fin _ _).2.1, (fin _ _).2.2.1, (fin _ _).2.2.2.1, (fin _ _).2.2.2.2.1, ⟨_, (fin _ _).2.2.2.2.2.1, (by simp), .inr rfl⟩, _, (fin _ _).2.2.2.2.2.2, ?_⟩⟩
          · simp only [List.length_set]; omega
          · simp only [List.length_append, List.length_set]; omega
          · rw [hm, show min ls.length (n + 1) = k + 1 by omega]; exact hout
        ·
          refine ⟨s5 _, _, _, St.le_self _, ⟨?_, ?_⟩, .inl ⟨rfl, (by omega), (fin _ _).1, (fin _ _).2.1, (fin _ _).2.2.1, (fin _ _).2.2.2.1, (fin _ _).2.2.2.2.1, (fin _ _).2.2.2.2.2.1, _, (fin _ _).2.2.2.2.2.2, ?_⟩⟩
          · simp only [List.length_set]; omega
          · simp only [List.length_append, List.length_set]; omega
          · exact hout
      · have b4 : L2[4]? = some [.list 2 ((ls.take k).map lv) (some tok)] := by rw [keep 4 (by omega) (by omega)]; exact h4
        have cl : ((ls.take k).map lv).length = k := by rw [List.length_map, List.length_take]; omega
        have cl2 : ((ls.take (k + 1)).map lv).length = k + 1 := by rw [List.length_map, List.length_take]; omega
        have htl := (List.getElem?_eq_some_iff.1 htk).1
        have c4 : ∀ z : V, (L2.set 4 [z])[4]? = some [z] := fun z => List.getElem?_set_self (by omega)
        have c0 : ∀ z : V, (L2.set 4 [z])[0]? = some [.int .u8 (n : Int)] := fun z => by rw [List.getElem?_set_ne (by omega)]; exact b0
        simp (maxSteps:=2000000) only[bitvec_to_nat,seval,↓tcd,a5,a2,← hL2,b2,b4,bX,cgt,c4,c0,wn,cl]
        rw [ev, ← List.map_append, ← htk1, cl2]
        have hout : Out ls (k + 1) (.list 2 ((ls.take (k + 1)).map lv) (some tok)) ((T1 ++ [(1, 31)]).set tok (k + 1, 31)) := .inr ⟨_, by omega, rfl, List.getElem?_set_self (by simp; omega)⟩
        refine ⟨⟨by rw [List.getElem?_append_left htl]; exact htk, mb _ (by omega)⟩, awpIf_intro (fun hc => ?_) (fun hc => ?_)⟩ <;> simp only [decide_eq_true_eq, decide_eq_false_iff_not] at hc
        ·
          refine ⟨s5 _, _, _, St.le_self _, ⟨?_, ?_⟩, .inr ⟨rfl, (fin _ _).1, (fin _ _).2.1, (fin _ _).2.2.1, (fin _ _).2.2.2.1, (fin _ _).2.2.2.2.1, ⟨_, (fin _ _).2.2.2.2.2.1, (by simp), .inr rfl⟩, _, (fin _ _).2.2.2.2.2.2, ?_⟩⟩
          · simp only [List.length_set]; omega
          · simp only [List.length_append, List.length_set]; omega
          · rw [hm, show min ls.length (n + 1) = k + 1 by omega]; exact hout
        ·
          refine ⟨s5 _, _, _, St.le_self _, ⟨?_, ?_⟩, .inl ⟨rfl, (by omega), (fin _ _).1, (fin _ _).2.1, (fin _ _).2.2.1, (fin _ _).2.2.2.1, (fin _ _).2.2.2.2.1, (fin _ _).2.2.2.2.2.1, _, (fin _ _).2.2.2.2.2.2, ?_⟩⟩
          · simp only [List.length_set]; omega
          · simp only [List.length_append, List.length_set]; omega
          · exact hout
    · rintro L1 T1 ⟨hkn, hl, h0, h1, h2, h3, h5, z, h4, hz⟩
      rw [yall_len] at hkn hz
      exact ⟨hl, h0, h1, h2, h3, ⟨r, h5, by rw [hrs]; simp, .inl hrp⟩, z, h4, by rw [hm, Nat.min_eq_left (by omega)]; exact hz⟩
    · rintro L1 T1 ⟨hl, h0, h1, h2, h3, ⟨r', h5, hrs', hrp'⟩, z, h4, hz⟩
      refine ⟨⟨hl, Nat.zero_le _⟩, r', h5, hrs', ?_⟩
      have s4 : (L1.set 5 [V.any])[4]? = some [z] := by rw [List.getElem?_set_ne (by omega)]; exact h4
      have s0 : (L1.set 5 [V.any])[0]? = some [.int .u8 (n : Int)] := by rw [List.getElem?_set_ne (by omega)]; exact h0
      have s1 : (L1.set 5 [V.any])[1]? = some [.bool false] := by rw [List.getElem?_set_ne (by omega)]; exact h1
      have s2 : (L1.set 5 [V.any])[2]? = some [.bytes x none] := by rw [List.getElem?_set_ne (by omega)]; exact h2
      have s3 : (L1.set 5 [V.any])[3]? = some [.bytes x none] := by rw [List.getElem?_set_ne (by omega)]; exact h3
      have sl : (L1.set 5 [V.any]).length = L1.length := List.length_set
      generalize L1.set 5 [V.any] = L0 at *
      have wn : IntKind.i64.wrap (n : Int) = (n : Int) := by rw [i64w (by omega) (by omega)]
      have wn1 : IntKind.i64.wrap ((n : Int) + 1) = ((n + 1 : Nat) : Int) := by rw [i64w (by omega) (by omega)]; omega
      have hml : (ls.map lv).length = ls.length := List.length_map _
      have hmin : (if ((n + 1 : Nat) : Int) < (ls.length : Int) then ((n + 1 : Nat) : Int) else (ls.length : Int)) = (m : Int) := by rw [hm]; split <;> omega
      have t0 : (L0 ++ [[V.nils]])[0]? = some [.int .u8 (n : Int)] := by rw [List.getElem?_append_left (by omega)]; exact s0
      rcases hrp' with hrp' | hrp' <;> rw [hrp']
      all_goals simp (maxSteps:=2000000) only[bitvec_to_nat,seval,↓tcd,jumpA,s0,s1,s2,s3,s4,wn,wn1,hml,hmin,t0,Int.toNat_natCast]
      all_goals
        refine ⟨⟨by omega, by omega⟩, ?_⟩
        obtain ⟨L', hL'⟩ : ∃ L', L' = L0 ++ [[V.nils]] := ⟨_, rfl⟩
        obtain ⟨o1, ho1⟩ : ∃ o1, o1 = L0.length := ⟨_, rfl⟩
        obtain ⟨o2, ho2⟩ : ∃ o2, o2 = L'.length := ⟨_, rfl⟩
        have ho12 : o2 = o1 + 1 := by rw [ho2, hL', ho1]; simp
        have ho5 : 5 < o1 := by omega
        have u1 : L'[1]? = some [.bool false] := by rw [hL', List.getElem?_append_left (by omega)]; exact s1
        have u2 : L'[2]? = some [.bytes x none] := by rw [hL', List.getElem?_append_left (by omega)]; exact s2
        have u3 : L'[3]? = some [.bytes x none] := by rw [hL', List.getElem?_append_left (by omega)]; exact s3
        have u4 : L'[4]? = some [z] := by rw [hL', List.getElem?_append_left (by omega)]; exact s4
        have uo : L'[o1]? = some [V.nils] := by rw [hL', ho1]; simp
        rw [← hL', ← ho1]
        clear hL' s1 s2 s3 s4
        refine awpRange_intro rfl ⟨Nat.zero_le _, Nat.zero_le _⟩ ?_
        intro yb2 r2 hrs2 hrp2
        rw [← ho2]
        refine ⟨x, 3, rfl, by omega, ?_⟩
        rw [← hls]
        refine runY_two (up_mono _) (yall ls) (fun k L3 T3 => T1.length ≤ T3.length ∧ o2 < L3.length ∧ L3[1]? = some [.bool false] ∧ L3[2]? = some [.bytes x none] ∧ L3[3]? = some [.bytes x none] ∧ L3[4]? = some [z] ∧ L3[o2]? = some [.loopc r2] ∧ ∃ z2, L3[o1]? = some [z2] ∧ Out ls k z2 T3)
          (fun L3 T3 => T1.length ≤ T3.length ∧ o2 < L3.length ∧ L3[1]? = some [.bool false] ∧ L3[2]? = some [.bytes x none] ∧ L3[3]? = some [.bytes x none] ∧ L3[4]? = some [z] ∧ L3[o2]? = some [.loopc r2] ∧ ∃ z2, L3[o1]? = some [z2] ∧ Out ls ls.length z2 T3) ?_ ?_ ?_ ?_ ⟨Nat.le_refl _, by simp; omega, by rw [List.getElem?_append_left (by omega)]; exact u1, by rw [List.getElem?_append_left (by omega)]; exact u2, by rw [List.getElem?_append_left (by omega)]; exact u3, by rw [List.getElem?_append_left (by omega)]; exact u4, by rw [ho2]; simp, _, by rw [List.getElem?_append_left (by omega)]; exact uo, .inl ⟨rfl, rfl⟩⟩
        · rintro k L3 T3 ⟨hT, hl, h1, h2, h3, h4, h5, z2, h6, hz2⟩
          exact ⟨⟨by simp only [List.length_append, List.length_cons, List.length_nil]; omega, hT⟩, h3⟩
        · rintro k hk L3 T3 ⟨hT, hl, h1, h2, h3, h4, h5, z2, h6, hz2⟩
          rw [yall_len] at hk
          rw [yall_at]
          refine ⟨_, fun _ _ _ h => h, rfl, h5, ?_⟩
          obtain ⟨p, w, hx⟩ : ∃ p w, ls.getD k (0, []) = (p, w) := ⟨_, _, rfl⟩
          have hxk : ls[k] = (p, w) := by rw [← hx]; simp [List.getD_eq_getElem?_getD, List.getElem?_eq_getElem hk]
          simp (maxSteps:=2000000) only[bitvec_to_nat,seval,↓tcd,yargs,lv,h5,hx]
          obtain ⟨L2, hL2⟩ : ∃ L2, L2 = (L3 ++ [[V.int IntKind.i64 (p : Int), V.bytes w none]]).set o2 [V.loopc (busyL r2)] := ⟨_, rfl⟩
          have hl2 : L2.length = L3.length + 1 := by rw [hL2]; simp
          have a5 : (L3 ++ [[V.int IntKind.i64 (p : Int), V.bytes w none]])[o2]? = some [V.loopc r2] := by rw [List.getElem?_append_left hl]; exact h5
          have keep : ∀ i, i ≠ o2 → i < L3.length → L2[i]? = L3[i]? := fun i hi hil => by rw [hL2, List.getElem?_set_ne (Ne.symm hi), List.getElem?_append_left hil]
          have b2 : L2[2]? = some [.bytes x none] := by rw [keep 2 (by omega) (by omega)]; exact h2
          have b5 : L2[o2]? = some [V.loopc (busyL r2)] := by rw [hL2]; exact List.getElem?_set_self (by simp; omega)
          have bX : L2[L3.length]? = some [V.int IntKind.i64 (p : Int), V.bytes w none] := by rw [hL2, List.getElem?_set_ne (by omega)]; simp
          have cgt : decide ((x.length : Int) < (k : Int)) = false := decide_eq_false (by omega)
          have htk1 : ls.take (k + 1) = ls.take k ++ [(p, w)] := by rw [List.take_succ_eq_append_getElem hk, hxk]
          have ev : ∀ l : List V, l ++ [V.agg [V.int IntKind.i64 (p : Int), V.bytes w none]] = l ++ [(p, w)].map lv := fun l => rfl
          have fin : ∀ (z2 : V), o2 < ((L2.set o1 [z2]).set o2 [.loopc r2]).length ∧ ((L2.set o1 [z2]).set o2 [.loopc r2])[1]? = some [.bool false] ∧ ((L2.set o1 [z2]).set o2 [.loopc r2])[2]? = some [.bytes x none] ∧ ((L2.set o1 [z2]).set o2 [.loopc r2])[3]? = some [.bytes x none] ∧ ((L2.set o1 [z2]).set o2 [.loopc r2])[4]? = some [z] ∧ ((L2.set o1 [z2]).set o2 [.loopc r2])[o2]? = some [.loopc r2] ∧ ((L2.set o1 [z2]).set o2 [.loopc r2])[o1]? = some [z2] := by
            intro z2
            have g : ∀ i, i ≠ o1 → i ≠ o2 → i < L3.length → ((L2.set o1 [z2]).set o2 [.loopc r2])[i]? = L3[i]? := fun i h1 h2 h3 => by
              rw [List.getElem?_set_ne (Ne.symm h2), List.getElem?_set_ne (Ne.symm h1)]; exact keep i h2 h3
            refine ⟨by simp only [List.length_set]; omega, by rw [g 1 (by omega) (by omega) (by omega)]; exact h1, by rw [g 2 (by omega) (by omega) (by omega)]; exact h2, by rw [g 3 (by omega) (by omega) (by omega)]; exact h3, by rw [g 4 (by omega) (by omega) (by omega)]; exact h4, List.getElem?_set_self (by simp only [List.length_set]; omega), ?_⟩
            rw [List.getElem?_set_ne (by omega), List.getElem?_set_self (by omega)]
          have s5 : ∀ z : V, (L2.set o1 [z])[o2]? = some [V.loopc (busyL r2)] := fun z => by rw [List.getElem?_set_ne (by omega)]; exact b5
          rcases hz2 with ⟨hk0, rfl⟩ | ⟨tok, hk0, rfl, htk⟩
          · have b4 : L2[o1]? = some [V.nils] := by rw [keep o1 (by omega) (by omega)]; exact h6
            simp (maxSteps:=2000000) only[bitvec_to_nat,seval,↓tcd,a5,← hL2,b2,b4,bX,cgt]
            have e1 : [V.agg [V.int IntKind.i64 (p : Int), V.bytes w none]] = (ls.take (k + 1)).map lv := by rw [htk1, hk0]; rfl
            rw [e1]
            have hout : Out ls (k + 1) (.list 2 ((ls.take (k + 1)).map lv) (some (T3 ++ [(1, 31)]).length)) (T3 ++ [(1, 31)] ++ [(1, 31)]) := .inr ⟨_, by omega, rfl, by rw [List.getElem?_append_right (Nat.le_refl _)]; simp [hk0]⟩
            refine ⟨mb _ (by omega), s5 _, _, _, St.le_self _, ⟨?_, ?_⟩, .inl ⟨rfl, ?_, (fin _).1, (fin _).2.1, (fin _).2.2.1, (fin _).2.2.2.1, (fin _).2.2.2.2.1, (fin _).2.2.2.2.2.1, _, (fin _).2.2.2.2.2.2, hout⟩⟩
            · simp only [List.length_set]; omega
            · simp only [List.length_append]; omega
            · simp only [List.length_append]; omega
          · have b4 : L2[o1]? = some [.list 2 ((ls.take k).map lv) (some tok)] := by rw [keep o1 (by omega) (by omega)]; exact h6
            have cl : ((ls.take k).map lv).length = k := by rw [List.length_map, List.length_take]; omega
            have cl2 : ((ls.take (k + 1)).map lv).length = k + 1 := by rw [List.length_map, List.length_take]; omega
            have htl := (List.getElem?_eq_some_iff.1 htk).1
            simp (maxSteps:=2000000) only[bitvec_to_nat,seval,↓tcd,a5,← hL2,b2,b4,bX,cgt,cl]
            rw [ev, ← List.map_append, ← htk1, cl2]
            have hout : Out ls (k + 1) (.list 2 ((ls.take (k + 1)).map lv) (some tok)) ((T3 ++ [(1, 31)]).set tok (k + 1, 31)) := .inr ⟨_, by omega, rfl, List.getElem?_set_self (by simp; omega)⟩
            refine ⟨⟨by rw [List.getElem?_append_left htl]; exact htk, mb _ (by omega)⟩, s5 _, _, _, St.le_self _, ⟨?_, ?_⟩, .inl ⟨rfl, ?_, (fin _).1, (fin _).2.1, (fin _).2.2.1, (fin _).2.2.2.1, (fin _).2.2.2.2.1, (fin _).2.2.2.2.2.1, _, (fin _).2.2.2.2.2.2, hout⟩⟩
            · simp only [List.length_set]; omega
            · simp only [List.length_append, List.length_set]; omega
            · simp only [List.length_append, List.length_set]; omega
        · rintro L3 T3 ⟨hT, hl, h1, h2, h3, h4, h5, z2, h6, hz2⟩
          rw [yall_len] at hz2
          exact ⟨hT, hl, h1, h2, h3, h4, h5, z2, h6, hz2⟩
        · rintro L3 T3 ⟨hT, hl, h1, h2, h3, h4, h5, z2, h6, hz2⟩
          refine ⟨⟨by simp only [List.length_append, List.length_cons, List.length_nil]; omega, hT⟩, r2, h5, by rw [hrs2]; simp, ?_⟩
          rw [hrp2]
          have v1 : (L3.set o2 [V.any])[1]? = some [.bool false] := by rw [List.getElem?_set_ne (by omega)]; exact h1
          have v4 : (L3.set o2 [V.any])[4]? = some [z] := by rw [List.getElem?_set_ne (by omega)]; exact h4
          have vo : (L3.set o2 [V.any])[o1]? = some [z2] := by rw [List.getElem?_set_ne (by omega)]; exact h6
          have vl : 1 < (L3.set o2 [V.any]).length := by rw [List.length_set]; omega
          have vr : ∀ y : V, ((L3.set o2 [V.any]).set 1 [y])[1]? = some [y] := fun y => List.getElem?_set_self vl
          have htm : (ls.map lv).take m = (ls.take m).map lv := (List.map_take ..).symm
          have hcl2 := lv_clean (ls.take m)
          have hml2 : ((ls.take m).map lv).length ≤ 1000 := by rw [List.length_map, List.length_take]; omega
          rw [htm]
          rcases hz with ⟨hm0, rfl⟩ | ⟨tok, hm0, rfl, _⟩ <;> rcases hz2 with ⟨hk0, rfl⟩ | ⟨tok2, hk0, rfl, _⟩
          · have : ls = [] := List.length_eq_zero_iff.1 hk0
            subst this
            simp (maxSteps:=2000000) only[bitvec_to_nat,seval,↓tcd,jumpA,v1,v4,vo,vr,sameM,unlv_map]
          · exfalso; omega
          · exfalso; omega
          · rw [List.take_of_length_le (Nat.le_refl _)] at vo
            simp (maxSteps:=2000000) only[bitvec_to_nat,seval,↓tcd,jumpA,v1,v4,vo,vr,sameM,unlv_map]
            exact ⟨⟨hcl2, by omega⟩, hcl, by omega⟩
  · cases hm
end Go.Proofs.Ythlmfalfnpjndaa.Line
