import Derived.Test.YthlmfalfnpjndaaAwX
import Derived.Test.YthlmfalfnpjndaaLine3
namespace Go.Proofs.Ythlmfalfnpjndaa.Line
open Go Go.Proofs Go.Proofs.Ythlmfalfnpjndaa.Aw Go.Proofs.Ythlmfalfnpjndaa.LineM Go.Proofs.Ythlmfalfnpjndaa.Num Go.Proofs.Ythlmfalfnpjndaa.LibB
set_option linter.unusedSimpArgs false
set_option linter.unusedVariables false
def fewM : FM
  | [.bytes b _] => some (True, .bytes (b.take 1000) none, [])
  | _ => none
theorem few_ok : FSound Try.prog 11 fewM := by
  refine fsound tysOk G9ok mix Try.func11 rfl ?_
  intro args p r fr hm hp
  unfold fewM at hm
  split at hm
  · rename_i b t
    cases hm
    simp (maxSteps:=2000000) only[bitvec_to_nat,seval,↓tcd,Try.f11]
    have e : (if (1000 : Int) < (b.length : Int) then (1000 : Int) else (b.length : Int)) = ((min b.length 1000 : Nat) : Int) := by split <;> omega
    rw [e, Int.toNat_natCast]
    refine ⟨⟨by omega, by omega⟩, ?_⟩
    by_cases h : b.length ≤ 1000
    · rw [Nat.min_eq_left h, List.take_of_length_le (Nat.le_refl _), List.take_of_length_le h]
    · rw [Nat.min_eq_right (by omega)]
  · cases hm
def lawListM : FM
  | [.bytes b _] => some (b.length ≤ 1099511627776, .tuple [.list 2 ((linesF 0 b).map lv) none, .bool true], [])
  | _ => none
def G10 : Fns := { fn := fun f => if f = 11 then some fewM else if f = 12 then some listM else if f = 13 then some sameM else if f = 17 then some bareM else G9.fn f, mu := fun d => .no, hp := fun f => if f = 18 then some allP else G9.hp f, ord := fun i => none, it := fun f => if f = 23 then some allI else G9.it f }
theorem G10_fn (f : FuncId) : G10.fn f = (if f = 11 then some fewM else if f = 12 then some listM else if f = 13 then some sameM else if f = 17 then some bareM else G9.fn f) := rfl
theorem G10_mu (d : Tmp) : G10.mu d = (.no) := rfl
theorem G10_hp (f : FuncId) : G10.hp f = (if f = 18 then some allP else G9.hp f) := rfl
theorem G10_ord (i : Nat) : G10.ord i = (none) := rfl
theorem G10_it (f : FuncId) : G10.it f = (if f = 23 then some allI else G9.it f) := rfl
theorem G10_hy (b : Nat) : G10.hy b = none := rfl
theorem G10ok : FnsOk Try.prog G10 := FnsOk.same (FnsOk.consP (FnsOk.cons (FnsOk.cons (FnsOk.cons (FnsOk.cons (FnsOk.consI G9ok _ _ allI_ok Try.func23 (by decide) (fun h => by cases h)) _ _ rbare_ok Try.func17 (by decide) (fun h => by cases h)) _ _ same_ok Try.func13 (by decide) (fun h => by cases h)) _ _ list_ok Try.func12 (by decide) (fun h => by cases h)) _ _ few_ok Try.func11 (by decide) (fun h => by cases h)) _ _ all_ok Try.func18 (by decide) (fun h => by cases h)) rfl rfl
attribute [bitvec_to_nat] G10_fn G10_mu G10_hp G10_ord G10_it G10_hy
set_option maxHeartbeats 4000000 in
theorem lawList_ok : FSound Try.prog 10 lawListM := by
  refine fsoundV tysOk G10ok mix Try.func10 rfl ?_
  intro args p r fr hm hp
  unfold lawListM at hm
  split at hm
  · rename_i b t
    cases hm
    refine ⟨rfl, ?_⟩
    simp (maxSteps:=2000000) only[bitvec_to_nat,seval,↓tcd,Try.f10]
    refine ⟨b, t, rfl, hp, ?_⟩
    simp (maxSteps:=2000000) only[bitvec_to_nat,seval,↓tcd]
    refine awpRange_intro rfl ⟨Nat.zero_le _, Nat.zero_le _⟩ ?_
    intro yb r hrs hrp
    refine ⟨b, 4, rfl, hp, ?_⟩
    obtain ⟨ls, hls⟩ : ∃ ls, ls = linesF 0 b := ⟨_, rfl⟩
    have hlen := linesF_len 0 b
    rw [← hls] at hlen ⊢
    refine runY_inv (up_mono _) (yall ls) (fun k L1 T1 => 5 < L1.length ∧ L1[0]? = some [.bytes b t] ∧ L1[1]? = some [.nils] ∧ L1[2]? = some [.bool false] ∧ L1[4]? = some [.bytes b none] ∧ L1[5]? = some [.loopc r] ∧ ((k = 0 ∧ L1[3]? = some [.nils]) ∨ ∃ tok, 0 < k ∧ L1[3]? = some [.list 2 ((ls.take k).map lv) (some tok)] ∧ T1[tok]? = some (k, 31))) ?_ ?_ ?_ (yall ls).length 0 _ _ (by simp) ⟨by simp, rfl, rfl, rfl, rfl, rfl, .inl ⟨rfl, rfl⟩⟩
    · rintro k L1 T1 ⟨hl, h0, h1, h2, h4, h5, h3⟩
      exact ⟨⟨by simp only [List.length_append, List.length_cons, List.length_nil]; omega, Nat.zero_le _⟩, h4⟩
    · rintro k hk L1 T1 ⟨hl, h0, h1, h2, h4, h5, h3⟩
      rw [yall_len] at hk
      rw [yall_at]
      refine ⟨_, fun _ _ _ h => h, rfl, h5, ?_⟩
      obtain ⟨p, w, hx⟩ : ∃ p w, ls.getD k (0, []) = (p, w) := ⟨_, _, rfl⟩
      have hxk : ls[k] = (p, w) := by rw [← hx]; simp [List.getD_eq_getElem?_getD, List.getElem?_eq_getElem hk]
      simp (maxSteps:=2000000) only[bitvec_to_nat,seval,↓tcd,yargs,lv,h5,hx]
      obtain ⟨L2, hL2⟩ : ∃ L2, L2 = (L1 ++ [[V.int IntKind.i64 (p : Int), V.bytes w none]]).set 5 [V.loopc (busyL r)] := ⟨_, rfl⟩
      have hl2 : L2.length = L1.length + 1 := by rw [hL2]; simp
      have a5 : (L1 ++ [[V.int IntKind.i64 (p : Int), V.bytes w none]])[5]? = some [V.loopc r] := by rw [List.getElem?_append_left hl]; exact h5
      have keep : ∀ i, i ≠ 5 → i < L1.length → L2[i]? = L1[i]? := fun i hi hil => by rw [hL2, List.getElem?_set_ne (Ne.symm hi), List.getElem?_append_left hil]
      have b0 : L2[0]? = some [.bytes b t] := by rw [keep 0 (by omega) (by omega)]; exact h0
      have b5 : L2[5]? = some [V.loopc (busyL r)] := by rw [hL2]; exact List.getElem?_set_self (by simp; omega)
      have bX : L2[L1.length]? = some [V.int IntKind.i64 (p : Int), V.bytes w none] := by rw [hL2, List.getElem?_set_ne (by omega)]; simp
      have a3 : (L1 ++ [[V.int IntKind.i64 (p : Int), V.bytes w none]])[3]? = L2[3]? := by rw [keep 3 (by omega) (by omega), List.getElem?_append_left (by omega)]
      have cgt : decide ((b.length : Int) < (k : Int)) = false := decide_eq_false (by omega)
      have ck : decide ((k : Int) = (k : Int)) = true := decide_eq_true rfl
      have htk1 : ls.take (k + 1) = ls.take k ++ [(p, w)] := by rw [List.take_succ_eq_append_getElem hk, hxk]
      have fin : ∀ (tok' : Nat) (T' : TT), T'[tok']? = some (k + 1, 31) → 5 < ((L2.set 3 [.list 2 ((ls.take (k + 1)).map lv) (some tok')]).set 5 [.loopc r]).length ∧ ((L2.set 3 [.list 2 ((ls.take (k + 1)).map lv) (some tok')]).set 5 [.loopc r])[0]? = some [.bytes b t] ∧ ((L2.set 3 [.list 2 ((ls.take (k + 1)).map lv) (some tok')]).set 5 [.loopc r])[1]? = some [.nils] ∧
          ((L2.set 3 [.list 2 ((ls.take (k + 1)).map lv) (some tok')]).set 5 [.loopc r])[2]? = some [.bool false] ∧ ((L2.set 3 [.list 2 ((ls.take (k + 1)).map lv) (some tok')]).set 5 [.loopc r])[4]? = some [.bytes b none] ∧ ((L2.set 3 [.list 2 ((ls.take (k + 1)).map lv) (some tok')]).set 5 [.loopc r])[5]? = some [.loopc r] ∧
          ((False ∧ ((L2.set 3 [.list 2 ((ls.take (k + 1)).map lv) (some tok')]).set 5 [.loopc r])[3]? = some [.nils]) ∨ ∃ tok, 0 < k + 1 ∧ ((L2.set 3 [.list 2 ((ls.take (k + 1)).map lv) (some tok')]).set 5 [.loopc r])[3]? = some [.list 2 ((ls.take (k + 1)).map lv) (some tok)] ∧ T'[tok]? = some (k + 1, 31)) := by
        intro tok' T' hT
        have g : ∀ i, i ≠ 3 → i ≠ 5 → i < L1.length → ((L2.set 3 [.list 2 ((ls.take (k + 1)).map lv) (some tok')]).set 5 [.loopc r])[i]? = L1[i]? := fun i h1 h2 h3 => by
          rw [List.getElem?_set_ne (Ne.symm h2), List.getElem?_set_ne (Ne.symm h1)]; exact keep i h2 h3
        refine ⟨by simp only [List.length_set]; omega, by rw [g 0 (by omega) (by omega) (by omega)]; exact h0, by rw [g 1 (by omega) (by omega) (by omega)]; exact h1, by rw [g 2 (by omega) (by omega) (by omega)]; exact h2, by rw [g 4 (by omega) (by omega) (by omega)]; exact h4, List.getElem?_set_self (by simp only [List.length_set]; omega), .inr ⟨tok', by omega, ?_, hT⟩⟩
        rw [List.getElem?_set_ne (by omega), List.getElem?_set_self (by omega)]
      have ev : ∀ l : List V, l ++ [V.agg [V.int IntKind.i64 (p : Int), V.bytes w none]] = l ++ [(p, w)].map lv := fun l => rfl
      rcases h3 with ⟨hk0, h3⟩ | ⟨tok, hk0, h3, htk⟩
      · have b3 : L2[3]? = some [V.nils] := by rw [keep 3 (by omega) (by omega)]; exact h3
        have ck0 : decide ((k : Int) = 0) = true := decide_eq_true (by omega)
        simp (maxSteps:=2000000) only[bitvec_to_nat,seval,↓tcd,a5,a3,b3,← hL2,b0,bX,cgt,ck0]
        have e1 : [V.agg [V.int IntKind.i64 (p : Int), V.bytes w none]] = (ls.take (k + 1)).map lv := by rw [htk1, hk0]; rfl
        rw [e1]
        refine ⟨mb _ (by omega), by rw [List.getElem?_set_ne (by omega)]; exact b5, _, _, St.le_self _, ⟨?_, ?_⟩, .inl ⟨rfl, ?_⟩⟩
        · simp only [List.length_set]; omega
        · simp only [List.length_append]; omega
        · refine fin _ _ ?_
          rw [List.getElem?_append_right (Nat.le_refl _)]; simp [hk0]
      · have b3 : L2[3]? = some [.list 2 ((ls.take k).map lv) (some tok)] := by rw [keep 3 (by omega) (by omega)]; exact h3
        have cl : ((ls.take k).map lv).length = k := by rw [List.length_map, List.length_take]; omega
        have htl := (List.getElem?_eq_some_iff.1 htk).1
        simp (maxSteps:=2000000) only[bitvec_to_nat,seval,↓tcd,a5,a3,b3,← hL2,b0,bX,cgt,cl,ck]
        rw [ev, ← List.map_append, ← htk1]
        have cl2 : ((ls.take (k + 1)).map lv).length = k + 1 := by rw [List.length_map, List.length_take]; omega
        refine ⟨⟨by rw [List.getElem?_append_left htl]; exact htk, mb _ (by omega)⟩, by rw [List.getElem?_set_ne (by omega)]; exact b5, _, _, St.le_self _, ⟨?_, ?_⟩, .inl ⟨rfl, ?_⟩⟩
        · simp only [List.length_set]; omega
        · simp only [List.length_append, List.length_set]; omega
        · refine fin _ _ ?_
          rw [cl2, List.getElem?_set_self (by simp; omega)]
    · rintro L1 T1 ⟨hl, h0, h1, h2, h4, h5, h3⟩
      refine ⟨⟨hl, Nat.zero_le _⟩, r, h5, by rw [hrs]; simp, ?_⟩
      rw [hrp]
      rw [yall_len] at h3
      have s1 : (L1.set 5 [V.any])[1]? = some [.nils] := by rw [List.getElem?_set_ne (by omega)]; exact h1
      have s2 : (L1.set 5 [V.any])[2]? = some [.bool false] := by rw [List.getElem?_set_ne (by omega)]; exact h2
      rcases h3 with ⟨hk, h3⟩ | ⟨tok, _, h3, _⟩
      · have s3 : (L1.set 5 [V.any])[3]? = some [V.nils] := by rw [List.getElem?_set_ne (by omega)]; exact h3
        have s4 : (((L1.set 5 [V.any]).set 1 [V.nils]).set 2 [V.bool true])[1]? = some [V.nils] := by rw [List.getElem?_set_ne (by omega), List.getElem?_set_self (by simp; omega)]
        have s5 : (((L1.set 5 [V.any]).set 1 [V.nils]).set 2 [V.bool true])[2]? = some [V.bool true] := List.getElem?_set_self (by simp; omega)
        simp (maxSteps:=2000000) only[bitvec_to_nat,seval,↓tcd,jumpA,s1,s2,s3,s4,s5,retPostV]
        have hk : ls = [] := List.length_eq_zero_iff.1 hk
        subst hk
        exact ⟨⟨0, ⟨rfl, rfl⟩, by simp [V.clean]⟩, retV_self (by simp [V.clean]) (by simp), trivial⟩
      · rw [List.take_of_length_le (Nat.le_refl _)] at h3
        have s3 : (L1.set 5 [V.any])[3]? = some [.list 2 (ls.map lv) (some tok)] := by rw [List.getElem?_set_ne (by omega)]; exact h3
        have s4 : (((L1.set 5 [V.any]).set 1 [V.list 2 (ls.map lv) (some tok)]).set 2 [V.bool true])[1]? = some [V.list 2 (ls.map lv) (some tok)] := by rw [List.getElem?_set_ne (by omega), List.getElem?_set_self (by simp; omega)]
        have s5 : (((L1.set 5 [V.any]).set 1 [V.list 2 (ls.map lv) (some tok)]).set 2 [V.bool true])[2]? = some [V.bool true] := List.getElem?_set_self (by simp; omega)
        simp (maxSteps:=2000000) only[bitvec_to_nat,seval,↓tcd,jumpA,s1,s2,s3,s4,s5,retPostV]
        exact ⟨retV_list (L := []) (lv_clean ls), retV_self (by simp [V.clean]) (by simp), trivial⟩
  · cases hm
def nz : V → V
  | .agg [.int k n, .nils] => .agg [.int k n, .bytes [] none]
  | v => v
def gz : V → V
  | .list 2 l _ => .list 2 (l.map nz) none
  | v => v
theorem nz_cells (v : V) : (nz v).cells.length = v.cells.length ∧ V.le.leL v.cells (nz v).cells := by
  unfold nz
  split
  · exact ⟨rfl, ⟨rfl, ⟨rfl, rfl⟩, trivial⟩⟩
  · exact ⟨rfl, by rw [leL_self]; trivial⟩
theorem leL_app : ∀ {a a' b b' : List V}, V.le.leL a a' → V.le.leL b b' → V.le.leL (a ++ b) (a' ++ b')
  | [], [], _, _, _, h => h
  | x :: a, y :: a', b, b', ⟨h1, h2⟩, h => ⟨h1, leL_app h2 h⟩
  | [], _ :: _, _, _, h, _ => h.elim
  | _ :: _, [], _, _, h, _ => h.elim
theorem nz_flat : ∀ l : List V, V.le.leL (l.flatMap V.cells) ((l.map nz).flatMap V.cells)
  | [] => trivial
  | v :: l => by
    simp only [List.flatMap_cons, List.map_cons]
    exact leL_app (nz_cells v).2 (nz_flat l)
theorem gz_rel (K : Kw) (v : V) (u : Value) (h : Rel K v u) : Rel K (gz v) u := by
  unfold gz
  split
  · rename_i l t
    have hs : ∀ v ∈ l, v.cells.length = 2 := by cases h; assumption
    refine h.listLe (by simp) (fun v hv => ?_) (nz_flat l)
    obtain ⟨w, hw, rfl⟩ := List.mem_map.1 hv
    rw [(nz_cells w).1]
    exact hs w hw
  · exact h
def same2M : FM := fun args => sameM (args.map gz)
theorem same2_ok : FSound Try.prog 13 same2M := same_ok.map gz gz_rel
def shownM : FM
  | [] => some (True, .bool true, [])
  | _ => none
def G11 : Fns := { fn := fun f => if f = 10 then some lawListM else if f = 13 then some same2M else G10.fn f, mu := fun d => .no, hp := fun f => G10.hp f, ord := fun i => none, it := fun f => G10.it f }
theorem G11_fn (f : FuncId) : G11.fn f = (if f = 10 then some lawListM else if f = 13 then some same2M else G10.fn f) := rfl
theorem G11_mu (d : Tmp) : G11.mu d = (.no) := rfl
theorem G11_hp (f : FuncId) : G11.hp f = (G10.hp f) := rfl
theorem G11_ord (i : Nat) : G11.ord i = (none) := rfl
theorem G11_it (f : FuncId) : G11.it f = (G10.it f) := rfl
theorem G11_hy (b : Nat) : G11.hy b = none := rfl
theorem G11ok : FnsOk Try.prog G11 := FnsOk.same (FnsOk.cons (FnsOk.cons G10ok _ _ same2_ok Try.func13 (by decide) (fun h => by cases h)) _ _ lawList_ok Try.func10 (by decide) (fun h => by cases h)) rfl rfl
attribute [bitvec_to_nat] G11_fn G11_mu G11_hp G11_ord G11_it G11_hy
set_option maxHeartbeats 1000000 in
theorem shown_ok : FSound Try.prog 9 shownM := by
  refine fsound tysOk G11ok mix Try.func9 rfl ?_
  intro args p r fr hm hp
  unfold shownM at hm
  split at hm
  · cases hm
    have hE : linesF 0 [97, 13, 10, 10, 32, 98] = [(0, [97]), (3, []), (4, [32, 98])] := by decide
    have hW : wordsF 4 [32, 98] = [(5, [98])] := by decide
    simp (maxSteps:=2000000) only[bitvec_to_nat,seval,↓tcd,Try.f9,lawListM,same2M,gz,nz,sameM,unlv,lv,wordsM,hE,hW,Int.toNat_natCast]
  · cases hm
end Go.Proofs.Ythlmfalfnpjndaa.Line
