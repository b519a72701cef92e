import Derived.Test.YthlmfalfnpjndaaGreatAwX
import Derived.Test.YthlmfalfnpjndaaGreatRef4
namespace Go.Proofs.YthlmfalfnpjndaaGreat.Ref
open Go Go.Proofs Aw Num DiskM DiskA DiskC Disk
set_option linter.unusedSimpArgs false
set_option linter.unusedVariables false
def R11 : Fns := { fn := fun f => R7.fn f,mu := fun d => bif d == 23 then .grow else bif d == 26 then .grow else .no,hp := fun f => R7.hp f,ord := fun i => none,it := fun f => R7.it f }
theorem R11_fn (f : FuncId) : R11.fn f = (R7.fn f) := rfl
theorem R11_mu (d : Tmp) : R11.mu d = (bif d == 23 then .grow else bif d == 26 then .grow else .no) := rfl
theorem R11_hp (f : FuncId) : R11.hp f = (R7.hp f) := rfl
theorem R11_ord (i : Nat) : R11.ord i = (none) := rfl
theorem R11_it (f : FuncId) : R11.it f = (R7.it f) := rfl
theorem R11_hy (b : Nat) : R11.hy b = none := rfl
theorem R11ok : FnsOk Tryz.prog R11 := FnsOk.same R7ok rfl rfl
attribute [bitvec_to_nat] R11_fn R11_mu R11_hp R11_ord R11_it R11_hy
theorem createR_ok : PSound Tryz.prog 66 (opRP createF) := by
 refine psound tysOk R11ok mix Tryz.func66 rfl ?_
 intro args L T K hm
 obtain ⟨M,o,fo,rest,g,rfl,hg,hd,hsm,hK⟩ := hm
 obtain ⟨n,rfl,rfl⟩ : ∃ n,rest = [.str n] ∧ g = fun M => ((M.create n).1,codeV (M.create n).2) := by
  unfold createF at hg; split at hg <;> cases hg; exact ⟨_,rfl,rfl⟩
 simp only at hK
 simp (maxSteps:=2000000) only[bitvec_to_nat,seval,↓tcd,Tryz.f66]
 refine ⟨M,o,fo,rfl,hd,fun L1 hd1 hst => ?_⟩
 cases hb : M.begin.2 with
 | false =>
  have e : M.create n = (M.begin.1,40) := by simp [MD.create,hb]
  have := hK L1 T fo (by rw [e]; exact hd1) hst
  rw [e] at this
  simp (maxSteps:=2000000) only[bitvec_to_nat,seval,↓tcd]
  exact ret_of hst this
 | true =>
  by_cases hr : right n
  rotate_left
  · have e : M.create n = (M.begin.1,1) := by simp [MD.create,hb,hr]
    have hrd : decide (right n) = false := decide_eq_false hr
    have := hK L1 T fo (by rw [e]; exact hd1) hst
    rw [e] at this
    simp (maxSteps:=2000000) only[bitvec_to_nat,seval,↓tcd,rightM,hrd]
    exact ret_of hst this
  have hrd : decide (right n) = true := decide_eq_true hr
  obtain ⟨lf,h1,h2⟩ := hd1.head
  have hlt := lt_at h1
  simp (maxSteps:=2000000) only[bitvec_to_nat,seval,↓tcd,rightM,hrd,h1,hlt]
  refine ⟨M.begin.1.now,n,rfl,by have := now_small hd.ok hsm; rw [begin_now]; omega,?_⟩
  rw [begin_now]
  cases hf : nfind M.now n with
  | some f =>
   have e : M.create n = (M.begin.1,4) := by simp [MD.create,hb,hr,hf]
   have := hK L1 T fo (by rw [e]; exact hd1) hst
   rw [e] at this
   rw [fnd_some hf]
   have hge2 : decide ((0 : Int) ≤ (f : Int)) = true := decide_eq_true (by omega)
   simp (maxSteps:=2000000) only[bitvec_to_nat,seval,↓tcd,hge2]
   exact ret_of hst this
  | none =>
   have e : M.create n = ({ M.begin.1 with files := M.begin.1.files ++ [([],0)] }.does ⟨[],n,M.begin.1.files.length⟩,0) := by simp [MD.create,hb,hr,hf,begin_files]
   rw [fnd_none hf]
   obtain ⟨cs,r1,r2,r3⟩ := row_get hd1
   have hcl := lt_at r1
   have hnf : M.begin.1.files.length ≤ 1099511627776 := by rw [begin_files]; exact hsm.nf
   obtain ⟨N,hN⟩ : ∃ N,M.begin.1.files.length = N := ⟨_,rfl⟩
   have hrow : cs.take (N * 2) = fileCs M.begin.1.files := by
    obtain ⟨cs',q1,q2,q3⟩ := hd1.row
    rw [r1] at q1
    cases q1
    rw [← hN]; exact q3
   have hc : CanDo M.begin.1.now ⟨[],n,N⟩ := .inl ⟨rfl,hr,by rw [begin_now]; exact hf⟩
   have hok := (hd1.ok.create hr (by rw [begin_now]; exact hf)).2.1
   have fin : ∀ (L2 : LL) (T2 : TT) (fo' : Nat) (row : List V),L1.length ≤ fo' → L2[o]? = some (hdV fo' (N + 1) M.begin.1.now M.begin.1.kept M.begin.1.chs M.begin.1.room M.begin.1.down M.begin.1.doomed lf) → L2[fo']? = some row → row.take (N * 2) = fileCs M.begin.1.files → row[N * 2]? = some .nils → row[N * 2 + 1]? = some (.int .i64 0) →
    Step (rS o fo) noS L1 T (rS o fo') noS L2 T2 → doesRP [.box o 0,.agg [.str [],.str n,.int .i64 (N : Int)]] L2 T2 fun r L' T' => ∃ v r L'' T'',V.int .i64 0 = v ∧ (L.length ≤ L''.length ∧ T.length ≤ T''.length) ∧ St.le ⟨[v],L',T'⟩ ⟨[r],L'',T''⟩ ∧ K r L'' T'' := by
    intro L2 T2 fo' row hfo q1 q2 q3 q4 q5 g
    have hne : o ≠ fo' := by omega
    refine ⟨o,fo',N + 1,M.begin.1.now,M.begin.1.kept,M.begin.1.chs,M.begin.1.room,M.begin.1.down,M.begin.1.doomed,lf,⟨[],n,N⟩,rfl,q1,hc,by rw [begin_now]; exact now_small hd.ok hsm,by rw [begin_chs]; exact hsm.chs,fun L3 T3 hh g3 => ?_⟩
    have q6 : L3[fo']? = some row := by rw [g3.keep fo' (lt_at q2) (fun e => hne e.symm)]; exact q2
    have hl0 : N * 2 < row.length := (List.getElem?_eq_some_iff.1 q4).1
    have hl1 : N * 2 + 1 < row.length := (List.getElem?_eq_some_iff.1 q5).1
    have e1 : row = row.take (N * 2) ++ .nils :: row.drop (N * 2 + 1) := by
     conv => lhs; rw [← List.take_append_drop (N * 2) row,List.drop_eq_getElem_cons hl0]
     rw [(List.getElem?_eq_some_iff.1 q4).2]
    have e2 : row.drop (N * 2 + 1) = .int .i64 0 :: row.drop (N * 2 + 2) := by
     rw [List.drop_eq_getElem_cons hl1,(List.getElem?_eq_some_iff.1 q5).2]
    have hs := (hst.trans g).trans (step_o (fo := fo') g3)
    refine ret_row hs q6 (cs' := row.take (N * 2) ++ V.bytes [] none :: row.drop (N * 2 + 1)) ?_ ?_
    · have := leL_mid (x := .nils) (x' := .bytes [] none) ⟨rfl,rfl⟩ (row.drop (N * 2 + 1)) (row.take (N * 2))
      rw [← e1] at this
      exact this
    · have hfin : RefAt (L3.set fo' (row.take (N * 2) ++ V.bytes [] none :: row.drop (N * 2 + 1))) ({ M.begin.1 with files := M.begin.1.files ++ [([],0)] }.does ⟨[],n,M.begin.1.files.length⟩) o fo' := by
       refine ⟨hok,⟨lf,?_,h2⟩,⟨_,at_set (lt_at q6) _,by simp,?_⟩,hne⟩
       · rw [at_other (Ne.symm hne),hh,does_now]
         have : ({ M.begin.1 with files := M.begin.1.files ++ [([],0)] }.does ⟨[],n,M.begin.1.files.length⟩).files.length = N + 1 := by
          show (M.begin.1.files ++ [([],0)]).length = _
          simp [hN]
         rw [this,hN]
         rfl
       · have hfl : ({ M.begin.1 with files := M.begin.1.files ++ [([],0)] }.does ⟨[],n,M.begin.1.files.length⟩).files = M.begin.1.files ++ [([],0)] := rfl
         rw [hfl,e2,q3]
         have hfe : fileCs (M.begin.1.files ++ [([],0)]) = fileCs M.begin.1.files ++ [.bytes [] none,.int .i64 0] := by unfold fileCs; rw [List.flatMap_append]; rfl
         rw [hfe,List.take_append,fileCs_len,hN,List.take_of_length_le (by rw [fileCs_len,List.length_append,hN]; simp; omega)]
         congr 1
         have : (M.begin.1.files ++ [([],0)]).length * 2 - N * 2 = 2 := by simp [hN]; omega
         rw [this]
         rfl
      have := hK _ T3 fo' (by rw [e]; exact hfin) (hs.set (o := fo') (.inr (Nat.le_trans hst.len hfo)) _)
      rw [e] at this
      exact this
   rw [hN] at h1 hnf
   have hcl2 : N * 2 ≤ cs.length := by rw [← hN]; exact r2
   have hw1 : IntKind.i64.wrap ((1 : Int) - 1) = 0 := by decide
   have hw2 : IntKind.i64.wrap (((N + 1 : Nat) : Int) - 1) = (N : Int) := by rw [i64w (by omega) (by omega)]; omega
   have hcc : List.flatMap V.cells [V.agg [V.nils,V.int .i64 0]] = [.nils,.int .i64 0] := rfl
   have htl : (cs.take (N * 2)).length = N * 2 := by rw [List.length_take]; omega
   simp (maxSteps:=2000000) only[bitvec_to_nat,Nat.reduceAdd,Nat.reduceSub,Nat.reduceMul,Nat.reduceLT,Nat.reduceLeDiff,Nat.reduceEqDiff,Nat.reduceBEq,Nat.reduceBNe,Int.reduceToNat,Int.reduceLE,Int.reduceLT,Int.reduceEq,Int.reduceNe,Int.reduceNeg,Nat.reducePow,Int.reducePow,reduceIte,reduceCtorEq,↓tcd,h1,hlt,r1,hcl,hcc]
   refine ⟨hcl2,by unfold maxBytes; omega,fun h0 => ⟨by unfold maxBytes; omega,?_⟩,fun h0 => ⟨⟨by omega,by intro h; rw [h] at htl; simp at htl; omega,by unfold maxBytes; omega⟩,?_,?_⟩⟩
   · subst h0
     have hz : ((1 : Nat) : Int) = 1 := rfl
     rw [hz,hw1]
     refine fin _ _ L1.length [.nils,.int .i64 0] (Nat.le_refl _) ?_ (at_new (by simp) _) (by rw [← hrow]; simp) rfl rfl ?_
     · rw [at_app (by simpa using hlt),at_set hlt]; rfl
     · exact (((((Step.refl (rS o fo) noS L1 T).set (o := o) (.inl (.inl rfl)) _).app _).tapp _).less (fun i hi => hi.elim (fun h => .inl (.inl h)) (fun h => .inr (by rw [h]; exact Nat.le_refl _))) (fun _ h => h.elim))
   · rw [hw2]
     refine fin _ _ L1.length _ (Nat.le_refl _) ?_ (at_new (by simp) _) ?_ ?_ ?_ ?_
     · rw [at_app (by simpa using hlt),at_set hlt]; rfl
     · rw [List.append_assoc,List.take_append,List.take_take,Nat.min_self,List.take_take,Nat.min_self,htl,Nat.sub_self,List.take_zero,List.append_nil]; exact hrow
     · rw [List.append_assoc,List.getElem?_append_right (by rw [List.take_take,Nat.min_self,htl]; exact Nat.le_refl _),List.take_take,Nat.min_self,htl,Nat.sub_self]; rfl
     · rw [List.append_assoc,List.getElem?_append_right (by rw [List.take_take,Nat.min_self,htl]; omega),List.take_take,Nat.min_self,htl,Nat.add_sub_cancel_left]; rfl
     · exact (((((Step.refl (rS o fo) noS L1 T).set (o := o) (.inl (.inl rfl)) _).app _).tapp _).less (fun i hi => hi.elim (fun h => .inl (.inl h)) (fun h => .inr (by rw [h]; exact Nat.le_refl _))) (fun _ h => h.elim))
   · rw [hw2]
     refine fin _ _ (L1.length + 1) _ (Nat.le_succ _) ?_ (at_new (by simp) _) ?_ ?_ ?_ ?_
     · rw [at_app (by simp; omega),at_app (by simpa using hlt),at_set hlt]; simp [hdV]
     · rw [List.take_append,List.take_take,Nat.min_self,List.take_take,Nat.min_self,htl,Nat.sub_self,List.take_zero,List.append_nil]; exact hrow
     · rw [List.getElem?_append_right (by rw [List.take_take,Nat.min_self,htl]; exact Nat.le_refl _),List.take_take,Nat.min_self,htl,Nat.sub_self]; rfl
     · rw [List.getElem?_append_right (by rw [List.take_take,Nat.min_self,htl]; omega),List.take_take,Nat.min_self,htl,Nat.add_sub_cancel_left]; rfl
     · exact ((((((Step.refl (rS o fo) noS L1 T).set (o := o) (.inl (.inl rfl)) _).app _).app _).tapp _).less (fun i hi => hi.elim (fun h => .inl (.inl h)) (fun h => .inr (by rw [h]; exact Nat.le_succ _))) (fun _ h => h.elim))
end Go.Proofs.YthlmfalfnpjndaaGreat.Ref
