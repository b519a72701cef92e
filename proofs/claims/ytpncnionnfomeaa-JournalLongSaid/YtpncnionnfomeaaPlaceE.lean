import Derived.Test.YtpncnionnfomeaaAwX
import Derived.Test.YtpncnionnfomeaaPlaceD
namespace Go.Proofs.Ytpncnionnfomeaa.Place
open Go Go.Proofs Go.Proofs.Ytpncnionnfomeaa.Aw Go.Proofs.Ytpncnionnfomeaa.Num Go.Proofs.Ytpncnionnfomeaa.DiskM Go.Proofs.Ytpncnionnfomeaa.DiskA Go.Proofs.Ytpncnionnfomeaa.DiskK Go.Proofs.Ytpncnionnfomeaa.DiskC Go.Proofs.Ytpncnionnfomeaa.Disk Go.Proofs.Ytpncnionnfomeaa.DiskL
set_option linter.unusedSimpArgs false
set_option linter.unusedVariables false
abbrev udrop1P : PM := up drop1P
theorem udrop1_ok : PSound Try.prog 69 udrop1P := up_ok drop1_ok
def V1 : Fns := { fn := fun f => P0.fn f, mu := fun d => .no, hp := fun f => if f = 69 then some udrop1P else P0.hp f, ord := fun i => none, it := fun f => P0.it f }
theorem V1_fn (f : FuncId) : V1.fn f = (P0.fn f) := rfl
theorem V1_mu (d : Tmp) : V1.mu d = (.no) := rfl
theorem V1_hp (f : FuncId) : V1.hp f = (if f = 69 then some udrop1P else P0.hp f) := rfl
theorem V1_ord (i : Nat) : V1.ord i = (none) := rfl
theorem V1_it (f : FuncId) : V1.it f = (P0.it f) := rfl
theorem V1_hy (b : Nat) : V1.hy b = none := rfl
theorem V1ok : FnsOk Try.prog V1 := FnsOk.same (FnsOk.consP P0ok _ _ udrop1_ok Try.func69 (by decide) (fun h => by cases h)) rfl rfl
attribute [bitvec_to_nat] V1_fn V1_mu V1_hp V1_ord V1_it V1_hy
theorem V1_h : HOk V1.hp := by
  refine ⟨FnsOk.same V1ok rfl rfl, fun f m h => ?_⟩
  rw [V1_hp] at h
  split at h <;> first | (cases h; exact up_mono _) | cases h
abbrev vto1P : PM := up (to1P V1.hp)
theorem vto1_ok : PSound Try.prog 92 vto1P := up_ok (to1_ok _ V1_h)
def V2 : Fns := { fn := fun f => V1.fn f, mu := fun d => .no, hp := fun f => if f = 92 then some vto1P else V1.hp f, ord := fun i => none, it := fun f => V1.it f }
theorem V2_fn (f : FuncId) : V2.fn f = (V1.fn f) := rfl
theorem V2_mu (d : Tmp) : V2.mu d = (.no) := rfl
theorem V2_hp (f : FuncId) : V2.hp f = (if f = 92 then some vto1P else V1.hp f) := rfl
theorem V2_ord (i : Nat) : V2.ord i = (none) := rfl
theorem V2_it (f : FuncId) : V2.it f = (V1.it f) := rfl
theorem V2_hy (b : Nat) : V2.hy b = none := rfl
theorem V2ok : FnsOk Try.prog V2 := FnsOk.same (FnsOk.consP V1ok _ _ vto1_ok Try.func92 (by decide) (fun h => by cases h)) rfl rfl
attribute [bitvec_to_nat] V2_fn V2_mu V2_hp V2_ord V2_it V2_hy
theorem V2_h : HOk V2.hp := by
  refine ⟨FnsOk.same V2ok rfl rfl, fun f m h => ?_⟩
  rw [V2_hp] at h
  split at h
  · cases h; exact up_mono _
  · exact V1_h.mono f m h
abbrev vbut1P : PM := up (but1P V2.hp)
theorem vbut1_ok : PSound Try.prog 91 vbut1P := up_ok (but1_ok _ V2_h)
def V3 : Fns := { fn := fun f => V2.fn f, mu := fun d => .no, hp := fun f => if f = 91 then some vbut1P else V2.hp f, ord := fun i => none, it := fun f => V2.it f }
theorem V3_fn (f : FuncId) : V3.fn f = (V2.fn f) := rfl
theorem V3_mu (d : Tmp) : V3.mu d = (.no) := rfl
theorem V3_hp (f : FuncId) : V3.hp f = (if f = 91 then some vbut1P else V2.hp f) := rfl
theorem V3_ord (i : Nat) : V3.ord i = (none) := rfl
theorem V3_it (f : FuncId) : V3.it f = (V2.it f) := rfl
theorem V3_hy (b : Nat) : V3.hy b = none := rfl
theorem V3ok : FnsOk Try.prog V3 := FnsOk.same (FnsOk.consP V2ok _ _ vbut1_ok Try.func91 (by decide) (fun h => by cases h)) rfl rfl
attribute [bitvec_to_nat] V3_fn V3_mu V3_hp V3_ord V3_it V3_hy
theorem V3_h : HOk V3.hp := by
  refine ⟨FnsOk.same V3ok rfl rfl, fun f m h => ?_⟩
  rw [V3_hp] at h
  split at h
  · cases h; exact up_mono _
  · exact V2_h.mono f m h
abbrev inOrder4P : PM := inOrderP V3.hp
theorem inOrder4_ok : PSound Try.prog 58 inOrder4P := inOrder_ok _ V3_h
def P4 : Fns := { fn := fun f => P0.fn f, mu := fun d => bif d == 7 then .nil 114 else .no, hp := fun f => if f = 60 then some toP else if f = 59 then some butP else if f = 58 then some inOrder4P else if f = 21 then some syncNamesP else P0.hp f, ord := fun i => none, it := fun f => P0.it f }
theorem P4_fn (f : FuncId) : P4.fn f = (P0.fn f) := rfl
theorem P4_mu (d : Tmp) : P4.mu d = (bif d == 7 then .nil 114 else .no) := rfl
theorem P4_hp (f : FuncId) : P4.hp f = (if f = 60 then some toP else if f = 59 then some butP else if f = 58 then some inOrder4P else if f = 21 then some syncNamesP else P0.hp f) := rfl
theorem P4_ord (i : Nat) : P4.ord i = (none) := rfl
theorem P4_it (f : FuncId) : P4.it f = (P0.it f) := rfl
theorem P4_hy (b : Nat) : P4.hy b = none := rfl
theorem P4ok : FnsOk Try.prog P4 := FnsOk.same (FnsOk.consP (FnsOk.consP (FnsOk.consP (FnsOk.consP P0ok _ _ syncNames_ok Try.func21 (by decide) (fun h => by cases h)) _ _ inOrder4_ok Try.func58 (by decide) (fun h => by cases h)) _ _ but_ok Try.func59 (by decide) (fun h => by cases h)) _ _ to_ok Try.func60 (by decide) (fun h => by cases h)) rfl rfl
attribute [bitvec_to_nat] P4_fn P4_mu P4_hp P4_ord P4_it P4_hy
def dropFP : PM := fun args L T K => ∃ M w ns, args = [.box w.o 0, .list 1 (ns.map .str) none] ∧ ns.length ≤ 1099511627776 ∧ dAt L T M w ∧ dropPre ns false M ∧
  ∀ L' T' w', w'.o = w.o → dAt L' T' (dropF ns false M).1 w' → Step w.S w.R L T w'.S w'.R L' T' → K (codeV (dropF ns false M).2) L' T'
theorem drop_run : ∀ (ns : List Name) (g : Bool) (M : MD), dropF ns g M = if (runG ns g M).2.1 = 0 ∧ (runG ns g M).2.2 = true then (runG ns g M).1.syncNames else ((runG ns g M).1, (runG ns g M).2.1)
  | [], g, M => by cases g <;> simp [dropF, runG]
  | n :: r, g, M => by
    unfold dropF runG
    by_cases h : (M.remove n).2 = 0 ∨ (M.remove n).2 = 2
    · rw [if_pos h, if_pos h]; exact drop_run r _ _
    · rw [if_neg h, if_neg h, if_neg (fun q => h (.inl q.1))]
theorem drop_preG : ∀ (ns : List Name) (g : Bool) (M : MD), dropPre ns g M → preG ns g M ∧ ((runG ns g M).2.1 = 0 → (runG ns g M).2.2 = true → Small (runG ns g M).1)
  | [], g, M, h => ⟨trivial, fun _ h2 => h h2⟩
  | n :: r, g, M, ⟨h1, h2⟩ => by
    by_cases h : (M.remove n).2 = 0 ∨ (M.remove n).2 = 2
    · obtain ⟨a, b⟩ := drop_preG r _ _ (h2 h)
      refine ⟨⟨h1, fun _ => a⟩, ?_⟩
      unfold runG
      rw [if_pos h]; exact b
    · refine ⟨⟨h1, fun q => absurd q h⟩, ?_⟩
      unfold runG
      rw [if_neg h]
      exact fun q => absurd (.inl q) h
set_option maxHeartbeats 4000000 in
theorem dropF_ok : PSound Try.prog 29 dropFP := by
  refine psound tysOk P4ok mix Try.func29 rfl ?_
  intro args L T K hm
  obtain ⟨M, w, ns, rfl, hl, hd, hp, hK⟩ := hm
  simp (maxSteps:=2000000) only[bitvec_to_nat,seval,↓tcd,Try.f29,List.length_map]
  have hst0 : Step noS noS L T noS noS (L ++ [[V.box w.o 0]] ++ [[V.bool false]]) (T ++ [(0, 109)]) := (((Step.refl noS noS L T).app _).app _).tapp _
  have q1 : (L ++ [[V.box w.o 0]] ++ [[V.bool false]])[L.length]? = some [.box w.o 0] := by simp
  have q2 : (L ++ [[V.box w.o 0]] ++ [[V.bool false]])[(L ++ [[V.box w.o 0]]).length]? = some [.bool false] := by simp
  have l1 : (L ++ [[V.box w.o 0]]).length = L.length + 1 := by simp
  generalize (L ++ [[V.box w.o 0]] ++ [[V.bool false]]) = L1 at hst0 q1 q2 ⊢
  generalize (L ++ [[V.box w.o 0]]).length = bg at q2 l1 ⊢
  have no : ∀ i, L.length ≤ i → ¬ w.S i := fun i h hs => by have := hd.lt i hs; omega
  refine awpLoop_intro (α := {q : Nat × LL × TT × List (Name × V) × List (Nat × List V) // q.1 ≤ ns.length ∧ q.2.2.2.1.map (·.1) = ns.take q.1 ∧ Step noS noS L T noS noS q.2.1 q.2.2.1 ∧ q.2.2.1[T.length]? = some (q.1, 109) ∧ T.length < q.2.2.1.length ∧ HasG q.2.2.2.2 q.2.1 w bg ∧ (L.length, [V.box w.o 0]) ∈ q.2.2.2.2 ∧ q.2.1[bg]? = some [.bool false] ∧ ∀ p ∈ q.2.2.2.1, StepG V3.hp w.o bg q.2.2.2.2 p.1 p.2})
    (fun q => ⟨[.any, .any, .box L.length 0, .any, .int .i64 0, .box bg 0, .fn (.func 69) [] [.box L.length 0, .box bg 0], .list 1 (q.1.2.2.2.1.map (·.2)) (some T.length), .any, .any, .any, .any, .list 1 (ns.map .str) none, .int .i64 (ns.length : Int), .int .i64 (q.1.1 : Int), .any, .any, .any, .any, .any, .any, .any, .any, .any, .any, .any, .any, .any, .any, .any, .any, .any, .any, .any, .any, .any, .any], q.1.2.1, q.1.2.2.1⟩) (fun q => ns.length - q.1.1)
    ⟨(0, L1, T ++ [(0, 109)], [], [(L.length, [V.box w.o 0])]), Nat.zero_le _, rfl, hst0, by rw [tat_new rfl], by simp, fun p hp => (by obtain rfl := List.mem_singleton.1 hp; exact ⟨q1, fun h => h.elim (no _ (Nat.le_refl _)) (fun h => by simp only at h; omega)⟩), by simp, q2, fun p hp => (by cases hp)⟩ ?_ ?_ (fun q => ⟨q.2.2.2.1.len, q.2.2.2.1.tlen⟩)
  · simp (maxSteps:=2000000) only[bitvec_to_nat,seval,↓tcd,leLL_self,List.map_nil]
    all_goals first | rfl | exact ⟨rfl, rfl⟩ | simp
  · rintro ⟨⟨k, L2, T2, l, cs⟩, hk, hlk, hst2, hT, hTl, hh, hb, hg, hsg⟩
    simp only at hk hlk hst2 hT hTl hh hb hg hsg
    have hll : (l.map (·.2)).length = k := by
      have := congrArg List.length hlk
      rw [List.length_map, List.length_take] at this
      rw [List.length_map]; omega
    by_cases hlt : k < ns.length
    · have hdc : decide ((k : Int) < (ns.length : Int)) = true := decide_eq_true (by omega)
      have hgd : (ns.map V.str).getD k .any = .str ns[k] := by
        rw [List.getD_eq_getElem?_getD, List.getElem?_map, List.getElem?_eq_getElem hlt]; rfl
      have hi1 : IntKind.i64.wrap ((k : Int) + 1) = ((k + 1 : Nat) : Int) := by rw [i64w (by omega) (by omega)]; omega
      simp (maxSteps:=2000000) only[bitvec_to_nat,seval,↓tcd,hdc,hgd,Int.toNat_natCast,List.length_map,hi1,hT,hTl]
      refine ⟨⟨by omega, by omega⟩, ns[k], 69, [], [.box L.length 0, .box bg 0], rfl, ?_⟩
      have hst3 : Step noS noS L2 T2 noS noS (L2 ++ [[V.str ns[k]]] ++ [[V.fn (.func 69) [] [.box L.length 0, .box bg 0]]]) T2 := ((Step.refl noS noS L2 T2).app _).app _
      have y1 : (L2 ++ [[V.str ns[k]]] ++ [[V.fn (.func 69) [] [.box L.length 0, .box bg 0]]])[L2.length]? = some [.str ns[k]] := by simp
      have y2 : (L2 ++ [[V.str ns[k]]] ++ [[V.fn (.func 69) [] [.box L.length 0, .box bg 0]]])[(L2 ++ [[V.str ns[k]]]).length]? = some [V.fn (.func 69) [] [.box L.length 0, .box bg 0]] := by simp
      have z1 : (L2 ++ [[V.str ns[k]]]).length = L2.length + 1 := by simp
      generalize (L2 ++ [[V.str ns[k]]] ++ [[V.fn (.func 69) [] [.box L.length 0, .box bg 0]]]) = L3 at hst3 y1 y2 ⊢
      generalize (L2 ++ [[V.str ns[k]]]).length = bu at y2 z1 ⊢
      simp (maxSteps:=2000000) only[bitvec_to_nat,seval,↓tcd]
      refine ⟨2, 92, [], [.box bu 0, .box L2.length 0], rfl, ?_⟩
      have hst4 : Step noS noS L3 T2 noS noS (L3 ++ [[codeV 2]] ++ [[V.fn (.func 92) [] [.box bu 0, .box L2.length 0]]]) T2 := ((Step.refl noS noS L3 T2).app _).app _
      have y3 : (L3 ++ [[codeV 2]] ++ [[V.fn (.func 92) [] [.box bu 0, .box L2.length 0]]])[L3.length]? = some [codeV 2] := by simp
      have y4 : (L3 ++ [[codeV 2]] ++ [[V.fn (.func 92) [] [.box bu 0, .box L2.length 0]]])[(L3 ++ [[codeV 2]]).length]? = some [V.fn (.func 92) [] [.box bu 0, .box L2.length 0]] := by simp
      have z2 : (L3 ++ [[codeV 2]]).length = L3.length + 1 := by simp
      generalize (L3 ++ [[codeV 2]] ++ [[V.fn (.func 92) [] [.box bu 0, .box L2.length 0]]]) = L4 at hst4 y3 y4 ⊢
      generalize (L3 ++ [[codeV 2]]).length = bv at y4 z2 ⊢
      have hst34 := hst3.trans hst4
      have k34 : ∀ i c, L2[i]? = some c → L4[i]? = some c := fun i c h => by rw [hst34.keep _ (lt_at h) (fun h => h)]; exact h
      have k4 : ∀ i c, L3[i]? = some c → L4[i]? = some c := fun i c h => by rw [hst4.keep _ (lt_at h) (fun h => h)]; exact h
      have w1 := hst2.len
      have w3 := hst3.len
      have w4 := hst4.len
      have hbg := lt_at hg
      have noG : ∀ i, L2.length ≤ i → ¬ S1 w bg i := fun i h hs => hs.elim (no i (by omega)) (fun e => by omega)
      simp (maxSteps:=2000000) only[bitvec_to_nat,seval,↓tcd,hdc,hi1,hT,hTl,List.length_map,hll,List.length_append]
      refine ⟨by unfold maxBytes; omega, ⟨(k + 1, L4, (T2 ++ [(1, 109)]).set T.length (k + 1, 109), l ++ [(ns[k], .fn (.func 91) [] [.box bv 0, .box L3.length 0])], (bv, [V.fn (.func 92) [] [.box bu 0, .box L2.length 0]]) :: (L3.length, [codeV 2]) :: (bu, [V.fn (.func 69) [] [.box L.length 0, .box bg 0]]) :: (L2.length, [.str ns[k]]) :: cs), hlt, ?_, ?_, ?_, ?_, ?_, ?_, k34 _ _ hg, ?_⟩, ?_, by simp only; omega⟩
      · simp only [List.map_append, hlk, List.map_cons, List.map_nil]
        rw [List.take_succ_eq_append_getElem hlt]
      · exact ((hst2.trans hst34).tapp _).tset (.inr (Nat.le_refl _)) _
      · simp only
        rw [List.getElem?_set_self (by simp; omega)]
      · simp only; simp; omega
      · intro p hp
        simp only [List.mem_cons] at hp
        rcases hp with rfl | rfl | rfl | rfl | hp
        · exact ⟨y4, noG _ (by simp only; omega)⟩
        · exact ⟨y3, noG _ (by simp only; omega)⟩
        · exact ⟨k4 _ _ y2, noG _ (by simp only; omega)⟩
        · exact ⟨k4 _ _ y1, noG _ (by simp only; omega)⟩
        · exact ⟨k34 _ _ (hh p hp).1, (hh p hp).2⟩
      · simp only [List.mem_cons]; exact .inr (.inr (.inr (.inr hb)))
      · intro p hp
        rcases List.mem_append.1 hp with hp | hp
        · exact (hsg p hp).more (fun q hq => by simp only [List.mem_cons]; exact .inr (.inr (.inr (.inr hq))))
        · obtain rfl := List.mem_singleton.1 hp
          refine (drop_step (H0 := V1.hp) (H1 := V2.hp) (H2 := V3.hp) (o := w.o) (bg := bg) (bv := bv) (bc := L3.length) (bu := bu) (bn := L2.length) (bd := L.length) rfl rfl rfl).more (fun q hq => ?_)
          simp only [List.mem_cons, List.not_mem_nil, or_false] at hq ⊢
          rcases hq with rfl | rfl | rfl | rfl | rfl
          · exact .inl rfl
          · exact .inr (.inl rfl)
          · exact .inr (.inr (.inl rfl))
          · exact .inr (.inr (.inr (.inl rfl)))
          · exact .inr (.inr (.inr (.inr hb)))
      · simp (maxSteps:=2000000) only[bitvec_to_nat,seval,↓tcd,leLL_self,List.map_append,List.map_cons,List.map_nil]
        all_goals first | rfl | exact ⟨rfl, rfl⟩
    · have hdc : decide ((k : Int) < (ns.length : Int)) = false := decide_eq_false (by omega)
      have hke : k = ns.length := by omega
      have hln : l.map (·.1) = ns := by rw [hlk, hke, List.take_length]
      simp (maxSteps:=2000000) only[bitvec_to_nat,seval,↓tcd,hdc]
      refine ⟨l.map (·.2), _, rfl, by omega, ?_⟩
      have hd2 : dAt L2 T2 M w := hd.frame hst2 (fun _ _ h => h) (fun _ _ h => h)
      obtain ⟨r1, r2⟩ := drop_preG ns false M hp
      rw [drop_run] at hK
      refine stepsG_run (cs := cs) l hsg L2 T2 M w false _ rfl hd2 (by rw [hln]; exact r1) hh hg (no _ (by omega)) fun L3 T3 w3 ho3 hd3 hno3 hg3 hst3 => ?_
      rw [hln] at hd3 hg3 ⊢
      have hb3 := ((hh.step hst3) _ hb).1
      simp only at hb3
      obtain ⟨⟨M3, c3, g3⟩, hr3⟩ : ∃ x, runG ns false M = x := ⟨_, rfl⟩
      rw [hr3] at hd3 hg3 hK r2 ⊢
      simp only [code_V] at hd3 hg3 hK r2 ⊢
      have hstF : Step w.S w.R L T w3.S w3.R L3 T3 := (((Step.refl w.S w.R L T).via hst2 (fun _ h => h.elim) (fun _ h => h.elim)).via hst3 (fun i h => h.elim .inl (fun e => .inr (by omega))) (fun _ h => .inl h)).less
        (fun i h => (hst3.own i (.inl h)).elim (fun h => h.elim .inl (fun e => .inr (by omega))) (fun h => .inr (by have := hst2.len; omega)))
        (fun i h => (hst3.town i h).elim .inl (fun h => .inr (by have := hst2.tlen; omega)))
      by_cases h0 : c3 = 0
      · have d0 : decide ((c3 : Int) = 0) = true := decide_eq_true (by omega)
        cases g3
        · rw [if_neg (fun h => by cases h.2)] at hK
          simp (maxSteps:=2000000) only[bitvec_to_nat,seval,↓tcd,d0,hg3]
          exact ret_of hstF (hK _ _ w3 ho3 hd3 hstF)
        · rw [if_pos ⟨h0, rfl⟩] at hK
          simp (maxSteps:=2000000) only[bitvec_to_nat,seval,↓tcd,d0,hg3,hb3]
          refine op_o ho3 rfl hd3 (r2 h0 rfl) fun L4 T4 w4 ho4 hd4 hst4 => ?_
          simp (maxSteps:=2000000) only[bitvec_to_nat,seval,↓tcd]
          exact ret_of (hstF.trans hst4) (hK _ _ w4 ho4 hd4 (hstF.trans hst4))
      · have d0 : decide ((c3 : Int) = 0) = false := decide_eq_false (by omega)
        rw [if_neg (fun h => h0 h.1)] at hK
        simp (maxSteps:=2000000) only[bitvec_to_nat,seval,↓tcd,d0]
        exact ret_of hstF (hK _ _ w3 ho3 hd3 hstF)
end Go.Proofs.Ytpncnionnfomeaa.Place
