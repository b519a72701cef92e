import Derived.Test.YthlmfalfnpjndaaGreatAwX
import Derived.Test.YthlmfalfnpjndaaGreatAw15
import Derived.Test.YthlmfalfnpjndaaGreatRef
namespace Go.Proofs.YthlmfalfnpjndaaGreat.Ref
open Go Go.Proofs Aw Num DiskM DiskA DiskC Disk
set_option linter.unusedSimpArgs false
set_option linter.unusedVariables false
def soft (v v' : V) : Prop := v' = v ∨ ((v = .nils ∨ v = .zero) ∧ ∃ em sz g,v' = .vrow em sz g 0)
theorem soft_rel {K : Kw} {v v' : V} {u : Value} (h : soft v v') (hr : Rel K v u) : Rel K v' u := by
 rcases h with rfl | ⟨rfl | rfl,em,sz,g,rfl⟩
 · exact hr
 · cases hr; exact .vrow em sz g 0 none 0 (Nat.le_refl _) (Nat.zero_le _) (.inl ⟨rfl,rfl⟩)
 · cases hr with
   | zero A => exact .vrow em sz g 0 A 0 (Nat.le_refl _) (Nat.zero_le _) (.inl ⟨rfl,rfl⟩)
def softs (cs cs' : List V) : Prop := ∃ h : cs'.length = cs.length,∀ j (hj : j < cs.length),soft cs[j] (cs'[j]'(by omega))
theorem Mem.soft {P : Program} {B : World} {p0 : Bs} {K : Kw} {L : LL} {T : TT} (h : Mem P B p0 K L T) {o : Nat} {cs cs' : List V} (ho : L[o]? = some cs) (hs : softs cs cs') (hm : ∀ b,¬ MapAt K b cs) : Mem P B p0 K (L.set o cs') T := by
 obtain ⟨hl,hs⟩ := hs
 have hol := lt_at ho
 refine ⟨h.below,h.old,h.there,⟨by rw [List.length_set]; exact h.boxes.1,fun o' ds hd => ?_⟩,h.boxGe,fun o' b ds hb hd hne => ?_,h.boxNd,h.toks,h.tokAt,h.tokNe,h.tokBox,h.keeps⟩
 · by_cases e : o = o'
   · subst e
     rw [at_set hol] at hd
     cases hd
     rcases h.boxes.2 o cs ho with ⟨hb,_⟩ | ⟨b,cur,ty,hb,hh,hz,r⟩ | ⟨b,hb,hmm⟩
     · exact .inl ⟨hb,trivial⟩
     · exact .inr (.inl ⟨b,cur,ty,hb,hh,by omega,fun j hj => ⟨soft_rel (hs j (by omega)) (r j (by omega)).1,(r j (by omega)).2⟩⟩)
     · exact absurd hmm (hm b)
   · rw [at_other e] at hd; exact h.boxes.2 o' ds hd
 · by_cases e : o = o'
   · subst e
     rw [at_set hol] at hd
     cases hd
     exact h.boxFree o b cs hb ho (fun e => hne (List.eq_nil_of_length_eq_zero (by rw [hl,e]; rfl)))
   · rw [at_other e] at hd; exact h.boxFree o' b ds hb hd hne
theorem PSound.soft {P : Program} {f : FuncId} {m m' : PM} (h : PSound P f m)
 (hm : ∀ args L T K,m' args L T K → m args L T fun v L' T' => ∃ G o cs cs',(L' ++ G)[o]? = some cs ∧ softs cs cs' ∧ (∀ K b,¬ MapAt K b cs) ∧ K v ((L' ++ G).set o cs') T') : PSound P f m' := by
 intro B p0 K L T args vs Kont hM hk hsz hrel
 refine (h B p0 K L T args vs _ hM (hm _ _ _ _ hk) hsz hrel).mono fun e w' ⟨v,K',r,L',T',he,hw,hx,hM',hr,G,o,cs,cs',h1,h2,h3,hk'⟩ => ?_
 obtain ⟨K2,w2,x2,M2⟩ := hM'.ghosts G
 exact ⟨v,K2,r,_,T',he,w2.trans hw,hx.trans x2,Mem.soft M2 h1 h2 (h3 K2),hr.ext x2,hk'⟩
theorem softs_head {v v' : V} (h : soft v v') (cs : List V) : softs (v :: cs) (v' :: cs) := ⟨rfl,fun j hj => by
 cases j with
 | zero => exact h
 | succ j => exact .inl rfl⟩
theorem no_map {v a b : V} {cs : List V} (K : Kw) (x : Nat) : ¬ MapAt K x (v :: a :: b :: cs) := by
 intro h
 unfold MapAt at h
 rcases h with ⟨_,_,_,h⟩ | h <;> simp at h
theorem leLL_set {L : LL} {o : Nat} {cs cs' : List V} (ho : L[o]? = some cs) (hl : V.le.leL cs cs') : leLL L (L.set o cs') := by
 induction L generalizing o with
 | nil => simp at ho
 | cons x r ih =>
  cases o with
  | zero =>
   simp only [List.getElem?_cons_zero,Option.some.injEq] at ho
   subst ho
   exact ⟨hl,(St.le_self ⟨[],r,[]⟩).2.1⟩
  | succ o =>
   simp only [List.getElem?_cons_succ] at ho
   exact ⟨(leL_self _).symm ▸ trivial,ih ho⟩
theorem ret_row {S R S' R' : Nat → Prop} {L L1 : LL} {T T1 : TT} {v0 : V} {Φ : V → LL → TT → Prop} (h : Step S R L T S' R' L1 T1) {o : Nat} {cs cs' : List V} (ho : L1[o]? = some cs) (hl : V.le.leL cs cs') (g : Φ v0 (L1.set o cs') T1) :
 ∃ v r L' T',v0 = v ∧ (L.length ≤ L'.length ∧ T.length ≤ T'.length) ∧ St.le ⟨[v],L1,T1⟩ ⟨[r],L',T'⟩ ∧ Φ r L' T' :=
 ⟨v0,v0,L1.set o cs',T1,rfl,⟨by rw [List.length_set]; exact h.len,h.tlen⟩,⟨(leL_self _).symm ▸ trivial,leLL_set ho hl,List.take_length,.inl ⟨rfl,by simp⟩⟩,g⟩
theorem set_new {l : LL} {o : Nat} (h : o = l.length) (x y : List V) : (l ++ [x]).set o y = l ++ [y] := by
 subst h
 rw [List.set_append_right _ _ (Nat.le_refl _)]
 simp
theorem new_ok' (n : Int) : (DiskM.new n).Ok := (new_dAt n [] []).ok
def fileCs (files : List (List UInt8 × Nat)) : List V := files.flatMap fun x => [.bytes x.1 none,.int .i64 (x.2 : Int)]
structure RefAt (L : LL) (M : MD) (o fo : Nat) : Prop where
 ok : M.Ok
 head : ∃ lf : Int,L[o]? = some [.vrow 76 2 fo M.files.length,.list 2 (M.now.map nameV) none,.list 2 (M.kept.map nameV) none,.list 3 (M.chs.map Ref.chgV) none,.int .i64 M.room,.bool M.down,.bool M.doomed,.int .i64 lf] ∧ (M.doomed = true → M.down = false → lf = M.left)
 row : ∃ cs,L[fo]? = some cs ∧ cs ≠ [] ∧ cs.take (M.files.length * 2) = fileCs M.files
 ne : o ≠ fo
def rS (o fo : Nat) (i : Nat) : Prop := i = o ∨ i = fo
theorem RefAt.same {L L' : LL} {M : MD} {o fo : Nat} (h : RefAt L M o fo) (h1 : L'[o]? = L[o]?) (h2 : L'[fo]? = L[fo]?) : RefAt L' M o fo :=
 ⟨h.ok,by rw [h1]; exact h.head,by rw [h2]; exact h.row,h.ne⟩
theorem RefAt.lt {L : LL} {M : MD} {o fo : Nat} (h : RefAt L M o fo) : o < L.length ∧ fo < L.length := by
 obtain ⟨_,⟨_,h1,_⟩,⟨_,h2,_⟩,_⟩ := h
 exact ⟨lt_at h1,lt_at h2⟩
theorem RefAt.frame {L L' : LL} {T T' : TT} {M : MD} {o fo : Nat} {S S' R R' : Nat → Prop} (h : RefAt L M o fo) (g : Step S R L T S' R' L' T') (hS : ∀ i,rS o fo i → ¬ S i) : RefAt L' M o fo :=
 h.same (g.keep o h.lt.1 (hS o (.inl rfl))) (g.keep fo h.lt.2 (hS fo (.inr rfl)))
theorem RefAt.turn {L : LL} {M M' : MD} {o fo : Nat} (h : RefAt L M o fo) (ok : M'.Ok) (hf : M'.files = M.files) {cs : List V} {lf : Int}
 (hcs : cs = [.vrow 76 2 fo M.files.length,.list 2 (M'.now.map nameV) none,.list 2 (M'.kept.map nameV) none,.list 3 (M'.chs.map Ref.chgV) none,.int .i64 M'.room,.bool M'.down,.bool M'.doomed,.int .i64 lf]) (hl : M'.doomed = true → M'.down = false → lf = M'.left) : RefAt (L.set o cs) M' o fo := by
 refine ⟨ok,⟨lf,by rw [at_set h.lt.1,hcs,hf],hl⟩,?_,h.ne⟩
 rw [at_other h.ne,hf]
 exact h.row
def R3 : Fns := { fn := fun f => R2.fn f,mu := fun d => .no,hp := fun f => if f = 38 then some findP else if f = 47 then some withP else R2.hp f,ord := fun i => none,it := fun f => R2.it f }
theorem R3_fn (f : FuncId) : R3.fn f = (R2.fn f) := rfl
theorem R3_mu (d : Tmp) : R3.mu d = (.no) := rfl
theorem R3_hp (f : FuncId) : R3.hp f = (if f = 38 then some findP else if f = 47 then some withP else R2.hp f) := rfl
theorem R3_ord (i : Nat) : R3.ord i = (none) := rfl
theorem R3_it (f : FuncId) : R3.it f = (R2.it f) := rfl
theorem R3_hy (b : Nat) : R3.hy b = none := rfl
theorem R3ok : FnsOk Tryz.prog R3 := FnsOk.same (FnsOk.consP (FnsOk.consP R2ok _ _ with_ok Tryz.func47 (by decide) (fun h => by cases h)) _ _ find_ok Tryz.func38 (by decide) (fun h => by cases h)) rfl rfl
attribute [bitvec_to_nat] R3_fn R3_mu R3_hp R3_ord R3_it R3_hy
def changeRP : PM := fun args L T K => ∃ (m : Names) (c : Chg),args = [.list 2 (m.map nameV) none,Ref.chgV c] ∧ CanDo m c ∧ m.length ≤ 1099511627776 ∧ ∀ L' T',Step noS noS L T noS noS L' T' → K (.list 2 ((chg m c).map nameV) none) L' T'
theorem changeR_ok : PSound Tryz.prog 29 changeRP := by
 refine psound tysOk R3ok mix Tryz.func29 rfl ?_
 intro args L T K hm
 obtain ⟨m,c,rfl,hc,hlen,hK⟩ := hm
 have hl : L.length < (L ++ [[V.str c.frm,.str c.to,.int .i64 (c.file : Int)]]).length := by simp
 have hat : (L ++ [[V.str c.frm,.str c.to,.int .i64 (c.file : Int)]])[L.length]? = some [V.str c.frm,.str c.to,.int .i64 (c.file : Int)] := at_new rfl _
 have hs0 : Step noS noS L T noS noS (L ++ [[V.str c.frm,.str c.to,.int .i64 (c.file : Int)]]) T := (Step.refl _ _ _ _).app _
 unfold Ref.chgV
 rcases hc with ⟨h1,h2,h3⟩ | ⟨h1,h2,h3⟩
 · have e1 : cleft m c = m := by simp [cleft,h1]
   have e2 : cfile m c = c.file := by simp [cfile,h1]
   have hto : c.to ≠ [] := h2.1
   have e3 : chg m c = nwith m c.to c.file := by simp [chg,hto,e1,e2]
   rw [e3] at hK
   simp (maxSteps:=2000000) only[bitvec_to_nat,seval,↓tcd,Tryz.f29,h1]
   refine ⟨m,c.to,c.file,rfl,hlen,fun L' T' hst => ?_⟩
   rw [h1] at hs0
   exact ret_of (hs0.trans hst) (hK _ _ (hs0.trans hst))
 · obtain ⟨f,hf⟩ := Option.isSome_iff_exists.1 h2
   have e1 : cleft m c = nwithout m c.frm := by simp [cleft,h1]
   have e2 : cfile m c = f := by simp [cfile,h1,hf]
   have hff : fnd m c.frm = (f : Int) := by unfold fnd; rw [hf]
   have hwl : (nwithout m c.frm).length ≤ 1099511627776 := by
    unfold nwithout
    exact Nat.le_trans (List.length_filter_le _ _) hlen
   simp (maxSteps:=2000000) only[bitvec_to_nat,seval,↓tcd,Tryz.f29,h1]
   refine ⟨m,c.frm,rfl,by omega,?_⟩
   rw [hff]
   simp (maxSteps:=2000000) only[bitvec_to_nat,seval,↓tcd]
   refine ⟨m,c.frm,rfl,by omega,fun L' T' hst => ?_⟩
   have hat' : L'[L.length]? = some [V.str c.frm,.str c.to,.int .i64 (c.file : Int)] := by rw [hst.keep _ hl (fun h => h)]; exact hat
   have hl' := lt_at hat'
   by_cases hto : c.to = []
   · have e3 : chg m c = nwithout m c.frm := by simp [chg,hto,e1]
     rw [e3] at hK
     simp (maxSteps:=2000000) only[bitvec_to_nat,seval,↓tcd,hat',hl',hto]
     exact ret_of (hs0.trans hst) (hK _ _ (hs0.trans hst))
   · have e3 : chg m c = nwith (nwithout m c.frm) c.to f := by simp [chg,hto,e1,e2]
     rw [e3] at hK
     simp (maxSteps:=2000000) only[bitvec_to_nat,seval,↓tcd,hat',hl',hto]
     refine ⟨nwithout m c.frm,c.to,f,rfl,hwl,fun L2 T2 hst2 => ?_⟩
     exact ret_of ((hs0.trans hst).trans hst2) (hK _ _ ((hs0.trans hst).trans hst2))
theorem rightR_ok : FSound Tryz.prog 90 rightM := by
 refine fsound tysOk R0ok mix Tryz.func90 rfl ?_
 intro args p r fr hm hp
 unfold rightM at hm
 split at hm
 · rename_i n
   cases hm
   simp (maxSteps:=2000000) only[bitvec_to_nat,seval,↓tcd,Tryz.f90]
   refine awpIf_intro (fun h => ?_) (fun h => ?_) <;> simp only [decide_eq_true_eq,decide_eq_false_iff_not] at h
   · refine decide_eq_decide.2 ⟨fun h2 => ⟨fun e => ?_,by omega⟩,fun h2 => by have := h2.2; omega⟩
     rw [e] at h
     exact absurd h (by decide)
   · refine (decide_eq_false ?_).symm
     rintro ⟨h1,_⟩
     exact h1 (List.eq_nil_of_length_eq_zero (by omega))
 · cases hm
def newRP : PM := fun args L T K => ∃ n,args = [.int .i64 n] ∧ ∀ L' fo,RefAt L' (DiskM.new n) L.length fo → Step noS noS L T (rS L.length fo) noS L' T → K (.box L.length 0) L' T
def newRP0 : PM := fun args L T K => ∃ n,args = [.int .i64 n] ∧ K (.box L.length 0) (L ++ [[.nils,.list 2 [] none,.list 2 [] none,.list 3 [] none,.int .i64 (DiskM.new n).room,.bool false,.bool false,.int .i64 0]]) T
theorem newR0_ok : PSound Tryz.prog 6 newRP0 := by
 refine psound tysOk R0ok mix Tryz.func6 rfl ?_
 intro args L T K hm
 obtain ⟨n,rfl,hK⟩ := hm
 simp (maxSteps:=2000000) only[bitvec_to_nat,seval,↓tcd,Tryz.f6]
 refine ret_row ((Step.refl noS noS L T).app _) (o := L.length) (at_new rfl _) (cs' := [.nils,.list 2 [] none,.list 2 [] none,.list 3 [] none,.int .i64 (DiskM.new n).room,.bool false,.bool false,.int .i64 0]) ⟨rfl,⟨rfl,rfl⟩,⟨rfl,rfl⟩,⟨rfl,rfl⟩,rfl,rfl,rfl,rfl,trivial⟩ ?_
 rw [set_new rfl]
 exact hK
theorem newR_ok : PSound Tryz.prog 6 newRP := by
 refine PSound.soft newR0_ok fun args L T K hm => ?_
 obtain ⟨n,rfl,hK⟩ := hm
 refine ⟨n,rfl,[[V.any]],L.length,_,[.vrow 76 2 (L.length + 1) 0,.list 2 [] none,.list 2 [] none,.list 3 [] none,.int .i64 (DiskM.new n).room,.bool false,.bool false,.int .i64 0],by rw [at_app (by simp)]; exact at_new rfl _,softs_head (.inr ⟨.inl rfl,_,_,_,rfl⟩) _,fun K b => no_map K b,?_⟩
 have hs : Step noS noS L T (rS L.length (L.length + 1)) noS ((L ++ [[V.nils,.list 2 [] none,.list 2 [] none,.list 3 [] none,.int .i64 (DiskM.new n).room,.bool false,.bool false,.int .i64 0]] ++ [[V.any]]).set L.length [.vrow 76 2 (L.length + 1) 0,.list 2 [] none,.list 2 [] none,.list 3 [] none,.int .i64 (DiskM.new n).room,.bool false,.bool false,.int .i64 0]) T :=
  ((((Step.refl noS noS L T).app _).app _).set (.inr (Nat.le_refl _)) _).less (fun i hi => by rcases hi with rfl | rfl <;> exact .inr (by omega)) (fun _ h => h.elim)
 refine hK _ (L.length + 1) ⟨new_ok' n,⟨0,?_,fun h => by cases h⟩,⟨[.any],?_,by simp,rfl⟩,by omega⟩ hs
 · rw [at_set (by simp)]
   rfl
 · rw [at_other (by omega),at_new (by simp)]
def R4 : Fns := { fn := fun f => if f = 90 then some rightM else R3.fn f,mu := fun d => .no,hp := fun f => if f = 29 then some changeRP else R3.hp f,ord := fun i => none,it := fun f => R3.it f }
theorem R4_fn (f : FuncId) : R4.fn f = (if f = 90 then some rightM else R3.fn f) := rfl
theorem R4_mu (d : Tmp) : R4.mu d = (.no) := rfl
theorem R4_hp (f : FuncId) : R4.hp f = (if f = 29 then some changeRP else R3.hp f) := rfl
theorem R4_ord (i : Nat) : R4.ord i = (none) := rfl
theorem R4_it (f : FuncId) : R4.it f = (R3.it f) := rfl
theorem R4_hy (b : Nat) : R4.hy b = none := rfl
theorem R4ok : FnsOk Tryz.prog R4 := FnsOk.same (FnsOk.consP (FnsOk.cons R3ok _ _ rightR_ok Tryz.func90 (by decide) (fun h => by cases h)) _ _ changeR_ok Tryz.func29 (by decide) (fun h => by cases h)) rfl rfl
attribute [bitvec_to_nat] R4_fn R4_mu R4_hp R4_ord R4_it R4_hy
def downRP : PM := fun args L T K => ∃ M o fo,args = [.box o 0] ∧ RefAt L M o fo ∧ ∀ L',RefAt L' M.begin.1 o fo → Step (rS o fo) noS L T (rS o fo) noS L' T → K (.bool !M.begin.2) L' T
theorem downR_ok : PSound Tryz.prog 37 downRP := by
 refine psound tysOk R4ok mix Tryz.func37 rfl ?_
 intro args L T K hm
 obtain ⟨M,o,fo,rfl,hd,hK⟩ := hm
 have hd' := hd
 obtain ⟨ok,⟨lf,h1,h2⟩,hrow,hne⟩ := hd'
 have hlt := lt_at h1
 by_cases hb : M.down = false ∧ M.doomed = true
 · obtain ⟨b1,b2⟩ := hb
   have hlf := h2 b2 b1
   subst hlf
   rw [b1,b2] at h1
   have hbeg : M.begin.1 = { M with down := decide (M.left = 0),left := M.left - 1 } ∧ M.begin.2 = !decide (M.left = 0) := by
    unfold MD.begin
    by_cases h0 : M.left = 0
    · rw [if_pos (.inr ⟨b2,h0⟩)]
      refine ⟨?_,by simp [h0]⟩
      obtain ⟨a,b,c,d,e,f,g⟩ := M
      simp only at h0 b1 b2
      subst h0
      simp
    · rw [if_neg (by simp [b1,h0]),if_pos b2]
      refine ⟨?_,by simp [h0]⟩
      obtain ⟨a,b,c,d,e,f,g⟩ := M
      simp only at h0 b1 b2
      simp [h0,b1]
   obtain ⟨hb1,hb2⟩ := hbeg
   have hdz : decide ((M.left : Int) = 0) = decide (M.left = 0) := decide_eq_decide.2 (by omega)
   simp (maxSteps:=2000000) only[bitvec_to_nat,seval,↓tcd,Tryz.f37,h1,hlt]
   have hfin := RefAt.turn hd (M' := M.begin.1) ok.begin (begin_files M) (cs := [V.vrow 76 2 fo M.files.length,.list 2 (M.now.map nameV) none,.list 2 (M.kept.map nameV) none,.list 3 (M.chs.map Ref.chgV) none,.int .i64 M.room,.bool (decide ((M.left : Int) = 0)),.bool true,.int .i64 (IntKind.i64.wrap ((M.left : Int) - 1))]) (lf := IntKind.i64.wrap ((M.left : Int) - 1))
    (by rw [begin_now,begin_kept,begin_chs,begin_room,hb1]; simp only [b2,hdz]) (fun q1 q2 => by
     rw [hb1] at q2 ⊢
     simp only [decide_eq_false_iff_not] at q2
     have := ok.leftB
     simp only
     rw [i64w (by omega) (by omega)]
     omega)
   have hs := (Step.refl (rS o fo) noS L T).set (o := o) (.inl (.inl rfl)) [V.vrow 76 2 fo M.files.length,.list 2 (M.now.map nameV) none,.list 2 (M.kept.map nameV) none,.list 3 (M.chs.map Ref.chgV) none,.int .i64 M.room,.bool (decide ((M.left : Int) = 0)),.bool true,.int .i64 (IntKind.i64.wrap ((M.left : Int) - 1))]
   have := hK _ hfin hs
   rw [hb2,Bool.not_not,← hdz] at this
   exact ret_of hs this
 · have hbeg : M.begin.1 = M ∧ M.begin.2 = !M.down := by
    unfold MD.begin
    cases h3 : M.down with
    | true =>
     rw [if_pos (.inl rfl)]
     refine ⟨?_,rfl⟩
     obtain ⟨a,b,c,d,e,f,g⟩ := M
     simp only at h3
     subst h3
     rfl
    | false =>
     have h4 : M.doomed = false := by
      cases h5 : M.doomed with
      | false => rfl
      | true => exact absurd ⟨h3,h5⟩ hb
     simp [h4]
   obtain ⟨hb1,hb2⟩ := hbeg
   have hKK := hK L (by rw [hb1]; exact hd) (Step.refl _ _ _ _)
   rw [hb2,Bool.not_not] at hKK
   cases h3 : M.down with
   | true =>
    rw [h3] at h1 hKK
    simp (maxSteps:=2000000) only[bitvec_to_nat,seval,↓tcd,Tryz.f37,h1,hlt]
    exact ret_of (Step.refl noS noS L T) hKK
   | false =>
    have h4 : M.doomed = false := by
     cases h5 : M.doomed with
     | false => rfl
     | true => exact absurd ⟨h3,h5⟩ hb
    rw [h3] at h1 hKK
    rw [h4] at h1
    simp (maxSteps:=2000000) only[bitvec_to_nat,seval,↓tcd,Tryz.f37,h1,hlt]
    exact ret_of (Step.refl noS noS L T) hKK
def hdV (fo n : Nat) (now kept : Names) (chs : List Chg) (room : Int) (down doomed : Bool) (lf : Int) : List V :=
 [.vrow 76 2 fo n,.list 2 (now.map nameV) none,.list 2 (kept.map nameV) none,.list 3 (chs.map Ref.chgV) none,.int .i64 room,.bool down,.bool doomed,.int .i64 lf]
def doesRP : PM := fun args L T K => ∃ o fo n now kept chs room down doomed lf c,args = [.box o 0,Ref.chgV c] ∧ L[o]? = some (hdV fo n now kept chs room down doomed lf) ∧ CanDo now c ∧ now.length ≤ 1099511627776 ∧ chs.length ≤ 1099511627776 ∧
 ∀ L' T',L'[o]? = some (hdV fo n (chg now c) kept (chs ++ [c]) room down doomed lf) → Step (fun i => i = o) noS L T (fun i => i = o) noS L' T' → K (.tuple []) L' T'
def R5 : Fns := { fn := fun f => R4.fn f,mu := fun d => bif d == 19 then .seq else bif d == 22 then .seq else .no,hp := fun f => if f = 29 then some changeRP else R4.hp f,ord := fun i => if i = 1 then some [(0,0),(1,0),(2,0),(3,0),(4,2),(5,2),(6,1),(7,0),(8,0),(9,1)] else if i = 2 then some [(0,0),(1,0),(2,0),(3,0),(4,0),(7,3),(8,0),(5,2),(6,1),(9,4),(10,0),(11,0),(12,4)] else none,it := fun f => R4.it f }
theorem R5_fn (f : FuncId) : R5.fn f = (R4.fn f) := rfl
theorem R5_mu (d : Tmp) : R5.mu d = (bif d == 19 then .seq else bif d == 22 then .seq else .no) := rfl
theorem R5_hp (f : FuncId) : R5.hp f = (if f = 29 then some changeRP else R4.hp f) := rfl
theorem R5_ord (i : Nat) : R5.ord i = (if i = 1 then some [(0,0),(1,0),(2,0),(3,0),(4,2),(5,2),(6,1),(7,0),(8,0),(9,1)] else if i = 2 then some [(0,0),(1,0),(2,0),(3,0),(4,0),(7,3),(8,0),(5,2),(6,1),(9,4),(10,0),(11,0),(12,4)] else none) := rfl
theorem R5_it (f : FuncId) : R5.it f = (R4.it f) := rfl
theorem R5_hy (b : Nat) : R5.hy b = none := rfl
theorem R5ok : FnsOk Tryz.prog R5 := FnsOk.same (FnsOk.consP R4ok _ _ changeR_ok Tryz.func29 (by decide) (fun h => by cases h)) rfl rfl
attribute [bitvec_to_nat] R5_fn R5_mu R5_hp R5_ord R5_it R5_hy
theorem doesR_ok : PSound Tryz.prog 89 doesRP := by
 refine psound tysOk R5ok mix Tryz.func89 rfl ?_
 intro args L T K hm
 obtain ⟨o,fo,n,now,kept,chs,room,down,doomed,lf,c,rfl,h1,hc,hnl,hcl,hK⟩ := hm
 unfold hdV at h1 hK
 have hlt := lt_at h1
 unfold Ref.chgV
 simp (maxSteps:=2000000) only[bitvec_to_nat,seval,↓tcd,Tryz.f89,h1,hlt]
 refine ⟨by kernel_rfl,now,c,rfl,hc,hnl,fun L1 T1 hst1 => ?_⟩
 have k1 : L1[o]? = some [.vrow 76 2 fo n,.list 2 (now.map nameV) none,.list 2 (kept.map nameV) none,.list 3 (chs.map Ref.chgV) none,.int .i64 room,.bool down,.bool doomed,.int .i64 lf] := by
  rw [hst1.keep o (by simp; omega) (fun h => h),at_app hlt]; exact h1
 have k2 : L1[L.length]? = some [V.str c.frm,V.str c.to,V.int IntKind.i64 (c.file : Int)] := by rw [hst1.keep _ (by simp) (fun h => h),at_new rfl]
 have l1 := lt_at k1
 have l2 := lt_at k2
 have hol : o ≠ L.length := by omega
 have k3 : ∀ X,(List.set L1 o X)[L.length]? = some [V.str c.frm,V.str c.to,V.int IntKind.i64 (c.file : Int)] := fun X => by rw [at_other hol]; exact k2
 simp (maxSteps:=2000000) only[bitvec_to_nat,seval,↓tcd,k1,k2,k3,l1,l2,List.length_map]
 have hchs : (chs ++ [c]).map Ref.chgV = chs.map Ref.chgV ++ [V.agg [V.str c.frm,V.str c.to,V.int IntKind.i64 (c.file : Int)]] := by
  rw [List.map_append]; rfl
 have hs1 := ((((Step.refl (fun i => i = o) noS L T).app [[V.str c.frm,V.str c.to,V.int IntKind.i64 (c.file : Int)]]).via hst1 (fun _ h => h.elim) (fun _ h => h.elim)).tapp [(chs.length,74)]).tset (k := T1.length) (.inr hst1.tlen) ((chs.map Ref.chgV ++ [V.agg [V.str c.frm,V.str c.to,V.int IntKind.i64 (c.file : Int)]]).length,74)
 have hs2 := hs1.set (o := o) (.inl rfl) [V.vrow 76 2 fo n,.list 2 ((chg now c).map nameV) none,.list 2 (kept.map nameV) none,.list 3 (chs.map Ref.chgV ++ [V.agg [V.str c.frm,V.str c.to,V.int IntKind.i64 (c.file : Int)]]) (some T1.length),.int .i64 room,.bool down,.bool doomed,.int .i64 lf]
 refine ⟨by kernel_rfl,by unfold maxBytes; omega,by unfold maxBytes; omega,ret_row hs2 (o := o) (at_set l1 _) (cs' := [V.vrow 76 2 fo n,.list 2 ((chg now c).map nameV) none,.list 2 (kept.map nameV) none,.list 3 ((chs ++ [c]).map Ref.chgV) none,.int .i64 room,.bool down,.bool doomed,.int .i64 lf]) ⟨rfl,⟨rfl,rfl⟩,⟨rfl,rfl⟩,⟨rfl,hchs.symm⟩,rfl,rfl,rfl,rfl,trivial⟩ ?_⟩
 rw [List.set_set]
 exact hK _ _ (at_set l1 _) (hs1.set (o := o) (.inl rfl) _)
end Go.Proofs.YthlmfalfnpjndaaGreat.Ref
