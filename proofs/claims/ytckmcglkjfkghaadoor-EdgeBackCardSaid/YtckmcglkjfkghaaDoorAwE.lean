import Derived.Test.YtckmcglkjfkghaaDoorAwD
namespace Go.Proofs.YtckmcglkjfkghaaDoor.Aw
open Go Go.RowKit
set_option linter.unusedVariables false
set_option linter.unusedSimpArgs false
def clsL (c : Nat) (L : List (List V)) : List (List V) := bif (c == 2 || c == 3) then L else []
def stepQ (τ : Tys) (Γ : Fns) (c : Nat) (op : Op) (d : Option Tmp) (st : St) (K : St → Prop) : Prop :=
  bif isE c then awpExec τ Γ op d st K
  else match stepD τ Γ (clsL c st.L) (evOp st.ρ) op, d with
    | some (p, v), some d => p ∧ K ⟨st.ρ.set d v, st.L, st.T⟩
    | _, _ => False
def stableQ (τ : Tys) (Γ : Fns) : List (Op × Tmp) → St → Prop
  | [], _ => True
  | (op, d) :: r, st => (match stepD τ Γ st.L (evOp st.ρ) op with | some (p, v) => p ∧ st.ρ[d]? = some v | none => False) ∧ stableQ τ Γ r st
theorem isE_no {c : Nat} (h : isE c = false) : (c == 1) = false ∧ (c == 4) = false := by simpa [isE] using h
def addP (c : Nat) (op : Op) (d : Option Tmp) (pd : List (Op × Tmp)) : List (Op × Tmp) := bif c == 3 then (match d with | some d => (op, d) :: pd | none => pd) else pd
def nextQ (τ : Tys) (Γ : Fns) (c : Nat) (op : Op) (d : Option Tmp) (pd : List (Op × Tmp)) (K : List (Op × Tmp) → St → Prop) (st : St) : Prop :=
  bif c == 4 then K [] st else bif c == 1 then (stableQ τ Γ pd st ∧ K pd st) else K (addP c op d pd) st
def awpQ (τ : Tys) (Γ : Fns) (ops : Array Oper) : List (Nat × Nat) → List (Op × Tmp) → (St → Prop) → St → Prop
  | [], _, K, st => K st
  | (i, c) :: r, pd, K, st =>
    match ops[i]? with
    | none => False
    | some o =>
      match o.guard with
      | none => stepQ τ Γ c o.op o.dst st (nextQ τ Γ c o.op o.dst pd fun pd => awpQ τ Γ ops r pd K)
      | some (j, want) =>
        match (ops[j]?).bind (·.dst) with
        | none => False
        | some d =>
          match st.ρ[d]? with
          | some (.bool b) =>
            awpIf b
              (bif want then stepQ τ Γ c o.op o.dst { st with ρ := st.ρ.set d (.bool true) } (nextQ τ Γ c o.op o.dst pd fun pd => awpQ τ Γ ops r pd K) else awpQ τ Γ ops r pd K { st with ρ := setO (st.ρ.set d (.bool true)) o.dst .undef })
              (bif want then awpQ τ Γ ops r pd K { st with ρ := setO (st.ρ.set d (.bool false)) o.dst .undef } else stepQ τ Γ c o.op o.dst { st with ρ := st.ρ.set d (.bool false) } (nextQ τ Γ c o.op o.dst pd fun pd => awpQ τ Γ ops r pd K))
          | some .undef => awpQ τ Γ ops r pd K { st with ρ := setO st.ρ o.dst .undef }
          | _ => False
section
variable {P : Program} {τ : Tys} {Γ : Fns} {ops : Array Oper} {n : Nat} {q : List (Nat × Nat)} {Kont : St → Prop} {ro : Option Nat}
theorem awpQ_cases {i c : Nat} {r : List (Nat × Nat)} {pd : List (Op × Tmp)} {st : St} (h : awpQ τ Γ ops ((i, c) :: r) pd Kont st) :
    ∃ o, ops[i]? = some o ∧ ((wantV ops st.ρ o = some true ∧ stepQ τ Γ c o.op o.dst st (nextQ τ Γ c o.op o.dst pd fun pd => awpQ τ Γ ops r pd Kont)) ∨ (wantV ops st.ρ o = some false ∧ awpQ τ Γ ops r pd Kont { st with ρ := setO st.ρ o.dst .undef })) := by
  simp only [awpQ] at h
  split at h
  · exact h.elim
  · rename_i o ho
    refine ⟨o, ho, ?_⟩
    split at h
    · rename_i hg
      exact .inl ⟨by simp [wantV, hg], h⟩
    · rename_i j want hg
      split at h
      · exact h.elim
      · rename_i d hd
        split at h
        · rename_i b hb
          have hw : wantV ops st.ρ o = some (b == want) := by simp [wantV, hg, hd, hb]
          cases b
          · have h := h.2 rfl
            rw [set_same hb rfl] at h
            cases want
            · exact .inl ⟨hw, h⟩
            · exact .inr ⟨hw, h⟩
          · have h := h.1 rfl
            rw [set_same hb rfl] at h
            cases want
            · exact .inr ⟨hw, h⟩
            · exact .inl ⟨hw, h⟩
        · rename_i hb
          exact .inr ⟨by simp [wantV, hg, hd, hb], h⟩
        · exact h.elim
def Fact (τ : Tys) (Γ : Fns) (ops : Array Oper) (L : List (List V)) (ρ : List V) (i c : Nat) : Prop :=
  ∃ o d, ops[i]? = some o ∧ o.dst = some d ∧ ((wantV ops ρ o = some true ∧ ∃ p v, stepD τ Γ (clsL c L) (evOp ρ) o.op = some (p, v) ∧ p ∧ (d < ρ.length → ρ[d]? = some v)) ∨ (wantV ops ρ o = some false ∧ (d < ρ.length → ρ[d]? = some .undef)))
theorem looks_op {o : Oper} {t : Tmp} (h : Operand.tmp t ∈ o.op.operands) : t ∈ o.looksAt ops := by
  unfold Oper.looksAt
  exact List.mem_append_left _ (List.mem_filterMap.2 ⟨.tmp t, by simpa using h, rfl⟩)
theorem looks_guard {o : Oper} {j d : Nat} {w : Bool} (hg : o.guard = some (j, w)) (hd : (ops[j]?).bind (·.dst) = some d) : d ∈ o.looksAt ops := by
  unfold Oper.looksAt
  rw [hg]
  exact List.mem_append_right _ (by simp [hd])
theorem wantV_congr {ρ ρ' : List V} {o : Oper} (h : ∀ t ∈ o.looksAt ops, ρ'[t]? = ρ[t]?) : wantV ops ρ' o = wantV ops ρ o := by
  unfold wantV
  split
  · rfl
  · rename_i j w hg
    split
    · rfl
    · rename_i d hd
      rw [h d (looks_guard hg hd)]
theorem evOp_agree {ρ ρ' : List V} {o : Oper} (h : ∀ t ∈ o.looksAt ops, ρ'[t]? = ρ[t]?) : ∀ x ∈ o.op.operands, evOp ρ' x = evOp ρ x := by
  intro x hx
  cases x with
  | tmp t => simp only [evOp, List.getD_eq_getElem?_getD, h t (looks_op hx)]
  | _ => rfl
theorem Fact.congr {L L' : List (List V)} {ρ ρ' : List V} {i c : Nat} (hf : Fact τ Γ ops L ρ i c) (hL : clsL c L' = clsL c L) (hlen : ρ'.length = ρ.length) (hl : ∀ o, ops[i]? = some o → ∀ t ∈ o.looksAt ops, ρ'[t]? = ρ[t]?)
    (hd : ∀ d, dstOf ops i = some d → ρ'[d]? = ρ[d]?) : Fact τ Γ ops L' ρ' i c := by
  obtain ⟨o, d, ho, hdo, h⟩ := hf
  have hd' := hd d (by simp [dstOf, ho, hdo])
  refine ⟨o, d, ho, hdo, ?_⟩
  rw [wantV_congr (hl o ho), hd', hlen, hL, stepD_congr o.op (evOp_agree (hl o ho))]
  exact h
theorem OrdF.apart (hO : OrdF ops n q) {pre post : List (Nat × Nat)} (hq : q = pre ++ post) {j c x c' : Nat} (hj : (j, c) ∈ pre) (hx : (x, c') ∈ post) :
    j ≠ x ∧ (∀ o, ops[j]? = some o → ∀ t ∈ o.looksAt ops, dstOf ops x ≠ some t) ∧ ∀ d, dstOf ops j = some d → dstOf ops x ≠ some d := by
  obtain ⟨p1, r1, e1⟩ := List.append_of_mem hj
  obtain ⟨p2, r2, e2⟩ := List.append_of_mem hx
  have hq1 : q = p1 ++ (j, c) :: (r1 ++ post) := by rw [hq, e1]; simp
  have hq2 : q = (pre ++ p2) ++ (x, c') :: r2 := by rw [hq, e2]; simp
  have hne : j ≠ x := fun e => by
    subst e
    exact hO.nodup _ _ _ _ hq2 c (by simp [hj])
  refine ⟨hne, fun o ho t ht hd => ?_, fun d hd hd' => ?_⟩
  · obtain ⟨_, e, he, hb, hon⟩ := hO.looks j o ho t ht x hd
    obtain ⟨c2, hc2⟩ := hO.topo _ _ _ _ hq1 o ho e he hb
    rw [hon] at hc2
    exact hO.nodup _ _ _ _ hq2 c2 (by rw [e1]; simp [hc2])
  · rcases hO.dst (j, c) (by rw [hq]; simp [hj]) with ⟨d', h1, _, h2⟩ | ⟨h1, _⟩
    · rw [hd] at h1; cases h1
      exact h2 x (Ne.symm hne) hd'
    · rw [hd] at h1; cases h1
def Pend (ops : Array Oper) (ρ : List V) (pd : List (Op × Tmp)) (i : Nat) : Prop := ∀ o, ops[i]? = some o → wantV ops ρ o = some false ∨ ∃ d, o.dst = some d ∧ (o.op, d) ∈ pd
theorem awpQ_adv (hO : OrdF ops n q) : ∀ (post0 pre : List (Nat × Nat)) (pd : List (Op × Tmp)) (st : St), q = pre ++ post0 → st.ρ.length = n → awpQ τ Γ ops post0 pd Kont st →
    ∃ mid post ρ' pd', post0 = mid ++ post ∧ (∀ x ∈ mid, isE x.2 = false) ∧ (post = [] ∨ ∃ e ce r, isE ce = true ∧ post = (e, ce) :: r) ∧ awpQ τ Γ ops post pd' Kont ⟨ρ', st.L, st.T⟩ ∧ ρ'.length = n ∧
      (∀ t, (∀ x ∈ mid, dstOf ops x.1 ≠ some t) → ρ'[t]? = st.ρ[t]?) ∧ (∀ x ∈ mid, Fact τ Γ ops st.L ρ' x.1 x.2) ∧ (∀ x ∈ pd, x ∈ pd') ∧ ∀ x ∈ mid, x.2 = 3 → Pend ops ρ' pd' x.1
  | [], pre, pd, st, hq, hlen, h => ⟨[], [], st.ρ, pd, rfl, fun x hx => absurd hx List.not_mem_nil, .inl rfl, h, hlen, fun t _ => rfl, fun x hx => absurd hx List.not_mem_nil, fun x hx => hx, fun x hx => absurd hx List.not_mem_nil⟩
  | (i, c) :: r, pre, pd, st, hq, hlen, h => by
    cases hc : isE c with
    | true =>
      exact ⟨[], (i, c) :: r, st.ρ, pd, rfl, fun x hx => absurd hx List.not_mem_nil, .inr ⟨i, c, r, hc, rfl⟩, h, hlen, fun t _ => rfl, fun x hx => absurd hx List.not_mem_nil, fun x hx => hx, fun x hx => absurd hx List.not_mem_nil⟩
    | false =>
      obtain ⟨o, ho, hcase⟩ := awpQ_cases h
      have hmem : (i, c) ∈ q := by rw [hq]; simp
      obtain ⟨d, hd0, hdn, hdu⟩ : ∃ d, dstOf ops i = some d ∧ d < n ∧ ∀ j, j ≠ i → dstOf ops j ≠ some d := by
        rcases hO.dst (i, c) hmem with h | ⟨_, h⟩
        · exact h
        · rw [hc] at h; cases h
      have hd : o.dst = some d := by simpa [dstOf, ho] using hd0
      have hnl : d ∉ o.looksAt ops := fun ht => (hO.looks i o ho d ht i hd0).1 rfl
      obtain ⟨v, pd1, hrest, hpd1, hfact⟩ : ∃ v pd1, awpQ τ Γ ops r pd1 Kont ⟨st.ρ.set d v, st.L, st.T⟩ ∧ (∀ x ∈ pd, x ∈ pd1) ∧ ((wantV ops st.ρ o = some true ∧ (c = 3 → (o.op, d) ∈ pd1) ∧ ∃ p, stepD τ Γ (clsL c st.L) (evOp st.ρ) o.op = some (p, v) ∧ p) ∨ (wantV ops st.ρ o = some false ∧ v = .undef)) := by
        rcases hcase with ⟨hw, hs⟩ | ⟨hw, hs⟩
        · unfold stepQ at hs
          rw [hc, cond_false] at hs
          split at hs
          · rename_i p v d' hst hdd
            rw [hd] at hdd
            cases hdd
            have hs2 := hs.2
            unfold nextQ at hs2
            rw [(isE_no hc).2, cond_false, (isE_no hc).1, cond_false] at hs2
            refine ⟨v, _, hs2, fun x hx => ?_, .inl ⟨hw, fun e => ?_, p, hst, hs.1⟩⟩
            · unfold addP
              cases c == 3
              · exact hx
              · rw [hd]; exact List.mem_cons_of_mem _ hx
            · subst e
              simp [addP, hd]
          · exact hs.elim
        · rw [hd] at hs
          exact ⟨.undef, pd, hs, fun x hx => hx, .inr ⟨hw, rfl⟩⟩
      obtain ⟨mid, post, ρ', pd', e1, h2, h3, h4, h5, h6, h7, h8, h9⟩ := awpQ_adv hO r (pre ++ [(i, c)]) pd1 ⟨st.ρ.set d v, st.L, st.T⟩ (by rw [hq]; simp) (by simpa using hlen) hrest
      have hap : ∀ x ∈ mid, (∀ t ∈ o.looksAt ops, dstOf ops x.1 ≠ some t) ∧ dstOf ops x.1 ≠ some d := fun x hx => by
        have hxp : (x.1, x.2) ∈ r := by rw [e1]; exact List.mem_append_left _ hx
        obtain ⟨_, a1, a2⟩ := hO.apart (pre := pre ++ [(i, c)]) (post := r) (by rw [hq]; simp) (j := i) (c := c) (by simp) hxp
        exact ⟨a1 o ho, a2 d hd0⟩
      have hagree0 : ∀ t ∈ o.looksAt ops, ρ'[t]? = st.ρ[t]? := fun t ht => by
        rw [h6 t fun x hx => (hap x hx).1 t ht]
        exact List.getElem?_set_ne fun e => hnl (by rw [e]; exact ht)
      refine ⟨(i, c) :: mid, post, ρ', pd', by rw [e1]; rfl, fun x hx => ?_, h3, h4, h5, fun t ht => ?_, fun x hx => ?_, fun x hx => h8 x (hpd1 x hx), fun x hx h3 => ?_⟩
      · rcases List.mem_cons.1 hx with rfl | hx
        · exact hc
        · exact h2 x hx
      · rw [h6 t fun x hx => ht x (List.mem_cons_of_mem _ hx)]
        have hne : d ≠ t := fun e => ht (i, c) (by simp) (by rw [hd0, e])
        exact List.getElem?_set_ne hne
      · rcases List.mem_cons.1 hx with rfl | hx
        · have hagree : ∀ t ∈ o.looksAt ops, ρ'[t]? = st.ρ[t]? := fun t ht => by
            rw [h6 t fun x hx => (hap x hx).1 t ht]
            exact List.getElem?_set_ne fun e => hnl (by rw [e]; exact ht)
          refine ⟨o, d, ho, hd, ?_⟩
          rw [wantV_congr hagree, stepD_congr o.op (evOp_agree hagree)]
          have hval : d < ρ'.length → ρ'[d]? = some v := fun _ => by
            rw [h6 d fun x hx => (hap x hx).2]
            exact List.getElem?_set_self (by rw [hlen]; exact hdn)
          rcases hfact with ⟨hw, _, p, hs, hp⟩ | ⟨hw, rfl⟩
          · exact .inl ⟨hw, p, v, hs, hp, hval⟩
          · exact .inr ⟨hw, hval⟩
        · exact h7 x hx
      · rcases List.mem_cons.1 hx with rfl | hx
        · intro o' ho'
          rw [ho] at ho'
          cases ho'
          rcases hfact with ⟨_, hm, _⟩ | ⟨hw, _⟩
          · exact .inr ⟨d, hd, h8 _ (hm h3)⟩
          · left
            rw [wantV_congr hagree0]
            exact hw
        · exact h9 x hx h3
variable {B : World} {p0 : Bs} {ρ0 : List V}
structure MidQ (P : Program) (B : World) (p0 : Bs) (τ : Tys) (Γ : Fns) (ops : Array Oper) (n : Nat) (q : List (Nat × Nat)) (Kont : St → Prop) (listed : Array Bool) (K : Kw) (a : Act) (pre post : List (Nat × Nat)) (pd : List (Op × Tmp)) (st : St) : Prop where
  pend : ∀ i, (i, 3) ∈ pre → listed.getD i false = false → Pend ops st.ρ pd i
  split : q = pre ++ post
  head : post = [] ∨ ∃ e ce r, isE ce = true ∧ post = (e, ce) :: r
  effs : ∀ e ce, isE ce = true → (e, ce) ∈ pre → listed.getD e false = true
  inpre : ∀ i, listed.getD i false = true → ∃ c, (i, c) ∈ pre
  W : awpQ τ Γ ops post pd Kont st
  len : st.ρ.length = n
  mem : Mem P B p0 K st.L st.T
  size : a.tmps.size = n
  done : ∀ i d, listed.getD i false = true → dstOf ops i = some d → ∀ v u, st.ρ[d]? = some v → a.tmps[d]? = some u → Rel K v u
  other : ∀ d : Nat, (∀ i, dstOf ops i ≠ some d) → ∀ v u, st.ρ[d]? = some v → a.tmps[d]? = some u → Rel K v u
  facts : ∀ i c, (i, c) ∈ pre → listed.getD i false = false → Fact τ Γ ops st.L st.ρ i c
  closed : Closed ops listed
  defers : DefOk B p0 K a.defers
theorem drawnQ_wp (hτ : TyOk P τ) (hΓ : FnsAt P B p0 Γ) (hO : OrdF ops n q) {Q : Exit → Act → World → Prop} (hQ : ∀ K st a, Inv P B p0 K st a → Kont st → Q .normal a K.w) :
    ∀ (fuel : Nat) (listed : Array Bool) (K : Kw) (a : Act) (pre post : List (Nat × Nat)) (pd : List (Op × Tmp)) (st : St), MidQ P B p0 τ Γ ops n q Kont listed K a pre post pd st → listed.size = ops.size → (ops.size ≤ fuel + (listed.toList.filter id).length) → wpAnyIn (WR ro) 0 P .any ops Q fuel listed a K.w := by
  have hover : ∀ (listed : Array Bool) (K : Kw) (a : Act) (pre post : List (Nat × Nat)) (pd : List (Op × Tmp)) (st : St), MidQ P B p0 τ Γ ops n q Kont listed K a pre post pd st → (∀ i, i < ops.size → listed.getD i false = true) → Q .normal a K.w := by
    intro listed K a pre post pd st h hall
    have hpost : post = [] := by
      rcases h.head with e | ⟨e, ce, r, hce, he⟩
      · exact e
      · exfalso
        have hm : (e, ce) ∈ q := by rw [h.split, he]; simp
        obtain ⟨c, hc⟩ := h.inpre e (hall e (hO.lt _ hm))
        exact (hO.apart h.split hc (by rw [he]; simp : (e, ce) ∈ post)).1 rfl
    have hW := h.W
    rw [hpost] at hW
    refine hQ K st a ⟨h.mem, by rw [h.size, h.len], fun t ht ht' => ?_, h.defers⟩ hW
    by_cases hex : ∃ i, dstOf ops i = some t
    · obtain ⟨i, hi⟩ := hex
      have hil : i < ops.size := by
        rcases Nat.lt_or_ge i ops.size with h | h
        · exact h
        · unfold dstOf at hi; rw [Array.getElem?_eq_none (by omega)] at hi; cases hi
      exact h.done i t (hall i hil) hi _ _ (List.getElem?_eq_getElem ht) (Array.getElem?_eq_getElem ht')
    · exact h.other t (fun i hi => hex ⟨i, hi⟩) _ _ (List.getElem?_eq_getElem ht) (Array.getElem?_eq_getElem ht')
  have getT : ∀ (listed : Array Bool) (i : Nat), i < listed.size → listed.getD i false = false → listed.getD i true = false := fun listed i hi h => by
    simp only [Array.getD_eq_getD_getElem?, Array.getElem?_eq_getElem hi, Option.getD_some] at h ⊢
    exact h
  have hready : ∀ (listed : Array Bool), listed.size = ops.size → Region.ready .any ops listed = [] → ∀ i, i < ops.size → listed.getD i false = true := by
    intro listed hsz hr
    have key : ∀ (r pre : List (Nat × Nat)), q = pre ++ r → (∀ x ∈ pre, listed.getD x.1 false = true) → ∀ x ∈ r, listed.getD x.1 false = true := by
      intro r
      induction r with
      | nil => intro pre _ _ x hx; cases hx
      | cons y r ih =>
        intro pre hq hpre
        have hy : listed.getD y.1 false = true := by
          cases hly : listed.getD y.1 false with
          | true => rfl
          | false =>
            exfalso
            have hyl : y.1 < ops.size := hO.lt y (by rw [hq]; simp)
            have hmem : y.1 ∈ Region.ready .any ops listed := by
              rw [mem_ready]
              refine ⟨getT listed y.1 (by omega) hly, _, Array.getElem?_eq_getElem hyl, fun e he hb => ?_⟩
              obtain ⟨c', hc'⟩ := hO.topo pre y.1 y.2 r hq _ (Array.getElem?_eq_getElem hyl) e he hb
              exact hpre _ hc'
            rw [hr] at hmem
            cases hmem
        intro x hx
        rcases List.mem_cons.1 hx with rfl | hx
        · exact hy
        · exact ih (pre ++ [y]) (by rw [hq]; simp) (fun z hz => by
            rcases List.mem_append.1 hz with hz | hz
            · exact hpre z hz
            · rw [List.mem_singleton.1 hz]; exact hy) x hx
    intro i hi
    obtain ⟨c, hc⟩ := hO.all i hi
    exact key q [] rfl (fun x hx => absurd hx List.not_mem_nil) _ hc
  intro fuel
  induction fuel with
  | zero =>
    intro listed K a pre post pd st h hsz hcount
    have hallt : ∀ x ∈ listed.toList, x = true := by
      have h1 : (listed.toList.filter id).length = listed.toList.length := by
        have h2 := List.length_filter_le id listed.toList
        simp only [Array.length_toList] at h2 ⊢
        omega
      intro x hx
      have := List.length_filter_eq_length_iff.1 h1 x hx
      simpa using this
    have hall : ∀ i, i < ops.size → listed.getD i false = true := fun i hi => by
      have hil : i < listed.size := by omega
      simp only [Array.getD_eq_getD_getElem?, Array.getElem?_eq_getElem hil, Option.getD_some]
      exact hallt _ (by simp)
    refine ⟨?_, hover listed K a pre post pd st h hall⟩
    unfold Region.ready
    rw [List.filter_eq_nil_iff]
    intro i hi
    have hil : i < ops.size := List.mem_range.1 hi
    have h1 := hall i hil
    have : listed.getD i true = true := by
      have hil' : i < listed.size := by omega
      simp only [Array.getD_eq_getD_getElem?, Array.getElem?_eq_getElem hil', Option.getD_some] at h1 ⊢
      exact h1
    simp [this]
  | succ fuel ih =>
    intro listed K a pre post pd st h hsz hcount
    refine ⟨fun hr => hover listed K a pre post pd st h (hready listed hsz hr), fun i hi => ?_⟩
    obtain ⟨hli, o, ho, hafter⟩ := mem_ready.1 hi
    have hil : i < ops.size := (Array.getElem?_eq_some_iff.1 ho).1
    have hill : i < listed.size := by omega
    have hnl : listed.getD i false = false := by
      simp only [Array.getD_eq_getD_getElem?, Array.getElem?_eq_getElem hill, Option.getD_some] at hli ⊢
      exact hli
    have hcount' : ops.size ≤ fuel + ((listed.setIfInBounds i true).toList.filter id).length := by
      have h1 : ((listed.setIfInBounds i true).toList.filter id).length = (listed.toList.filter id).length + 1 := by
        rw [Array.toList_setIfInBounds]
        have hill' : i < listed.toList.length := by simpa using hill
        have hget : listed.toList[i] = false := by
          simp only [Array.getElem_toList]
          simpa [Array.getD_eq_getD_getElem?, Array.getElem?_eq_getElem hill] using hnl
        rw [List.set_eq_take_append_cons_drop, if_pos hill']
        conv => rhs; rw [← List.take_append_drop i listed.toList, List.drop_eq_getElem_cons hill', hget]
        simp [List.filter_append, List.filter_cons]
        omega
      omega
    have setI : (listed.setIfInBounds i true).getD i false = true := by simp [hill]
    have getSet : ∀ j, (listed.setIfInBounds i true).getD j false = true → j = i ∨ listed.getD j false = true := fun j h => getD_setB h
    have getUnset : ∀ j, (listed.setIfInBounds i true).getD j false = false → j ≠ i ∧ listed.getD j false = false := fun j h => by
      by_cases e : i = j
      · subst e; simp [hill] at h
      · refine ⟨Ne.symm e, ?_⟩
        simpa [Array.getElem?_setIfInBounds_ne e] using h
    have hclosed : Closed ops (listed.setIfInBounds i true) := by
      intro j oj hoj hj e he hb
      rcases getSet j hj with rfl | hj
      · rw [ho] at hoj; cases hoj
        exact getD_set_true (hafter e he hb)
      · exact getD_set_true (h.closed j oj hoj hj e he hb)
    have hlook : ∀ t ∈ o.looksAt ops, ∀ v u, st.ρ[t]? = some v → a.tmps[t]? = some u → Rel K v u := by
      intro t ht v u hv hu
      by_cases hex : ∃ j, dstOf ops j = some t
      · obtain ⟨j, hj⟩ := hex
        obtain ⟨_, e, he, hb, hej⟩ := hO.looks i o ho t ht j hj
        have hlj := hafter e he hb
        rw [hej] at hlj
        exact h.done j t hlj hj v u hv hu
      · exact h.other t (fun j hj => hex ⟨j, hj⟩) v u hv hu
    have hwant : ∀ b, wantV ops st.ρ o = some b → Region.wanted o (yielded ops a.tmps) = b := by
      intro b hb
      unfold wantV at hb
      split at hb
      · rename_i hg
        simp only [Option.some.injEq] at hb
        subst hb
        simp [Region.wanted, hg]
      · rename_i j w hg
        split at hb
        · cases hb
        · rename_i dj hdj
          have hmemd : dj ∈ o.looksAt ops := looks_guard hg hdj
          have hlt : ∀ x, st.ρ[dj]? = some x → ∃ u, a.tmps[dj]? = some u ∧ Rel K x u := by
            intro x hx
            have hdjl : dj < a.tmps.size := by rw [h.size, ← h.len]; exact (List.getElem?_eq_some_iff.1 hx).1
            exact ⟨_, Array.getElem?_eq_getElem hdjl, hlook dj hmemd x _ hx (Array.getElem?_eq_getElem hdjl)⟩
          split at hb
          · rename_i x hx
            obtain ⟨u, hu, hr⟩ := hlt _ hx
            simp only [Option.some.injEq] at hb
            subst hb
            cases hr
            simp [Region.wanted, hg, yielded, hdj, hu]
          · rename_i hx
            obtain ⟨u, hu, hr⟩ := hlt _ hx
            simp only [Option.some.injEq] at hb
            subst hb
            have hu' : u = Go.undef := by
              have hz : ∀ u, Rel K .undef u → u = Go.undef := fun u h => by cases h; rfl
              exact hz u hr
            subst hu'
            simp [Region.wanted, hg, yielded, hdj, hu, Go.undef, noResult]
          · cases hb
    let ev : Operand → V := fun x => match x with
      | .tmp t => if t ∈ o.looksAt ops then evOp st.ρ (.tmp t) else .any
      | x => evOp st.ρ x
    have hev : ∀ x ∈ o.op.operands, ev x = evOp st.ρ x := by
      intro x hx
      cases x with
      | tmp t => simp only [ev]; rw [if_pos (looks_op hx)]
      | _ => rfl
    have hrel : ∀ x, Rel K (ev x) (a.eval x) := by
      intro x
      cases x with
      | tmp t =>
        simp only [ev]
        split
        · rename_i ht
          simp only [evOp, Act.eval, List.getD_eq_getElem?_getD, Array.getD_eq_getD_getElem?]
          by_cases htl : t < n
          · have h1 : st.ρ[t]? = some (st.ρ[t]'(by rw [h.len]; exact htl)) := List.getElem?_eq_getElem _
            have h2 : a.tmps[t]? = some (a.tmps[t]'(by rw [h.size]; exact htl)) := Array.getElem?_eq_getElem _
            rw [h1, h2]
            exact hlook t ht _ _ h1 h2
          · rw [List.getElem?_eq_none (by rw [h.len]; exact Nat.le_of_not_lt htl), Array.getElem?_eq_none (by rw [h.size]; exact Nat.le_of_not_lt htl)]
            exact .undef
        · exact .any _
      | const v => exact ofV_rel K v
      | global g => exact .any _
      | func f => exact .fn (.func f) [] [] #[] #[] rfl rfl (fun j h => absurd h (by simp)) (fun j h => absurd h (by simp))
    obtain ⟨c, hcq⟩ := hO.all i hil
    unfold wpOpIn
    simp only [ho]
    rw [h.split] at hcq
    rcases List.mem_append.1 hcq with hcp | hcp
    · -- it has been gone through
      have hc1 : isE c = false := by
        cases hce : isE c with
        | false => rfl
        | true =>
          have := h.effs i c hce hcp
          rw [hnl] at this
          cases this
      obtain ⟨o', d, ho', hd, hfact⟩ := h.facts i c hcp hnl
      rw [ho] at ho'
      cases ho'
      have hd0 : dstOf ops i = some d := by simp [dstOf, ho, hd]
      have next : ∀ (v : V) (K' : Kw) (u : Value), Ext K K' → Mem P B p0 K' st.L st.T → Rel K' v u → (d < st.ρ.length → st.ρ[d]? = some v) → wpAnyIn (WR ro) 0 P .any ops Q fuel (listed.setIfInBounds i true) (a.put o.dst u) K'.w := by
        intro v K' u hext hm' hr hv
        have hput : (a.put o.dst u).tmps = a.tmps.setIfInBounds d u := by rw [hd]; rfl
        refine ih _ K' _ pre post pd st ⟨fun j hj hlj => h.pend j hj (getUnset j hlj).2, h.split, h.head, fun e ce hce he => getD_set_true (h.effs e ce hce he), fun j hj => ?_, h.W, h.len, hm', by rw [hput]; simp [h.size], fun j d' hj hdj v' u' hv' hu' => ?_, fun d' hno v' u' hv' hu' => ?_, fun j c' hj hlj => h.facts j c' hj (getUnset j hlj).2, hclosed, by rw [hd]; exact h.defers.ext hext⟩ (by simpa using hsz) hcount'
        · rcases getSet j hj with rfl | hj
          · exact ⟨c, hcp⟩
          · exact h.inpre j hj
        · rw [hput] at hu'
          by_cases e : d = d'
          · subst e
            have hdl : d < a.tmps.size := by
              rcases Nat.lt_or_ge d a.tmps.size with h1 | h1
              · exact h1
              · rw [Array.getElem?_eq_none (by simpa using h1)] at hu'; cases hu'
            rw [Array.getElem?_setIfInBounds_self_of_lt hdl] at hu'
            cases hu'
            rw [hv (by rw [h.len, ← h.size]; exact hdl)] at hv'
            cases hv'
            exact hr
          · rw [Array.getElem?_setIfInBounds_ne e] at hu'
            rcases getSet j hj with rfl | hj
            · rw [hd0] at hdj; cases hdj; exact absurd rfl e
            · exact (h.done j d' hj hdj v' u' hv' hu').ext hext
        · rw [hput] at hu'
          have e : d ≠ d' := fun e => hno i (by rw [hd0, e])
          rw [Array.getElem?_setIfInBounds_ne e] at hu'
          exact (h.other d' hno v' u' hv' hu').ext hext
      rcases hfact with ⟨hw, p, v, hs, hp, hv⟩ | ⟨hw, hv⟩
      · rw [if_pos (hwant true hw)]
        refine owp_in ?_ _ _
        rw [← stepD_congr o.op hev] at hs
        have hs' : stepD τ Γ st.L ev o.op = some (p, v) := by
          unfold clsL at hs
          cases hc2 : (c == 2 || c == 3) with
          | true => rw [hc2, cond_true] at hs; exact hs
          | false =>
            rw [hc2, cond_false] at hs
            have := stepD_more (X := st.L) hs
            simpa using this
        exact d_wp hτ hΓ h.mem hrel hs' hp fun K' u he hb hm' hr => next v K' u he hm' hr hv
      · rw [if_neg (by rw [hwant false hw]; simp)]
        exact ⟨fun _ _ => trivial, next .undef K _ (Ext.refl K) h.mem .undef hv⟩
    · -- it is the next that turns memory
      have hhead : ∃ ce r, isE ce = true ∧ post = (i, ce) :: r := by
        rcases h.head with e | ⟨e, ce, r, hce, he⟩
        · rw [e] at hcp; cases hcp
        · rw [he] at hcp
          rcases List.mem_cons.1 hcp with e1 | hcr
          · simp only [Prod.mk.injEq] at e1
            exact ⟨ce, r, hce, by rw [he, e1.1]⟩
          · exfalso
            obtain ⟨p2, r2, e2⟩ := List.append_of_mem hcr
            have hanc := hO.effs (pre ++ (e, ce) :: p2) i c r2 (by rw [h.split, he, e2]; simp) e ce hce (by simp)
            have hle := hanc.ready h.closed ho hafter
            obtain ⟨c', hc'⟩ := h.inpre e hle
            exact (hO.apart h.split hc' (by rw [he]; simp : (e, ce) ∈ post)).1 rfl
      obtain ⟨ce, r, hce, hr0⟩ := hhead
      have hW := h.W
      rw [hr0] at hW
      obtain ⟨o', ho', hcase⟩ := awpQ_cases hW
      rw [ho] at ho'
      cases ho'
      have hsplit : q = pre ++ (i, ce) :: r := by rw [h.split, hr0]
      have go : ∀ (pdn : List (Op × Tmp)) (v : V) (K' : Kw) (u : Value) (L' : List (List V)) (T' : List (Nat × TypeId)), Ext K K' → Mem P B p0 K' L' T' → Rel K' v u → (ce = 4 ∨ (L' = st.L ∨ stableQ τ Γ pd ⟨setO st.ρ o.dst v, L', T'⟩) ∧ pdn = pd) → awpQ τ Γ ops r pdn Kont ⟨setO st.ρ o.dst v, L', T'⟩ → wpAnyIn (WR ro) 0 P .any ops Q fuel (listed.setIfInBounds i true) (a.put o.dst u) K'.w := by
        intro pdn v K' u L' T' hext hm' hr hstab hrest
        have late : ∀ j, (j, 3) ∈ pre → listed.getD j false = false → (L' = st.L ∨ stableQ τ Γ pd ⟨setO st.ρ o.dst v, L', T'⟩) ∧ pdn = pd := fun j hj hlj => by
          rcases hstab with h4 | h
          · subst h4
            have := (hO.waits pre i r hsplit j hj).ready h.closed ho hafter
            rw [hlj] at this
            cases this
          · exact h
        obtain ⟨mid, post', ρ', pd', e1, h2, h3, h4, h5, h6, h7, h8, h9⟩ := awpQ_adv hO r (pre ++ [(i, ce)]) pdn ⟨setO st.ρ o.dst v, L', T'⟩ (by rw [hsplit]; simp) (by rw [setO_length]; exact h.len) hrest
        have keep : ∀ t, dstOf ops i ≠ some t → (∀ x ∈ mid, dstOf ops x.1 ≠ some t) → ρ'[t]? = st.ρ[t]? := fun t hi hm => by
          rw [h6 t hm]
          cases hd : o.dst with
          | none => rfl
          | some d => exact List.getElem?_set_ne fun e => hi (by simp [dstOf, ho, hd, e])
        have behind : ∀ x ∈ (i, ce) :: mid, (x.1, x.2) ∈ (i, ce) :: r := fun x hx => by
          rcases List.mem_cons.1 hx with rfl | hx
          · simp
          · rw [e1]; exact List.mem_cons_of_mem _ (List.mem_append_left _ hx)
        have apart : ∀ j c', (j, c') ∈ pre → (∀ x ∈ (i, ce) :: mid, j ≠ x.1 ∧ (∀ o, ops[j]? = some o → ∀ t ∈ o.looksAt ops, dstOf ops x.1 ≠ some t) ∧ ∀ d, dstOf ops j = some d → dstOf ops x.1 ≠ some d) := fun j c' hj x hx =>
          hO.apart hsplit hj (behind x hx)
        have keepD : ∀ j c', (j, c') ∈ pre → ∀ d, dstOf ops j = some d → ρ'[d]? = st.ρ[d]? := fun j c' hj d hd => keep d ((apart j c' hj (i, ce) (by simp)).2.2 d hd) fun x hx => (apart j c' hj x (List.mem_cons_of_mem _ hx)).2.2 d hd
        have notin : ∀ x ∈ mid, x.1 ≠ i := fun x hx => by
          have hxr : (x.1, x.2) ∈ r := by rw [e1]; exact List.mem_append_left _ hx
          exact Ne.symm (hO.apart (pre := pre ++ [(i, ce)]) (post := r) (by rw [hsplit]; simp) (j := i) (c := ce) (by simp) hxr).1
        have hmidun : ∀ x ∈ mid, listed.getD x.1 false = false := fun x hx => by
          cases hl : listed.getD x.1 false with
          | false => rfl
          | true =>
            obtain ⟨c', hc'⟩ := h.inpre x.1 hl
            exact absurd rfl (apart x.1 c' hc' x (List.mem_cons_of_mem _ hx)).1
        have hput : ∀ t u', (a.put o.dst u).tmps[t]? = some u' → (dstOf ops i = some t ∧ u' = u) ∨ (dstOf ops i ≠ some t ∧ a.tmps[t]? = some u') := fun t u' hu' => by
          cases hd : o.dst with
          | none => rw [hd] at hu'; exact .inr ⟨by simp [dstOf, ho, hd], hu'⟩
          | some d =>
            rw [hd] at hu'
            simp only [Act.put] at hu'
            by_cases e : d = t
            · subst e
              have hdl : d < a.tmps.size := by
                rcases Nat.lt_or_ge d a.tmps.size with h1 | h1
                · exact h1
                · rw [Array.getElem?_eq_none (by simpa using h1)] at hu'; cases hu'
              rw [Array.getElem?_setIfInBounds_self_of_lt hdl] at hu'
              exact .inl ⟨by simp [dstOf, ho, hd], by cases hu'; rfl⟩
            · rw [Array.getElem?_setIfInBounds_ne e] at hu'
              exact .inr ⟨by simp [dstOf, ho, hd, e], hu'⟩
        have hputs : (a.put o.dst u).tmps.size = n := by
          cases hd : o.dst with
          | none => exact h.size
          | some d => simp [Act.put, h.size]
        refine ih _ K' _ (pre ++ (i, ce) :: mid) post' pd' ⟨ρ', L', T'⟩ ⟨fun j hj hlj => ?_, by rw [hsplit, e1]; simp, h3, fun e ce' hce' he => ?_, fun j hj => ?_, h4, h5, hm', hputs, fun j d' hj hdj v' u' hv' hu' => ?_, fun d' hno v' u' hv' hu' => ?_, fun j c' hj hlj => ?_, hclosed, by cases hd : o.dst <;> exact h.defers.ext hext⟩ (by simpa using hsz) hcount'
        · rcases List.mem_append.1 hj with hj | hj
          · intro oj hoj
            have hag : ∀ t ∈ oj.looksAt ops, ρ'[t]? = st.ρ[t]? := fun t ht => keep t ((apart j 3 hj (i, ce) (by simp)).2.1 oj hoj t ht) fun x hx => (apart j 3 hj x (List.mem_cons_of_mem _ hx)).2.1 oj hoj t ht
            have hlj2 := (getUnset j hlj).2
            obtain ⟨_, hpe⟩ := late j hj hlj2
            rcases h.pend j hj hlj2 oj hoj with hw | ⟨d, hd, hm⟩
            · exact .inl (by rw [wantV_congr hag]; exact hw)
            · exact .inr ⟨d, hd, h8 _ (by rw [hpe]; exact hm)⟩
          · rcases List.mem_cons.1 hj with e | hj
            · simp only [Prod.mk.injEq] at e
              rw [← e.2] at hce
              cases hce
            · exact h9 _ hj rfl
        · rcases List.mem_append.1 he with he | he
          · exact getD_set_true (h.effs e ce' hce' he)
          · rcases List.mem_cons.1 he with he | he
            · simp only [Prod.mk.injEq] at he
              rw [he.1]; exact setI
            · have := h2 _ he
              rw [hce'] at this
              cases this
        · rcases getSet j hj with rfl | hj
          · exact ⟨ce, by simp⟩
          · obtain ⟨c', hc'⟩ := h.inpre j hj
            exact ⟨c', by simp [hc']⟩
        · rcases getSet j hj with rfl | hj
          · have hv2 : ρ'[d']? = some v := by
              rw [h6 d' fun x hx => by
                have hxr : (x.1, x.2) ∈ r := by rw [e1]; exact List.mem_append_left _ hx
                exact (hO.apart (pre := pre ++ [(j, ce)]) (post := r) (by rw [hsplit]; simp) (j := j) (c := ce) (by simp) hxr).2.2 d' hdj]
              have hd : o.dst = some d' := by simpa [dstOf, ho] using hdj
              have hdl : d' < st.ρ.length := by rw [h.len, ← hputs]; exact (Array.getElem?_eq_some_iff.1 hu').1
              rw [hd]
              exact List.getElem?_set_self hdl
            rw [hv2] at hv'
            cases hv'
            rcases hput d' u' hu' with ⟨_, rfl⟩ | ⟨hne, _⟩
            · exact hr
            · exact absurd hdj hne
          · obtain ⟨c', hc'⟩ := h.inpre j hj
            rw [keepD j c' hc' d' hdj] at hv'
            rcases hput d' u' hu' with ⟨he, _⟩ | ⟨_, hu2⟩
            · exact absurd he ((apart j c' hc' (i, ce) (by simp)).2.2 d' hdj)
            · exact (h.done j d' hj hdj v' u' hv' hu2).ext hext
        · rw [keep d' (hno i) fun x _ => hno x.1] at hv'
          rcases hput d' u' hu' with ⟨he, _⟩ | ⟨_, hu2⟩
          · exact absurd he (hno i)
          · exact (h.other d' hno v' u' hv' hu2).ext hext
        · obtain ⟨hji, hlj⟩ := getUnset j hlj
          rcases List.mem_append.1 hj with hj | hj
          · have hf := h.facts j c' hj hlj
            have hc2 : c' ≠ 2 := fun e => by
              subst e
              have := (hO.reads pre i ce r hce hsplit j hj).ready h.closed ho hafter
              rw [hlj] at this
              cases this
            have hlk : ∀ oj, ops[j]? = some oj → ∀ t ∈ oj.looksAt ops, ρ'[t]? = st.ρ[t]? := fun oj hoj t ht => keep t ((apart j c' hj (i, ce) (by simp)).2.1 oj hoj t ht) fun x hx => (apart j c' hj x (List.mem_cons_of_mem _ hx)).2.1 oj hoj t ht
            by_cases hc3 : c' = 3
            · subst hc3
              obtain ⟨hstab, hpe⟩ := late j hj hlj
              rcases hstab with hL | hstab
              · exact hf.congr (by show clsL 3 L' = clsL 3 st.L; rw [hL]) (by show ρ'.length = _; rw [h5, h.len]) hlk (fun d hd => keepD j 3 hj d hd)
              · obtain ⟨oj, d, hoj, hdj, hcase⟩ := hf
                refine ⟨oj, d, hoj, hdj, ?_⟩
                have hdv : ρ'[d]? = st.ρ[d]? := keepD j 3 hj d (by simp [dstOf, hoj, hdj])
                rcases hcase with ⟨hw, p, w, hs, hp, hv⟩ | ⟨hw, hv⟩
                · left
                  refine ⟨by rw [wantV_congr (hlk oj hoj)]; exact hw, ?_⟩
                  rcases h.pend j hj hlj oj hoj with hw2 | ⟨d2, hd2, hm⟩
                  · rw [hw] at hw2; cases hw2
                  · rw [hdj] at hd2
                    cases hd2
                    have hst : ∀ (l : List (Op × Tmp)) (s : St), stableQ τ Γ l s → ∀ x ∈ l, match stepD τ Γ s.L (evOp s.ρ) x.1 with | some (p, v) => p ∧ s.ρ[x.2]? = some v | none => False := by
                      intro l s
                      induction l with
                      | nil => intro _ x hx; cases hx
                      | cons y l ihl =>
                        intro hs x hx
                        rcases List.mem_cons.1 hx with rfl | hx
                        · exact hs.1
                        · exact ihl hs.2 x hx
                    have hone := hst _ _ hstab _ hm
                    simp only at hone
                    have hag : ∀ t ∈ oj.looksAt ops, (setO st.ρ o.dst v)[t]? = ρ'[t]? := fun t ht => by
                      rw [hlk oj hoj t ht]
                      cases hd : o.dst with
                      | none => rfl
                      | some d' => exact List.getElem?_set_ne fun e => (apart j 3 hj (i, ce) (by simp)).2.1 oj hoj t ht (by simp [dstOf, ho, hd, e])
                    rw [stepD_congr oj.op (evOp_agree hag)] at hone
                    split at hone
                    · rename_i p' v' hs'
                      refine ⟨p', v', hs', hone.1, fun hl => ?_⟩
                      rw [hdv]
                      have : (setO st.ρ o.dst v)[d]? = st.ρ[d]? := by
                        cases hd : o.dst with
                        | none => rfl
                        | some d' => exact List.getElem?_set_ne fun e => (apart j 3 hj (i, ce) (by simp)).2.2 d (by simp [dstOf, hoj, hdj]) (by simp [dstOf, ho, hd, e])
                      rw [← this]
                      exact hone.2
                    · exact hone.elim
                · right
                  exact ⟨by rw [wantV_congr (hlk oj hoj)]; exact hw, fun hl => by
                    have hl' : d < ρ'.length := hl
                    rw [h5, ← h.len] at hl'
                    show ρ'[d]? = _
                    rw [hdv]; exact hv hl'⟩
            refine hf.congr ?_ (by rw [h5, h.len]) hlk (fun d hd => keepD j c' hj d hd)
            unfold clsL
            rw [show (c' == 2) = false by simpa using hc2, show (c' == 3) = false by simpa using hc3]
            rfl
          · rcases List.mem_cons.1 hj with e | hj
            · simp only [Prod.mk.injEq] at e
              exact absurd e.1 hji
            · exact h7 (j, c') hj
      rcases hcase with ⟨hw, hs⟩ | ⟨hw, hs⟩
      · rw [if_pos (hwant true hw)]
        refine owp_in ?_ _ _
        simp only [stepQ, hce, cond_true] at hs
        unfold awpExec at hs
        rw [← execE_congr o.op hev] at hs
        exact execE_wp hτ hΓ h.mem hrel hs fun K' u v L' T' hk he hm' hr => by
          unfold nextQ at hk
          cases h4 : (ce == 4) with
          | true =>
            rw [h4, cond_true] at hk
            exact go [] v K' u L' T' he hm' hr (.inl (by simpa using h4)) hk
          | false =>
            have h1 : (ce == 1) = true := by simpa [isE, h4] using hce
            rw [h4, cond_false, h1, cond_true] at hk
            exact go pd v K' u L' T' he hm' hr (.inr ⟨.inr hk.1, rfl⟩) hk.2
      · rw [if_neg (by rw [hwant false hw]; simp)]
        exact ⟨fun _ _ => trivial, go pd .undef K _ st.L st.T (Ext.refl K) h.mem .undef (.inr ⟨.inl rfl, rfl⟩) hs⟩
end
end Go.Proofs.YtckmcglkjfkghaaDoor.Aw
