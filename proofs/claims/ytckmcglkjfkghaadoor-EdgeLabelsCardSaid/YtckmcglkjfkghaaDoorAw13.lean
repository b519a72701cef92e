import Derived.Test.YtckmcglkjfkghaaDoorAwR
import Derived.Test.YtckmcglkjfkghaaDoorAwW
namespace Go.Proofs.YtckmcglkjfkghaaDoor.Aw
open Go Go.RowKit
set_option linter.unusedVariables false
set_option linter.unusedSimpArgs false
def V.under (n m : Nat) : V → Prop
  | .bytes _ t => ∀ k, t = some k → k < n
  | .list _ l t => (∀ k, t = some k → k < n) ∧ ∀ v ∈ l, v.under n m
  | .agg l => ∀ v ∈ l, v.under n m
  | .tuple l => ∀ v ∈ l, v.under n m
  | .box o _ => o < m
  | .mrow _ o _ _ => o < m
  | .vrow _ _ o _ => o < m
  | .mref o => o < m
  | .iter o => o < m
  | .iter0 => False
  | .mapc _ _ _ => False
  | .iterc _ _ _ _ => False
  | .ref v => v.under n m
  | .fn _ l k => (∀ v ∈ l, v.under n m) ∧ ∀ v ∈ k, v.under n m
  | _ => True
theorem under_cells {n m : Nat} : ∀ {v : V}, v.under n m → ∀ x ∈ v.cells, x.under n m := by
  intro v h x hx
  cases v <;> simp only [V.cells, List.mem_singleton] at hx <;> first | (subst hx; exact h) | skip
  simp only [V.under] at h
  exact h x hx
theorem Rel.lower {K K2 : Kw} {n m : Nat} (hrd : ∀ a u, K.rd a u → K2.rd a u) (ht : ∀ k, k < n → K2.toks[k]? = K.toks[k]?) (hb : ∀ o : Nat, o < m → K2.boxes[o]? = K.boxes[o]?) (hsz : ∀ (b : Nat) s, K.w.shp b = some s → K2.w.shp b = some s) {x : V} {v : Value} (hr : Rel K x v) : x.under n m → Rel K2 x v := by
  have tk : ∀ {t : Option Nat} {j : Nat} {u : Value}, (∀ k, t = some k → k < n) → K.tokOk t j u → K2.tokOk t j u := by
    intro t j u hlt h
    cases t with
    | none => trivial
    | some k =>
      obtain ⟨u', m', e, h1, h2, h3⟩ := h
      exact ⟨u', m', e, by rw [ht k (hlt k rfl)]; exact h1, h2, h3⟩
  induction hr with
  | any v => exact fun _ => .any v
  | undef => exact fun _ => .undef
  | int k n => exact fun _ => .int k n
  | bool b => exact fun _ => .bool b
  | may p q b hp hq => exact fun _ => .may p q b hp hq
  | str l => exact fun _ => .str l
  | raw v => exact fun _ => .raw v
  | nils => exact fun _ => .nils
  | zero A => exact fun _ => .zero A
  | bytes l t A c hc hm hr htk =>
    intro h
    simp only [V.under] at h
    exact .bytes l t A c hc hm (fun j hj => let ⟨ad, e, r⟩ := hr j hj; ⟨ad, e, hrd _ _ r⟩) (tk h htk)
  | list sz l t A c f hc hm hs hr hf htk ih =>
    intro h
    simp only [V.under] at h
    refine .list sz l t A c f hc hm hs (fun j hj => let ⟨⟨ad, e, r⟩, o⟩ := hr j hj; ⟨⟨ad, e, hrd _ _ r⟩, o⟩) (fun j hj => ih j hj ?_) (tk h.1 htk)
    obtain ⟨v, hv, hx⟩ := List.mem_flatMap.1 (List.getElem_mem hj)
    exact under_cells (h.2 v hv) _ hx
  | agg l vs hl ho hj ih =>
    intro h
    simp only [V.under] at h
    exact .agg l vs hl ho fun j hj => ih j hj (h _ (List.getElem_mem hj))
  | tuple l vs hl hj ih =>
    intro h
    simp only [V.under] at h
    exact .tuple l vs hl fun j hj => ih j hj (h _ (List.getElem_mem hj))
  | box o off b hbx s hs =>
    intro h
    simp only [V.under] at h
    exact .box o off b (by rw [hb o h]; exact hbx) s (hsz _ _ hs)
  | vrow em sz o n A c hc hm hA =>
    intro h
    simp only [V.under] at h
    exact .vrow em sz o n A c hc hm (hA.imp id fun ⟨b, m1, e, hbx, hs, hle⟩ => ⟨b, m1, e, by rw [hb o h]; exact hbx, hsz _ _ hs, hle⟩)
  | mref o b hbx =>
    intro h
    simp only [V.under] at h
    exact .mref o b (by rw [hb o h]; exact hbx)
  | iter o b hbx =>
    intro h
    simp only [V.under] at h
    exact .iter o b (by rw [hb o h]; exact hbx)
  | mrow em o off n A c hc hm hA =>
    intro h
    simp only [V.under] at h
    exact .mrow em o off n A c hc hm (hA.imp id fun ⟨b, m1, e, hbx, hs, hle⟩ => ⟨b, m1, e, by rw [hb o h]; exact hbx, hsz _ _ hs, hle⟩)
  | ref v ad f hr hf ih =>
    intro h
    simp only [V.under] at h
    exact .ref v ad f (fun j hj => ⟨hrd _ _ (hr j hj).1, (hr j hj).2⟩) fun j hj => ih j hj (under_cells h _ (List.getElem_mem hj))
  | fn f l m vs us hl hm h1 h2 ih1 ih2 =>
    intro h
    simp only [V.under] at h
    exact .fn f l m vs us hl hm (fun j hj => ih1 j hj (h.1 _ (List.getElem_mem hj))) fun j hj => ih2 j hj (h.2 _ (List.getElem_mem hj))
def leLL : List (List V) → List (List V) → Prop
  | _, [] => True
  | x :: L, y :: L' => V.le.leL x y ∧ leLL L L'
  | [], _ :: _ => False
def St.le (st st' : St) : Prop :=
  V.le.leL st.ρ st'.ρ ∧ leLL st.L st'.L ∧ st.T.take st'.T.length = st'.T ∧
    ((st.T.length = st'.T.length ∧ st.L.length = st'.L.length) ∨
      ((∀ v ∈ st'.ρ, v.under st'.T.length st'.L.length) ∧ ∀ l ∈ st'.L, ∀ v ∈ l, v.under st'.T.length st'.L.length))
theorem leLL_spec : ∀ {L L' : List (List V)}, leLL L L' → L'.length ≤ L.length ∧ ∀ (o : Nat) (y : List V), L'[o]? = some y → ∃ x, L[o]? = some x ∧ V.le.leL x y
  | _, [], _ => ⟨by simp, fun o y h => by simp at h⟩
  | x :: L, y :: L', h => by
    obtain ⟨h1, h2⟩ := h
    obtain ⟨l1, r⟩ := leLL_spec h2
    refine ⟨by simp; omega, fun o z hz => ?_⟩
    cases o with
    | zero => simp at hz; subst hz; exact ⟨x, rfl, h1⟩
    | succ o => simpa using r o z (by simpa using hz)
  | [], _ :: _, h => h.elim
section
variable {P : Program} {τ : Tys} {Γ : Fns} {B : World} {p0 : Bs} {K : Kw} {st st' : St} {a : Act}
theorem Inv.le (h : Inv P B p0 K st a) (hle : St.le st st') (hnb : p0.nb ≤ st'.L.length) (hnt : p0.nt ≤ st'.T.length) : ∃ K', K'.w = K.w ∧ Inv P B p0 K' st' a := by
  obtain ⟨h1, h2, h3, h4⟩ := hle
  obtain ⟨hlen, hleq⟩ := leLL_spec h2
  let n := st'.T.length
  let m := st'.L.length
  let K' : Kw := { K with toks := K.toks.take n, boxes := K.boxes.take m }
  have htok : ∀ k, k < n → K'.toks[k]? = K.toks[k]? := fun k hk => by simp only [K']; rw [List.getElem?_take_of_lt hk]
  have hbox : ∀ o : Nat, o < m → K'.boxes[o]? = K.boxes[o]? := fun o ho => by simp only [K']; rw [List.getElem?_take_of_lt ho]
  have hsub : ∀ {k : Nat} {t}, K'.toks[k]? = some t → K.toks[k]? = some t ∧ k < n := fun {k t} hk => by
    have hlt : k < n := by
      have := (List.getElem?_eq_some_iff.1 hk).1
      simp only [K', List.length_take] at this
      omega
    exact ⟨by rw [← htok k hlt]; exact hk, hlt⟩
  have hsubB : ∀ {o b : Nat}, K'.boxes[o]? = some (some b) → K.boxes[o]? = some (some b) := fun {o b} ho => by
    have hlt : o < m := by
      have := (List.getElem?_eq_some_iff.1 ho).1
      simp only [K', List.length_take] at this
      omega
    rw [← hbox o hlt]; exact ho
  have conv : ∀ (x y : V) (u : Value), V.le x y → Rel K x u → ((∀ _k : Nat, y.under n m) ∨ (n = st.T.length ∧ m = st.L.length)) → Rel K' y u := by
    intro x y u hxy hr hc
    have hr' := le_rel x y hxy u hr
    rcases hc with hc | ⟨e1, e2⟩
    · exact Rel.lower (K := K) (K2 := K') (fun _ _ h => h) htok hbox (fun _ _ h => h) hr' (hc 0)
    · have et : K.toks.take n = K.toks := by rw [List.take_of_length_le]; rw [e1, ← h.mem.toks]; simp
      have eb : K.boxes.take m = K.boxes := by rw [List.take_of_length_le]; rw [e2, h.mem.boxes.1]; exact Nat.le_refl _
      have : K' = K := by simp only [K', et, eb]
      rw [this]
      exact hr'
  have hcond : ∀ y : V, (y ∈ st'.ρ ∨ ∃ l ∈ st'.L, y ∈ l) → ((∀ _k : Nat, y.under n m) ∨ (n = st.T.length ∧ m = st.L.length)) := by
    intro y hy
    rcases h4 with ⟨e1, e2⟩ | ⟨b1, b2⟩
    · exact .inr ⟨e1.symm, e2.symm⟩
    · left
      intro _
      rcases hy with hy | ⟨l, hl, hy⟩
      · exact b1 y hy
      · exact b2 l hl y hy
  have convL : ∀ (l l' : List V), V.le.leL l l' → (∀ y ∈ l', (∀ _k : Nat, y.under n m) ∨ (n = st.T.length ∧ m = st.L.length)) → l.length = l'.length ∧ ∀ (f : Nat → Value), (∀ j (h : j < l.length), Rel K l[j] (f j)) → ∀ j (h : j < l'.length), Rel K' l'[j] (f j) := by
    intro l
    induction l with
    | nil =>
      intro l' hl _
      cases l' with
      | nil => exact ⟨rfl, fun _ _ _ h => absurd h (by simp)⟩
      | cons _ _ => exact hl.elim
    | cons x l ih =>
      intro l' hl hc
      cases l' with
      | nil => exact hl.elim
      | cons y l' =>
        obtain ⟨hx, hl⟩ := hl
        obtain ⟨e, r⟩ := ih l' hl fun z hz => hc z (List.mem_cons_of_mem _ hz)
        refine ⟨by simp [e], fun f hf j hj => ?_⟩
        cases j with
        | zero => exact conv x y _ hx (hf 0 (by simp)) (hc y (by simp))
        | succ j =>
          simp only [List.length_cons] at hj
          exact r (fun k => f (k + 1)) (fun k hk => hf (k + 1) (by simp; omega)) j (by omega)
  obtain ⟨hρl, hρr⟩ := convL st.ρ st'.ρ h1 fun y hy => hcond y (.inl hy)
  refine ⟨K', rfl, ⟨⟨h.mem.below, h.mem.old, h.mem.there, ⟨?_, fun o cs ho => ?_⟩, fun b hb => h.mem.boxGe b (List.mem_of_mem_take hb), fun o b cs ho hc hne o' => ?_, fun o o' b h1 h2 => h.mem.boxNd o o' b (hsubB h1) (hsubB h2), ?_, fun k v n' e hk => ?_, fun k k' t t' b hk hk' => ?_, fun k t b hk hb hbm => ?_, ?_, h.mem.tabs⟩, ?_, fun i hi hi' => ?_, DefOk.step (K := K) (K' := K') (fun _ _ h => h) h.defers⟩⟩
  · simp only [K', List.length_take, h.mem.boxes.1]; omega
  · obtain ⟨x, hx, hle⟩ := hleq o cs ho
    have hol : o < m := (List.getElem?_eq_some_iff.1 ho).1
    obtain ⟨e, rr⟩ := convL x cs hle fun y hy => hcond y (.inr ⟨cs, List.mem_of_getElem? ho, hy⟩)
    rcases h.mem.boxes.2 o x hx with ⟨hb, hx0⟩ | ⟨b, cur, ty, hb, hh, hs, r⟩ | ⟨b, hb, hm⟩
    · exact .inl ⟨by rw [hbox o hol]; exact hb, trivial⟩
    · refine .inr (.inl ⟨b, cur, ty, by rw [hbox o hol]; exact hb, hh, by omega, fun j hj => ⟨?_, (r j (by omega)).2⟩⟩)
      have := rr (fun k => cur.getD k Go.undef) (fun k hk => by have := (r k hk).1; simpa [show k < cur.size by omega] using this) j hj
      simpa [show j < cur.size by omega] using this
    · refine .inr (.inr ⟨b, by rw [hbox o hol]; exact hb, ?_⟩)
      rcases hm.le hle with rfl | rfl
      · have hun : (∀ y ∈ cs, (∀ _k : Nat, y.under n m) ∨ (n = st.T.length ∧ m = st.L.length)) := fun y hy => hcond y (.inr ⟨cs, List.mem_of_getElem? ho, hy⟩)
        rcases hm with ⟨es, ck, h1, h2⟩ | ⟨mm, s, sn, la, h1, h2⟩ | ⟨r, h1, h2⟩
        · refine .inl ⟨es, ck, h1, ?_⟩
          rcases h2 with h2 | ⟨kk, l, rfl, h3⟩
          · exact .inl h2
          · rcases hun (.mapc kk ck l) (by simp) with hbad | ⟨e1, e2⟩
            · exact (show False by simpa only [V.under] using hbad 0).elim
            · have et : K.toks.take n = K.toks := by rw [List.take_of_length_le]; rw [e1, ← h.mem.toks]; simp
              have eb : K.boxes.take m = K.boxes := by rw [List.take_of_length_le]; rw [e2, h.mem.boxes.1]; exact Nat.le_refl _
              have : K' = K := by simp only [K', et, eb]
              rw [this]
              exact .inr ⟨kk, l, rfl, h3⟩
        · refine .inr (.inl ⟨mm, s, sn, la, h1, ?_⟩)
          rcases h2 with h2 | ⟨rfl, h3⟩ | ⟨om, bm, rfl, h3, h4⟩
          · exact .inl h2
          · exact .inr (.inl ⟨rfl, h3⟩)
          · rcases hun (.iterc om s sn.toList la) (by simp) with hbad | ⟨e1, e2⟩
            · exact (show False by simpa only [V.under] using hbad 0).elim
            · have eb : K.boxes.take m = K.boxes := by rw [List.take_of_length_le]; rw [e2, h.mem.boxes.1]; exact Nat.le_refl _
              exact .inr (.inr ⟨om, bm, rfl, h3, by show (K.boxes.take m)[om]? = _; rw [eb]; exact h4⟩)
        · exact .inr (.inr ⟨r, h1, h2⟩)
      · have := hm.anyV
        rcases this with ⟨es, ck, h1, h2⟩ | ⟨mm, s, sn, la, h1, h2⟩ | ⟨r, h1, h2⟩
        · exact .inl ⟨es, ck, h1, .inl (.inr rfl)⟩
        · exact .inr (.inl ⟨mm, s, sn, la, h1, .inl (.inr rfl)⟩)
        · exact .inr (.inr ⟨r, h1, .inl (.inr rfl)⟩)
  · obtain ⟨x, hx, hlex⟩ := hleq o cs hc
    obtain ⟨e, _⟩ := convL x cs hlex fun y hy => hcond y (.inr ⟨cs, List.mem_of_getElem? hc, hy⟩)
    exact h.mem.boxFree o b x (hsubB ho) hx (fun e1 => hne (List.eq_nil_of_length_eq_zero (by rw [← e, e1]; rfl))) o'
  · simp only [K', List.map_take, h.mem.toks]; exact h3
  · obtain ⟨hk1, _⟩ := hsub hk
    exact h.mem.tokAt k v n' e hk1
  · exact h.mem.tokNe k k' t t' b (hsub hk).1 (hsub hk').1
  · exact h.mem.tokBox k t b (hsub hk).1 hb (List.mem_of_mem_take hbm)
  · obtain ⟨k0, k1, k2, k3⟩ := h.mem.keeps
    refine ⟨k0, k1, fun o b ho hb => ?_, fun k u m' e hk hkk => ?_⟩
    · rw [hbox o (by omega)]; exact k2 o b ho hb
    · rw [htok k (by omega)]; exact k3 k u m' e hk hkk
  · rw [h.size, hρl]
  · have := hρr (fun k => a.tmps.getD k Go.undef) (fun k hk => by have hk' : k < a.tmps.size := by rw [h.size]; exact hk
                                                                  have := h.slots k hk hk'; simpa [hk'] using this) i hi
    simpa [hi'] using this
def thenA (next : St → Prop) (Q : Exit → St → Prop) : Exit → St → Prop
  | .normal, st => next st
  | e, st => Q e st
def inBlockA (id : Nat) (Q : Exit → St → Prop) : Exit → St → Prop
  | .exit id', st => bif id' == id then Q .normal st else Q (.exit id') st
  | e, st => Q e st
def isEff (op : Op) : Bool := match op with | .store _ _ _ => true | _ => false
def splitE : List Oper → List Oper × Option Oper
  | [] => ([], none)
  | [o] => bif isEff o.op then ([], some o) else ([o], none)
  | o :: o' :: r => (o :: (splitE (o' :: r)).1, (splitE (o' :: r)).2)
theorem splitE_spec : ∀ (l : List Oper), l = (splitE l).1 ++ (splitE l).2.toList
  | [] => rfl
  | [o] => by
    unfold splitE
    cases isEff o.op <;> rfl
  | o :: o' :: r => by
    unfold splitE
    rw [List.cons_append, ← splitE_spec (o' :: r)]
def lastP (ops : Array Oper) (n : Nat) : Option Oper → Prop
  | none => True
  | some _ => lastOk ops n = true
def nextD (τ : Tys) (Γ : Fns) (Q : Exit → St → Prop) (o : Option Oper) (L : List (List V)) (T : List (Nat × TypeId)) (acc : List (List V)) (ρ : List V) : Prop :=
  match o with
  | none => Q .normal ⟨ρ, L ++ acc, T⟩
  | some o => awpExec τ Γ o.op o.dst ⟨ρ, L ++ acc, T⟩ (Q .normal)
def awpDraw (τ : Tys) (Γ : Fns) (ops : Array Oper) (s : List Oper × Option Oper) (Q : Exit → St → Prop) (st : St) : Prop :=
  drawOk ops st.ρ.length s.1.length = true ∧ lastP ops s.1.length s.2 ∧ awpD τ Γ st.L ops s.1 (nextD τ Γ Q s.2 st.L st.T) [] st.ρ
def awpDrawO (τ : Tys) (Γ : Fns) (ops : Array Oper) (q : Option (List (Nat × Nat))) (Q : Exit → St → Prop) (st : St) : Prop :=
  match q with
  | some ((k, 9) :: q) => (tailOk ops k = true ∧ ordOk (ops.toList.take k).toArray st.ρ.length q = true) ∧ awpQ τ Γ (ops.toList.take k).toArray q [] (awpOps τ Γ ops (ops.toList.drop k) (Q .normal)) st
  | some q => ordOk ops st.ρ.length q = true ∧ awpQ τ Γ ops q [] (Q .normal) st
  | none => awpDraw τ Γ ops (splitE ops.toList) Q st
def noGotoA (Q : Exit → St → Prop) : Exit → St → Prop
  | .goto _, _ => False
  | e, st => Q e st
def awpLoop (Γ : Fns) (body : (Exit → St → Prop) → St → Prop) (Q : Exit → St → Prop) (st : St) : Prop :=
  ∃ (α : Type) (F : α → St) (μ : α → Nat) (a0 : α), St.le st (F a0) ∧ (∀ a, Γ.nb ≤ (F a).L.length ∧ Γ.nt ≤ (F a).T.length) ∧ ∀ a, body (thenA (fun st' => ∃ a', St.le st' (F a') ∧ μ a' < μ a) Q) (F a)
theorem awpLoop_intro {Γ : Fns} {body : (Exit → St → Prop) → St → Prop} {Q : Exit → St → Prop} {st : St} {α : Type} (F : α → St) (μ : α → Nat) (a0 : α) (h0 : St.le st (F a0))
    (h : ∀ a, body (thenA (fun st' => ∃ a', St.le st' (F a') ∧ μ a' < μ a) Q) (F a)) (hn : ∀ a, Γ.nb ≤ (F a).L.length ∧ Γ.nt ≤ (F a).T.length := by exact fun _ => ⟨Nat.zero_le _, Nat.zero_le _⟩) : awpLoop Γ body Q st := ⟨α, F, μ, a0, h0, hn, h⟩
def roundEnd (r : Loop) : Exit → Option (Bool × Loop)
  | .normal => some (true, r)
  | .ret => some (false, { r with state := .done, pending := some .ret })
  | .exit i => some (false, { r with state := .done, pending := some (.exit i) })
  | .goto l => some (false, { r with state := .done, pending := some (.goto l) })
  | _ => none
def busyL (r : Loop) : Loop := { r with state := .busy }
def roundA (nb nt o : Nat) (r : Loop) (K : V → List (List V) → List (Nat × TypeId) → Prop) (e : Exit) (st : St) : Prop :=
  match roundEnd r e with
  | some (b, r') => st.L[o]? = some [.loopc (busyL r)] ∧ ∃ L' T', St.le ⟨[], st.L.set o [.loopc r'], st.T⟩ ⟨[], L', T'⟩ ∧ (nb ≤ L'.length ∧ nt ≤ T'.length) ∧ K (.bool b) L' T'
  | none => False
def setArgs : List V → List Tmp → List V → List V
  | ρ, p :: ps, v :: vs => setArgs (ρ.set p v) ps vs
  | ρ, _, _ => ρ
def bodyY (Γ : Fns) (ρ : List V) (ps : List Tmp) (assign body : Fns → (Exit → St → Prop) → St → Prop) (o : Nat) (r : Loop) : PM := fun args L T K =>
  args.length = ps.length ∧ L[o]? = some [.loopc r] ∧
    assign { Γ with nb := L.length, nt := T.length } (thenA (fun st => st.L[o]? = some [.loopc r] ∧ body { Γ with nb := L.length, nt := T.length } (roundA L.length T.length o r K) ⟨st.ρ, st.L.set o [.loopc (busyL r)], st.T⟩) (fun _ _ => False)) ⟨setArgs ρ ps args, L, T⟩
def jumpA (Q : Exit → St → Prop) (st : St) : Option Code → Prop
  | none => Q .normal st
  | some .ret => Q .ret st
  | some (.exit i) => Q (.exit i) st
  | some (.goto l) => Q (.goto l) st
  | _ => False
def rangeEnd (Q : Exit → St → Prop) (ρ : List V) (o : Nat) : V → List (List V) → List (Nat × TypeId) → Prop := fun _ L T =>
  ∃ r, L[o]? = some [.loopc r] ∧ r.state ≠ .busy ∧ jumpA Q ⟨ρ, L.set o [.any], T⟩ r.pending
def itV (Γ : Fns) : V → Option (IM × List V × List V)
  | .fn (.func f) first cap => match Γ.it f with | some I => some (I, first, cap) | none => none
  | _ => none
def awpRange (Γ : Fns) (g : Operand) (ps : List Tmp) (assign body : Fns → (Exit → St → Prop) → St → Prop) (Q : Exit → St → Prop) (st : St) : Prop :=
  match itV Γ (evOp st.ρ g) with
  | some (I, first, cap) => (Γ.nb ≤ st.L.length ∧ Γ.nt ≤ st.T.length) ∧ ∀ (b : Nat) (r : Loop), r.state = .ready → r.pending = none →
      I b (up (bodyY Γ st.ρ ps assign body st.L.length r)) (first ++ .fn (.yield b) [] [] :: cap) (st.L ++ [[.loopc r]]) st.T (rangeEnd Q st.ρ st.L.length)
  | none => False
theorem awpRange_intro {Γ : Fns} {g : Operand} {ps : List Tmp} {A Bd : Fns → (Exit → St → Prop) → St → Prop} {Q : Exit → St → Prop} {ρ : List V} {L : List (List V)} {T : List (Nat × TypeId)} {I : IM} {first cap : List V} (hit : itV Γ (evOp ρ g) = some (I, first, cap)) (hn : Γ.nb ≤ L.length ∧ Γ.nt ≤ T.length)
    (h : ∀ (b : Nat) (r : Loop), r.state = .ready → r.pending = none → I b (up (bodyY Γ ρ ps A Bd L.length r)) (first ++ .fn (.yield b) [] [] :: cap) (L ++ [[.loopc r]]) T (rangeEnd Q ρ L.length)) : awpRange Γ g ps A Bd Q ⟨ρ, L, T⟩ := by
  unfold awpRange
  rw [show evOp (⟨ρ, L, T⟩ : St).ρ g = evOp ρ g from rfl, hit]
  exact ⟨hn, h⟩
def runY (S : List (List V) → List (Nat × TypeId) → Prop) (Y : PM) (K : List (List V) → List (Nat × TypeId) → Prop) : List (List V) → List (List V) → List (Nat × TypeId) → Prop
  | [], L, T => S L T ∧ K L T
  | x :: xs, L, T => S L T ∧ Y x L T fun v L' T' => match v with | .bool true => runY S Y K xs L' T' | .bool false => K L' T' | _ => False
theorem runY_inv {S : List (List V) → List (Nat × TypeId) → Prop} {Y : PM} {K : List (List V) → List (Nat × TypeId) → Prop} (hY : Mono Y) (xs : List (List V)) (J : Nat → List (List V) → List (Nat × TypeId) → Prop) (hS : ∀ k L T, J k L T → S L T)
    (hstep : ∀ k (h : k < xs.length) L T, J k L T → Y xs[k] L T fun v L' T' => (v = .bool true ∧ J (k + 1) L' T') ∨ (v = .bool false ∧ K L' T')) (hend : ∀ L T, J xs.length L T → K L T) :
    ∀ (n k : Nat) L T, n + k = xs.length → J k L T → runY S Y K (xs.drop k) L T
  | 0, k, L, T, hn, h => by
    have e : k = xs.length := by omega
    subst e
    rw [List.drop_of_length_le (Nat.le_refl _)]
    exact ⟨hS _ L T h, hend L T h⟩
  | n + 1, k, L, T, hn, h => by
    have hk : k < xs.length := by omega
    rw [List.drop_eq_getElem_cons hk]
    refine ⟨hS _ L T h, hY _ _ _ _ _ (fun v L' T' hv => ?_) (hstep k hk L T h)⟩
    rcases hv with ⟨rfl, hv⟩ | ⟨rfl, hv⟩
    · exact runY_inv hY xs J hS hstep hend n (k + 1) L' T' (by omega) hv
    · exact hv
def awp (τ : Tys) : Fns → Code → (Exit → St → Prop) → St → Prop
  | _, .skip, Q, st => Q .normal st
  | _, .label _, Q, st => Q .normal st
  | _, .exit i, Q, st => Q (.exit i) st
  | _, .goto l, Q, st => Q (.goto l) st
  | _, .ret, Q, st => Q .ret st
  | Γ, .region id ops draw, Q, st =>
    bif draw then awpDrawO τ Γ ops (Γ.ord id) Q st
    else awpOps τ Γ ops ops.toList (Q .normal) st
  | Γ, .seq x y, Q, st => awp τ Γ x (thenA (awp τ Γ y Q) Q) st
  | Γ, .cond c x y, Q, st => match evOp st.ρ c with
    | .bool b => awpIf b (awp τ Γ x Q st) (awp τ Γ y Q st)
    | .may p q => awpMay p q (awp τ Γ x Q st) (awp τ Γ y Q st)
    | _ => False
  | Γ, .block id c, Q, st => awp τ Γ c (inBlockA id Q) st
  | Γ, .loop c, Q, st => awpLoop Γ (awp τ Γ c) Q st
  | Γ, .scope c, Q, st => awp τ Γ c (noGotoA Q) st
  | Γ, .rangeFunc g ps assign body, Q, st => awpRange Γ g ps.toList (fun Γ => awp τ Γ assign) (fun Γ => awp τ Γ body) Q st
  | _, _, _, _ => False
theorem setArgs_length : ∀ (ps : List Tmp) (vs : List V) (ρ : List V), (setArgs ρ ps vs).length = ρ.length
  | [], vs, _ => by cases vs <;> rfl
  | _ :: _, [], _ => rfl
  | p :: ps, v :: vs, ρ => by
    show (setArgs (ρ.set p v) ps vs).length = _
    rw [setArgs_length ps vs]; simp
theorem setArgs_rel : ∀ (ps : List Tmp) (vs : List V) (us : List Value) (ρ : List V) (t : Array Value), vs.length = us.length → t.size = ρ.length → (∀ i (h : i < ρ.length) (h' : i < t.size), Rel K ρ[i] t[i]) → (∀ j (h : j < vs.length) (h' : j < us.length), Rel K vs[j] us[j]) →
    ((ps.zip us).foldl (fun t (p, v) => t.setIfInBounds p v) t).size = (setArgs ρ ps vs).length ∧ ∀ i (h : i < (setArgs ρ ps vs).length) (h' : i < ((ps.zip us).foldl (fun t (p, v) => t.setIfInBounds p v) t).size), Rel K (setArgs ρ ps vs)[i] ((ps.zip us).foldl (fun t (p, v) => t.setIfInBounds p v) t)[i]
  | [], vs, us, ρ, t, h1, h2, h3, h4 => by
    have e : setArgs ρ [] vs = ρ := by cases vs <;> rfl
    simp only [e, List.zip_nil_left, List.foldl_nil]
    exact ⟨h2, h3⟩
  | p :: ps, [], us, ρ, t, h1, h2, h3, h4 => by
    obtain rfl : us = [] := List.eq_nil_of_length_eq_zero (by rw [← h1]; rfl)
    exact ⟨h2, h3⟩
  | p :: ps, v :: vs, [], ρ, t, h1, h2, h3, h4 => by cases h1
  | p :: ps, v :: vs, u :: us, ρ, t, h1, h2, h3, h4 => by
    refine setArgs_rel ps vs us (ρ.set p v) (t.setIfInBounds p u) (by simpa using h1) (by simpa using h2) (fun i hi hi' => ?_) fun j hj hj' => h4 (j + 1) (Nat.succ_lt_succ hj) (Nat.succ_lt_succ hj')
    simp only [List.length_set] at hi
    have hi2 : i < t.size := by simpa using hi'
    simp only [List.getElem_set, Array.getElem_setIfInBounds hi2]
    by_cases e : p = i
    · simp only [e, if_true]; exact h4 0 (by simp) (by simp)
    · simp only [e, if_false]; exact h3 i hi hi2
theorem Bs.le_new (h : Mem P B p0 K st.L st.T) {q : Bs} (hq : Bs.le p0 q) (hk : Keeps q.nb q.nt q.k0 K) (h1 : q.nb ≤ st.L.length) (h2 : q.nt ≤ st.T.length) : Bs.le p0 ⟨q.p, K, st.L.length, st.T.length⟩ :=
  ⟨hq.p, Nat.le_trans hq.nb h1, Nat.le_trans hq.nt h2, hq.keeps.trans (hk.more hq.nb hq.nt)⟩
theorem body_sound {A Bd : Fns → (Exit → St → Prop) → St → Prop} {assign body : Code}
    (iha : ∀ (Γ : Fns) (p1 : Bs) (l : Nat), FnsAt P B p1 Γ → p1.k0.w.shp l = some (none, 1) → ∀ (Q : Exit → St → Prop) (Qc : Exit → Act → World → Prop), (∀ e K st a, Inv P B p1 K st a → Q e st → Qc e a K.w) → ∀ K st a, Inv P B p1 K st a → A Γ Q st → assign.wpIn (WR (some l)) 0 P Qc a K.w)
    (ihb : ∀ (Γ : Fns) (p1 : Bs) (l : Nat), FnsAt P B p1 Γ → p1.k0.w.shp l = some (none, 1) → ∀ (Q : Exit → St → Prop) (Qc : Exit → Act → World → Prop), (∀ e K st a, Inv P B p1 K st a → Q e st → Qc e a K.w) → ∀ K st a, Inv P B p1 K st a → Bd Γ Q st → body.wpIn (WR (some l)) 0 P Qc a K.w)
    (hΓ : FnsAt P B p0 Γ) (hn : Γ.nb ≤ st.L.length ∧ Γ.nt ≤ st.T.length) {r : Loop} (hrs : r.state = .ready) (hrp : r.pending = none) (hra : r.assign = assign) (hrb : r.body = body) {K1 : Kw} {l : Nat} (hm1 : Mem P B p0 K1 (st.L ++ [[.loopc r]]) st.T) (hb1 : K1.boxes[st.L.length]? = some (some l))
    (hsz : r.tmps.size = st.ρ.length) (hsl : ∀ i (h : i < st.ρ.length) (h' : i < r.tmps.size), Rel K1 st.ρ[i] r.tmps[i]) :
    YSound P B ⟨p0.p, K1, (st.L ++ [[V.loopc r]]).length, st.T.length⟩ l (bodyY Γ st.ρ r.params.toList A Bd st.L.length r) := by
  intro p1 hle K2 L2 T2 args vs Kont hl1 hl2 hm2 ⟨hlen, hLo, hk⟩ hvs hrel
  simp only at hl1 hl2
  have hl1' : st.L.length < L2.length := by simp at hl1; omega
  have hk12 : Keeps (st.L ++ [[V.loopc r]]).length st.T.length K1 K2 := hle.keeps.trans (hm2.keeps.more hle.nb hle.nt)
  have hb2 : K2.boxes[st.L.length]? = some (some l) := hk12.2.2.1 _ _ (by simp) hb1
  have he12 : Ext K1 K2 := hk12.ext (by rw [hm1.boxes.1]; exact Nat.le_refl _) (by have := congrArg List.length hm1.toks; simp at this; omega)
  obtain ⟨hh2, _⟩ := loop_at hm2 hLo hb2
  have hargs : vs.size = r.params.size := by rw [hvs, hlen]; simp
  refine ⟨r.fn, _, r.assign, r.body, run_yield hh2 hargs, roundIn_of_wpIn trivial ?_⟩
  rw [hra, hrb]
  have hm2' : Mem P B ⟨p1.p, K2, L2.length, T2.length⟩ K2 L2 T2 := hm2.rebase rfl (Keeps.refl _ _ _)
  have hle1 : Bs.le p0 ⟨p1.p, K2, L2.length, T2.length⟩ := by
    refine ⟨hle.p, ?_, ?_, hm1.keeps.trans (hk12.more ?_ ?_)⟩
    · have := hΓ.nb; show p0.nb ≤ L2.length; omega
    · have := hΓ.nt; show p0.nt ≤ T2.length; omega
    · have := hΓ.nb; simp; omega
    · have := hΓ.nt; omega
  have hΓ' : FnsAt P B ⟨p1.p, K2, L2.length, T2.length⟩ { Γ with nb := L2.length, nt := T2.length } :=
    { fn := hΓ.fn, hp := hΓ.hp, it := hΓ.it, hy := fun b m hbm => (hΓ.hy b m hbm).le hle1, nb := Nat.le_refl _, nt := Nat.le_refl _ }
  have hinv : Inv P B ⟨p1.p, K2, L2.length, T2.length⟩ K2 ⟨setArgs st.ρ r.params.toList args, L2, T2⟩ { tmps := (r.params.zip vs).foldl (fun t (p, v) => t.setIfInBounds p v) r.tmps, defers := [] } := by
    have e : (r.params.zip vs).foldl (fun t (p, v) => t.setIfInBounds p v) r.tmps = (r.params.toList.zip vs.toList).foldl (fun t (p, v) => t.setIfInBounds p v) r.tmps := by
      rw [← Array.foldl_toList, Array.toList_zip]
    rw [e]
    obtain ⟨s1, s2⟩ := setArgs_rel (K := K2) r.params.toList args vs.toList st.ρ r.tmps (by simp [hvs]) hsz (fun i hi hi' => (hsl i hi hi').ext he12) (fun j hj hj' => by simpa using hrel j hj (by simpa using hj'))
    exact ⟨hm2', s1, s2, trivial⟩
  have hshl : (⟨p1.p, K2, L2.length, T2.length⟩ : Bs).k0.w.shp l = some (none, 1) := shp_loop hh2
  refine iha _ ⟨p1.p, K2, L2.length, T2.length⟩ l hΓ' hshl _ _ (fun e K3 st3 a3 hi3 hk3 => ?_) _ _ _ hinv hk
  cases e with
  | normal =>
    obtain ⟨hL3, hk3⟩ := hk3
    have hb3 : K3.boxes[st.L.length]? = some (some l) := hi3.mem.keeps.2.2.1 _ _ hl1' hb2
    obtain ⟨hh3, _⟩ := loop_at hi3.mem hL3 hb3
    obtain ⟨he4, hm4⟩ := loop_set hi3.mem hL3 hb3 (busyL r) (.inl rfl)
    refine ⟨_, run_beginRound hh3 hrs, ?_⟩
    have hi4 : Inv P B ⟨p1.p, K2, L2.length, T2.length⟩ { K3 with w := K3.w.putObj l (.loop (busyL r)) } ⟨st3.ρ, st3.L.set st.L.length [.loopc (busyL r)], st3.T⟩ a3 :=
      ⟨hm4, hi3.size, fun i hi hi' => (hi3.slots i hi hi').ext he4, hi3.defers.ext he4⟩
    refine ihb _ ⟨p1.p, K2, L2.length, T2.length⟩ l hΓ' hshl _ _ (fun e K5 st5 a5 hi5 hk5 => ?_) _ _ _ hi4 hk3
    unfold roundA at hk5
    split at hk5
    · rename_i yb r' hre
      obtain ⟨hL5, L', T', hle5, ⟨hn1, hn2⟩, hk5⟩ := hk5
      have hb5 : K5.boxes[st.L.length]? = some (some l) := hi5.mem.keeps.2.2.1 _ _ hl1' hb2
      obtain ⟨hh5, _⟩ := loop_at hi5.mem hL5 hb5
      obtain ⟨he6, hm6⟩ := loop_set hi5.mem hL5 hb5 r' (.inl rfl)
      have hi6 : Inv P B ⟨p1.p, K2, L2.length, T2.length⟩ { K5 with w := K5.w.putObj l (.loop r') } ⟨[], st5.L.set st.L.length [.loopc r'], st5.T⟩ { tmps := #[], defers := [] } :=
        ⟨hm6, rfl, fun i hi => absurd hi (by simp), trivial⟩
      obtain ⟨K7, hw7, hi7⟩ := hi6.le hle5 hn1 hn2
      have hlt : K2.toks.length = T2.length := by rw [← hm2.toks]; simp
      have hext : Ext K2 K7 := hi7.mem.keeps.ext (by show K2.boxes.length ≤ L2.length; rw [hm2.boxes.1]; exact Nat.le_refl _) (by show K2.toks.length ≤ T2.length; omega)
      have fin : ∀ jump, (Instr.endRound l jump).run P K5.w = .ok (.bool yb) (K5.w.putObj l (.loop r')) →
          ∃ v w', (Instr.endRound l jump).run P K5.w = .ok v w' ∧ ∃ u K' q L' T', Ending.returned v = .returned u ∧ K'.w = w' ∧ Ext K2 K' ∧ Mem P B p1 K' L' T' ∧ Rel K' q u ∧ Kont q L' T' :=
        fun jump hrun => ⟨_, _, hrun, _, K7, _, L', T', rfl, hw7, hext, hi7.mem.rebase rfl (hm2.keeps.step hext), .bool _, hk5⟩
      have hrr : ({ (busyL r) with state := .ready, pending := none } : Loop) = r := by
        unfold busyL
        cases r
        simp only at hrs hrp
        subst hrs hrp
        rfl
      cases e with
      | normal =>
        cases hre
        refine fin none ?_
        rw [run_endRound none hh5]
        simp only [Option.isNone_none, if_true, hrr]
      | ret => cases hre; exact fin (some .ret) (by have := run_endRound (P := P) (some .ret) hh5; exact this)
      | exit i => cases hre; exact fin (some (.exit i)) (by have := run_endRound (P := P) (some (.exit i)) hh5; exact this)
      | goto t => cases hre; exact fin (some (.goto t)) (by have := run_endRound (P := P) (some (.goto t)) hh5; exact this)
      | panic c => cases hre
      | outgrown => cases hre
    · exact hk5.elim
  | exit i => exact hk3.elim
  | goto t => exact hk3.elim
  | ret => exact hk3.elim
  | panic c => exact hk3.elim
  | outgrown => exact hk3.elim
theorem range_wp {A Bd : Fns → (Exit → St → Prop) → St → Prop} {assign body : Code} {ro : Option Nat}
    (iha : ∀ (Γ : Fns) (p1 : Bs) (l : Nat), FnsAt P B p1 Γ → p1.k0.w.shp l = some (none, 1) → ∀ (Q : Exit → St → Prop) (Qc : Exit → Act → World → Prop), (∀ e K st a, Inv P B p1 K st a → Q e st → Qc e a K.w) → ∀ K st a, Inv P B p1 K st a → A Γ Q st → assign.wpIn (WR (some l)) 0 P Qc a K.w)
    (ihb : ∀ (Γ : Fns) (p1 : Bs) (l : Nat), FnsAt P B p1 Γ → p1.k0.w.shp l = some (none, 1) → ∀ (Q : Exit → St → Prop) (Qc : Exit → Act → World → Prop), (∀ e K st a, Inv P B p1 K st a → Q e st → Qc e a K.w) → ∀ K st a, Inv P B p1 K st a → Bd Γ Q st → body.wpIn (WR (some l)) 0 P Qc a K.w)
    (hΓ : FnsAt P B p0 Γ) (hro : ∀ l, ro = some l → p0.k0.w.shp l = some (none, 1)) {g : Operand} {ps : Array Tmp} {Q : Exit → St → Prop} {Qc : Exit → Act → World → Prop} (hQ : ∀ e K st a, Inv P B p0 K st a → Q e st → Qc e a K.w)
    (h : Inv P B p0 K st a) (hk : awpRange Γ g ps.toList A Bd Q st) : (Code.rangeFunc g ps assign body).wpIn (WR ro) 0 P Qc a K.w := by
  unfold awpRange at hk
  split at hk
  · rename_i I first cap hit
    obtain ⟨hn, hk⟩ := hk
    unfold itV at hit
    split at hit
    · rename_i f first' cap' hv
      split at hit
      · rename_i I' hI
        cases hit
        have hr := h.ev g
        rw [hv] at hr
        generalize hu : a.eval g = u0 at hr
        cases hr with
        | fn _ _ _ vs us e1 e2 r1 r2 =>
        obtain ⟨hsound, fnc, hfn, hng, hbody⟩ := hΓ.it f I hI
        refine wpIn_rangeFunc fun fn _ => ?_
        obtain ⟨l, mark, r, K1, hrun, hrs, hrp, hrf, hrt, hrps, hra, hrb, he1, hm1, hb1, hd1⟩ := enter_loop h.mem hro fn a.tmps ps assign body h.defers h.defers.lt
        have hy : YSound P B ⟨p0.p, K1, (st.L ++ [[V.loopc r]]).length, st.T.length⟩ l (bodyY Γ st.ρ r.params.toList A Bd st.L.length r) :=
          body_sound iha ihb hΓ hn hrs hrp hra hrb hm1 hb1 (by rw [hrt]; exact h.size) (fun i hi hi' => by simp only [hrt] at hi' ⊢; exact (h.slots i hi hi').ext he1)
        rw [hrps] at hy
        have hcall := hsound B p0 K1 (st.L ++ [[V.loopc r]]) st.T _ ((vs ++ #[.func (.yield l) #[] #[]]) ++ us) _ l _ hm1 hy.up (up_mono _) (hk l r hrs hrp) (by simp [e1, e2]; omega) (fun j hj hj' => by
          simp only [Array.append_assoc] at hj'
          simp only [Array.append_assoc]
          by_cases h1 : j < first.length
          · rw [List.getElem_append_left h1, Array.getElem_append_left (by omega)]
            exact (r1 j h1).ext he1
          · rw [List.getElem_append_right (by omega), Array.getElem_append_right (by omega)]
            simp only [e1]
            obtain ⟨k, rfl⟩ : ∃ k, j = first.length + k := ⟨j - first.length, by omega⟩
            simp only [Nat.add_sub_cancel_left]
            cases k with
            | zero =>
              rw [Array.getElem_append_left (by simp)]
              exact .fn (.yield l) [] [] #[] #[] rfl rfl (fun j h => absurd h (by simp)) (fun j h => absurd h (by simp))
            | succ k =>
              rw [Array.getElem_append_right (by simp)]
              simp only [List.getElem_cons_succ, List.size_toArray, List.length_cons, List.length_nil, Nat.zero_add, Nat.add_sub_cancel]
              have hkl : k < cap.length := by simp at hj; omega
              exact (r2 k hkl).ext he1)
        refine ⟨l, mark, K1.w, { target := .fn (.func f) us, args := vs ++ #[.func (.yield l) #[] #[]] }, K1.w, f, (vs ++ #[.func (.yield l) #[] #[]]) ++ us, K1.w, hrun, ?_, fun _ _ => trivial, ?_, fun e => (by cases e), ?_⟩
        · have hc : a.eval (.const (.func (.yield l) #[] #[])) = .func (.yield l) #[] #[] := rfl
          simp [resolve, hu, Deferred.ofValue, hc]
        · simp [invoke, callFunc, hfn, hng, hbody]
        · refine callsIn_WR.2 ?_
          refine Calls.mono hcall ?_
          rintro e w' ⟨v, K', q, L', T', rfl, hw', hext, hm', hrel', r', hL', hbz, hj⟩
          have hb' : K'.boxes[st.L.length]? = some (some l) := hext.boxes _ _ hb1
          obtain ⟨hh', _⟩ := loop_at hm' hL' hb'
          obtain ⟨he2, hm2⟩ := loop_set hm' hL' hb' { r' with state := .exhausted } (cs' := [.any]) (.inr rfl)
          have hi2 : Inv P B p0 { K' with w := K'.w.putObj l (.loop { r' with state := .exhausted }) } ⟨st.ρ, L'.set st.L.length [.any], T'⟩ { a with defers := mark ++ a.defers } :=
            ⟨hm2, h.size, fun i hi hi' => (((h.slots i hi hi').ext he1).ext hext).ext he2, (hd1.ext hext).ext he2⟩
          rw [← hw']
          have key : ∀ pd : Option Code, jumpA Q ⟨st.ρ, L'.set st.L.length [.any], T'⟩ pd → (match pd with
              | none => Qc .normal { a with defers := mark ++ a.defers } (K'.w.putObj l (.loop { r' with state := .exhausted }))
              | some c => c.wpIn (WR ro) 0 P Qc { a with defers := mark ++ a.defers } (K'.w.putObj l (.loop { r' with state := .exhausted }))) := by
            intro pd hj
            unfold jumpA at hj
            split at hj
            · exact hQ _ _ _ _ hi2 hj
            · exact wpIn_ret (hQ _ _ _ _ hi2 hj)
            · exact wpIn_exit (hQ _ _ _ _ hi2 hj)
            · exact wpIn_goto (hQ _ _ _ _ hi2 hj)
            · exact hj.elim
          exact ⟨r'.pending, _, run_endLoop hh' hbz, key _ hj⟩
      · cases hit
    · cases hit
  · exact hk.elim
theorem draw_any (hτ : TyOk P τ) (hΓ : FnsAt P B p0 Γ) {ops : Array Oper} {q : List (Nat × Nat)} {Kont : St → Prop} {Q : Exit → Act → World → Prop} {K : Kw} {st : St} {a : Act} {ro : Option Nat} (hO : OrdF ops st.ρ.length q)
    (hQ : ∀ K st a, Inv P B p0 K st a → Kont st → Q .normal a K.w) (h : Inv P B p0 K st a) (hk : awpQ τ Γ ops q [] Kont st) :
    wpAnyIn (WR ro) 0 P .any ops Q ops.size (Array.replicate ops.size false) a { K.w with drawn := K.w.drawn + 1 } := by
  have he : Ext K { K with w := K.w.drew } := ⟨fun b o hp => ⟨hp, rfl⟩, fun _ _ h => h, fun _ u m _ h => ⟨u, m, h, Nat.le_refl _, fun _ => rfl⟩, fun _ _ h => h⟩
  have hm0 : Mem P B p0 { K with w := K.w.drew } st.L st.T := ⟨h.mem.below.drew, h.mem.old, h.mem.there, h.mem.boxes.keep he rfl fun _ _ => rfl, h.mem.boxGe, h.mem.boxFree, h.mem.boxNd, h.mem.toks, h.mem.tokAt, h.mem.tokNe, h.mem.tokBox, h.mem.keeps.step he, h.mem.tabs⟩
  obtain ⟨mid, post, ρ', pd', e1, h2, h3, h4, h5, h6, h7, h8, h9⟩ := awpQ_adv hO q [] [] st rfl rfl hk
  have hnot : ∀ i, (Array.replicate ops.size false).getD i false = false := fun i => by
    by_cases hlt : i < ops.size <;> simp [hlt]
  have hmid : MidQ P B p0 τ Γ ops st.ρ.length q Kont (Array.replicate ops.size false) { K with w := K.w.drew } a mid post pd' ⟨ρ', st.L, st.T⟩ := by
    refine ⟨fun i hi _ => h9 _ hi rfl, e1, h3, fun e ce hce hx => (by have := h2 _ hx; rw [hce] at this; cases this), fun i hi => (by rw [hnot] at hi; cases hi), h4, h5, hm0, h.size, fun i d hi => (by rw [hnot] at hi; cases hi), fun d hno v u hv hu => ?_, fun i c hi _ => h7 _ hi, fun i o ho hi => (by rw [hnot] at hi; cases hi), h.defers.ext he⟩
    have hv : ρ'[d]? = some v := hv
    rw [h6 d fun x _ => hno x.1] at hv
    obtain ⟨hlt, rfl⟩ := List.getElem?_eq_some_iff.1 hv
    obtain ⟨hlt', rfl⟩ := Array.getElem?_eq_some_iff.1 hu
    exact (h.slots d hlt hlt').ext he
  exact drawnQ_wp hτ hΓ hO hQ ops.size _ _ a mid post pd' _ hmid (by simp) (by simp)
theorem awp_wp (hτ : TyOk P τ) (hmix : P.follows .mixedOrders = true) : ∀ (c : Code) (Γ : Fns) (p0 : Bs) (ro : Option Nat), FnsAt P B p0 Γ → (∀ l, ro = some l → p0.k0.w.shp l = some (none, 1)) → ∀ (Q : Exit → St → Prop) (Qc : Exit → Act → World → Prop), (∀ e K st a, Inv P B p0 K st a → Q e st → Qc e a K.w) →
    ∀ (K : Kw) (st : St) (a : Act), Inv P B p0 K st a → awp τ Γ c Q st → c.wpIn (WR ro) 0 P Qc a K.w := by
  intro c
  induction c with
  | skip => exact fun Γ p0 ro hΓ hro Q Qc hQ K st a h hk => wpIn_skip (hQ _ K st a h hk)
  | label l => exact fun Γ p0 ro hΓ hro Q Qc hQ K st a h hk => wpIn_label (hQ _ K st a h hk)
  | exit i => exact fun Γ p0 ro hΓ hro Q Qc hQ K st a h hk => wpIn_exit (hQ _ K st a h hk)
  | goto l => exact fun Γ p0 ro hΓ hro Q Qc hQ K st a h hk => wpIn_goto (hQ _ K st a h hk)
  | ret => exact fun Γ p0 ro hΓ hro Q Qc hQ K st a h hk => wpIn_ret (hQ _ K st a h hk)
  | region id ops draw =>
    intro Γ p0 ro hΓ hro Q Qc hQ K st a h hk
    cases draw with
    | true =>
      have hk : awpDrawO τ Γ ops (Γ.ord id) Q st := hk
      unfold awpDrawO at hk
      split at hk
      · rename_i kk q hq
        obtain ⟨⟨hto, hok⟩, hk⟩ := hk
        have hT := tailOk_spec hto
        refine wpIn_region_any hmix ?_
        rw [show ops.size = kk + (ops.size - kk) by have := hT.le; omega]
        refine any_tail hT (Q' := fun e a w => match e with | .normal => wpListIn (WR ro) 0 P ops Qc (ops.toList.drop kk) a w | e => Qc e a w) (fun _ _ h => h) (fun _ _ _ h => h) (fun h => h) kk (Array.replicate kk false) _ a _ (by simp) (by have := hT.le; simp; omega) (fun i hi => ?_) (fun i hi => ?_) (by simp) ?_
        · have := hT.le; simp [hi, show i < kk + (ops.size - kk) by omega]
        · by_cases hlt : i < kk + (ops.size - kk) <;> simp [hlt]
        · have hsz : (ops.toList.take kk).toArray.size = kk := by have := hT.le; simp; omega
          have := draw_any (ro := ro) hτ hΓ (ordOk_spec hok) (Q := fun e a w => match e with | .normal => wpListIn (WR ro) 0 P ops Qc (ops.toList.drop kk) a w | e => Qc e a w)
            (fun K' st' a' hi hk' => ops_wp hτ hΓ (fun K2 st2 a2 hi2 hk2 => hQ .normal K2 st2 a2 hi2 hk2) _ K' st' a' hi hk') h hk
          rw [hsz] at this
          exact this
      · rename_i q hq
        obtain ⟨hok, hk⟩ := hk
        exact wpIn_region_any hmix (draw_any hτ hΓ (ordOk_spec hok) (fun K' st' a' hi hk' => hQ .normal K' st' a' hi hk') h hk)
      have hspec := splitE_spec ops.toList
      generalize splitE ops.toList = sp at hk hspec
      obtain ⟨ini, last⟩ := sp
      obtain ⟨hok, hlp, hk⟩ := hk
      simp only at hok hlp hk hspec
      have hini : ops.toList.take ini.length = ini := by rw [hspec]; simp
      have hsize : ops.size = ini.length + last.toList.length := by
        have := congrArg List.length hspec
        simpa using this
      obtain ⟨ρN, C, hrun, hkN⟩ := awpD_run ini [] st.ρ hk
      rw [← hini] at hrun
      simp only [List.nil_append, List.length_nil] at hkN hrun
      refine wpIn_region_any hmix ?_
      have he : Ext K { K with w := K.w.drew } := ⟨fun b o hp => ⟨hp, rfl⟩, fun _ _ h => h, fun _ u m _ h => ⟨u, m, h, Nat.le_refl _, fun _ => rfl⟩, fun _ _ h => h⟩
      have hm0 : Mem P B p0 { K with w := K.w.drew } st.L st.T := ⟨h.mem.below.drew, h.mem.old, h.mem.there, h.mem.boxes.keep he rfl fun _ _ => rfl, h.mem.boxGe, h.mem.boxFree, h.mem.boxNd, h.mem.toks, h.mem.tokAt, h.mem.tokNe, h.mem.tokBox, h.mem.keeps.step he, h.mem.tabs⟩
      have hholes : ∀ n : Nat, ∃ K1 : Kw, K1.w = K.w.drew ∧ Ext { K with w := K.w.drew } K1 ∧ Mem P B p0 K1 (st.L ++ List.replicate n []) st.T ∧ ∀ c, c < n → K1.boxes[st.L.length + c]? = some none := by
        intro n
        induction n with
        | zero => exact ⟨_, rfl, Ext.refl _, by simpa using hm0, fun c hc => absurd hc (by omega)⟩
        | succ n ih =>
          obtain ⟨K1, hw, he1, hm1, hb⟩ := ih
          obtain ⟨he2, hm2⟩ := hm1.addHole
          have hlen := hm1.boxes.1
          refine ⟨{ K1 with boxes := K1.boxes ++ [none] }, hw, he1.trans he2, by rw [List.replicate_succ', ← List.append_assoc]; exact hm2, fun c hc => ?_⟩
          show (K1.boxes ++ [none])[st.L.length + c]? = some none
          simp only [List.length_append, List.length_replicate] at hlen
          by_cases hcn : c < n
          · rw [List.getElem?_append_left (by omega)]; exact hb c hcn
          · rw [List.getElem?_append_right (by omega), show st.L.length + c - K1.boxes.length = 0 by omega]
            rfl
      obtain ⟨K1, hw1, he1, hm1, hb1⟩ := hholes C.length
      show wpAnyIn (WR ro) 0 P .any ops Qc ops.size _ a K.w.drew
      rw [← hw1]
      have hdist : ∀ i j (hi : i < (ops.toList.take ini.length).length) (hj : j < (ops.toList.take ini.length).length), i < j → ∀ d, (ops.toList.take ini.length)[i].dst = some d → (ops.toList.take ini.length)[j].dst ≠ some d := by
        intro i j hi hj hij d h1 h2
        have hj' : j < ops.size := by simp at hj; omega
        have hi' : i < ops.size := by simp at hi; omega
        obtain ⟨⟨d', hd', _, hno⟩, _, _⟩ := drawOk_spec hok (by simp at hj; omega) (Array.getElem?_eq_getElem hj')
        simp only [List.getElem_take, Array.getElem_toList] at h1 h2
        rw [h2] at hd'
        cases hd'
        exact hno i hij (by simp [Array.getElem?_eq_getElem hi', h1])
      obtain ⟨hl, hCl, _, hin⟩ := run_spec (ops.toList.take ini.length) 0 st.ρ ρN C hrun hdist
      have hmid : Mid P B p0 Γ st.L st.T ops ini.length st.ρ ρN C (List.replicate C.length []) (Array.replicate ops.size false) K1 a := by
        have hnot : ∀ i, (Array.replicate ops.size false).getD i false = false := fun i => by
          by_cases hlt : i < ops.size <;> simp [hlt]
        refine ⟨hm1, by simp, fun i o _ hi => (by rw [hnot] at hi; cases hi), fun i o hiI _ ho hmk => hb1 _ ?_, (by rw [h.size, hl]), fun i d _ hi => (by rw [hnot] at hi; cases hi), fun d _ v u hv hu => ?_, (h.defers.ext he).ext he1⟩
        · have hil : i < (ops.toList.take ini.length).length := by simp; omega
          have hoi : (ops.toList.take ini.length)[i] = o := by
            have := (Array.getElem?_eq_some_iff.1 ho).2
            simpa using this
          have := cnt_lt (Γ := Γ) (l := ops.toList.take ini.length) (j := (ops.toList.take ini.length).length) hil hil (by rw [hoi]; exact hmk)
          rw [hCl]
          unfold cnt at this
          rw [List.take_length] at this
          exact this
        · obtain ⟨hlt, rfl⟩ := List.getElem?_eq_some_iff.1 hv
          obtain ⟨hlt', rfl⟩ := Array.getElem?_eq_some_iff.1 hu
          exact ((h.slots d hlt hlt').ext he).ext he1
      refine drawn_wp hτ hΓ (by omega) hok hrun ?_ (fun K' a' hi => ?_) ops.size _ K1 a _ hmid ?_ (by simp) (by simp)
      · cases last with
        | none => left; simpa using hsize
        | some o => right; exact ⟨by simpa using hsize, hlp⟩
      · cases last with
        | none => left; exact ⟨by simpa using hsize, hQ .normal K' _ a' hi hkN⟩
        | some o =>
          right
          refine ⟨by simpa using hsize, hlp, fun o' ho' => ?_⟩
          have hoo : o' = o := by
            have h1 : ops.toList[ini.length]? = some o := by rw [hspec]; simp
            rw [Array.getElem?_toList, ho'] at h1
            exact Option.some.inj h1
          subst hoo
          have hx : awpExec τ Γ o'.op o'.dst ⟨ρN, st.L ++ C, st.T⟩ (Q .normal) := hkN
          exact execE_wp hτ hΓ hi.mem hi.ev hx fun K2 u v L' T' hk2 he2 hm2 hr2 => hQ .normal K2 _ _ (hi.put he2 hm2 hr2 o'.dst) hk2
      · cases last with
        | none => left; simpa using hsize
        | some o =>
          right
          by_cases hlt : ini.length < ops.size <;> simp [hlt]
    | false => exact wpIn_region_list (ops_wp hτ hΓ (fun K st a hi hk => hQ .normal K st a hi hk) ops.toList K st a h hk)
  | seq x y ihx ihy =>
    intro Γ p0 ro hΓ hro Q Qc hQ K st a h hk
    refine wpIn_seq (ihx Γ p0 ro hΓ hro (thenA (awp τ Γ y Q) Q) _ (fun e K' st' a' hi hk' => ?_) K st a h hk)
    cases e <;> first | exact ihy Γ p0 ro hΓ hro Q Qc hQ K' st' a' hi hk' | exact hQ _ K' st' a' hi hk'
  | cond c x y ihx ihy =>
    intro Γ p0 ro hΓ hro Q Qc hQ K st a h hk
    simp only [awp] at hk
    split at hk
    · rename_i b hb
      have hr := h.ev c
      rw [hb] at hr
      generalize hv : a.eval c = v at hr
      cases hr
      cases b
      · exact wpIn_cond_false hv (ihy Γ p0 ro hΓ hro Q Qc hQ K st a h (hk.2 rfl))
      · exact wpIn_cond_true hv (ihx Γ p0 ro hΓ hro Q Qc hQ K st a h (hk.1 rfl))
    · rename_i p q hb
      have hr := h.ev c
      rw [hb] at hr
      generalize hv : a.eval c = v at hr
      cases hr with
      | may _ _ b hp hq =>
        cases b
        · exact wpIn_cond_false hv (ihy Γ p0 ro hΓ hro Q Qc hQ K st a h (hk.2 (hq rfl)))
        · exact wpIn_cond_true hv (ihx Γ p0 ro hΓ hro Q Qc hQ K st a h (hk.1 (hp rfl)))
    · exact hk.elim
  | block id c ih =>
    intro Γ p0 ro hΓ hro Q Qc hQ K st a h hk
    refine wpIn_block (ih Γ p0 ro hΓ hro (inBlockA id Q) _ (fun e K' st' a' hi hk' => ?_) K st a h hk)
    cases e with
    | exit id' =>
      simp only [inBlockA] at hk'
      simp only [Exit.inBlock]
      by_cases e : id' = id
      · subst e
        rw [if_pos rfl]
        simp only [beq_self_eq_true, cond_true] at hk'
        exact hQ _ K' st' a' hi hk'
      · rw [if_neg e]
        have : (id' == id) = false := by simpa using e
        simp only [this, cond_false] at hk'
        exact hQ _ K' st' a' hi hk'
    | _ => exact hQ _ K' st' a' hi hk'
  | loop c ih =>
    intro Γ p0 ro hΓ hro Q Qc hQ K st a h hk
    have hpn := And.intro hΓ.nb hΓ.nt
    obtain ⟨α, F, μ, a0, hle, hn, hround⟩ := hk
    obtain ⟨K0, hw0, h0⟩ := h.le hle (by have := hn a0; omega) (by have := hn a0; omega)
    refine wpIn_loop_ghost (fun n a' w' => ∃ x K', μ x = n ∧ K'.w = w' ∧ Inv P B p0 K' (F x) a') (μ a0) ⟨a0, K0, rfl, hw0, h0⟩ ?_
    rintro n a' w' ⟨x, K', rfl, rfl, hi⟩
    refine ih Γ p0 ro hΓ hro _ _ (fun e K2 st2 a2 hi2 hk2 => ?_) K' (F x) a' hi (hround x)
    cases e with
    | normal =>
      obtain ⟨x', hle', hlt⟩ := hk2
      obtain ⟨K3, hw3, h3⟩ := hi2.le hle' (by have := hn x'; omega) (by have := hn x'; omega)
      exact ⟨μ x', hlt, x', K3, rfl, hw3, h3⟩
    | _ => exact hQ _ K2 st2 a2 hi2 hk2
  | rangeFunc g ps assign body iha ihb =>
    intro Γ p0 ro hΓ hro Q Qc hQ K st a h hk
    exact range_wp (A := fun Γ => awp τ Γ assign) (Bd := fun Γ => awp τ Γ body) (fun Γ p1 l h1 h2 => iha Γ p1 (some l) h1 (fun l' e => (by cases e; exact h2))) (fun Γ p1 l h1 h2 => ihb Γ p1 (some l) h1 (fun l' e => (by cases e; exact h2))) hΓ hro hQ h hk
  | scope c ih =>
    intro Γ p0 ro hΓ hro Q Qc hQ K st a h hk
    refine wpIn_scope_straight (ih Γ p0 ro hΓ hro (noGotoA Q) _ (fun e K' st' a' hi hk' => ?_) K st a h hk)
    cases e with
    | goto l => exact hk'.elim
    | _ => exact hQ _ K' st' a' hi hk'
  | refuse _ => exact fun Γ p0 ro hΓ hro Q Qc hQ K st a h hk => hk.elim
def resOne (τ : Tys) (st : St) : ResultVar → Option V
  | .tmp t => some (evOp st.ρ (.tmp t))
  | .cell a t => (evLoadR τ st.L t (evOp st.ρ (.tmp a))).map (·.2)
def resAll (τ : Tys) (st : St) : List ResultVar → Option (List V)
  | [] => some []
  | r :: rs => match resOne τ st r, resAll τ st rs with
    | some v, some l => some (v :: l)
    | _, _ => none
def resV (τ : Tys) (st : St) (rs : List ResultVar) : Option V :=
  match resAll τ st rs with
  | some [v] => some v
  | some l => some (.tuple l)
  | none => none
def renT (k : Nat) : Option Nat → Option Nat
  | some j => if j = k then some 0 else none
  | none => none
def V.ren1 (k : Nat) : V → V
  | .bytes l t => .bytes l (renT k t)
  | .list sz l t => .list sz l (renT k t)
  | v => v
def V.ren (k : Nat) : V → V
  | .tuple l => .tuple (l.map (V.ren1 k))
  | v => v.ren1 k
def Ret (T : List (Nat × TypeId)) (v r : V) (fr : List (Nat × TypeId)) : Prop :=
  v.flat ∧ match fr with
  | [] => V.le v.drop r
  | [x] => ∃ k, T[k]? = some x ∧ V.le (v.ren k) r
  | _ => False
def retRow (τ : Tys) (L : List (List V)) (em : TypeId) (o off n : Nat) (k : V → Prop) : List (Nat × TypeId) → Prop
  | [] => ∃ l cs, L[o]? = some cs ∧ off + n ≤ cs.length ∧ (cs.drop off).take n = l.map byteV ∧ k (.bytes l none)
  | [x] => (off = 0 ∧ x.2 = em ∧ sizeV τ em = 1) ∧ ∃ l : List UInt8, L[o]? = some (l.map byteV) ∧ n = l.length ∧ x.1 = n ∧ k (.bytes l (some 0))
  | _ => False
def headM : List V → Bool
  | [] => false
  | x :: _ => x.isM
def V.hasRow : V → Bool
  | .tuple l => headM l
  | v => v.isM
def RetM (τ : Tys) (L : List (List V)) (r : V) (fr : List (Nat × TypeId)) : V → Prop
  | .mrow em o off n => retRow τ L em o off n (fun b => V.le b r) fr
  | .tuple (.mrow em o off n :: rest) => (∀ v ∈ rest, v.plain) ∧ retRow τ L em o off n (fun b => V.le (.tuple (b :: rest)) r) fr
  | _ => False
def retPost (τ : Tys) (rs : List ResultVar) (r : V) (fr : List (Nat × TypeId)) : Exit → St → Prop
  | .normal, st => ∃ v, resV τ st rs = some v ∧ bif v.hasRow then RetM τ st.L r fr v else Ret st.T v r fr
  | .ret, st => ∃ v, resV τ st rs = some v ∧ bif v.hasRow then RetM τ st.L r fr v else Ret st.T v r fr
  | _, _ => False
theorem row_out {w : World} {prot : Nat → Nat → Prop} (hth : ∀ b o, prot b o → b < w.heap.size) {K : Kw} {L : List (List V)} {T : List (Nat × TypeId)} (hτ : TyOk P τ) (h : Mem P w (Bs.pure w prot) K L T)
    {em : TypeId} {o off n : Nat} {u : Value} (hr : Rel K (.mrow em o off n) u) {k : V → Prop} {fr : List (Nat × TypeId)} (hk : retRow τ L em o off n k fr) :
    ∃ K' b, k b ∧ K'.w = K.w ∧ Mem P w (Bs.pure w prot) K' [] fr ∧ Rel K' b u := by
  cases hr with
  | mrow _ _ _ _ A c hc hm hA =>
  have hrd : ∀ (l : List UInt8) (cs : List V), L[o]? = some cs → off + n ≤ cs.length → (cs.drop off).take n = l.map byteV → ∀ j (hj : j < l.length), ∃ b, A = some ⟨b, off, none⟩ ∧ K.boxes[o]? = some (some b) ∧ K.w.cell? ⟨b, off + j, none⟩ = some (.int .u8 l[j].toNat) := by
    intro l cs hcs hfit hb j hj
    have hln : l.length = n := by
      have := congrArg List.length hb
      rw [List.length_take, List.length_drop, List.length_map] at this
      omega
    rcases hA with ⟨h0, _⟩ | ⟨b, m1, rfl, hbx, hs, hle⟩
    · omega
    obtain ⟨cur, ty, hh, hsz, hr⟩ := box_cells (off := off) h.boxes hcs hbx hs
    refine ⟨b, rfl, hbx, ?_⟩
    have hcj : cs[off + j]'(by omega) = byteV l[j] := by
      have h1 : (l.map byteV)[j]? = ((cs.drop off).take n)[j]? := by rw [hb]
      rw [List.getElem?_map, List.getElem?_eq_getElem hj, List.getElem?_take_of_lt (by omega), List.getElem?_drop, List.getElem?_eq_getElem (show off + j < cs.length by omega)] at h1
      simpa using h1.symm
    rw [cell_of_row K.w b (off + j) cur ty (0, 0) hh, Array.getElem?_eq_getElem (by omega)]
    have h2 := (hr (off + j) (by omega)).1
    rw [hcj] at h2
    simp only [byteV] at h2
    cases hv : cur[off + j]'(by omega) <;> rw [hv] at h2 <;> cases h2
    rfl
  have hge : ∀ b, K.boxes[o]? = some (some b) → w.heap.size ≤ b ∧ b < K.w.heap.size := fun b hb => ⟨h.boxGe b (List.mem_of_getElem? hb), h.boxes.lt (List.mem_of_getElem? hb)⟩
  have hmem : ∀ (ts : List (Value × Nat × TypeId)), (∀ (k : Nat) v n' e, ts[k]? = some (v, n', e) → TokAt P w.heap.size ⟨K.w, fun b' o' => prot b' o' ∨ (K.boxes[o]? = some (some b') ∧ off ≤ o' ∧ o' < off + n), [], ts⟩ v n' e) → ts.length ≤ 1 →
      Mem P w (Bs.pure w prot) ⟨K.w, fun b' o' => prot b' o' ∨ (K.boxes[o]? = some (some b') ∧ off ≤ o' ∧ o' < off + n), [], ts⟩ [] (ts.map (·.2)) := by
    intro ts hts hlen
    refine ⟨h.below, fun b' o' hlt => ⟨fun hp => hp.resolve_right fun ⟨e1, _⟩ => ?_, .inl⟩, fun b' o' hp => ?_, ⟨rfl, fun o cs h => (by simp at h)⟩, fun b hb => (by cases hb), fun o b cs h => (by simp at h), fun o o' b h1 h2 => (by simp at h1), rfl, hts, fun k1 k2 t t' b h1 h2 _ _ => ?_, fun k t b _ _ hb => (by cases hb), keeps_pure _ _ _, h.tabs⟩
    · have := (hge b' e1).1; omega
    · rcases hp with hp | ⟨e1, _⟩
      · have := hth b' o' hp; have := h.below.size; show b' < K.w.heap.size; omega
      · exact (hge b' e1).2
    · have h1' := (List.getElem?_eq_some_iff.1 h1).1
      have h2' := (List.getElem?_eq_some_iff.1 h2).1
      simp only at h1' h2'
      omega
  match fr, hk with
  | [], ⟨l, cs, hcs, hfit, hb, hkb⟩ =>
    have hln : n = l.length := by
      have := congrArg List.length hb
      rw [List.length_take, List.length_drop, List.length_map] at this
      omega
    refine ⟨⟨K.w, fun b' o' => prot b' o' ∨ (K.boxes[o]? = some (some b') ∧ off ≤ o' ∧ o' < off + n), [], []⟩, _, hkb, rfl, hmem [] (fun k v n' e h => (by simp at h)) (by simp), Rel.bytes' hln hc hm (fun j hj => ?_) trivial⟩
    obtain ⟨b, e1, hbx, hcell⟩ := hrd l cs hcs hfit hb j hj
    refine ⟨_, e1, .inr ⟨?_, ?_, ?_⟩, ?_⟩
    · rw [add_block]; exact hbx
    · rw [Addr.add_lit]; simp
    · rw [Addr.add_lit]; simp; omega
    · rw [Addr.add_lit]; exact hcell
  | [(m, e)], ⟨⟨hoff, hee, hsz⟩, l, hcs, hn, hmn, hkb⟩ =>
    obtain rfl : m = n := hmn
    obtain rfl : e = em := hee
    subst hoff
    obtain ⟨n, rfl⟩ : ∃ n, n = m := ⟨m, rfl⟩
    have hfit : 0 + n ≤ (l.map byteV).length := by rw [List.length_map]; omega
    have hb : ((l.map byteV).drop 0).take n = l.map byteV := by rw [List.drop_zero, List.take_of_length_le (by rw [List.length_map]; omega)]
    refine ⟨⟨K.w, fun b' o' => prot b' o' ∨ (K.boxes[o]? = some (some b') ∧ 0 ≤ o' ∧ o' < 0 + n), [], [(.slice A n c, n, e)]⟩, _, hkb, rfl, hmem [(.slice A n c, n, e)] (fun k v n' e' hk' => ?_) (by simp), Rel.bytes' hn hc hm (fun j hj => ?_) ⟨.slice A n c, n, e, rfl, by omega, fun _ => rfl⟩⟩
    · have h1 := (List.getElem?_eq_some_iff.1 hk').1
      have e1 : k = 0 := by simp at h1; omega
      subst e1
      simp only [List.getElem?_cons_zero, Option.some.injEq, Prod.mk.injEq] at hk'
      obtain ⟨rfl, rfl, rfl⟩ := hk'
      rcases hA with ⟨h0, h0'⟩ | ⟨b, m1, rfl, hbx, hs, hle⟩
      · exact .inl ⟨⟨A, by rw [h0, h0']⟩, .inl h0⟩
      · by_cases hc0 : c = 0
        · exact .inl ⟨⟨_, by rw [hc0, show n = 0 by omega]⟩, .inl (by omega)⟩
        · obtain ⟨cur, ty, hh, hsz2, _⟩ := box_cells (off := 0) h.boxes hcs hbx hs
          have hsc := shape_cells hh
          rw [hs] at hsc
          simp only [Option.some.injEq, Prod.mk.injEq] at hsc
          obtain ⟨rfl, rfl⟩ := hsc
          obtain ⟨ti, hti, hs1⟩ := sizeV_pos hsz (by omega)
          obtain ⟨i, hi, hi1, _⟩ := hτ.info hti
          refine .inr ⟨b, c, cur, i, rfl, by omega, (hge b hbx).1, hh, hi, hc, hm, ⟨by omega, by rw [hi1, hs1]; omega⟩, fun o' ho' hp => ?_⟩
          rcases hp with hp | ⟨_, _, hp⟩
          · have := hth b o' hp; have := (hge b hbx).1; omega
          · rw [hi1, hs1] at ho'; omega
    · obtain ⟨b, e1, hbx, hcell⟩ := hrd l _ hcs hfit hb j hj
      refine ⟨_, e1, .inr ⟨?_, ?_, ?_⟩, ?_⟩
      · rw [add_block]; exact hbx
      · rw [Addr.add_lit]; simp
      · rw [Addr.add_lit]; simp; omega
      · rw [Addr.add_lit]; exact hcell
theorem retM_sound {w : World} {prot : Nat → Nat → Prop} (hth : ∀ b o, prot b o → b < w.heap.size) {K : Kw} {L : List (List V)} {T : List (Nat × TypeId)} (hτ : TyOk P τ) (h : Mem P w (Bs.pure w prot) K L T)
    {v r : V} {u : Value} (hr : Rel K v u) {fr : List (Nat × TypeId)} (hk : RetM τ L r fr v) : ∃ K', K'.w = K.w ∧ Mem P w (Bs.pure w prot) K' [] fr ∧ Rel K' r u := by
  unfold RetM at hk
  split at hk
  · obtain ⟨K', b, h1, h2, h3, h4⟩ := row_out hth hτ h hr hk
    exact ⟨K', h2, h3, le_rel _ _ h1 _ h4⟩
  · rename_i em o off n rest
    obtain ⟨hpl, hk⟩ := hk
    cases hr with
    | tuple _ vs hl hj =>
      have h0 := hj 0 (by simp)
      obtain ⟨K', b, h1, h2, h3, h4⟩ := row_out hth hτ h h0 hk
      refine ⟨K', h2, h3, le_rel _ _ h1 _ (.tuple _ vs (by simpa using hl) fun j hj' => ?_)⟩
      cases j with
      | zero => exact h4
      | succ j =>
        have hj1 := hj (j + 1) (by simpa using hj')
        simp only [List.getElem_cons_succ] at hj1 ⊢
        exact Rel.plain (K := K) (K2 := K') hj1 (hpl _ (List.getElem_mem _))
  · exact hk.elim
theorem resAll_sound (hτ : TyOk P τ) (h : Inv P B p0 K st a) : ∀ (rs : List ResultVar) (l : List V), resAll τ st rs = some l →
    ∃ us : List Value, (rs.mapM fun | .tmp t => pure (a.tmps.getD t undef) | .cell x t => do loadVar t (← asAddr (a.tmps.getD x undef)) : Sem (List Value)).run P K.w = .ok us K.w ∧ us.length = l.length ∧ ∀ j (hj : j < l.length) (hj' : j < us.length), Rel K l[j] us[j]
  | [], l, hr => by
    simp only [resAll, Option.some.injEq] at hr
    subst hr
    exact ⟨[], rfl, rfl, fun j hj => absurd hj (by simp)⟩
  | r :: rs, l, hr => by
    simp only [resAll] at hr
    split at hr
    · rename_i v l' hv hl
      simp only [Option.some.injEq] at hr
      subst hr
      obtain ⟨us, hrun, hlen, hrel⟩ := resAll_sound hτ h rs l' hl
      have hone : ∃ u, (match r with | .tmp t => pure (a.tmps.getD t undef) | .cell x t => do loadVar t (← asAddr (a.tmps.getD x undef)) : Sem Value).run P K.w = .ok u K.w ∧ Rel K v u := by
        cases r with
        | tmp t =>
          simp only [resOne, Option.some.injEq] at hv
          subst hv
          exact ⟨_, rfl, h.ev (.tmp t)⟩
        | cell x t =>
          simp only [resOne, Option.map_eq_some_iff] at hv
          obtain ⟨⟨p, v'⟩, hv', rfl⟩ := hv
          obtain ⟨u, hu, hr⟩ := loadR_sound (P := P) hτ h.mem.boxes hv' (h.ev (.tmp x))
          refine ⟨u, ?_, hr⟩
          show (do loadVar t (← asAddr (a.tmps.getD x undef)) : Sem Value).run P K.w = _
          have hx : a.eval (.tmp x) = a.tmps.getD x undef := rfl
          rw [hx] at hu
          unfold evLoadR at hv'
          have hrx := h.ev (.tmp x)
          rw [hx] at hrx
          split at hv'
          · rename_i e1
            rw [e1] at hrx
            generalize a.tmps.getD x undef = w0 at hu hrx ⊢
            cases hrx
            simpa [Instr.loadAt, Instr.sureAddr, asAddr] using hu
          · rename_i e1
            rw [e1] at hrx
            generalize a.tmps.getD x undef = w0 at hu hrx ⊢
            cases hrx
            simpa [Instr.loadAt, Instr.sureAddr, asAddr] using hu
          · cases hv'
      obtain ⟨u, hu, hru⟩ := hone
      refine ⟨u :: us, ?_, by simp [hlen], fun j hj hj' => ?_⟩
      · rw [List.mapM_cons]
        simp only [Sem.run_bind, hu, Result.andThen_ok, hrun, Sem.run_pure]
      · cases j with
        | zero => exact hru
        | succ j => exact hrel j (by simpa using hj) (by simpa using hj')
    · cases hr
theorem results_sound (hτ : TyOk P τ) (h : Inv P B p0 K st a) {fn : Func} {v : V} (hr : resV τ st fn.results.toList = some v) : ∃ u, (results fn a.tmps).run P K.w = .ok u K.w ∧ Rel K v u := by
  unfold resV at hr
  have key : ∀ l, resAll τ st fn.results.toList = some l → ∃ us : Array Value, (fn.results.mapM fun | .tmp t => pure (a.tmps.getD t undef) | .cell x t => do loadVar t (← asAddr (a.tmps.getD x undef)) : Sem (Array Value)).run P K.w = .ok us K.w ∧ us.size = l.length ∧ ∀ j (hj : j < l.length) (hj' : j < us.size), Rel K l[j] us[j] := by
    intro l hl
    obtain ⟨us, hrun, hlen, hrel⟩ := resAll_sound (P := P) hτ h _ l hl
    refine ⟨us.toArray, ?_, by simpa using hlen, fun j hj hj' => by simpa using hrel j hj (by simpa using hj')⟩
    rw [Array.mapM_eq_mapM_toList]
    simp only [Sem.run_map, hrun, Result.andThen_ok]
  split at hr
  · rename_i v' hl
    simp only [Option.some.injEq] at hr
    subst hr
    obtain ⟨us, hrun, hsz, hrel⟩ := key _ hl
    have h1 : us.size = 1 := hsz
    refine ⟨us[0], ?_, hrel 0 (by simp) (by omega)⟩
    change (do let vs ← (fn.results.mapM fun | .tmp t => pure (a.tmps.getD t undef) | .cell x t => do loadVar t (← asAddr (a.tmps.getD x undef)) : Sem (Array Value)); pure (if h : vs.size = 1 then vs[0] else .tuple vs) : Sem Value).run P K.w = _
    simp only [Sem.run_bind, hrun, Result.andThen_ok]
    simp [h1]
  · rename_i l hne hl
    simp only [Option.some.injEq] at hr
    subst hr
    obtain ⟨us, hrun, hsz, hrel⟩ := key _ hl
    refine ⟨.tuple us, ?_, .tuple l us hsz fun j hj => hrel j hj (by omega)⟩
    have h1 : ¬ us.size = 1 := fun e => by
      rw [hsz] at e
      obtain ⟨x, rfl⟩ := List.length_eq_one_iff.1 e
      exact hne x rfl
    change (do let vs ← (fn.results.mapM fun | .tmp t => pure (a.tmps.getD t undef) | .cell x t => do loadVar t (← asAddr (a.tmps.getD x undef)) : Sem (Array Value)); pure (if h : vs.size = 1 then vs[0] else .tuple vs) : Sem Value).run P K.w = _
    simp only [Sem.run_bind, hrun, Result.andThen_ok]
    simp [h1]
  · cases hr
theorem Rel.ren1 {K' K2 : Kw} {k : Nat} (hrd : ∀ a u, K'.rd a u → K2.rd a u) (hk : ∀ t, K'.toks[k]? = some t → K2.toks[0]? = some t) {x : V} {v : Value} (h : Rel K' x v) (hf : x.flat1) : Rel K2 (x.ren1 k) v := by
  have tk : ∀ {t : Option Nat} {m : Nat} {u : Value}, K'.tokOk t m u → K2.tokOk (renT k t) m u := by
    intro t m u ht
    cases t with
    | none => trivial
    | some j =>
      by_cases e : j = k
      · subst e
        simp only [renT, if_true]
        obtain ⟨u', m', e, h1, h2, h3⟩ := ht
        exact ⟨u', m', e, hk _ h1, h2, h3⟩
      · simp only [renT, e, if_false]
        trivial
  by_cases hb : (∃ l t, x = .bytes l t) ∨ ∃ sz l t, x = .list sz l t
  · rcases hb with ⟨l, t, rfl⟩ | ⟨sz, l, t, rfl⟩
    · have e : (V.bytes l t).ren1 k = .bytes l (renT k t) := rfl
      rw [e]
      cases h with
      | bytes l t A c hc hm hr ht => exact .bytes l _ A c hc hm (fun j hj => let ⟨ad, e, r⟩ := hr j hj; ⟨ad, e, hrd _ _ r⟩) (tk ht)
    · have e : (V.list sz l t).ren1 k = .list sz l (renT k t) := rfl
      rw [e]
      have hcl : ∀ v ∈ l, v.clean := hf
      cases h with
      | list sz l t A c f hc hm hs hr hf ht =>
      refine .list sz l _ A c f hc hm hs (fun j hj => let ⟨⟨ad, e, r⟩, o⟩ := hr j hj; ⟨⟨ad, e, hrd _ _ r⟩, o⟩) (fun j hj => (hf j hj).clean hrd ?_) (tk ht)
      obtain ⟨v, hv, hx⟩ := List.mem_flatMap.1 (List.getElem_mem hj)
      exact clean_cells (hcl v hv) _ hx
  · have e : x.ren1 k = x := by cases x <;> first | rfl | exact absurd (.inl ⟨_, _, rfl⟩) hb | exact absurd (.inr ⟨_, _, _, rfl⟩) hb
    have hc : x.clean := by cases x <;> first | exact hf | exact absurd (.inl ⟨_, _, rfl⟩) hb | exact absurd (.inr ⟨_, _, _, rfl⟩) hb
    rw [e]
    exact h.clean hrd hc
theorem Rel.ren {K' K2 : Kw} {k : Nat} (hrd : ∀ a u, K'.rd a u → K2.rd a u) (hk : ∀ t, K'.toks[k]? = some t → K2.toks[0]? = some t) {x : V} {v : Value} (h : Rel K' x v) (hf : x.flat) : Rel K2 (x.ren k) v := by
  by_cases hb : ∃ l, x = .tuple l
  · obtain ⟨l, rfl⟩ := hb
    simp only [V.flat] at hf
    cases h with
    | tuple l vs hl hj =>
    refine .tuple _ vs (by simpa using hl) fun j hj' => ?_
    simp only [List.length_map] at hj'
    simp only [List.getElem_map]
    exact (hj j hj').ren1 hrd hk (hf _ (List.getElem_mem hj'))
  · have e : x.ren k = x.ren1 k := by cases x <;> first | rfl | exact absurd ⟨_, rfl⟩ hb
    have hc : x.flat1 := by cases x <;> first | exact hf | exact absurd ⟨_, rfl⟩ hb
    rw [e]
    exact h.ren1 hrd hk hc
theorem fsound (hτ : TyOk P τ) (hΓ : FnsOk P Γ) (hmix : P.follows .mixedOrders = true) {f : FuncId} {fn : Func} {c : Code} {m : FM} (hf : P.funcs[f]? = some fn) (hb : fn.body = some c)
    (h : ∀ args p r fr, m args = some (p, r, fr) → p → awp τ Γ c (retPost τ fn.results.toList r fr) ⟨args ++ List.replicate (fn.ntmps - args.length) .undef, [], []⟩) (hy0 : Γ.hy = fun _ => none := by rfl) : FSound P f m := by
  intro w prot args vs p r fr htt hth hm hp hsz hrel
  refine callsIn_wide.1 (callsIn_of_wp_marks (F := Fence.wide) (n := 0) hf hb trivial ?_)
  have hmem0 : Mem P w (Bs.pure w prot) ⟨w, prot, [], []⟩ [] [] := ⟨Below.refl _ _, fun _ _ _ => Iff.rfl, hth, ⟨rfl, fun o cs h => (by simp at h)⟩, fun b hb => (by cases hb), fun o b cs h => (by simp at h), fun o o' b h1 h2 => (by simp at h1), rfl, fun k v n e h => (by simp at h), fun k k' t t' b h => (by simp at h), fun k t b h => (by simp at h), keeps_pure _ _ _, htt⟩
  have hinv : Inv P w (Bs.pure w prot) ⟨w, prot, [], []⟩ ⟨args ++ List.replicate (fn.ntmps - args.length) .undef, [], []⟩ { tmps := vs ++ Array.replicate (fn.ntmps - vs.size) Go.undef, defers := [] } := by
    refine ⟨hmem0, by simp [hsz], fun i hi hi' => ?_, trivial⟩
    simp only [List.getElem_append, Array.getElem_append]
    by_cases hlt : i < args.length
    · have hlt' : i < vs.size := by omega
      simp only [hlt, hlt', dite_true]
      exact hrel i hlt hlt'
    · have hlt' : ¬ i < vs.size := by omega
      simp only [hlt, hlt', dite_false, List.getElem_replicate, Array.getElem_replicate]
      exact .undef
  have hpost : ∀ (K : Kw) (st : St) (a : Act), Inv P w (Bs.pure w prot) K st a → (∃ v, resV τ st fn.results.toList = some v ∧ bif v.hasRow then RetM τ st.L r fr v else Ret st.T v r fr) →
      ∃ v, (results fn a.tmps).run P K.w = .ok v K.w ∧ ∃ u K', Ending.returned v = .returned u ∧ K'.w = K.w ∧ Mem P w (Bs.pure w prot) K' [] fr ∧ Rel K' r u := by
    intro K st a hi ⟨v, hv, hret⟩
    obtain ⟨u, hu, hr⟩ := results_sound (P := P) hτ hi hv
    refine ⟨u, hu, u, ?_⟩
    have hme := hi.mem
    cases hrow : v.hasRow with
    | true =>
      rw [hrow, cond_true] at hret
      obtain ⟨K', h1, h2, h3⟩ := retM_sound hth hτ hme hr hret
      exact ⟨K', rfl, h1, h2, h3⟩
    | false =>
    rw [hrow, cond_false] at hret
    obtain ⟨hflat, hret⟩ := hret
    match fr, hret with
    | [], hle =>
      refine ⟨{ K with boxes := [], toks := [] }, rfl, rfl, ⟨hme.below, hme.old, hme.there, ⟨rfl, fun o cs h => (by simp at h)⟩, fun b hb => (by cases hb), fun o b cs h => (by simp at h), fun o o' b h1 h2 => (by simp at h1), rfl, fun k v n e h => (by simp at h), fun k k' t t' b h => (by simp at h), fun k t b h => (by simp at h), keeps_pure _ _ _, htt⟩, ?_⟩
      exact le_rel _ _ hle _ (Rel.dropped (K' := K) (K2 := { K with boxes := [], toks := [] }) (fun _ _ h => h) hr hflat)
    | [(n, e)], ⟨k, hk, hle⟩ =>
      obtain ⟨v0, hk0⟩ := tok_get hme hk
      refine ⟨{ K with boxes := [], toks := [(v0, n, e)] }, rfl, rfl, ⟨hme.below, hme.old, hme.there, ⟨rfl, fun o cs h => (by simp at h)⟩, fun b hb => (by cases hb), fun o b cs h => (by simp at h), fun o o' b h1 h2 => (by simp at h1), rfl, fun k' v' n' e' h => ?_, fun k1 k2 t t' b h1 h2 _ _ => ?_, fun k t b _ _ hb => (by cases hb), keeps_pure _ _ _, htt⟩, ?_⟩
      · have h1 := (List.getElem?_eq_some_iff.1 h).1
        have e1 : k' = 0 := by simp at h1; omega
        subst e1
        simp at h
        obtain ⟨rfl, rfl, rfl⟩ := h
        exact hme.tokAt k _ _ _ hk0
      · have h1' := (List.getElem?_eq_some_iff.1 h1).1
        have h2' := (List.getElem?_eq_some_iff.1 h2).1
        simp at h1' h2'
        omega
      · exact le_rel _ _ hle _ (Rel.ren (K' := K) (K2 := { K with boxes := [], toks := [(v0, n, e)] }) (k := k) (fun _ _ h => h) (fun t ht => by rw [hk0] at ht; simpa using ht) hr hflat)
  have hΓ' : FnsAt P w (Bs.pure w prot) Γ := { toFnsOk := hΓ, hy := fun b m hb => (by rw [hy0] at hb; cases hb), nb := Nat.zero_le _, nt := Nat.zero_le _ }
  refine awp_wp hτ hmix c Γ (Bs.pure w prot) none hΓ' (fun l e => by cases e) _ _ (fun e K st a hi hk => ?_) _ _ _ hinv (h args p r fr hm hp)
  cases e <;> first | exact leaves_marks a.defers K hi.defers hi.mem (fun K' he' hm' => hpost K' st { a with defers := [] } ⟨hm', hi.size, fun i h1 h2 => (hi.slots i h1 h2).ext0 he', trivial⟩ hk) | exact hk.elim
def retPostH (τ : Tys) (rs : List ResultVar) (nb nt : Nat) (r : V) (L' : List (List V)) (T' : List (Nat × TypeId)) : Exit → St → Prop
  | .normal, st => (nb ≤ L'.length ∧ nt ≤ T'.length) ∧ ∃ v, resV τ st rs = some v ∧ St.le ⟨[v], st.L, st.T⟩ ⟨[r], L', T'⟩
  | .ret, st => (nb ≤ L'.length ∧ nt ≤ T'.length) ∧ ∃ v, resV τ st rs = some v ∧ St.le ⟨[v], st.L, st.T⟩ ⟨[r], L', T'⟩
  | _, _ => False
theorem hsound (hτ : TyOk P τ) (hΓ : FnsOk P Γ) (hmix : P.follows .mixedOrders = true) {f : FuncId} {fn : Func} {c : Code} {m : HM} (hf : P.funcs[f]? = some fn) (hb : fn.body = some c)
    (h : ∀ args L T p r L' T', m args L T = some (p, r, L', T') → p → awp τ { Γ with nb := L.length, nt := T.length } c (retPostH τ fn.results.toList L.length T.length r L' T') ⟨args ++ List.replicate (fn.ntmps - args.length) .undef, L, T⟩) (hy0 : Γ.hy = fun _ => none := by rfl) : HSound P f m := by
  intro B p0 K L T args vs p r L' T' hmem hm hp hsz hrel
  refine callsIn_wide.1 (callsIn_of_wp_marks (F := Fence.wide) (n := 0) hf hb trivial ?_)
  have hlb := hmem.boxes.1
  have hlt : K.toks.length = T.length := by rw [← hmem.toks]; simp
  have hmem0 : Mem P B ⟨p0.p, K, L.length, T.length⟩ K L T := hmem.rebase rfl (Keeps.refl _ _ K)
  have hinv : Inv P B ⟨p0.p, K, L.length, T.length⟩ K ⟨args ++ List.replicate (fn.ntmps - args.length) .undef, L, T⟩ { tmps := vs ++ Array.replicate (fn.ntmps - vs.size) Go.undef, defers := [] } := by
    refine ⟨hmem0, by simp [hsz], fun i hi hi' => ?_, trivial⟩
    simp only [List.getElem_append, Array.getElem_append]
    by_cases hlt : i < args.length
    · have hlt' : i < vs.size := by omega
      simp only [hlt, hlt', dite_true]
      exact hrel i hlt hlt'
    · have hlt' : ¬ i < vs.size := by omega
      simp only [hlt, hlt', dite_false, List.getElem_replicate, Array.getElem_replicate]
      exact .undef
  have hΓ' : FnsAt P B ⟨p0.p, K, L.length, T.length⟩ { Γ with nb := L.length, nt := T.length } := { fn := hΓ.fn, hp := hΓ.hp, it := hΓ.it, hy := fun b m hb => (by replace hb : Γ.hy b = some m := hb; rw [hy0] at hb; cases hb), nb := Nat.le_refl _, nt := Nat.le_refl _ }
  have hpost : ∀ (K1 : Kw) (st : St) (a : Act), Inv P B ⟨p0.p, K, L.length, T.length⟩ K1 st a → ((L.length ≤ L'.length ∧ T.length ≤ T'.length) ∧ ∃ v, resV τ st fn.results.toList = some v ∧ St.le ⟨[v], st.L, st.T⟩ ⟨[r], L', T'⟩) →
      ∃ v, (results fn a.tmps).run P K1.w = .ok v K1.w ∧ ∃ u K', Ending.returned v = .returned u ∧ K'.w = K1.w ∧ Ext K K' ∧ Mem P B p0 K' L' T' ∧ Rel K' r u := by
    intro K1 st a hi ⟨⟨hn1, hn2⟩, v, hv, hle⟩
    obtain ⟨u, hu, hr⟩ := results_sound (P := P) hτ hi hv
    refine ⟨u, hu, u, ?_⟩
    have hi2 : Inv P B ⟨p0.p, K, L.length, T.length⟩ K1 ⟨[v], st.L, st.T⟩ { tmps := #[u], defers := [] } := by
      refine ⟨hi.mem, rfl, fun i hi1 hi2 => ?_, trivial⟩
      have : i = 0 := by simpa using hi1
      subst this
      exact hr
    obtain ⟨K', hw, hi3⟩ := hi2.le hle hn1 hn2
    have hext : Ext K K' := hi3.mem.keeps.ext (by show K.boxes.length ≤ L.length; omega) (by show K.toks.length ≤ T.length; omega)
    exact ⟨K', rfl, hw, hext, hi3.mem.rebase rfl (hmem.keeps.step hext), hi3.slots 0 (by simp) (by simp)⟩
  refine awp_wp hτ hmix c _ ⟨p0.p, K, L.length, T.length⟩ none hΓ' (fun l e => by cases e) _ _ (fun e K1 st a hi hk => ?_) _ _ _ hinv (h args L T p r L' T' hm hp)
  cases e <;> first | exact leaves_marks a.defers K1 hi.defers hi.mem (fun K' he' hm' => hpost K' st { a with defers := [] } ⟨hm', hi.size, fun i h1 h2 => (hi.slots i h1 h2).ext0 he', trivial⟩ hk) | exact hk.elim
def retPostP (τ : Tys) (rs : List ResultVar) (nb nt : Nat) (Φ : V → List (List V) → List (Nat × TypeId) → Prop) : Exit → St → Prop
  | .normal, st => ∃ v r L' T', resV τ st rs = some v ∧ (nb ≤ L'.length ∧ nt ≤ T'.length) ∧ St.le ⟨[v], st.L, st.T⟩ ⟨[r], L', T'⟩ ∧ Φ r L' T'
  | .ret, st => ∃ v r L' T', resV τ st rs = some v ∧ (nb ≤ L'.length ∧ nt ≤ T'.length) ∧ St.le ⟨[v], st.L, st.T⟩ ⟨[r], L', T'⟩ ∧ Φ r L' T'
  | _, _ => False
theorem psound (hτ : TyOk P τ) (hΓ : FnsOk P Γ) (hmix : P.follows .mixedOrders = true) {f : FuncId} {fn : Func} {c : Code} {m : PM} (hf : P.funcs[f]? = some fn) (hb : fn.body = some c)
    (h : ∀ args L T Φ, m args L T Φ → awp τ { Γ with nb := L.length, nt := T.length } c (retPostP τ fn.results.toList L.length T.length Φ) ⟨args ++ List.replicate (fn.ntmps - args.length) .undef, L, T⟩) (hy0 : Γ.hy = fun _ => none := by rfl) : PSound P f m := by
  intro B p0 K L T args vs Φ hmem hm hsz hrel
  refine callsIn_wide.1 (callsIn_of_wp_marks (F := Fence.wide) (n := 0) hf hb trivial ?_)
  have hlb := hmem.boxes.1
  have hlt : K.toks.length = T.length := by rw [← hmem.toks]; simp
  have hmem0 : Mem P B ⟨p0.p, K, L.length, T.length⟩ K L T := hmem.rebase rfl (Keeps.refl _ _ K)
  have hinv : Inv P B ⟨p0.p, K, L.length, T.length⟩ K ⟨args ++ List.replicate (fn.ntmps - args.length) .undef, L, T⟩ { tmps := vs ++ Array.replicate (fn.ntmps - vs.size) Go.undef, defers := [] } := by
    refine ⟨hmem0, by simp [hsz], fun i hi hi' => ?_, trivial⟩
    simp only [List.getElem_append, Array.getElem_append]
    by_cases hlt : i < args.length
    · have hlt' : i < vs.size := by omega
      simp only [hlt, hlt', dite_true]
      exact hrel i hlt hlt'
    · have hlt' : ¬ i < vs.size := by omega
      simp only [hlt, hlt', dite_false, List.getElem_replicate, Array.getElem_replicate]
      exact .undef
  have hΓ' : FnsAt P B ⟨p0.p, K, L.length, T.length⟩ { Γ with nb := L.length, nt := T.length } := { fn := hΓ.fn, hp := hΓ.hp, it := hΓ.it, hy := fun b m hb => (by replace hb : Γ.hy b = some m := hb; rw [hy0] at hb; cases hb), nb := Nat.le_refl _, nt := Nat.le_refl _ }
  have hpost : ∀ (K1 : Kw) (st : St) (a : Act), Inv P B ⟨p0.p, K, L.length, T.length⟩ K1 st a → (∃ v r L' T', resV τ st fn.results.toList = some v ∧ (L.length ≤ L'.length ∧ T.length ≤ T'.length) ∧ St.le ⟨[v], st.L, st.T⟩ ⟨[r], L', T'⟩ ∧ Φ r L' T') →
      ∃ v, (results fn a.tmps).run P K1.w = .ok v K1.w ∧ ∃ u K' r L' T', Ending.returned v = .returned u ∧ K'.w = K1.w ∧ Ext K K' ∧ Mem P B p0 K' L' T' ∧ Rel K' r u ∧ Φ r L' T' := by
    intro K1 st a hi ⟨v, r, L', T', hv, ⟨hn1, hn2⟩, hle, hΦ⟩
    obtain ⟨u, hu, hr⟩ := results_sound (P := P) hτ hi hv
    refine ⟨u, hu, u, ?_⟩
    have hi2 : Inv P B ⟨p0.p, K, L.length, T.length⟩ K1 ⟨[v], st.L, st.T⟩ { tmps := #[u], defers := [] } := by
      refine ⟨hi.mem, rfl, fun i hi1 hi2 => ?_, trivial⟩
      have : i = 0 := by simpa using hi1
      subst this
      exact hr
    obtain ⟨K', hw, hi3⟩ := hi2.le hle hn1 hn2
    have hext : Ext K K' := hi3.mem.keeps.ext (by show K.boxes.length ≤ L.length; omega) (by show K.toks.length ≤ T.length; omega)
    exact ⟨K', r, L', T', rfl, hw, hext, hi3.mem.rebase rfl (hmem.keeps.step hext), hi3.slots 0 (by simp) (by simp), hΦ⟩
  refine awp_wp hτ hmix c _ ⟨p0.p, K, L.length, T.length⟩ none hΓ' (fun l e => by cases e) _ _ (fun e K1 st a hi hk => ?_) _ _ _ hinv (h args L T Φ hm)
  cases e <;> first | exact leaves_marks a.defers K1 hi.defers hi.mem (fun K' he' hm' => hpost K' st { a with defers := [] } ⟨hm', hi.size, fun i h1 h2 => (hi.slots i h1 h2).ext0 he', trivial⟩ hk) | exact hk.elim
theorem isound (hτ : TyOk P τ) (hΓ : FnsOk P Γ) (hmix : P.follows .mixedOrders = true) {f : FuncId} {fn : Func} {c : Code} {m : IM} (hf : P.funcs[f]? = some fn) (hb : fn.body = some c)
    (h : ∀ b Y args L T Φ, Mono Y → m b Y args L T Φ → awp τ { Γ with nb := L.length, nt := T.length, hy := fun b' => if b' = b then some Y else none } c (retPostP τ fn.results.toList L.length T.length Φ) ⟨args ++ List.replicate (fn.ntmps - args.length) .undef, L, T⟩) : ISound P f m := by
  intro B p0 K L T args vs Φ b Y hmem hY hmono hm hsz hrel
  refine callsIn_wide.1 (callsIn_of_wp_marks (F := Fence.wide) (n := 0) hf hb trivial ?_)
  have hlb := hmem.boxes.1
  have hlt : K.toks.length = T.length := by rw [← hmem.toks]; simp
  have hmem0 : Mem P B ⟨p0.p, K, L.length, T.length⟩ K L T := hmem.rebase rfl (Keeps.refl _ _ K)
  have hinv : Inv P B ⟨p0.p, K, L.length, T.length⟩ K ⟨args ++ List.replicate (fn.ntmps - args.length) .undef, L, T⟩ { tmps := vs ++ Array.replicate (fn.ntmps - vs.size) Go.undef, defers := [] } := by
    refine ⟨hmem0, by simp [hsz], fun i hi hi' => ?_, trivial⟩
    simp only [List.getElem_append, Array.getElem_append]
    by_cases hlt : i < args.length
    · have hlt' : i < vs.size := by omega
      simp only [hlt, hlt', dite_true]
      exact hrel i hlt hlt'
    · have hlt' : ¬ i < vs.size := by omega
      simp only [hlt, hlt', dite_false, List.getElem_replicate, Array.getElem_replicate]
      exact .undef
  have hΓ' : FnsAt P B ⟨p0.p, K, L.length, T.length⟩ { Γ with nb := L.length, nt := T.length, hy := fun b' => if b' = b then some Y else none } := { fn := hΓ.fn, hp := hΓ.hp, it := hΓ.it, hy := fun b' m' hb => (by replace hb : (if b' = b then some Y else none) = some m' := hb; by_cases e : b' = b; (subst e; simp at hb; subst hb; exact hY); (simp [e] at hb)), nb := Nat.le_refl _, nt := Nat.le_refl _ }
  have hpost : ∀ (K1 : Kw) (st : St) (a : Act), Inv P B ⟨p0.p, K, L.length, T.length⟩ K1 st a → (∃ v r L' T', resV τ st fn.results.toList = some v ∧ (L.length ≤ L'.length ∧ T.length ≤ T'.length) ∧ St.le ⟨[v], st.L, st.T⟩ ⟨[r], L', T'⟩ ∧ Φ r L' T') →
      ∃ v, (results fn a.tmps).run P K1.w = .ok v K1.w ∧ ∃ u K' r L' T', Ending.returned v = .returned u ∧ K'.w = K1.w ∧ Ext K K' ∧ Mem P B p0 K' L' T' ∧ Rel K' r u ∧ Φ r L' T' := by
    intro K1 st a hi ⟨v, r, L', T', hv, ⟨hn1, hn2⟩, hle, hΦ⟩
    obtain ⟨u, hu, hr⟩ := results_sound (P := P) hτ hi hv
    refine ⟨u, hu, u, ?_⟩
    have hi2 : Inv P B ⟨p0.p, K, L.length, T.length⟩ K1 ⟨[v], st.L, st.T⟩ { tmps := #[u], defers := [] } := by
      refine ⟨hi.mem, rfl, fun i hi1 hi2 => ?_, trivial⟩
      have : i = 0 := by simpa using hi1
      subst this
      exact hr
    obtain ⟨K', hw, hi3⟩ := hi2.le hle hn1 hn2
    have hext : Ext K K' := hi3.mem.keeps.ext (by show K.boxes.length ≤ L.length; omega) (by show K.toks.length ≤ T.length; omega)
    exact ⟨K', r, L', T', rfl, hw, hext, hi3.mem.rebase rfl (hmem.keeps.step hext), hi3.slots 0 (by simp) (by simp), hΦ⟩
  refine awp_wp hτ hmix c _ ⟨p0.p, K, L.length, T.length⟩ none hΓ' (fun l e => by cases e) _ _ (fun e K1 st a hi hk => ?_) _ _ _ hinv (h b Y args L T Φ hmono hm)
  cases e <;> first | exact leaves_marks a.defers K1 hi.defers hi.mem (fun K' he' hm' => hpost K' st { a with defers := [] } ⟨hm', hi.size, fun i h1 h2 => (hi.slots i h1 h2).ext0 he', trivial⟩ hk) | exact hk.elim
theorem FnsOk.nil (P : Program) {Γ : Fns} (h : Γ.fn = fun _ => none) (g : Γ.hp = fun _ => none) (i : Γ.it = fun _ => none := by rfl) : FnsOk P Γ := ⟨fun f m hm => (by rw [h] at hm; cases hm), fun f m hm => (by rw [g] at hm; cases hm), fun f m hm => (by rw [i] at hm; cases hm)⟩
theorem FnsOk.same {Γ' : Fns} (h : FnsOk P Γ) (e : Γ'.fn = Γ.fn) (g : Γ'.hp = Γ.hp) (i : Γ'.it = Γ.it := by rfl) : FnsOk P Γ' := ⟨fun f m hm => h.fn f m (by rw [← e]; exact hm), fun f m hm => h.hp f m (by rw [← g]; exact hm), fun f m hm => h.it f m (by rw [← i]; exact hm)⟩
theorem FnsOk.consI (h : FnsOk P Γ) (f0 : FuncId) (m0 : IM) (hs : ISound P f0 m0) {fn : Func} (hf : P.funcs[f0]? = some fn) (hn : fn.name ≠ "runtime.NumGoroutine") (hb : fn.body ≠ none) : FnsOk P { fn := Γ.fn, hp := Γ.hp, it := fun f => if f = f0 then some m0 else Γ.it f } := by
  refine ⟨h.fn, h.hp, fun f m hm => ?_⟩
  replace hm : (if f = f0 then some m0 else Γ.it f) = some m := hm
  by_cases e : f = f0
  · subst e
    simp at hm
    subst hm
    exact ⟨hs, fn, hf, hn, hb⟩
  · simp [e] at hm
    exact h.it f m hm
theorem FnsOk.cons (h : FnsOk P Γ) (f0 : FuncId) (m0 : FM) (hs : FSound P f0 m0) {fn : Func} (hf : P.funcs[f0]? = some fn) (hn : fn.name ≠ "runtime.NumGoroutine") (hb : fn.body ≠ none) : FnsOk P { fn := fun f => if f = f0 then some m0 else Γ f, hp := Γ.hp, it := Γ.it } := by
  refine ⟨fun f m hm => ?_, h.hp, h.it⟩
  replace hm : (if f = f0 then some m0 else Γ f) = some m := hm
  by_cases e : f = f0
  · subst e
    simp at hm
    subst hm
    exact ⟨hs, fn, hf, hn, hb⟩
  · simp [e] at hm
    exact h.fn f m hm
theorem FnsOk.consP (h : FnsOk P Γ) (f0 : FuncId) (m0 : PM) (hs : PSound P f0 m0) {fn : Func} (hf : P.funcs[f0]? = some fn) (hn : fn.name ≠ "runtime.NumGoroutine") (hb : fn.body ≠ none) : FnsOk P { fn := Γ.fn, hp := fun f => if f = f0 then some m0 else Γ.hp f, it := Γ.it } := by
  refine ⟨h.fn, fun f m hm => ?_, h.it⟩
  replace hm : (if f = f0 then some m0 else Γ.hp f) = some m := hm
  by_cases e : f = f0
  · subst e
    simp at hm
    subst hm
    exact ⟨hs, fn, hf, hn, hb⟩
  · simp [e] at hm
    exact h.hp f m hm
end
end Go.Proofs.YtckmcglkjfkghaaDoor.Aw
