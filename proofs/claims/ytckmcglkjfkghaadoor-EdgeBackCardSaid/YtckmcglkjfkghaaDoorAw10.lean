import Derived.Test.YtckmcglkjfkghaaDoorAwM
import Derived.RangeFuncRecord
import Derived.RangeFuncLeaves
namespace Go.Proofs.YtckmcglkjfkghaaDoor.Aw
open Go Go.RowKit
set_option linter.unusedVariables false
set_option linter.unusedSimpArgs false
def V.clean : V → Prop
  | .bytes _ t => t = none
  | .list _ l t => t = none ∧ ∀ v ∈ l, v.clean
  | .agg l => ∀ v ∈ l, v.clean
  | .tuple l => ∀ v ∈ l, v.clean
  | .box _ _ => False
  | .mrow _ _ _ _ => False
  | .vrow _ _ _ _ => False
  | .mref _ => False
  | .iter _ => False
  | .ref v => v.clean
  | .fn _ l m => (∀ v ∈ l, v.clean) ∧ ∀ v ∈ m, v.clean
  | _ => True
def V.top : V → V
  | .bytes l _ => .bytes l none
  | .list sz l _ => .list sz l none
  | v => v
def V.drop : V → V
  | .tuple l => .tuple (l.map V.top)
  | v => v.top
def V.up1 (n : Nat) : V → V
  | .bytes l (some k) => .bytes l (some (n + k))
  | .list sz l (some k) => .list sz l (some (n + k))
  | v => v
def V.up (n : Nat) : V → V
  | .tuple l => .tuple (l.map (V.up1 n))
  | v => v.up1 n
def V.flat1 : V → Prop
  | .bytes _ _ => True
  | .list _ l _ => ∀ v ∈ l, v.clean
  | v => v.clean
def V.flat : V → Prop
  | .tuple l => ∀ v ∈ l, v.flat1
  | v => v.flat1
theorem clean_cells : ∀ {v : V}, v.clean → ∀ x ∈ v.cells, x.clean := by
  intro v h x hx
  cases v <;> simp only [V.cells, List.mem_singleton] at hx <;> first | (subst hx; exact h) | skip
  simp only [V.clean] at h
  exact h x hx
theorem Rel.clean {K K2 : Kw} (hrd : ∀ a u, K.rd a u → K2.rd a u) {x : V} {v : Value} (hr : Rel K x v) : x.clean → Rel K2 x v := by
  induction hr with
  | any v => exact fun _ => .any v
  | undef => exact fun _ => .undef
  | int k n => exact fun _ => .int k n
  | bool b => exact fun _ => .bool b
  | may p q b hp hq => exact fun _ => .may p q b hp hq
  | str l => exact fun _ => .str l
  | raw v => exact fun _ => .raw v
  | nils => exact fun _ => .nils
  | zero A => exact fun _ => .zero A
  | bytes l t A c hc hm hr ht =>
    intro h
    simp only [V.clean] at h
    subst h
    exact .bytes l none A c hc hm (fun j hj => let ⟨ad, e, r⟩ := hr j hj; ⟨ad, e, hrd _ _ r⟩) trivial
  | list sz l t A c f hc hm hs hr hf ht ih =>
    intro h
    simp only [V.clean] at h
    obtain ⟨rfl, h⟩ := h
    refine .list sz l none A c f hc hm hs (fun j hj => let ⟨⟨ad, e, r⟩, o⟩ := hr j hj; ⟨⟨ad, e, hrd _ _ r⟩, o⟩) (fun j hj => ih j hj ?_) trivial
    have hm := List.getElem_mem hj
    obtain ⟨v, hv, hx⟩ := List.mem_flatMap.1 hm
    exact clean_cells (h v hv) _ hx
  | agg l vs hl ho hj ih =>
    intro h
    simp only [V.clean] at h
    exact .agg l vs hl ho fun j hj => ih j hj (h _ (List.getElem_mem hj))
  | tuple l vs hl hj ih =>
    intro h
    simp only [V.clean] at h
    exact .tuple l vs hl fun j hj => ih j hj (h _ (List.getElem_mem hj))
  | box o off b hb s hs => intro h; simp only [V.clean] at h
  | vrow em sz o n A c hc hm hA => intro h; simp only [V.clean] at h
  | mref o b hb => intro h; simp only [V.clean] at h
  | iter o b hb => intro h; simp only [V.clean] at h
  | mrow em o off n A c hc hm hA => intro h; simp only [V.clean] at h
  | ref v ad f hr hf ih =>
    intro h
    simp only [V.clean] at h
    exact .ref v ad f (fun j hj => ⟨hrd _ _ (hr j hj).1, (hr j hj).2⟩) fun j hj => ih j hj (clean_cells h _ (List.getElem_mem hj))
  | fn f l m vs us hl hm h1 h2 ih1 ih2 =>
    intro h
    simp only [V.clean] at h
    exact .fn f l m vs us hl hm (fun j hj => ih1 j hj (h.1 _ (List.getElem_mem hj))) fun j hj => ih2 j hj (h.2 _ (List.getElem_mem hj))
theorem Rel.top {K : Kw} {x : V} {v : Value} (h : Rel K x v) : Rel K x.top v := by
  cases h with
  | bytes l t A c hc hm hr ht => exact .bytes l none A c hc hm hr trivial
  | list sz l t A c f hc hm hs hr hf ht => exact .list sz l none A c f hc hm hs hr hf trivial
  | any v => exact .any v
  | undef => exact .undef
  | int k n => exact .int k n
  | bool b => exact .bool b
  | may p q b hp hq => exact .may p q b hp hq
  | str l => exact .str l
  | raw v => exact .raw v
  | nils => exact .nils
  | zero A => exact .zero A
  | agg l vs hl ho hj => exact .agg l vs hl ho hj
  | tuple l vs hl hj => exact .tuple l vs hl hj
  | box o off b hb s hs => exact .box o off b hb s hs
  | vrow em sz o n A c hc hm hA => exact .vrow em sz o n A c hc hm hA
  | mref o b hb => exact .mref o b hb
  | iter o b hb => exact .iter o b hb
  | mrow em o off n A c hc hm hA => exact .mrow em o off n A c hc hm hA
  | ref v ad f hr hf => exact .ref v ad f hr hf
  | fn f l m vs us hl hm h1 h2 => exact .fn f l m vs us hl hm h1 h2
def WR (r : Option Nat) : Fence := { Fence.wide with round := r }
theorem callsIn_WR {r : Option Nat} {n : Nat} {P : Program} {f : FuncId} {args : Array Value} {w : World} {R : Ending → World → Prop} : CallsIn (WR r) n P f args w R ↔ Calls P f args w R := by
  have h1 : CallsIn (WR r) n P f args w R ↔ CallsIn Fence.wide n P f args w R := Iff.rfl
  exact h1.trans callsIn_wide
theorem roundIn_WR {r : Option Nat} {n m : Nat} {P : Program} {l : Nat} {f : FuncId} {tmps : Array Value} {assign body : Code} {w : World} {R : Ending → World → Prop} (h : RoundIn Fence.wide m P l f tmps assign body w R) : RoundIn (WR r) n P l f tmps assign body w R :=
  ⟨trivial, fun c cs _ => h.2 c cs (room_wide _)⟩
def upO (P : Program) (o : Oper) (a : Act) (next : Act → World → Prop) (Q : Exit → Act → World → Prop) : Result Next → Prop
  | .ok (.value v) w' => next (a.put o.dst v) w'
  | .ok .skip w' => next (a.put o.dst undef) w'
  | .ok (.enter f args) w' => Calls P f args w' fun
      | .returned v, w'' => next (a.put o.dst v) w''
      | .panicked chain, w'' => Q (.panic chain) a w''
      | .outgrown, _ => LetsOut Q
  | .ok (.round l f tmps assign body) w' => RoundIn Fence.wide 0 P l f tmps assign body w' fun
      | .returned v, w'' => next (a.put o.dst v) w''
      | .panicked chain, w'' => Q (.panic chain) a w''
      | .outgrown, _ => LetsOut Q
  | _ => False
def owp (P : Program) (o : Oper) (a : Act) (w : World) (next : Act → World → Prop) (Q : Exit → Act → World → Prop) : Prop := upO P o a next Q ((execOp a.eval o).run P w)
theorem owp_mono {P : Program} {o : Oper} {a : Act} {w : World} {K K' : Act → World → Prop} {Q : Exit → Act → World → Prop} (h : ∀ a w, K a w → K' a w) (hh : owp P o a w K Q) : owp P o a w K' Q := by
  unfold owp at *
  generalize (execOp a.eval o).run P w = r at *
  cases r with
  | halt x w' => exact hh
  | ok x w' =>
    cases x with
    | value v => exact h _ _ hh
    | skip => exact h _ _ hh
    | enter f args =>
      refine Calls.mono (show Calls P f args w' _ from hh) fun e w'' hq => ?_
      cases e <;> first | exact h _ _ hq | exact hq
    | round l f tmps assign body =>
      refine RoundIn.mono (show RoundIn Fence.wide 0 P l f tmps assign body w' _ from hh) fun e w'' hq => ?_
      cases e <;> first | exact h _ _ hq | exact hq
    | _ => exact hh
theorem owp_in {P : Program} {o : Oper} {a : Act} {w : World} {K : Act → World → Prop} {Q : Exit → Act → World → Prop} (h : owp P o a w K Q) (r : Option Nat) (n : Nat) : o.wpIn (WR r) n P a w K Q := by
  refine ⟨fun _ _ => trivial, ?_⟩
  unfold owp at h
  have hd : ∀ c, o.op ≠ .defer c := by
    intro c hc
    have e : execOp a.eval o = (do pure (.defer (← resolve a.eval c o.type)) : Sem Next) := by simp [execOp, hc]
    rw [e, Sem.run_bind] at h
    generalize (resolve a.eval c o.type).run P w = x at h
    cases x with
    | ok d w' => exact h
    | halt x w' => exact h
  rw [Oper.semAt_eq _ _ _ hd]
  generalize (execOp a.eval o).run P w = x at h
  cases x with
  | halt x w' => exact h.elim
  | ok x w' =>
    cases x with
    | value v => exact h
    | skip => exact h
    | enter f args => exact ⟨fun e => (by cases e), callsIn_WR.2 h⟩
    | round l f tmps assign body => exact ⟨fun e => (by cases e), roundIn_WR h⟩
    | _ => exact h.elim
abbrev FM := List V → Option (Prop × V × List (Nat × TypeId))
def FSound (P : Program) (f : FuncId) (m : FM) : Prop :=
  ∀ (w : World) (prot : Nat → Nat → Prop) (args : List V) (vs : Array Value) (p : Prop) (r : V) (fr : List (Nat × TypeId)),
    Tabs P w → (∀ b o, prot b o → b < w.heap.size) → m args = some (p, r, fr) → p → vs.size = args.length → (∀ j (h : j < args.length) (h' : j < vs.size), Rel ⟨w, prot, [], []⟩ args[j] vs[j]) →
    Calls P f vs w fun e w' => ∃ v K', e = .returned v ∧ K'.w = w' ∧ Mem P w (Bs.pure w prot) K' [] fr ∧ Rel K' r v
abbrev HM := List V → List (List V) → List (Nat × TypeId) → Option (Prop × V × List (List V) × List (Nat × TypeId))
def HSound (P : Program) (f : FuncId) (m : HM) : Prop :=
  ∀ (B : World) (p0 : Bs) (K : Kw) (L : List (List V)) (T : List (Nat × TypeId)) (args : List V) (vs : Array Value) (p : Prop) (r : V) (L' : List (List V)) (T' : List (Nat × TypeId)),
    Mem P B p0 K L T → m args L T = some (p, r, L', T') → p → vs.size = args.length → (∀ j (h : j < args.length) (h' : j < vs.size), Rel K args[j] vs[j]) →
    Calls P f vs K.w fun e w' => ∃ v K', e = .returned v ∧ K'.w = w' ∧ Ext K K' ∧ Mem P B p0 K' L' T' ∧ Rel K' r v
abbrev PM := List V → List (List V) → List (Nat × TypeId) → (V → List (List V) → List (Nat × TypeId) → Prop) → Prop
def PSound (P : Program) (f : FuncId) (m : PM) : Prop :=
  ∀ (B : World) (p0 : Bs) (K : Kw) (L : List (List V)) (T : List (Nat × TypeId)) (args : List V) (vs : Array Value) (Kont : V → List (List V) → List (Nat × TypeId) → Prop),
    Mem P B p0 K L T → m args L T Kont → vs.size = args.length → (∀ j (h : j < args.length) (h' : j < vs.size), Rel K args[j] vs[j]) →
    Calls P f vs K.w fun e w' => ∃ v K' r L' T', e = .returned v ∧ K'.w = w' ∧ Ext K K' ∧ Mem P B p0 K' L' T' ∧ Rel K' r v ∧ Kont r L' T'
def Mono (m : PM) : Prop := ∀ args L T K K', (∀ r L' T', K r L' T' → K' r L' T') → m args L T K → m args L T K'
def up (m : PM) : PM := fun args L T K => ∃ K0, (∀ r L' T', K0 r L' T' → K r L' T') ∧ m args L T K0
theorem up_mono (m : PM) : Mono (up m) := fun args L T K K' h ⟨K0, h0, hm⟩ => ⟨K0, fun r L' T' g => h r L' T' (h0 r L' T' g), hm⟩
theorem PSound.up {P : Program} {f : FuncId} {m : PM} (h : PSound P f m) : PSound P f (up m) := by
  intro B p0 K L T args vs Φ hmem hm hsz hrel
  obtain ⟨K0, h0, hm⟩ := hm
  exact (h B p0 K L T args vs K0 hmem hm hsz hrel).mono fun e w' ⟨u, K', r, L', T', a1, a2, a3, a4, a5, a6⟩ => ⟨u, K', r, L', T', a1, a2, a3, a4, a5, h0 _ _ _ a6⟩
def HM.toP (m : HM) : PM := fun args L T K => match m args L T with
  | some (p, r, L', T') => p ∧ K r L' T'
  | none => False
theorem HSound.toP {P : Program} {f : FuncId} {m : HM} (h : HSound P f m) : PSound P f (HM.toP m) := by
  intro B p0 K L T args vs Kont hm hk hsz hrel
  unfold HM.toP at hk
  split at hk
  · rename_i p r L' T' hr
    exact (h B p0 K L T args vs p r L' T' hm hr hk.1 hsz hrel).mono fun e w' ⟨v, K', h1, h2, h3, h4, h5⟩ => ⟨v, K', r, L', T', h1, h2, h3, h4, h5, hk.2⟩
  · exact hk.elim
section
variable {P : Program} {B : World} {p0 : Bs} {K : Kw} {L : List (List V)} {T : List (Nat × TypeId)}
theorem boxes_nil {K' : Kw} {w : World} {prot : Nat → Nat → Prop} {fr : List (Nat × TypeId)} (h : Mem P w (Bs.pure w prot) K' [] fr) : K'.boxes = [] := List.eq_nil_of_length_eq_zero h.boxes.1
theorem adopt (h : Mem P B p0 K L T) {K' : Kw} {fr : List (Nat × TypeId)} (h' : Mem P K.w (Bs.pure K.w K.prot) K' [] fr) :
    Ext K { K with w := K'.w, prot := K'.prot } ∧ Mem P B p0 { K with w := K'.w, prot := K'.prot } L T := by
  have e : (fun b o => K.prot b o ∨ (K.w.heap.size ≤ b ∧ K'.prot b o)) = K'.prot := by
    funext b o
    apply propext
    by_cases hb : b < K.w.heap.size
    · rw [h'.old b o hb]
      exact ⟨fun hp => hp.elim id fun hq => absurd hq.1 (by omega), .inl⟩
    · exact ⟨fun hp => hp.elim (fun hp => absurd (h.there b o hp) hb) (·.2), fun hp => .inr ⟨by omega, hp⟩⟩
  have := h.grow (q := fun b o => K.w.heap.size ≤ b ∧ K'.prot b o) h'.below (fun b o hq => ⟨hq.1, h'.there b o hq.2⟩)
  rw [e] at this
  exact this
theorem adoptToks {K0 : Kw} {w0 : World} {prot : Nat → Nat → Prop} {fr : List (Nat × TypeId)} (h' : Mem P w0 (Bs.pure w0 prot) K0 [] fr) : ∀ (ts : List (Value × Nat × TypeId)) (d : Nat) (K : Kw) (T : List (Nat × TypeId)), Mem P B p0 K L T → K.w = K0.w → K.prot = K0.prot →
    ts = K0.toks.drop d → B.heap.size ≤ w0.heap.size → (∀ b, some b ∈ K.boxes → b < w0.heap.size) → (∀ (k : Nat) t b, K.toks[k]? = some t → ownB t.1 = some b → b < w0.heap.size ∨ ∃ k', k' < d ∧ ∃ t', K0.toks[k']? = some t' ∧ ownB t'.1 = some b) →
    Ext K { K with toks := K.toks ++ ts } ∧ Mem P B p0 { K with toks := K.toks ++ ts } L (T ++ ts.map (·.2))
  | [], d, K, T, h, _, _, _, _, _, _ => by simpa using ⟨Ext.refl K, h⟩
  | (v, n, e) :: ts, d, K, T, h, hw, hp, hts, hB, hbox, htok => by
    have hd : K0.toks[d]? = some (v, n, e) := by rw [← List.head?_drop, ← hts]; rfl
    have hts' : ts = K0.toks.drop (d + 1) := by rw [← List.tail_drop, ← hts]; rfl
    have hat : TokAt P B.heap.size K v n e := by
      rcases h'.tokAt d v n e hd with hnil | ⟨g, cap, cur, i, rfl, hc0, hg, hh, hi, hn, hc, hs, hpr⟩
      · exact .inl hnil
      · exact .inr ⟨g, cap, cur, i, rfl, hc0, by omega, by rw [hw]; exact hh, hi, hn, hc, hs, by rw [hp]; exact hpr⟩
    have hge : ∀ b, ownB v = some b → w0.heap.size ≤ b := fun b hb => by
      rcases h'.tokAt d v n e hd with ⟨⟨A0, rfl⟩, _⟩ | ⟨g, cap, cur, i, rfl, hc0, hg, _⟩
      · rw [ownB_zero] at hb; cases hb
      · rw [ownB_pos hc0] at hb; simp at hb; omega
    obtain ⟨he1, hm1⟩ := h.addTok hat (fun b hb hbm => by have := hge b hb; have := hbox b hbm; omega) (fun k t b hk hb hb' => by
      rcases htok k t b hk hb with hlt | ⟨k', hk', t', ht', hbt⟩
      · have := hge b hb'; omega
      · have := h'.tokNe k' d t' _ b ht' hd hbt hb'; omega)
    obtain ⟨he2, hm2⟩ := adoptToks h' ts (d + 1) { K with toks := K.toks ++ [(v, n, e)] } (T ++ [(n, e)]) hm1 hw hp hts' hB hbox (fun k t b hk hb => by
      by_cases hlt : k < K.toks.length
      · have hk2 : (K.toks ++ [(v, n, e)])[k]? = some t := hk
        rw [List.getElem?_append_left hlt] at hk2
        rcases htok k t b hk2 hb with h1 | ⟨k', h1, r⟩
        · exact .inl h1
        · exact .inr ⟨k', by omega, r⟩
      · have hk2 : (K.toks ++ [(v, n, e)])[k]? = some t := hk
        have h1 := (List.getElem?_eq_some_iff.1 hk2).1
        have e1 : k = K.toks.length := by simp at h1; omega
        subst e1
        simp at hk2
        subst hk2
        exact .inr ⟨d, by omega, _, hd, hb⟩)
    have e1 : K.toks ++ [(v, n, e)] ++ ts = K.toks ++ (v, n, e) :: ts := by simp
    have e2 : T ++ [(n, e)] ++ ts.map (·.2) = T ++ ((v, n, e) :: ts).map (·.2) := by simp
    rw [← e1, ← e2]
    exact ⟨he1.trans he2, hm2⟩
theorem adoptAll (h : Mem P B p0 K L T) {K' : Kw} {fr : List (Nat × TypeId)} (h' : Mem P K.w (Bs.pure K.w K.prot) K' [] fr) :
    Ext K { K with w := K'.w, prot := K'.prot, toks := K.toks ++ K'.toks } ∧ Mem P B p0 { K with w := K'.w, prot := K'.prot, toks := K.toks ++ K'.toks } L (T ++ fr) := by
  obtain ⟨he1, hm1⟩ := adopt h h'
  obtain ⟨he2, hm2⟩ := adoptToks h' K'.toks 0 { K with w := K'.w, prot := K'.prot } T hm1 rfl rfl rfl h.below.size (fun b hb => h.boxes.lt hb) (fun k t b hk hb => .inl (h.tokLt hk hb))
  rw [h'.toks] at hm2
  exact ⟨he1.trans he2, hm2⟩
theorem Rel.up1 {K' K2 : Kw} {n : Nat} (hrd : ∀ a u, K'.rd a u → K2.rd a u) (hk : ∀ (k : Nat) t, K'.toks[k]? = some t → K2.toks[n + k]? = some t) {x : V} {v : Value} (h : Rel K' x v) (hf : x.flat1) : Rel K2 (x.up1 n) v := by
  have tk : ∀ {t : Option Nat} {m : Nat} {u : Value}, K'.tokOk t m u → K2.tokOk (t.map (n + ·)) m u := by
    intro t m u ht
    cases t with
    | none => trivial
    | some k =>
      obtain ⟨u', m', e, h1, h2, h3⟩ := ht
      exact ⟨u', m', e, hk k _ h1, h2, h3⟩
  by_cases hb : (∃ l t, x = .bytes l t) ∨ ∃ sz l t, x = .list sz l t
  · rcases hb with ⟨l, t, rfl⟩ | ⟨sz, l, t, rfl⟩
    · have e : (V.bytes l t).up1 n = .bytes l (t.map (n + ·)) := by cases t <;> rfl
      rw [e]
      cases h with
      | bytes l t A c hc hm hr ht => exact .bytes l _ A c hc hm (fun j hj => let ⟨ad, e, r⟩ := hr j hj; ⟨ad, e, hrd _ _ r⟩) (tk ht)
    · have e : (V.list sz l t).up1 n = .list sz l (t.map (n + ·)) := by cases t <;> rfl
      rw [e]
      have hcl : ∀ v ∈ l, v.clean := hf
      cases h with
      | list sz l t A c f hc hm hs hr hf ht =>
      refine .list sz l _ A c f hc hm hs (fun j hj => let ⟨⟨ad, e, r⟩, o⟩ := hr j hj; ⟨⟨ad, e, hrd _ _ r⟩, o⟩) (fun j hj => (hf j hj).clean hrd ?_) (tk ht)
      obtain ⟨v, hv, hx⟩ := List.mem_flatMap.1 (List.getElem_mem hj)
      exact clean_cells (hcl v hv) _ hx
  · have e : x.up1 n = x := by cases x <;> first | rfl | exact absurd (.inl ⟨_, _, rfl⟩) hb | exact absurd (.inr ⟨_, _, _, rfl⟩) hb
    have hc : x.clean := by cases x <;> first | exact hf | exact absurd (.inl ⟨_, _, rfl⟩) hb | exact absurd (.inr ⟨_, _, _, rfl⟩) hb
    rw [e]
    exact h.clean hrd hc
theorem Rel.up {K' K2 : Kw} {n : Nat} (hrd : ∀ a u, K'.rd a u → K2.rd a u) (hk : ∀ (k : Nat) t, K'.toks[k]? = some t → K2.toks[n + k]? = some t) {x : V} {v : Value} (h : Rel K' x v) (hf : x.flat) : Rel K2 (x.up n) v := by
  by_cases hb : ∃ l, x = .tuple l
  · obtain ⟨l, rfl⟩ := hb
    simp only [V.flat] at hf
    cases h with
    | tuple l vs hl hj =>
    refine .tuple _ vs (by simpa using hl) fun j hj' => ?_
    simp only [List.length_map] at hj'
    simp only [List.getElem_map]
    exact (hj j hj').up1 hrd hk (hf _ (List.getElem_mem hj'))
  · have e : x.up n = x.up1 n := by cases x <;> first | rfl | exact absurd ⟨_, rfl⟩ hb
    have hc : x.flat1 := by cases x <;> first | exact hf | exact absurd ⟨_, rfl⟩ hb
    rw [e]
    exact h.up1 hrd hk hc
theorem top_clean {x : V} (h : x.flat1) : x.top.clean := by
  cases x <;> first | exact h | (simp only [V.top, V.clean]; done) | (simp only [V.top, V.clean]; exact ⟨trivial, h⟩)
theorem Rel.dropped {K' K2 : Kw} (hrd : ∀ a u, K'.rd a u → K2.rd a u) {x : V} {v : Value} (h : Rel K' x v) (hf : x.flat) : Rel K2 x.drop v := by
  by_cases hb : ∃ l, x = .tuple l
  · obtain ⟨l, rfl⟩ := hb
    simp only [V.flat] at hf
    cases h with
    | tuple l vs hl hj =>
    refine .tuple _ vs (by simpa using hl) fun j hj' => ?_
    simp only [List.length_map] at hj'
    simp only [List.getElem_map]
    exact (hj j hj').top.clean hrd (top_clean (hf _ (List.getElem_mem hj')))
  · have e : x.drop = x.top := by cases x <;> first | rfl | exact absurd ⟨_, rfl⟩ hb
    have hc : x.flat1 := by cases x <;> first | exact hf | exact absurd ⟨_, rfl⟩ hb
    rw [e]
    exact h.top.clean hrd (top_clean hc)
end
end Go.Proofs.YtckmcglkjfkghaaDoor.Aw
