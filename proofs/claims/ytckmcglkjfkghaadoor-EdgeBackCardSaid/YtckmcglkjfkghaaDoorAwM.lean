import Derived.Test.YtckmcglkjfkghaaDoorAwA
namespace Go.Proofs.YtckmcglkjfkghaaDoor.Aw
open Go Go.RowKit
set_option linter.unusedVariables false
set_option linter.unusedSimpArgs false
def mset (l : List (MKey × Nat × V)) (k : MKey) (v : V) : List (MKey × Nat × V) := match l with
  | [] => []
  | e :: r => bif decide (e.1 = k) then (e.1, e.2.1, v) :: r else e :: mset r k v
def mdel (l : List (MKey × Nat × V)) (k : MKey) : List (MKey × Nat × V) := match l with
  | [] => []
  | e :: r => bif decide (e.1 = k) then r else e :: mdel r k
def mput (ck : Nat) (l : List (MKey × Nat × V)) (k : MKey) (v : V) : List (MKey × Nat × V) := bif (mfind l k).isSome then mset l k v else l ++ [(k, ck, v)]
def mclock (ck : Nat) (l : List (MKey × Nat × V)) (k : MKey) : Nat := bif (mfind l k).isSome then ck else ck + 1
def evMapUpdate (τ : Tys) (L : List (List V)) (T : List (Nat × TypeId)) (t : TypeId) (m k x : V) : Option Out :=
  match mapI τ t, m with
  | some (kk, _), .mref o => match keyV kk k, L[o]? with
    | some key, some [.mapc kk' ck l] => bif decide (kk' = kk) then some (True, .undef, L.set o [.mapc kk' (mclock ck l key) (mput ck l key x)], T) else none
    | _, _ => none
  | _, _ => none
def evDelete (τ : Tys) (L : List (List V)) (T : List (Nat × TypeId)) (t : TypeId) (m k : V) : Option Out :=
  match mapI τ t, m with
  | some (kk, _), .mref o => match keyV kk k, L[o]? with
    | some key, some [.mapc kk' ck l] => bif decide (kk' = kk) then some (True, .undef, L.set o [.mapc kk' ck (mdel l key)], T) else none
    | _, _ => none
  | some (kk, _), .raw (.map none) => match keyV kk k with
    | some _ => some (True, .undef, L, T)
    | none => none
  | _, _ => none
def evMakeMap (τ : Tys) (L : List (List V)) (T : List (Nat × TypeId)) (t : TypeId) : Option Out :=
  match mapI τ t with
  | some (kk, _) => some (True, .mref L.length, L ++ [[.mapc kk 0 []]], T)
  | none => none
def evRange (τ : Tys) (L : List (List V)) (T : List (Nat × TypeId)) (t : TypeId) (x : V) : Option Out :=
  match mapI τ t, x with
  | some (kk, _), .mref o => match L[o]? with
    | some [.mapc _ ck l] => some (True, .iter L.length, L ++ [[.iterc o ck [] ck]], T)
    | _ => none
  | some _, .raw (.map none) => some (True, .iter L.length, L ++ [[.iter0]], T)
  | _, _ => none
abbrev PMf := List V → List (List V) → List (Nat × TypeId) → (V → List (List V) → List (Nat × TypeId) → Prop) → Prop
def nextP : PMf := fun args L T K =>
  match args with
  | [.iter o] => match L[o]? with
    | some [.iter0] => K (.tuple [.bool false]) L T
    | some [.iterc om since seen last] => match L[om]? with
      | some [.mapc _ ck l] => (since = ck ∧ since ≤ last) ∧ ((l.map (·.1)).Nodup → (l.map (·.2.1)).Nodup → ((∀ e ∈ l, e.2.1 ∈ seen) → K (.tuple [.bool false]) L T) ∧
          ∀ e ∈ l, e.2.1 ∉ seen → K (.tuple [.bool true, e.1.toV, e.2.2]) (L.set o [.iterc om since (seen ++ [e.2.1]) ck]) T)
      | _ => False
    | _ => False
  | _ => False
def srcL (L : List (List V)) (sz : Nat) (x : V) : Option (Prop × Nat × List V) :=
  match x with
  | .vrow _ sz' o n => if sz' = sz then match L[o]? with
      | some cs => some (n * sz ≤ cs.length, n, cs.take (n * sz))
      | none => none
    else none
  | .nils => some (True, 0, [])
  | .zero => some (True, 0, [])
  | x => (srcCells sz x).map fun y => (True, y.1, y.2)
def growP (τ : Tys) (t t2 : TypeId) : PMf := fun args L T K =>
  match elemI τ t, args with
  | some (e, i), [s, x] => match srcL L i.size x with
    | some (q, m, cs2) => (zeroOk i = true ∧ 0 < i.size ∧ 0 < i.bytes ∧ notIntK τ t2 = true) ∧ q ∧ match s with
      | .vrow em sz o n => match L[o]? with
        | some cs => (em = e ∧ sz = i.size ∧ n * sz ≤ cs.length ∧ cs ≠ [] ∧ (n + m) * i.bytes ≤ maxBytes) ∧
            K (.vrow e sz o (n + m)) (L.set o (cs.take (n * sz) ++ cs2 ++ cs.drop (n * sz + cs2.length))) T ∧ (0 < m → K (.vrow e sz L.length (n + m)) (L ++ [cs.take (n * sz) ++ cs2]) T)
        | none => False
      | .nils => m * i.bytes ≤ maxBytes ∧ (m = 0 → K .nils L T) ∧ (0 < m → K (.vrow e i.size L.length m) (L ++ [cs2]) T)
      | .zero => m * i.bytes ≤ maxBytes ∧ (m = 0 → K .zero L T) ∧ (0 < m → K (.vrow e i.size L.length m) (L ++ [cs2]) T)
      | _ => False
    | none => False
  | _, _ => False
def cloneP (τ : Tys) (t t2 : TypeId) : PMf := fun args L T K =>
  match elemI τ t, args with
  | some (e, i), [s, .vrow _ sz o n] => match L[o]? with
    | some cs => (zeroOk i = true ∧ i.size = 1 ∧ sz = 1 ∧ 0 < i.bytes ∧ notIntK τ t2 = true) ∧ (s = .nils ∨ s = .zero) ∧ (n ≤ cs.length ∧ ((cs.take n).map unbyte).map byteV = cs.take n ∧ n * i.bytes ≤ maxBytes) ∧
        K (.bytes ((cs.take n).map unbyte) (some T.length)) L (T ++ [(n, e)])
    | none => False
  | some (e, i), [s, .mrow _ o 0 n] => match L[o]? with
    | some cs => (zeroOk i = true ∧ i.size = 1 ∧ 1 = 1 ∧ 0 < i.bytes ∧ notIntK τ t2 = true) ∧ (s = .nils ∨ s = .zero) ∧ (n ≤ cs.length ∧ ((cs.take n).map unbyte).map byteV = cs.take n ∧ n * i.bytes ≤ maxBytes) ∧
        K (.bytes ((cs.take n).map unbyte) (some T.length)) L (T ++ [(n, e)])
    | none => False
  | _, _ => False
def slabP (τ : Tys) (t t2 : TypeId) : PMf := fun args L T K =>
  match elemI τ t, args with
  | some (e, i), [s, .mrow _ o off n] => match L[o]? with
    | some cs => (zeroOk i = true ∧ i.size = 1 ∧ 0 < i.bytes ∧ notIntK τ t2 = true) ∧ (off + n ≤ cs.length ∧ (((cs.drop off).take n).map unbyte).map byteV = (cs.drop off).take n) ∧ match s with
      | .bytes l (some k) => (T[k]? = some (l.length, e) ∧ (l.length + n) * i.bytes ≤ maxBytes) ∧ K (.bytes (l ++ ((cs.drop off).take n).map unbyte) (some k)) L (T.set k (l.length + n, e))
      | .nils => n * i.bytes ≤ maxBytes ∧ K (.bytes (((cs.drop off).take n).map unbyte) (some T.length)) L (T ++ [(n, e)])
      | .zero => n * i.bytes ≤ maxBytes ∧ K (.bytes (((cs.drop off).take n).map unbyte) (some T.length)) L (T ++ [(n, e)])
      | _ => False
    | none => False
  | _, _ => False
section
variable {P : Program} {τ : Tys} {B : World} {p0 : Bs} {K : Kw} {L : List (List V)} {T : List (Nat × TypeId)}
theorem erel_push : ∀ {l : List (MKey × Nat × V)} {es : List MapEntry} {x : MKey × Nat × V} {e : MapEntry}, ERel K l es → (e.key = x.1.val ∧ e.born = x.2.1 ∧ Rel K x.2.2 e.val) → ERel K (l ++ [x]) (es ++ [e])
  | [], [], _, _, _, h => ⟨h, trivial⟩
  | _ :: _, _ :: _, _, _, ⟨h1, h2⟩, h => ⟨h1, erel_push h2 h⟩
  | [], _ :: _, _, _, h, _ => h.elim
  | _ :: _, [], _, _, h, _ => h.elim
theorem erel_set {d : TypeDesc} {k : MKey} (hk : MapKept.IsKey d k.val) {v : V} {u : Value} (hv : Rel K v u) : ∀ {l : List (MKey × Nat × V)} {es : List MapEntry} (i j : Nat) (w : Value), ERel K l es → (∀ x ∈ l, MapKept.IsKey d x.1.val) →
    Instr.findNow d k.val es i = some (some (i + j, w)) → ERel K (mset l k v) (es.modify j fun e => { e with key := k.val, val := u })
  | [], [], i, j, w, _, _, h => by cases h
  | x :: l, e :: es, i, j, w, ⟨⟨h1, h2, h3⟩, h⟩, hkk, hf => by
    obtain ⟨r, hr, hiff⟩ := MapKept.sameNow_of_keys (a := k.val) (b := e.key) hk (by rw [h1]; exact hkk x (by simp))
    by_cases hx : x.1 = k
    · have hrt : r = true := hiff.2 (by rw [h1, hx])
      subst hrt
      simp only [Instr.findNow, hr, Option.some.injEq, Prod.mk.injEq] at hf
      have hj : j = 0 := by omega
      subst hj
      have e1 : mset (x :: l) k v = (x.1, x.2.1, v) :: l := by simp [mset, hx]
      rw [e1]
      exact ⟨⟨by show k.val = x.1.val; rw [hx], h2, hv⟩, h⟩
    · have hrf : r = false := by
        cases r with
        | false => rfl
        | true => exact absurd (MKey.val_inj ((hiff.1 rfl).trans h1)).symm hx
      subst hrf
      simp only [Instr.findNow, hr] at hf
      have e1 : mset (x :: l) k v = x :: mset l k v := by simp [mset, hx]
      rw [e1]
      cases j with
      | zero =>
        exfalso
        rcases erel_find hk (i + 1) h (fun y hy => hkk y (List.mem_cons_of_mem _ hy)) with ⟨_, g, _⟩ | ⟨j', e', v', _, g, _⟩
        · rw [g] at hf; cases hf
        · rw [g] at hf
          simp only [Option.some.injEq, Prod.mk.injEq] at hf
          omega
      | succ j =>
        have := erel_set hk hv (i + 1) j w h (fun y hy => hkk y (List.mem_cons_of_mem _ hy)) (by rw [hf]; congr 3; omega)
        exact ⟨⟨h1, h2, h3⟩, this⟩
  | [], _ :: _, _, _, _, h, _, _ => h.elim
  | _ :: _, [], _, _, _, h, _, _ => h.elim
theorem erel_del {d : TypeDesc} {k : MKey} (hk : MapKept.IsKey d k.val) : ∀ {l : List (MKey × Nat × V)} {es : List MapEntry} (i j : Nat) (w : Value), ERel K l es → (∀ x ∈ l, MapKept.IsKey d x.1.val) →
    Instr.findNow d k.val es i = some (some (i + j, w)) → ERel K (mdel l k) (es.eraseIdx j)
  | [], [], i, j, w, _, _, h => by cases h
  | x :: l, e :: es, i, j, w, ⟨⟨h1, h2, h3⟩, h⟩, hkk, hf => by
    obtain ⟨r, hr, hiff⟩ := MapKept.sameNow_of_keys (a := k.val) (b := e.key) hk (by rw [h1]; exact hkk x (by simp))
    by_cases hx : x.1 = k
    · have hrt : r = true := hiff.2 (by rw [h1, hx])
      subst hrt
      simp only [Instr.findNow, hr, Option.some.injEq, Prod.mk.injEq] at hf
      have hj : j = 0 := by omega
      subst hj
      have e1 : mdel (x :: l) k = l := by simp [mdel, hx]
      rw [e1]
      exact h
    · have hrf : r = false := by
        cases r with
        | false => rfl
        | true => exact absurd (MKey.val_inj ((hiff.1 rfl).trans h1)).symm hx
      subst hrf
      simp only [Instr.findNow, hr] at hf
      have e1 : mdel (x :: l) k = x :: mdel l k := by simp [mdel, hx]
      rw [e1]
      cases j with
      | zero =>
        exfalso
        rcases erel_find hk (i + 1) h (fun y hy => hkk y (List.mem_cons_of_mem _ hy)) with ⟨_, g, _⟩ | ⟨j', e', v', _, g, _⟩
        · rw [g] at hf; cases hf
        · rw [g] at hf
          simp only [Option.some.injEq, Prod.mk.injEq] at hf
          omega
      | succ j =>
        have := erel_del hk (i + 1) j w h (fun y hy => hkk y (List.mem_cons_of_mem _ hy)) (by rw [hf]; congr 3; omega)
        exact ⟨⟨h1, h2, h3⟩, this⟩
  | [], _ :: _, _, _, _, h, _, _ => h.elim
  | _ :: _, [], _, _, _, h, _, _ => h.elim
theorem mset_keys {l : List (MKey × Nat × V)} {k : MKey} {v : V} : ∀ x ∈ mset l k v, ∃ y ∈ l, y.1 = x.1 ∧ y.2.1 = x.2.1 := by
  induction l with
  | nil => intro x hx; cases hx
  | cons e l ih =>
    intro x hx
    unfold mset at hx
    cases hd : decide (e.1 = k) <;> rw [hd] at hx
    · rcases List.mem_cons.1 hx with rfl | hx
      · exact ⟨x, by simp, rfl, rfl⟩
      · obtain ⟨y, hy, h⟩ := ih x hx
        exact ⟨y, List.mem_cons_of_mem _ hy, h⟩
    · rcases List.mem_cons.1 hx with rfl | hx
      · exact ⟨e, by simp, rfl, rfl⟩
      · exact ⟨x, List.mem_cons_of_mem _ hx, rfl, rfl⟩
theorem mdel_sub {l : List (MKey × Nat × V)} {k : MKey} : (mdel l k).Sublist l := by
  induction l with
  | nil => exact List.Sublist.refl _
  | cons e l ih =>
    unfold mdel
    cases decide (e.1 = k)
    · exact ih.cons_cons _
    · exact List.sublist_cons_self _ _
theorem map_at (h : Mem P B p0 K L T) {o : Nat} {kk : Option IntKind} {ck : Nat} {l : List (MKey × Nat × V)} (ho : L[o]? = some [.mapc kk ck l]) {u : Value} (hr : Rel K (.mref o) u) :
    ∃ b es, u = .map (some b) ∧ K.boxes[o]? = some (some b) ∧ K.w.heap[b]? = some (.map es ck) ∧ MRel K kk l es ck ∧ MapAt K b [.mapc kk ck l] := by
  obtain ⟨b, es, h1, h2, h3, h4⟩ := map_block h.boxes ho hr
  exact ⟨b, es, h1, h2, h3, h4, .inl ⟨es, ck, h3, .inr ⟨kk, l, rfl, h4⟩⟩⟩
theorem mapUpdate_sound (hτ : TyOk P τ) (h : Mem P B p0 K L T) {t : TypeId} {m k x : V} {um uk ux : Value} {p : Prop} {v : V} {L' : List (List V)} {T' : List (Nat × TypeId)}
    (hev : evMapUpdate τ L T t m k x = some (p, v, L', T')) (rm : Rel K m um) (rk : Rel K k uk) (rx : Rel K x ux) :
    ∃ K', (Instr.mapUpdate t um uk ux).run P K.w = .ok () K'.w ∧ Ext K K' ∧ Mem P B p0 K' L' T' ∧ v = .undef := by
  unfold evMapUpdate at hev
  split at hev
  · rename_i kk z o hmi
    obtain ⟨kt, vt, iv, d, hu, hd, hkey, hvt, rfl⟩ := mapI_spec hτ hmi
    split at hev
    · rename_i key kk' ck l hkv ho
      cases hdk : decide (kk' = kk) <;> rw [hdk] at hev
      · cases hev
      obtain rfl := of_decide_eq_true hdk
      cases hev
      obtain ⟨rfl, hkk⟩ := keyV_spec hkv rk
      have hik := hkey key hkk
      obtain ⟨b, es, rfl, hb, hh, ⟨hst, hks, her⟩, hat⟩ := map_at h ho rm
      rcases erel_find hik 0 her (fun y hy => hkey _ (hks y hy)) with ⟨g1, g2, g3⟩ | ⟨j, e, v0, g1, g2, g3, g4, g5⟩
      · have hm1 : mclock ck l key = ck + 1 := by simp [mclock, g1]
        have hm2 : mput ck l key x = l ++ [(key, ck, x)] := by simp [mput, g1]
        obtain ⟨he, hmm⟩ := h.setMap (obj := .map (es.push { key := key.val, val := ux, born := ck }) (ck + 1)) (cs' := [.mapc kk' (ck + 1) (l ++ [(key, ck, x)])]) ho hb hat (by simp) (by simp) (fun K' hx hK' => by
          refine .inl ⟨_, _, hK', .inr ⟨_, _, rfl, MapKept.stamped_push hst g3, fun y hy => ?_, ?_⟩⟩
          · rcases List.mem_append.1 hy with hy | hy
            · exact hks y hy
            · simp at hy; subst hy; exact hkk
          · rw [Array.toList_push]
            exact (erel_push (her.ext hx) ⟨rfl, rfl, rx.ext hx⟩))
        refine ⟨_, ?_, he, by rw [hm1, hm2]; exact hmm, rfl⟩
        simp [Instr.mapUpdate, run_underlying hu, MapKept.run_getObj_map hh, MapKept.run_checkKey hd hik, MapKept.run_findKey hd g2, MapKept.run_setObj_map _ hh, Result.andThen, ChangeMaps.setBlock]
      · have hj : es[j]? = some e := by simpa using g3
        have hm1 : mclock ck l key = ck := by simp [mclock, g1]
        have hm2 : mput ck l key x = mset l key x := by simp [mput, g1]
        have hkeyj : ∀ e', es[j]? = some e' → ({ e' with key := key.val, val := ux } : MapEntry).key = e'.key := fun e' he' => by rw [hj] at he'; cases he'; exact g4.symm
        obtain ⟨he, hmm⟩ := h.setMap (obj := .map (es.modify j fun e => { e with key := key.val, val := ux }) ck) (cs' := [.mapc kk' ck (mset l key x)]) ho hb hat (by simp) (by simp) (fun K' hx hK' => by
          refine .inl ⟨_, _, hK', .inr ⟨_, _, rfl, MapKept.stamped_modify hst _ _ (fun _ _ => rfl) (fun e' _ he' => hkeyj e' he'), fun y hy => ?_, ?_⟩⟩
          · obtain ⟨z, hz, hz1, _⟩ := mset_keys y hy
            rw [← hz1]; exact hks z hz
          · rw [Array.toList_modify]
            exact erel_set hik (rx.ext hx) 0 j e.val (her.ext hx) (fun y hy => hkey _ (hks y hy)) g2)
        refine ⟨_, ?_, he, by rw [hm1, hm2]; exact hmm, rfl⟩
        simp [Instr.mapUpdate, run_underlying hu, MapKept.run_getObj_map hh, MapKept.run_checkKey hd hik, MapKept.run_findKey hd g2, hj, g4, MapKept.run_keyThatStays hik, MapKept.run_setObj_map _ hh, Result.andThen, ChangeMaps.setBlock]
    · cases hev
  · cases hev
theorem delete_sound (hτ : TyOk P τ) (h : Mem P B p0 K L T) {t t2 ty : TypeId} {m k : V} {um uk : Value} {p : Prop} {v : V} {L' : List (List V)} {T' : List (Nat × TypeId)}
    (hev : evDelete τ L T t m k = some (p, v, L', T')) (rm : Rel K m um) (rk : Rel K k uk) : Eff P B p0 K (Builtin.delete_ #[t, t2] ty #[um, uk]) v L' T' := by
  unfold evDelete at hev
  split at hev
  · rename_i kk z o hmi
    obtain ⟨kt, vt, iv, d, hu, hd, hkey, hvt, rfl⟩ := mapI_spec hτ hmi
    split at hev
    · rename_i key kk' ck l hkv ho
      cases hdk : decide (kk' = kk) <;> rw [hdk] at hev
      · cases hev
      obtain rfl := of_decide_eq_true hdk
      cases hev
      obtain ⟨rfl, hkk⟩ := keyV_spec hkv rk
      have hik := hkey key hkk
      obtain ⟨b, es, rfl, hb, hh, ⟨hst, hks, her⟩, hat⟩ := map_at h ho rm
      rcases erel_find hik 0 her (fun y hy => hkey _ (hks y hy)) with ⟨g1, g2, g3⟩ | ⟨j, e, v0, g1, g2, g3, g4, g5⟩
      · have hmd : mdel l key = l := by
          have : ∀ l : List (MKey × Nat × V), mfind l key = none → mdel l key = l := by
            intro l
            induction l with
            | nil => intro _; rfl
            | cons y l ih =>
              intro hn
              unfold mfind at hn
              unfold mdel
              cases hd : decide (y.1 = key) <;> rw [hd] at hn
              · simp only [cond_false] at hn ⊢
                rw [ih hn]
              · cases hn
          exact this l g1
        obtain ⟨he, hmm⟩ := h.setMap (obj := .map es ck) (cs' := [.mapc kk' ck l]) ho hb hat (by simp) (by simp) (fun K' hx hK' => .inl ⟨_, _, hK', .inr ⟨_, _, rfl, hst, hks, her.ext hx⟩⟩)
        refine ⟨_, _, ?_, he, by rw [hmd]; exact hmm, .undef⟩
        simp [Builtin.delete_, run_underlying hu, MapKept.run_getObj_map hh, MapKept.run_checkKey hd hik, MapKept.run_findKey hd g2, MapKept.run_setObj_map _ hh, Result.andThen, ChangeMaps.setBlock, Go.undef, noResult]
      · have hj : es[j]? = some e := by simpa using g3
        have hjl : j < es.size := (Array.getElem?_eq_some_iff.1 hj).1
        obtain ⟨he, hmm⟩ := h.setMap (obj := .map (es.eraseIdxIfInBounds j) ck) (cs' := [.mapc kk' ck (mdel l key)]) ho hb hat (by simp) (by simp) (fun K' hx hK' => by
          refine .inl ⟨_, _, hK', .inr ⟨_, _, rfl, MapKept.stamped_erase hst _, fun y hy => hks y (mdel_sub.subset hy), ?_⟩⟩
          have : (es.eraseIdxIfInBounds j).toList = es.toList.eraseIdx j := by
            unfold Array.eraseIdxIfInBounds
            rw [dif_pos hjl, Array.toList_eraseIdx]
          rw [this]
          exact erel_del hik 0 j e.val (her.ext hx) (fun y hy => hkey _ (hks y hy)) g2)
        refine ⟨_, _, ?_, he, hmm, .undef⟩
        simp [Builtin.delete_, run_underlying hu, MapKept.run_getObj_map hh, MapKept.run_checkKey hd hik, MapKept.run_findKey hd g2, MapKept.run_setObj_map _ hh, Result.andThen, ChangeMaps.setBlock, Go.undef, noResult]
    · cases hev
  · rename_i kk z hmi
    obtain ⟨kt, vt, iv, d, hu, hd, hkey, hvt, rfl⟩ := mapI_spec hτ hmi
    split at hev
    · rename_i key hkv
      cases hev
      obtain ⟨rfl, hkk⟩ := keyV_spec hkv rk
      cases rm
      refine ⟨K, _, ?_, Ext.refl K, h, .undef⟩
      simp [Builtin.delete_, run_underlying hu, MapKept.run_checkKey hd (hkey key hkk), Result.andThen, Go.undef, noResult]
    · cases hev
  · cases hev
theorem newMap (h : Mem P B p0 K L T) {obj : Obj} {cs : List V} (hobj : ∀ K' : Kw, Ext K K' → K'.w.heap[K.w.heap.size]? = some obj → MapAt K' K.w.heap.size cs) :
    ∃ K', K'.w = K.w.alloc obj ∧ Ext K K' ∧ Mem P B p0 K' (L ++ [cs]) T ∧ K'.boxes[L.length]? = some (some K.w.heap.size) := by
  obtain ⟨he1, hm1⟩ := h.grow (q := fun _ _ => False) (Below.push K.w obj) (fun b o hq => hq.elim)
  obtain ⟨he2, hm2⟩ := hm1.addBoxG (b := K.w.heap.size) (cs := cs) h.below.size (.inr (hobj _ he1 (alloc_new K.w _)))
    (fun o hp => by rcases hp with hp | hp; (have := h.there _ _ hp; omega); exact hp) (fun hb => by have := h.boxes.lt hb; omega) (fun k t hk hb => by have := h.tokLt hk hb; omega)
  refine ⟨_, rfl, he1.trans he2, hm2, ?_⟩
  show (K.boxes ++ [some K.w.heap.size])[L.length]? = _
  rw [← h.boxes.1]; simp
theorem makeMap_sound (hτ : TyOk P τ) (h : Mem P B p0 K L T) {t : TypeId} {p : Prop} {v : V} {L' : List (List V)} {T' : List (Nat × TypeId)} (hev : evMakeMap τ L T t = some (p, v, L', T')) : Eff P B p0 K (Instr.makeMap t none) v L' T' := by
  unfold evMakeMap at hev
  split at hev
  · rename_i kk z hmi
    cases hev
    obtain ⟨K', hw, he, hm, hb⟩ := newMap h (obj := .map #[] 0) (cs := [.mapc kk 0 []]) (fun K' _ hK' => .inl ⟨_, _, hK', .inr ⟨_, _, rfl, MapKept.stamped_empty 0, by simp, trivial⟩⟩)
    exact ⟨K', .map (some K.w.heap.size), by rw [hw]; simp [Instr.makeMap, Result.andThen], he, hm, .mref _ _ hb⟩
  · cases hev
theorem range_sound (hτ : TyOk P τ) (h : Mem P B p0 K L T) {t : TypeId} {x : V} {ux : Value} {p : Prop} {v : V} {L' : List (List V)} {T' : List (Nat × TypeId)} (hev : evRange τ L T t x = some (p, v, L', T')) (rx : Rel K x ux) : Eff P B p0 K (Instr.range t ux) v L' T' := by
  unfold evRange at hev
  split at hev
  · rename_i kk z o hmi
    obtain ⟨kt, vt, iv, d, hu, hd, hkey, hvt, rfl⟩ := mapI_spec hτ hmi
    split at hev
    · rename_i kk' ck l ho
      cases hev
      obtain ⟨b, es, rfl, hb, hh, _, _⟩ := map_at h ho rx
      obtain ⟨K', hw, he, hm, hb'⟩ := newMap h (obj := .mapIter (some b) ck #[] ck) (cs := [.iterc o ck [] ck]) (fun K' hx hK' => .inr (.inl ⟨_, _, _, _, hK', .inr (.inr ⟨o, b, rfl, rfl, hx.boxes _ _ hb⟩)⟩))
      refine ⟨K', .pointer (some ⟨K.w.heap.size, 0, none⟩), ?_, he, hm, .iter _ _ hb'⟩
      rw [hw]
      simp [Instr.range, run_underlying hu, MapKept.run_getObj_map hh, Result.andThen]
    · cases hev
  · rename_i z hmi
    obtain ⟨kk, z⟩ := z
    obtain ⟨kt, vt, iv, d, hu, hd, hkey, hvt, rfl⟩ := mapI_spec hτ hmi
    cases hev
    cases rx
    obtain ⟨K', hw, he, hm, hb'⟩ := newMap h (obj := .mapIter none 0 #[] 0) (cs := [.iter0]) (fun K' hx hK' => .inr (.inl ⟨_, _, _, _, hK', .inr (.inl ⟨rfl, rfl⟩)⟩))
    refine ⟨K', .pointer (some ⟨K.w.heap.size, 0, none⟩), ?_, he, hm, .iter _ _ hb'⟩
    rw [hw]
    simp [Instr.range, run_underlying hu, Result.andThen]
  · cases hev
theorem erel_mem : ∀ {l : List (MKey × Nat × V)} {es : List MapEntry}, ERel K l es → (∀ e ∈ es, ∃ x ∈ l, e.key = x.1.val ∧ e.born = x.2.1 ∧ Rel K x.2.2 e.val) ∧ (∀ x ∈ l, ∃ e ∈ es, e.key = x.1.val ∧ e.born = x.2.1 ∧ Rel K x.2.2 e.val) ∧ es.map (·.born) = l.map (·.2.1) ∧ es.map (·.key) = l.map (fun x => x.1.val)
  | [], [], _ => ⟨by simp, by simp, rfl, rfl⟩
  | x :: l, e :: es, ⟨⟨h1, h2, h3⟩, h⟩ => by
    obtain ⟨a, b, c, d⟩ := erel_mem h
    refine ⟨fun y hy => ?_, fun y hy => ?_, by simp [c, h2], by simp [d, h1]⟩
    · rcases List.mem_cons.1 hy with rfl | hy
      · exact ⟨x, by simp, h1, h2, h3⟩
      · obtain ⟨z, hz, r⟩ := a y hy; exact ⟨z, List.mem_cons_of_mem _ hz, r⟩
    · rcases List.mem_cons.1 hy with rfl | hy
      · exact ⟨e, by simp, h1, h2, h3⟩
      · obtain ⟨z, hz, r⟩ := b y hy; exact ⟨z, List.mem_cons_of_mem _ hz, r⟩
  | [], _ :: _, h => h.elim
  | _ :: _, [], h => h.elim
theorem next_sound (h : Mem P B p0 K L T) {x : V} {ux : Value} {ty : TypeId} {Φ : V → List (List V) → List (Nat × TypeId) → Prop} (hx : nextP [x] L T Φ) (rx : Rel K x ux) :
    ∃ K' u v L' T', (Instr.next ux false ty).run P K.w = .ok u K'.w ∧ Φ v L' T' ∧ Ext K K' ∧ Mem P B p0 K' L' T' ∧ Rel K' v u := by
  unfold nextP at hx
  split at hx
  · rename_i o heq
    cases heq
    split at hx
    · rename_i ho
      obtain ⟨b, hux, hbx, since, seen, last, hh⟩ : ∃ b, ux = .pointer (some ⟨b, 0, none⟩) ∧ K.boxes[o]? = some (some b) ∧ ∃ since seen last, K.w.heap[b]? = some (.mapIter none since seen last) := by
        cases rx with
        | iter o b hb =>
        rcases h.boxes.2 o _ ho with ⟨hb', _⟩ | ⟨b', cur, ty, hb', hh, hsz, hcr⟩ | ⟨b', hb', hm⟩
        · rw [hb] at hb'; cases hb'
        · have := (hcr 0 (by simp)).1
          simp only [List.getElem_cons_zero] at this
          cases this
        · rw [hb] at hb'
          cases hb'
          rcases hm with ⟨es, ck', h1, (h2 | h2) | ⟨kk', l', h2, h3⟩⟩ | ⟨m, s, sn, la, h1, (h2 | h2) | ⟨h2, h3⟩ | ⟨om', bm, h2, h3, h4⟩⟩ | ⟨r, h1, (h2 | h2) | h2⟩
          all_goals (first | (cases h2; done) | skip)
          subst h3
          exact ⟨b, rfl, hb, s, sn, la, h1⟩
      subst hux
      refine ⟨K, .tuple #[.bool false], _, _, _, ?_, hx, Ext.refl K, h, .tuple _ _ rfl fun j hj => ?_⟩
      · simp [Instr.next, getObj, Sem.run, hh, Result.andThen]
      · have : j = 0 := by simpa using hj
        subst this
        exact .bool _
    · rename_i om since seen last ho
      obtain ⟨b, bm, rfl, hb, hh, hbm⟩ := iter_block h.boxes ho rx
      split at hx
      · rename_i kk ck l hom
        obtain ⟨⟨hsc, hsl⟩, hx⟩ := hx
        subst hsc
        obtain ⟨b', es, e1, hb', hh', ⟨hst, hks, her⟩, hatm⟩ := map_at h hom (.mref om bm hbm)
        cases e1
        obtain ⟨m1, m2, m3, m4⟩ := erel_mem her
        have hnd1 : (l.map (·.2.1)).Nodup := by rw [← m3]; exact hst.2.1
        have hnd2 : (l.map (·.1)).Nodup := by
          have := hst.2.2
          rw [m4] at this
          have h2 : ((l.map (·.1)).map MKey.val).Nodup := by rw [List.map_map]; exact this
          exact List.Pairwise.of_map MKey.val (fun a b hab e => hab (by rw [e])) h2
        obtain ⟨hx1, hx2⟩ := hx hnd2 hnd1
        rcases run_next_at (P := P) K.w ty b bm since last seen.toArray es since hh hh' (fun x hx => hst.1 x hx) hsl with ⟨h0, hrun⟩ | ⟨e, hel, w1, hw1, hrun⟩
        · refine ⟨K, _, _, _, _, hrun, hx1 fun x hxl => ?_, Ext.refl K, h, .tuple _ _ rfl fun j hj => ?_⟩
          · obtain ⟨e, he, _, hbn, _⟩ := m2 x hxl
            by_cases hs : x.2.1 ∈ seen
            · exact hs
            · exfalso
              have : e ∈ (leftOf es seen.toArray).toList := by
                unfold leftOf
                simp only [Array.toList_filter, List.mem_filter]
                exact ⟨he, by simp [hbn, hs]⟩
              have hz : (leftOf es seen.toArray).toList.length = 0 := by simpa using h0
              rw [List.length_eq_zero_iff] at hz
              rw [hz] at this
              cases this
          · have : j = 0 := by simpa using hj
            subst this
            exact .bool _
        · have hel' : e ∈ es.toList ∧ e.born ∉ seen := by
            unfold leftOf at hel
            simp only [Array.toList_filter, List.mem_filter] at hel
            exact ⟨hel.1, by simpa using hel.2⟩
          obtain ⟨x, hxl, k1, k2, k3⟩ := m1 e hel'.1
          have hstep : ∀ K1 : Kw, K1.w = w1 → Ext K K1 → Mem P B p0 K1 L T → ∃ K', K'.w = ChangeMaps.setBlock w1 b (.mapIter (some bm) since (seen.toArray.push e.born) since) ∧ Ext K K' ∧ Mem P B p0 K' (L.set o [.iterc om since (seen ++ [x.2.1]) since]) T := by
            intro K1 hw hek hmk
            have hb1 := hek.boxes _ _ hb
            have hbm1 := hek.boxes _ _ hbm
            have hheap : K1.w.heap[b]? = some (.mapIter (some bm) since seen.toArray last) := by rw [hw]; rcases hw1 with rfl | rfl <;> exact hh
            obtain ⟨he2, hm2⟩ := hmk.setMap (obj := .mapIter (some bm) since (seen.toArray.push e.born) since) (cs' := [.iterc om since (seen ++ [x.2.1]) since]) ho hb1
              (.inr (.inl ⟨_, _, _, _, hheap, .inr (.inr ⟨om, bm, by simp, rfl, hbm1⟩)⟩)) (by simp) (by simp) (fun K' hx hK' => .inr (.inl ⟨_, _, _, _, hK', .inr (.inr ⟨om, bm, by simp [k2], rfl, hx.boxes _ _ hbm1⟩)⟩))
            exact ⟨_, by rw [hw], hek.trans he2, hm2⟩
          have hk : ∃ K1 : Kw, K1.w = w1 ∧ Ext K K1 ∧ Mem P B p0 K1 L T := by
            rcases hw1 with rfl | rfl
            · exact ⟨K, rfl, Ext.refl K, h⟩
            · obtain ⟨a, b⟩ := h.drew
              exact ⟨_, rfl, a, b⟩
          obtain ⟨K1, a1, a2, a3⟩ := hk
          obtain ⟨K', c1, c2, c3⟩ := hstep K1 a1 a2 a3
          refine ⟨K', _, _, _, _, by rw [c1]; exact hrun, hx2 x hxl (by rw [← k2]; exact hel'.2), c2, c3, .tuple _ _ rfl fun j hj => ?_⟩
          rcases j with _ | _ | _ | j
          · exact .bool _
          · simp only [List.getElem_cons_zero, List.getElem_cons_succ, List.getElem_toArray]; rw [k1]; exact toV_rel _
          · exact k3.ext c2
          · simp at hj; omega
      · exact hx.elim
    · exact hx.elim
  · exact hx.elim
theorem srcL_gives (h : Mem P B p0 K L T) {sz m : Nat} {x : V} {u : Value} {cs : List V} {q : Prop} (hx : srcL L sz x = some (q, m, cs)) (hq : q) (hr : Rel K x u) :
    ∃ news, Gives P K.w u m sz news ∧ (∀ v ∈ news, v.oneCell' = true) ∧ news.length = cs.length ∧ ∀ j (h : j < cs.length) (h' : j < news.length), Rel K cs[j] news[j] := by
  unfold srcL at hx
  split at hx
  · rename_i em sz' o n
    split at hx
    · rename_i hsz
      subst hsz
      split at hx
      · rename_i cs0 hcs
        cases hx
        cases hr with
        | vrow em sz o n A c hc hm hA =>
        rcases hA with ⟨hn0, hc0⟩ | ⟨b, mm, rfl, hb, hsh, hle⟩
        · subst hn0 hc0
          exact ⟨[], ⟨by simp, by simp [Builtin.lenOf], fun w' _ => by
            cases A with
            | none => simp [Builtin.firstCells]
            | some a =>
              have := run_firstCells_some (P := P) w' sz' 0 a 0 0 [] (by simp) (fun j v hj => by simp at hj)
              simpa using this⟩, by simp, by simp, fun j hj => by simp at hj⟩
        · obtain ⟨cur, ty, hh, hsz, hcr⟩ := box_cells (off := 0) h.boxes hcs hb hsh
          have hcur : m * sz' ≤ cur.size := by omega
          refine ⟨cur.toList.take (m * sz'), ⟨by simp; omega, by simp [Builtin.lenOf], fun w' hw' => ?_⟩, fun v hv => ?_, by simp; omega, fun j hj hj' => ?_⟩
          · refine run_firstCells_some (P := P) w' sz' m ⟨b, 0, none⟩ m c _ (by simp; omega) fun j v hj => ?_
            rw [Addr.add_lit, Nat.zero_add, cell_of_row w' b j cur ty (0, 0) (by rw [hw']; exact hh)]
            rw [List.getElem?_take] at hj
            split at hj
            · simpa using hj
            · cases hj
          · obtain ⟨j, hj, e1⟩ := List.mem_iff_getElem.1 hv
            simp only [List.length_take, Array.length_toList] at hj
            simp only [List.getElem_take, Array.getElem_toList] at e1
            rw [← e1]
            exact (hcr j (by omega)).2
          · simp only [List.length_take] at hj
            simp only [List.getElem_take, Array.getElem_toList]
            exact (hcr j (by omega)).1
      · cases hx
    · cases hx
  · cases hx
    cases hr
    exact ⟨[], ⟨by simp, by simp [Builtin.lenOf], fun w' _ => by simp [Builtin.firstCells]⟩, by simp, by simp, fun j hj => by simp at hj⟩
  · cases hx
    cases hr with
    | zero A =>
    exact ⟨[], ⟨by simp, by simp [Builtin.lenOf], fun w' _ => by
      cases A with
      | none => simp [Builtin.firstCells]
      | some a =>
        have := run_firstCells_some (P := P) w' sz 0 a 0 0 [] (by simp) (fun j v hj => by simp at hj)
        simpa using this⟩, by simp, by simp, fun j hj => by simp at hj⟩
  · simp only [Option.map_eq_some_iff, Prod.mk.injEq] at hx
    obtain ⟨⟨m', cs'⟩, h1, rfl, rfl, rfl⟩ := hx
    exact srcCells_gives h1 hr
theorem grow_new (h : Mem P B p0 K L T) {A : Option Addr} {n c m : Nat} {x : Value} {t t2 ty e : TypeId} {i : TypeInfo} {z : Value} {cs1 cs2 : List V} {olds news : List Value}
    (ht : P.underlying t = some (.slice e)) {d2 : TypeDesc} (ht2 : P.underlying t2 = some d2) (hd2 : ∀ k, d2 ≠ .int k) (hi : P.info? e = some i) (hz : i.zero = some z) (hsz : 0 < i.size) (hzs : z.cells.size = i.size)
    (ho : Gives P K.w (.slice A n c) n i.size olds) (ho1 : ∀ u ∈ olds, u.oneCell' = true) (hol : olds.length = cs1.length) (hor : ∀ j (h : j < cs1.length) (h' : j < olds.length), Rel K cs1[j] olds[j])
    (hx : Gives P K.w x m i.size news) (h1 : ∀ u ∈ news, u.oneCell' = true) (hl : news.length = cs2.length)
    (hr : ∀ j (h : j < cs2.length) (h' : j < news.length), Rel K cs2[j] news[j]) (h63 : n + m ≤ maxLen) (hb : (n + m) * i.bytes ≤ 140737488355328) (hroom : ¬ n + m ≤ c) :
    ∃ K' u, (Builtin.append_ #[t, t2] ty #[.slice A n c, x]).run P K.w = .ok u K'.w ∧ Ext K K' ∧ Mem P B p0 K' (L ++ [cs1 ++ cs2]) T ∧ Rel K' (.vrow e i.size L.length (n + m)) u := by
  have hnl := hx.1
  have hol' : olds.length = n * i.size := ho.1
  have hlen := h.boxes.1
  have hrun := run_append_gen (ty := ty) ht ht2 hd2 hi hz hx ho h63 hb
  rw [if_neg hroom] at hrun
  have hge := grownCap_ge K.w (n + m) c e
  have hgm := grownCap_le_maxLen K.w (n + m) c e h63
  have hB0 := h.below.size
  obtain ⟨he1, hm1⟩ := h.grow (w' := K.w.drew.alloc (.cells (olds.toArray ++ news.toArray ++ Builtin.zeroCells z.cells (grownCap K.w (n + m) c e - (n + m))) e)) (q := fun _ _ => False)
    ((Below.refl _ K.w).drew.alloc (by simp) _) (fun b o hq => hq.elim)
  obtain ⟨he2, hm2⟩ := hm1.addBox (b := K.w.heap.size) (cs := cs1 ++ cs2) (cur := olds.toArray ++ news.toArray ++ Builtin.zeroCells z.cells (grownCap K.w (n + m) c e - (n + m))) (ty := e) hB0 (alloc_new K.w.drew _) (by simp; omega)
    (fun j hj => by
      simp only [List.length_append] at hj
      simp only [Array.getElem_append, Array.size_append, List.size_toArray, List.getElem_toArray, List.getElem_append, hol]
      have hjl : j < cs1.length + news.length := by omega
      simp only [hjl, dite_true]
      by_cases c1 : j < cs1.length
      · simp only [c1, dite_true]
        exact ⟨(hor j c1 (by omega)).ext he1, ho1 _ (List.getElem_mem _)⟩
      · simp only [c1, dite_false]
        exact ⟨(hr _ (by omega) (by omega)).ext he1, h1 _ (List.getElem_mem _)⟩)
    (fun o hp => by rcases hp with hp | hp; (have := h.there _ _ hp; omega); exact hp) (fun hb => by have := h.boxes.lt hb; omega) (fun k t hk hb => by have := h.tokLt hk hb; omega)
  refine ⟨_, _, hrun, he1.trans he2, hm2, .vrow _ _ _ _ _ _ hge hgm (.inr ⟨_, _, rfl, ?_, shape_cells (alloc_new K.w.drew _), ?_⟩)⟩
  · show (K.boxes ++ [some K.w.heap.size])[L.length]? = _
    rw [← hlen]; simp
  · simp only [Array.size_append, List.size_toArray, size_zeroCells, hzs, hol', hnl, ← Nat.add_mul]
    rw [show n + m + (grownCap K.w (n + m) c e - (n + m)) = grownCap K.w (n + m) c e by omega]
    exact Nat.le_refl _
theorem grow_vrow (h : Mem P B p0 K L T) {o n m : Nat} {x v : Value} {t t2 ty e : TypeId} {i : TypeInfo} {z : Value} {cs cs2 : List V} {news : List Value}
    (ht : P.underlying t = some (.slice e)) {d2 : TypeDesc} (ht2 : P.underlying t2 = some d2) (hd2 : ∀ k, d2 ≠ .int k) (hi : P.info? e = some i) (hz : i.zero = some z) (hsz : 0 < i.size) (hzs : z.cells.size = i.size)
    (hcs : L[o]? = some cs) (hfit : n * i.size ≤ cs.length) (hcs0 : cs ≠ []) (hv : Rel K (.vrow e i.size o n) v) (hx : Gives P K.w x m i.size news) (h1 : ∀ u ∈ news, u.oneCell' = true) (hl : news.length = cs2.length)
    (hr : ∀ j (h : j < cs2.length) (h' : j < news.length), Rel K cs2[j] news[j]) (h63 : n + m ≤ maxLen) (hb : (n + m) * i.bytes ≤ 140737488355328) :
    ∃ K' u, (Builtin.append_ #[t, t2] ty #[v, x]).run P K.w = .ok u K'.w ∧ Ext K K' ∧
      ((Mem P B p0 K' (L.set o (cs.take (n * i.size) ++ cs2 ++ cs.drop (n * i.size + cs2.length))) T ∧ Rel K' (.vrow e i.size o (n + m)) u) ∨
       (0 < m ∧ Mem P B p0 K' (L ++ [cs.take (n * i.size) ++ cs2]) T ∧ Rel K' (.vrow e i.size L.length (n + m)) u)) := by
  have hnl := hx.1
  obtain ⟨olds, ho, ho1, hol, hor⟩ := srcL_gives (P := P) h (sz := i.size) (m := n) (cs := cs.take (n * i.size)) (q := n * i.size ≤ cs.length) (x := .vrow e i.size o n) (by simp [srcL, hcs]) hfit hv
  cases hv with
  | vrow em sz o n A c hc hm hA =>
  by_cases hroom : n + m ≤ c
  · have hrun := run_append_gen (ty := ty) ht ht2 hd2 hi hz hx ho h63 hb
    rw [if_pos hroom] at hrun
    rcases hA with ⟨hn0, hc0⟩ | ⟨b, mm, rfl, hbx, hsh, hle⟩
    · subst hn0 hc0
      have hm0 : m = 0 := by omega
      subst hm0
      have hnews : news = [] := List.eq_nil_of_length_eq_zero (by simpa using hnl)
      have hcs2 : cs2 = [] := List.eq_nil_of_length_eq_zero (by rw [← hl, hnews]; rfl)
      subst hnews hcs2
      refine ⟨K, .slice A 0 0, by rw [hrun]; cases A <;> simp [storeCells], Ext.refl K, .inl ⟨?_, .vrow _ _ _ _ _ _ (by omega) (by simp) (.inl ⟨rfl, rfl⟩)⟩⟩
      have : L.set o cs = L := by
        obtain ⟨hlt, e1⟩ := List.getElem?_eq_some_iff.1 hcs
        rw [← e1, List.set_getElem_self]
      simpa [this] using h
    · obtain ⟨cur, ty', hh, hszc, hcr⟩ := box_cells (off := 0) h.boxes hcs hbx hsh
      have hsc := shape_cells hh
      rw [hsh] at hsc
      simp only [Option.some.injEq, Prod.mk.injEq] at hsc
      obtain ⟨rfl, rfl⟩ := hsc
      have hmul : (n + m) * i.size ≤ c * i.size := Nat.mul_le_mul_right _ hroom
      rw [Nat.add_mul] at hmul
      have hst := run_storeCells_at (P := P) b (n * i.size) _ news 0 cur K.w hh (by simp only [Nat.add_zero]; omega) h1
      simp only [Nat.add_zero] at hst
      have hadd : (⟨b, 0, none⟩ : Addr).add (n * i.size) = ⟨b, n * i.size, none⟩ := by rw [Addr.add_lit, Nat.zero_add]
      simp only [hadd, hst, Result.andThen_ok] at hrun
      obtain ⟨he, hmm⟩ := h.setBoxTo (cs' := cs.take (n * i.size) ++ cs2 ++ cs.drop (n * i.size + cs2.length)) (new := (cur.toList.take (n * i.size) ++ news ++ cur.toList.drop (n * i.size + news.length)).toArray) hcs hbx hh hcs0 (by simp; omega) (by simp; omega) (fun K1 he j hj => by
          simp only [List.length_append, List.length_take, List.length_drop] at hj
          simp only [List.getElem_toArray, List.getElem_append, List.length_append, List.length_take, Array.length_toList, List.getElem_take, List.getElem_drop, Array.getElem_toList, Nat.min_eq_left hfit, Nat.min_eq_left (show n * i.size ≤ cur.size by omega), hl]
          by_cases c1 : j < n * i.size
          · simp only [c1, show j < n * i.size + cs2.length by omega, dite_true]
            exact ⟨(hcr j (by omega)).1.ext he, (hcr j (by omega)).2⟩
          · by_cases c2 : j < n * i.size + cs2.length
            · simp only [c1, c2, dite_true, dite_false]
              exact ⟨(hr (j - n * i.size) (by omega) (by omega)).ext he, h1 _ (List.getElem_mem _)⟩
            · simp only [c2, dite_false]
              exact ⟨(hcr _ (by omega)).1.ext he, (hcr _ (by omega)).2⟩)
      refine ⟨_, _, hrun, he, .inl ⟨hmm, .vrow _ _ _ _ _ _ hroom hm (.inr ⟨b, _, rfl, hbx, shape_cells (setRow_heap K.w b cur _ _ _ hh), ?_⟩)⟩⟩
      simp
      omega
  · obtain ⟨K', u, hrun, he, hmm, hr'⟩ := grow_new (ty := ty) h ht ht2 hd2 hi hz hsz hzs ho ho1 hol hor hx h1 hl hr h63 hb hroom
    exact ⟨K', u, hrun, he, .inr ⟨by omega, hmm, hr'⟩⟩
theorem growP_sound (hτ : TyOk P τ) (h : Mem P B p0 K L T) {t t2 ty : TypeId} {s x : V} {us ux : Value} {Φ : V → List (List V) → List (Nat × TypeId) → Prop} (hx : growP τ t t2 [s, x] L T Φ) (rs : Rel K s us) (rx : Rel K x ux) :
    ∃ K' u v L' T', (Builtin.append_ #[t, t2] ty #[us, ux]).run P K.w = .ok u K'.w ∧ Φ v L' T' ∧ Ext K K' ∧ Mem P B p0 K' L' T' ∧ Rel K' v u := by
  unfold growP at hx
  split at hx
  · rename_i e i s0 x0 hei heq
    cases heq
    obtain ⟨hu, hie⟩ := elemI_spec hτ hei
    split at hx
    · rename_i q m cs2 hsrc
      obtain ⟨⟨hz, hsz, hby, hnk⟩, hq, hx⟩ := hx
      obtain ⟨i2, hi2⟩ : ∃ i2, τ t2 = some i2 := by
        cases hi2 : τ t2 with
        | none => simp [notIntK, kindV, hi2] at hnk
        | some i2 => exact ⟨i2, rfl⟩
      obtain ⟨d2, hd2, hk2⟩ := hτ.under hi2
      have hd2' : ∀ k, d2 ≠ .int k := fun k e => by
        subst e
        simp [notIntK, kindV, hi2, ← hk2, descK] at hnk
      obtain ⟨ti, hti, hs, hb, hzz⟩ := hτ.info hie
      obtain ⟨_, hzc, _⟩ := zeroOk_rel hz K
      have len_ok : ∀ {n : Nat}, n * i.bytes ≤ maxBytes → n ≤ maxLen ∧ n * ti.bytes ≤ 140737488355328 := fun {n} hn => by
        have : n * 1 ≤ n * i.bytes := Nat.mul_le_mul_left _ hby
        refine ⟨by simp only [maxLen, maxBytes] at *; omega, by rw [hb]; exact hn⟩
      obtain ⟨news, g1, g2, g3, g4⟩ := srcL_gives (P := P) h hsrc hq rx
      have nilCase : ∀ {A : Option Addr} {v0 : V}, us = .slice A 0 0 → Rel K v0 (.slice A 0 0) → m * i.bytes ≤ maxBytes → (m = 0 → Φ v0 L T) → (0 < m → Φ (.vrow e i.size L.length m) (L ++ [cs2]) T) →
          ∃ K' u v L' T', (Builtin.append_ #[t, t2] ty #[us, ux]).run P K.w = .ok u K'.w ∧ Φ v L' T' ∧ Ext K K' ∧ Mem P B p0 K' L' T' ∧ Rel K' v u := by
        intro A v0 hA hv0 hmb k0 k1
        obtain ⟨b1, b2⟩ := len_ok hmb
        subst hA
        rw [← hs] at g1 k1
        have ho : Gives P K.w (.slice A 0 0) 0 ti.size [] := ⟨by simp, by simp [Builtin.lenOf], fun w' _ => by
          cases A with
          | none => simp [Builtin.firstCells]
          | some a =>
            have := run_firstCells_some (P := P) w' ti.size 0 a 0 0 [] (by simp) (fun j v hj => by simp at hj)
            simpa using this⟩
        by_cases hm0 : m = 0
        · subst hm0
          have hrun := run_append_gen (ty := ty) hu hd2 hd2' hti hzz g1 ho (by omega) (by simp)
          have hnews : news = [] := List.eq_nil_of_length_eq_zero (by simpa using g1.1)
          subst hnews
          refine ⟨K, .slice A 0 0, _, _, _, ?_, k0 rfl, Ext.refl K, h, hv0⟩
          rw [hrun]
          cases A <;> simp [storeCells]
        · obtain ⟨K', u, hrun, he, hm, hr⟩ := grow_new (ty := ty) (cs1 := []) h hu hd2 hd2' hti hzz (by omega) (by omega) ho (by simp) rfl (fun j hj => by simp at hj) g1 g2 g3 g4 (by omega) (by simpa using b2) (by omega)
          rw [List.nil_append] at hm
          rw [Nat.zero_add] at hr
          exact ⟨K', u, _, _, _, hrun, k1 (by omega), he, hm, hr⟩
      split at hx
      · rename_i em sz o n
        split at hx
        · rename_i cs hcs
          obtain ⟨⟨rfl, rfl, hfit, hcs0, hmb⟩, k1, k2⟩ := hx
          obtain ⟨b1, b2⟩ := len_ok hmb
          rw [← hs] at g1 rs hfit k1 k2
          obtain ⟨K', u, hrun, he, hor⟩ := grow_vrow (ty := ty) h hu hd2 hd2' hti hzz (by omega) (by omega) hcs hfit hcs0 rs g1 g2 g3 g4 b1 b2
          rcases hor with ⟨hm, hr⟩ | ⟨hm0, hm, hr⟩
          · exact ⟨K', u, _, _, _, hrun, k1, he, hm, hr⟩
          · exact ⟨K', u, _, _, _, hrun, k2 hm0, he, hm, hr⟩
        · exact hx.elim
      · obtain ⟨hmb, k⟩ := hx
        cases rs
        exact nilCase rfl .nils hmb k.1 k.2
      · obtain ⟨hmb, k⟩ := hx
        cases rs with
        | zero A => exact nilCase rfl (.zero A) hmb k.1 k.2
      · exact hx.elim
    · exact hx.elim
  · exact hx.elim
theorem cloneV_sound (hτ : TyOk P τ) (h : Mem P B p0 K L T) {t t2 ty : TypeId} {s : V} {em : TypeId} {sz o n : Nat} {us ux : Value} {Φ : V → List (List V) → List (Nat × TypeId) → Prop} (hx : cloneP τ t t2 [s, .vrow em sz o n] L T Φ) (rs : Rel K s us) (rx : Rel K (.vrow em sz o n) ux) :
    ∃ K' u v L' T', (Builtin.append_ #[t, t2] ty #[us, ux]).run P K.w = .ok u K'.w ∧ Φ v L' T' ∧ Ext K K' ∧ Mem P B p0 K' L' T' ∧ Rel K' v u := by
  unfold cloneP at hx
  split at hx
  · rename_i e i s0 em' sz' o' n' hei heq
    cases heq
    obtain ⟨hu, hie⟩ := elemI_spec hτ hei
    split at hx
    · rename_i cs hcs
      obtain ⟨⟨hz, hsz, rfl, hby, hnk⟩, hs0, ⟨hfit, hbs, hmb⟩, hk⟩ := hx
      obtain ⟨i2, hi2⟩ : ∃ i2, τ t2 = some i2 := by
        cases hi2 : τ t2 with
        | none => simp [notIntK, kindV, hi2] at hnk
        | some i2 => exact ⟨i2, rfl⟩
      obtain ⟨d2, hd2, hk2⟩ := hτ.under hi2
      have hd2' : ∀ k, d2 ≠ .int k := fun k e => by
        subst e
        simp [notIntK, kindV, hi2, ← hk2, descK] at hnk
      obtain ⟨ti, hti, hs, hb, hzz⟩ := hτ.info hie
      obtain ⟨_, hzc, _⟩ := zeroOk_rel hz K
      have h63 : n ≤ maxLen := by
        have : n * 1 ≤ n * i.bytes := Nat.mul_le_mul_left _ hby
        simp only [maxLen, maxBytes] at *; omega
      obtain ⟨news, g1, g2, g3, g4⟩ := srcL_gives (P := P) h (sz := 1) (m := n) (cs := cs.take (n * 1)) (q := n * 1 ≤ cs.length) (by simp [srcL, hcs]) (by omega) rx
      have hs1 : ti.size = 1 := by omega
      obtain ⟨A, rfl⟩ : ∃ A, us = .slice A 0 0 := by
        rcases hs0 with rfl | rfl
        · cases rs; exact ⟨_, rfl⟩
        · cases rs; exact ⟨_, rfl⟩
      rw [Nat.mul_one, ← hbs] at g3 g4
      obtain ⟨K', u, hrun, he, hm, hrd, hkk⟩ := appendNil (ty := ty) (cs2 := ((cs.take n).map unbyte).map byteV) (A := A) h hu hd2 hd2' hti hzz (by omega) (by omega) (by rw [hs1]; exact g1) g2 g3 g4 h63 (by rw [hb]; exact hmb)
      refine ⟨K', u, _, _, _, hrun, hk, he, hm, ?_⟩
      generalize hl : (cs.take n).map unbyte = l at hrd
      have hln : l.length = n := by rw [← hl]; simp; omega
      subst hln
      rw [hs1] at hrd
      exact bytesV_rd hrd ⟨u, _, e, hkk, Nat.le_refl _, fun _ => rfl⟩
    · exact hx.elim
  · rename_i heq; cases heq
  · exact hx.elim
theorem cloneP_sound (hτ : TyOk P τ) (h : Mem P B p0 K L T) {t t2 ty : TypeId} {s x : V} {us ux : Value} {Φ : V → List (List V) → List (Nat × TypeId) → Prop} (hx : cloneP τ t t2 [s, x] L T Φ) (rs : Rel K s us) (rx : Rel K x ux) :
    ∃ K' u v L' T', (Builtin.append_ #[t, t2] ty #[us, ux]).run P K.w = .ok u K'.w ∧ Φ v L' T' ∧ Ext K K' ∧ Mem P B p0 K' L' T' ∧ Rel K' v u := by
  cases x with
  | vrow em sz o n => exact cloneV_sound hτ h hx rs rx
  | mrow em o off n =>
    cases off with
    | succ off => unfold cloneP at hx; split at hx <;> first | (rename_i heq; cases heq; done) | exact hx.elim
    | zero =>
      have rx' : Rel K (.vrow em 1 o n) ux := by
        cases rx with
        | mrow _ _ _ _ A c hc hm hA => exact .vrow _ _ _ _ A c hc hm (hA.imp id fun ⟨b, m, e1, hb, hs, hl⟩ => ⟨b, m, e1, hb, hs, by omega⟩)
      have hx' : cloneP τ t t2 [s, .vrow em 1 o n] L T Φ := by
        unfold cloneP at hx ⊢
        cases hh : elemI τ t with
        | none => rw [hh] at hx; exact hx
        | some ei => rw [hh] at hx; exact hx
      exact cloneV_sound hτ h hx' rs rx'
  | _ => unfold cloneP at hx; split at hx <;> first | (rename_i heq; cases heq; done) | exact hx.elim
theorem mrow_gives (h : Mem P B p0 K L T) {em : TypeId} {o off n : Nat} {u : Value} {cs : List V} (ho : L[o]? = some cs) (hfit : off + n ≤ cs.length) (hr : Rel K (.mrow em o off n) u) :
    ∃ news, Gives P K.w u n 1 news ∧ (∀ v ∈ news, v.oneCell' = true) ∧ news.length = ((cs.drop off).take n).length ∧ ∀ j (h : j < ((cs.drop off).take n).length) (h' : j < news.length), Rel K ((cs.drop off).take n)[j] news[j] := by
  cases hr with
  | mrow _ _ _ _ A c hc hm hA =>
  rcases hA with ⟨hn0, hc0⟩ | ⟨b, mm, rfl, hb, hsh, hle⟩
  · subst hn0 hc0
    exact ⟨[], ⟨by simp, by simp [Builtin.lenOf], fun w' _ => by
      cases A with
      | none => simp [Builtin.firstCells]
      | some a =>
        have := run_firstCells_some (P := P) w' 1 0 a 0 0 [] (by simp) (fun j v hj => by simp at hj)
        simpa using this⟩, by simp, by simp, fun j hj => by simp at hj⟩
  · obtain ⟨cur, ty, hh, hsz, hcr⟩ := box_cells (off := 0) h.boxes ho hb hsh
    have hcur : off + n ≤ cur.size := by omega
    have hdl : ((cur.toList.drop off).take n).length = n := by rw [List.length_take, List.length_drop, Array.length_toList]; omega
    refine ⟨(cur.toList.drop off).take n, ⟨by rw [hdl]; omega, by simp [Builtin.lenOf], fun w' hw' => ?_⟩, fun v hv => ?_, by rw [hdl, List.length_take, List.length_drop]; omega, fun j hj hj' => ?_⟩
    · refine run_firstCells_some (P := P) w' 1 n ⟨b, off, none⟩ n c _ (by rw [hdl]; omega) fun j v hj => ?_
      rw [Addr.add_lit, cell_of_row w' b (off + j) cur ty (0, 0) (by rw [hw']; exact hh)]
      rw [List.getElem?_take] at hj
      split at hj
      · rw [List.getElem?_drop] at hj
        simpa using hj
      · cases hj
    · obtain ⟨j, hj, e1⟩ := List.mem_iff_getElem.1 hv
      rw [hdl] at hj
      simp only [List.getElem_take, List.getElem_drop, Array.getElem_toList] at e1
      rw [← e1]
      exact (hcr (off + j) (by omega)).2
    · simp only [List.length_take, List.length_drop] at hj
      simp only [List.getElem_take, List.getElem_drop, Array.getElem_toList]
      exact (hcr (off + j) (by omega)).1
theorem slabP_sound (hτ : TyOk P τ) (h : Mem P B p0 K L T) {t t2 ty : TypeId} {s x : V} {us ux : Value} {Φ : V → List (List V) → List (Nat × TypeId) → Prop} (hx : slabP τ t t2 [s, x] L T Φ) (rs : Rel K s us) (rx : Rel K x ux) :
    ∃ K' u v L' T', (Builtin.append_ #[t, t2] ty #[us, ux]).run P K.w = .ok u K'.w ∧ Φ v L' T' ∧ Ext K K' ∧ Mem P B p0 K' L' T' ∧ Rel K' v u := by
  unfold slabP at hx
  split at hx
  · rename_i e i s0 em' o' off' n' hei heq
    cases heq
    obtain ⟨hu, hie⟩ := elemI_spec hτ hei
    split at hx
    · rename_i cs hcs
      obtain ⟨⟨hz, hsz, hby, hnk⟩, ⟨hfit, hbs⟩, hx⟩ := hx
      obtain ⟨i2, hi2⟩ : ∃ i2, τ t2 = some i2 := by
        cases hi2 : τ t2 with
        | none => simp [notIntK, kindV, hi2] at hnk
        | some i2 => exact ⟨i2, rfl⟩
      obtain ⟨d2, hd2, hk2⟩ := hτ.under hi2
      have hd2' : ∀ k, d2 ≠ .int k := fun k e => by
        subst e
        simp [notIntK, kindV, hi2, ← hk2, descK] at hnk
      obtain ⟨ti, hti, hs, hb, hzz⟩ := hτ.info hie
      obtain ⟨_, hzc, _⟩ := zeroOk_rel hz K
      have len_ok : ∀ {n : Nat}, n * i.bytes ≤ maxBytes → n ≤ maxLen ∧ n * ti.bytes ≤ 140737488355328 := fun {n} hn => by
        have : n * 1 ≤ n * i.bytes := Nat.mul_le_mul_left _ hby
        refine ⟨by simp only [maxLen, maxBytes] at *; omega, by rw [hb]; exact hn⟩
      have hs1 : ti.size = 1 := by omega
      obtain ⟨news, g1, g2, g3, g4⟩ := mrow_gives (P := P) h hcs hfit rx
      rw [← hbs] at g3 g4
      have hln : (((cs.drop off').take n').map unbyte).length = n' := by rw [List.length_map, List.length_take, List.length_drop]; omega
      generalize ((cs.drop off').take n').map unbyte = l2 at *
      subst hln
      have nil_case : ∀ {A : Option Addr}, us = .slice A 0 0 → l2.length * i.bytes ≤ maxBytes → Φ (.bytes l2 (some T.length)) L (T ++ [(l2.length, e)]) → ∃ K' u v L' T', (Builtin.append_ #[t, t2] ty #[us, ux]).run P K.w = .ok u K'.w ∧ Φ v L' T' ∧ Ext K K' ∧ Mem P B p0 K' L' T' ∧ Rel K' v u := by
        rintro A rfl hmb hk
        obtain ⟨b1, b2⟩ := len_ok hmb
        obtain ⟨K', u, hrun, he, hm, hrd, hkk⟩ := appendNil (ty := ty) (cs2 := l2.map byteV) (A := A) h hu hd2 hd2' hti hzz (by omega) (by omega) (by rw [hs1]; exact g1) g2 g3 g4 b1 b2
        rw [hs1] at hrd
        exact ⟨K', u, _, _, _, hrun, hk, he, hm, bytesV_rd hrd ⟨u, _, e, hkk, Nat.le_refl _, fun _ => rfl⟩⟩
      split at hx
      · rename_i l k
        obtain ⟨⟨hT, hmb⟩, hk⟩ := hx
        obtain ⟨b1, b2⟩ := len_ok hmb
        obtain ⟨v0, hk0⟩ := tok_get h hT
        obtain ⟨rd1, tk1⟩ := rd_bytesV rs
        obtain ⟨u', m', e', hk', hn', hv'⟩ := tk1
        rw [hk0] at hk'
        cases hk'
        have := hv' rfl
        subst this
        have h1' : (1 : Nat) = ti.size := by omega
        rw [h1'] at rd1 g1
        obtain ⟨K', u, hrun, he, hm, hrd, hkk⟩ := appendTok (ty := ty) h hu hd2 hd2' hti hzz (by omega) (by omega) hk0 rd1 g1 g2 g3 g4 b1 b2
        refine ⟨K', u, _, _, _, hrun, hk, he, hm, ?_⟩
        rw [← h1', ← List.map_append] at hrd
        have hlen : l.length + l2.length = (l ++ l2).length := by simp
        rw [hlen] at hrd hkk
        exact bytesV_rd hrd ⟨u, _, e, hkk, Nat.le_refl _, fun _ => rfl⟩
      · cases rs
        exact nil_case rfl hx.1 hx.2
      · cases rs
        exact nil_case rfl hx.1 hx.2
      · exact hx.elim
    · exact hx.elim
  · exact hx.elim
end
end Go.Proofs.YtckmcglkjfkghaaDoor.Aw
