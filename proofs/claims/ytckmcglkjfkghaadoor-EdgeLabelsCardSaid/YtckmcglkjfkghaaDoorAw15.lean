import Derived.Test.YtckmcglkjfkghaaDoorAw14
import Derived.ChangeSlices
import Derived.ChangeArms
namespace Go.Proofs.YtckmcglkjfkghaaDoor.Aw
open Go Go.RowKit Go.ChangeShapes
set_option linter.unusedVariables false
set_option linter.unusedSimpArgs false
section
variable {H : Type} {enc : TypeId × Value → H} {P : Program} {w : World} {base : Nat} {held : Bool}
theorem bytes_open {t e : TypeId} (ht : P.underlying t = some (.slice e)) (he : P.underlying e = some (.int .u8)) (hc : P.cellsOf e = 1) {n : Nat} {cs : List Value} {x : DataW H × List MemPlace}
    (h : DataW.trod enc P w base (fun _ => true) held n t cs = some x) :
    ∃ (a : Option Addr) (len cap : Nat) (l : List UInt8), cs = [.slice a len cap] ∧ l.length = len ∧ Rel ⟨w, fun b o => (w.cell? ⟨b, o, none⟩).isSome = true, [], []⟩ (.bytes l none) (.slice a len cap) := by
  rcases open_ints ht he hc h with ⟨hcs, _⟩ | ⟨a, len, cap, zs, hcs, _, hl, hm, hz, _, hcell, hwz⟩
  · obtain ⟨l, h1, h2⟩ := rel_bytes_in (w := w) (a := none) (len := 0) (cap := 0) (zs := []) (.inl ⟨rfl, rfl, rfl, rfl⟩)
    exact ⟨none, 0, 0, l, hcs, h1, h2⟩
  · obtain ⟨l, h1, h2⟩ := rel_bytes_in (w := w) (a := some a) (len := len) (cap := cap) (zs := zs) (.inr ⟨_, rfl, hl, hm, by simpa using hz, hcell, hwz⟩)
    exact ⟨some a, len, cap, l, hcs, h1, h2⟩
theorem lists_open {t e u : TypeId} (ht : P.underlying t = some (.slice e)) (hce : P.cellsOf e = 1) (he : P.underlying e = some (.slice u)) (hu : P.underlying u = some (.int .u8)) (hcu : P.cellsOf u = 1) {n : Nat} {cs : List Value} {x : DataW H × List MemPlace}
    (h : DataW.trod enc P w base (fun _ => true) held n t cs = some x) :
    ∃ (a : Option Addr) (len cap : Nat) (l : List (List UInt8)), cs = [.slice a len cap] ∧ l.length = len ∧ len ≤ maxLen ∧ Rel ⟨w, fun b o => (w.cell? ⟨b, o, none⟩).isSome = true, [], []⟩ (.list 1 (l.map fun y => .bytes y none) none) (.slice a len cap) := by
  rcases DataW.trod_slice ht h with ⟨hcs, _⟩ | ⟨a, len, cap, elems, rest, m, _, hcs, _, _, hl, hm, hlen, hel, _⟩
  · exact ⟨none, 0, 0, [], hcs, rfl, Nat.zero_le _, Rel.list' (fun _ => Go.undef) rfl (Nat.le_refl _) (Nat.zero_le _) (by simp) (fun j hj => by simp at hj) (fun j hj => by simp at hj) trivial⟩
  · have each : ∀ i, i < len → ∃ (v : Value) (y : List UInt8), w.cell? (a.add i) = some v ∧ v.oneCell' = true ∧ Rel ⟨w, fun b o => (w.cell? ⟨b, o, none⟩).isSome = true, [], []⟩ (.bytes y none) v := by
      intro i hi
      have hE := hel i hi
      rw [hce, Nat.mul_one, List.getElem?_eq_getElem (by omega)] at hE
      simp only [Option.bind_eq_some_iff] at hE
      obtain ⟨c1, hc1, hy1⟩ := hE
      have e0 : (a.add i).add 0 = a.add i := by simp [Addr.add]
      have : ∃ c, c1 = [c] ∧ w.cell? (a.add i) = some c := by
        unfold World.cells? at hc1
        split at hc1
        · simp only [List.range_succ, List.range_zero, List.nil_append, List.mapM_cons, List.mapM_nil, e0] at hc1
          cases hcc : w.cell? (a.add i) with
          | none => simp [hcc] at hc1
          | some c => simp [hcc] at hc1; exact ⟨c, hc1.symm, rfl⟩
        · cases hc1
      obtain ⟨c, rfl, hcell⟩ := this
      obtain ⟨a1, len1, cap1, l1, hcs1, _, hr⟩ := bytes_open he hu hcu hy1
      simp only [List.cons.injEq, and_true] at hcs1
      subst hcs1
      exact ⟨_, l1, hcell, rfl, hr⟩
    have pick : ∃ (f : Nat → Value) (g : Nat → List UInt8), ∀ i, i < len → w.cell? (a.add i) = some (f i) ∧ (f i).oneCell' = true ∧ Rel ⟨w, fun b o => (w.cell? ⟨b, o, none⟩).isSome = true, [], []⟩ (.bytes (g i) none) (f i) := by
      refine ⟨fun i => if h : i < len then Classical.choose (each i h) else Go.undef, fun i => if h : i < len then Classical.choose (Classical.choose_spec (each i h)) else [], fun i hi => ?_⟩
      simp only [hi, dif_pos]
      exact Classical.choose_spec (Classical.choose_spec (each i hi))
    obtain ⟨f, g, hfg⟩ := pick
    have hflat : ((List.range len).map g |>.map fun y => V.bytes y none).flatMap V.cells = (List.range len).map fun i => V.bytes (g i) none := by
      rw [List.map_map]
      generalize List.range len = r
      induction r with
      | nil => rfl
      | cons i r ih => rw [List.map_cons, List.flatMap_cons, ih]; rfl
    refine ⟨some a, len, cap, (List.range len).map g, hcs, by simp, by omega, Rel.list' f (by simp) hl hm (fun v hv => ?_) (fun j hj => ?_) (fun j hj => ?_) trivial⟩
    · simp only [List.mem_map] at hv
      obtain ⟨y, _, rfl⟩ := hv
      rfl
    · have hj' : j < len := by simpa using hj
      obtain ⟨h1, h2, _⟩ := hfg j hj'
      refine ⟨⟨a, rfl, ?_, h1⟩, h2⟩
      have hs := spot_none h1
      rw [hs] at h1
      simp [h1]
    · have hj' : j < len := by rw [hflat] at hj; simpa using hj
      obtain ⟨_, _, h3⟩ := hfg j hj'
      have e : (((List.range len).map g |>.map fun y => V.bytes y none).flatMap V.cells)[j] = V.bytes (g j) none := by
        simp only [hflat, List.getElem_map, List.getElem_range]
      rw [e]
      exact h3
end
end Go.Proofs.YtckmcglkjfkghaaDoor.Aw
