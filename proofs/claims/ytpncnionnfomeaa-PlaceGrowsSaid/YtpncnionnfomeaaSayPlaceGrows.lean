import Derived.Test.YtpncnionnfomeaaRows
import Derived.Test.YtpncnionnfomeaaPlaceT
import Derived.Test.YtpncnionnfomeaaAwU
import Derived.Test.YtpncnionnfomeaaDiskO
import Derived.Test.YtpncnionnfomeaaPlaceO
import Derived.ChangeMaps5
import Derived.WalkKit
import Derived.ProofKit
import Derived.OpenShut
import Derived.ShutString
import Derived.ChangeOld
import Derived.Below
import Derived.Carry
namespace Go.Proofs.Ytpncnionnfomeaa.SayPlaceGrows
open Go Go.Proofs Go.ChangeMaps Go.ChangeShapes Go.WideShapes Go.ChangeAt Go.RowKit Go.Proofs.Ytpncnionnfomeaa.Aw
set_option linter.unusedVariables false
set_option linter.unusedSimpArgs false
theorem own : ownKnob Try.prog.godebug = none := by kernel_rfl
theorem laidOut : laidOutB Try.prog = true := by kernel_rfl
set_option maxRecDepth 100000 in
theorem lifted (os : Os) (started : os.Started) (H : Type) (enc : TypeId × Value → H) :
    ReturnsInHanded {} Try.checked os 5 .any (Rows.placeGrowsSpec.pre6 enc Try.prog Try.f5 Rows.placeGrowsRow.domain false) (Rows.placeGrowsSpec.post enc Try.prog Try.f5 false true false false) := by
  refine returnsInHanded_of_change (C := Try.checked) own started (by kernel_rfl) Try.func5
    (ChangeSpec.witness6 (enc := enc) (C := Try.checked) false ⟨#[], #[.int .i64 0, .slice none 0 0, .string .empty, .slice none 0 0, .int .u8 0, .agg #[.int .i64 0, .slice none 0 0]], []⟩ 8 (by kernel_rfl) (by kernel_rfl) (by kernel_rfl) (by kernel_rfl)) ?_
  intro W base args ds gs before hval0 hW hcnd _
  have hval : ∀ (j : Nat) t v, Try.f5.params[j]? = some t → args[j]? = some v → Value.okWide Try.prog W .any base t v := hval0
  have hW' := hW
  obtain ⟨p, q, hA0, hV, rfl, hfz, hnd⟩ := hW
  have hA : DataW.TrodAll enc Try.prog W 0 (fun _ => true) true Try.f5.params.toList args.toList ds p := hA0
  rw [Try.params5] at hA hval
  obtain ⟨v0, vs0, d0, ds0, p0, q0, hargs, rfl, rfl, h0, r0⟩ := trodAll_cons hA
  obtain ⟨v1, vs1, d1, ds1, p1, q1, rfl, rfl, rfl, h1, r1⟩ := trodAll_cons r0
  obtain ⟨v2, vs2, d2, ds2, p2, q2, rfl, rfl, rfl, h2, r2⟩ := trodAll_cons r1
  obtain ⟨v3, vs3, d3, ds3, p3, q3, rfl, rfl, rfl, h3, r3⟩ := trodAll_cons r2
  obtain ⟨v4, vs4, d4, ds4, p4, q4, rfl, rfl, rfl, h4, r4⟩ := trodAll_cons r3
  obtain ⟨v5, vs5, d5, ds5, p5, q5, rfl, rfl, rfl, h5, r5⟩ := trodAll_cons r4
  obtain ⟨rfl, rfl, rfl⟩ := trodAll_nil r5
  obtain rfl : args = #[v0, v1, v2, v3, v4, v5] := by cases args; simp_all
  obtain ⟨rfl, rfl⟩ := trodVars_none hV
  obtain ⟨a0, rfl, rfl, rfl, w0⟩ := open_int Try.underlying3 (hval 0 3 v0 rfl rfl) h0
  have b0 := int_in w0
  obtain ⟨a1, len1, cap1, rfl⟩ := okWide_slice Try.underlying22 (hval 1 22 v1 rfl rfl)
  have k1 := h1
  have lt1 : ∀ x ∈ p1, x.block < W.heap.size := by obtain ⟨m, hm⟩ := k1; exact DataW.trod_lt m _ _ _ hm
  obtain ⟨l1, hl1, hm1, hq1, w1⟩ : ∃ l : List PlaceX.Act, l.length = len1 ∧ len1 ≤ maxLen ∧ (∀ g ∈ l, (Lit.int .i64 g.n).wf = true) ∧ Rel (K0 W) (.list 7 (l.map PlaceX.actV) none) (.slice a1 len1 cap1) := by
    obtain ⟨fuel, hf⟩ := h1
    obtain ⟨a, len, cap, l, hcs, h1, h2, h3, h4⟩ := PlaceO.acts_open hf
    simp [Value.cells] at hcs
    obtain ⟨rfl, rfl, rfl⟩ := hcs
    exact ⟨l, h1, h2, h3, h4⟩
  obtain ⟨a2, rfl, rfl, rfl, w2⟩ := open_string Try.underlying9 (hval 2 9 v2 rfl rfl) h2
  obtain ⟨a3, len3, cap3, rfl⟩ := okWide_slice Try.underlying32 (hval 3 32 v3 rfl rfl)
  have k3 := h3
  have lt3 : ∀ x ∈ p3, x.block < W.heap.size := by obtain ⟨m, hm⟩ := k3; exact DataW.trod_lt m _ _ _ hm
  obtain ⟨l3, hl3, w3⟩ : ∃ l : List UInt8, l.length = len3 ∧ Rel ⟨W, fun b o => (W.cell? ⟨b, o, none⟩).isSome = true, [], []⟩ (.bytes l none) (.slice a3 len3 cap3) := by
    obtain ⟨fuel, hf⟩ := h3
    rcases open_ints Try.underlying32 Try.underlying5 (by kernel_rfl) hf with ⟨hcs, _⟩ | ⟨x, l, c, zs, hcs, _, hl, hm, hz, _, hcell, hwz⟩
    · simp [Value.cells] at hcs
      obtain ⟨rfl, rfl, rfl⟩ := hcs
      exact rel_bytes_in (zs := []) (.inl ⟨rfl, rfl, rfl, rfl⟩)
    · simp [Value.cells] at hcs
      obtain ⟨rfl, rfl, rfl⟩ := hcs
      exact rel_bytes_in (zs := zs) (.inr ⟨_, rfl, hl, hm, by simpa using hz, hcell, hwz⟩)
  obtain ⟨a4, rfl, rfl, rfl, w4⟩ := open_int Try.underlying5 (hval 4 5 v4 rfl rfl) h4
  have b4 := int_in w4
  obtain ⟨c5, rfl, sz5⟩ := okWide_struct Try.underlying25 (hval 5 25 v5 rfl rfl)
  have k5 := h5
  have lt5 : ∀ x ∈ p5, x.block < W.heap.size := by obtain ⟨m, hm⟩ := k5; exact DataW.trod_lt m _ _ _ hm
  obtain ⟨n5, A5, len5, cap5, l5, hc5, hl5, hm5, w5⟩ : ∃ (k : Int) (A : Option Addr) (len cap : Nat) (l : List Int), c5 = #[.int .i64 k, .slice A len cap] ∧ l.length = len ∧ len ≤ maxLen ∧ Rel (K0 W) (DiskL.wbV l) (.slice A len cap) := by
    obtain ⟨fuel, hf⟩ := h5
    obtain ⟨k, A, len, cap, l, hcs, h1, h2, h3⟩ := DiskO.wreck_open hf
    exact ⟨k, A, len, cap, l, Array.toList_inj.1 hcs, h1, h2, h3⟩
  subst hc5
  have rw5 : Rel (K0 W) (.agg [.int .i64 n5, DiskL.wbV l5]) (.agg #[.int .i64 n5, .slice A5 len5 cap5]) := .agg _ _ rfl (fun i hi => by match i, hi with | 0, _ => rfl | 1, _ => rfl) (fun i hi => by match i, hi with | 0, _ => exact .int _ _ | 1, _ => exact w5)
  clear hA0 hval0
  have hc := law_callsP (P := Try.prog) PlaceX.grows_ok (w := W) (args := [.int .i64 a0, .list 7 (l1.map PlaceX.actV) none, .str a2.data.toList, .bytes l3 none, .int .u8 a4, .agg [.int .i64 n5, DiskL.wbV l5]]) (vs := #[.int .i64 a0, .slice a1 len1 cap1, .string a2, .slice a3 len3 cap3, .int .u8 a4, .agg #[.int .i64 n5, .slice A5 len5 cap5]]) ⟨a0, l1, a2.data.toList, l3, none, a4, ⟨n5, l5⟩, rfl, b4.1, b4.2, by rw [hl1]; exact hm1, by show l5.length ≤ _; rw [hl5]; exact hm5, fun _ _ => rfl⟩ rfl (fun j h h' => by
    rcases j with _|_|_|_|_|_|j
    · exact Rel.int _ _
    · exact w1
    · exact DiskO.str_rel _
    · exact w3
    · exact Rel.int _ _
    · exact rw5
    · exact absurd h (by simp))
  refine hc.mono fun e W' ⟨he, bel⟩ => ?_
  subst he
  exact ⟨_, rfl, _, _, _, [], _, [], hW', trodAll_mk1 (shut_bool Try.underlying4 _), (trodAll_cons_mk (shut_int Try.underlying3 w0) (trodAll_cons_mk (Below.trod laidOut (by kernel_rfl) (of_decide_eq_true (by kernel_rfl)) k1 bel lt1) (trodAll_cons_mk (shut_string Try.underlying9 w2) (trodAll_cons_mk (Below.trod laidOut (by kernel_rfl) (of_decide_eq_true (by kernel_rfl)) k3 bel lt3) (trodAll_cons_mk (shut_int Try.underlying5 w4) (trodAll_cons_mk (Below.trod laidOut (by kernel_rfl) (of_decide_eq_true (by kernel_rfl)) k5 bel lt5) trodAll_mk0)))))), rfl, bel.frame _, fun h => by cases h⟩
theorem over : Rows.placeGrowsRow.holds Try.pinned (OpenSpec.ofChange Rows.placeGrowsSpec) :=
  OpenClaim.holds_of_wide 5 Try.f5 rfl rfl rfl rfl rfl rfl rfl ⟨rfl, rfl, rfl, rfl, rfl⟩ rfl rfl rfl rfl rfl (by kernel_rfl) Try.func5 (by kernel_rfl)
    (of_decide_eq_true (by kernel_rfl)) (by unfold Func.isWrapper; first | (rw [if_pos (by decide +kernel)]; kernel_rfl) | (rw [if_neg (by decide +kernel)]; exact ⟨rfl, rfl⟩))
    (fun os started H enc _ => lifted os started H enc)
theorem proved : Rows.PlaceGrowsSaid := over
#print axioms proved
end Go.Proofs.Ytpncnionnfomeaa.SayPlaceGrows
