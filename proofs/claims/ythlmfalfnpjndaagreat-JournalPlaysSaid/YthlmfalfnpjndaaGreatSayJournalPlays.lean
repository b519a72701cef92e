import Derived.Test.YthlmfalfnpjndaaGreatRows
import Derived.Test.YthlmfalfnpjndaaGreatJourN
import Derived.Test.YthlmfalfnpjndaaGreatAw15
import Derived.Test.YthlmfalfnpjndaaGreatJourM
import Derived.ChangeMaps5
import Derived.WalkKit
import Derived.ProofKit
import Derived.OpenShut
import Derived.ShutString
import Derived.ChangeOld
import Derived.Below
import Derived.Carry
namespace Go.Proofs.YthlmfalfnpjndaaGreat.SayJournalPlays
open Go Go.Proofs Go.ChangeMaps Go.ChangeShapes Go.WideShapes Go.ChangeAt Go.RowKit Aw
set_option linter.unusedVariables false
set_option linter.unusedSimpArgs false
theorem own : ownKnob Tryz.prog.godebug = none := by kernel_rfl
theorem laidOut : laidOutB Tryz.prog = true := by kernel_rfl
set_option maxRecDepth 100000 in
theorem lifted (os : Os) (started : os.Started) (H : Type) (enc : TypeId × Value → H) :
 ReturnsInHanded {} Tryz.checked os 3 .any (Rows.journalPlaysSpec.pre6 enc Tryz.prog Tryz.f3 Rows.journalPlaysRow.domain false) (Rows.journalPlaysSpec.post enc Tryz.prog Tryz.f3 false true false false) := by
 refine returnsInHanded_of_change (C := Tryz.checked) own started (by kernel_rfl) Tryz.func3
  (ChangeSpec.witness6 (enc := enc) (C := Tryz.checked) false ⟨#[],#[.int .i64 0,.slice none 0 0,.agg #[.int .i64 0,.slice none 0 0]],[]⟩ 8 (by kernel_rfl) (by kernel_rfl) (by kernel_rfl) (by kernel_rfl)) ?_
 intro W base args ds gs before hval0 hW hcnd _
 have hval : ∀ (j : Nat) t v,Tryz.f3.params[j]? = some t → args[j]? = some v → Value.okWide Tryz.prog W .any base t v := hval0
 have hW' := hW
 obtain ⟨p,q,hA0,hV,rfl,hfz,hnd⟩ := hW
 have hA : DataW.TrodAll enc Tryz.prog W 0 (fun _ => true) true Tryz.f3.params.toList args.toList ds p := hA0
 rw [Tryz.params3] at hA hval
 obtain ⟨v0,vs0,d0,ds0,p0,q0,hargs,rfl,rfl,h0,r0⟩ := trodAll_cons hA
 obtain ⟨v1,vs1,d1,ds1,p1,q1,rfl,rfl,rfl,h1,r1⟩ := trodAll_cons r0
 obtain ⟨v2,vs2,d2,ds2,p2,q2,rfl,rfl,rfl,h2,r2⟩ := trodAll_cons r1
 obtain ⟨rfl,rfl,rfl⟩ := trodAll_nil r2
 obtain rfl : args = #[v0,v1,v2] := by cases args; simp_all
 obtain ⟨rfl,rfl⟩ := trodVars_none hV
 obtain ⟨a0,rfl,rfl,rfl,w0⟩ := open_int Tryz.underlying3 (hval 0 3 v0 rfl rfl) h0
 have b0 := int_in w0
 obtain ⟨a1,len1,cap1,rfl⟩ := okWide_slice Tryz.underlying22 (hval 1 22 v1 rfl rfl)
 have k1 := h1
 have lt1 : ∀ x ∈ p1,x.block < W.heap.size := by obtain ⟨m,hm⟩ := k1; exact DataW.trod_lt m _ _ _ hm
 obtain ⟨l1,hl1,hm1,hq1,w1⟩ : ∃ l : List JourX.Act,l.length = len1 ∧ len1 ≤ maxLen ∧ (∀ g ∈ l,(Lit.int .i64 g.n).wf = true) ∧ Rel (K0 W) (.list 5 (l.map JourX.actV) none) (.slice a1 len1 cap1) := by
  obtain ⟨fuel,hf⟩ := h1
  obtain ⟨a,len,cap,l,hcs,h1,h2,h3,h4⟩ := JourO.acts_open hf
  simp [Value.cells] at hcs
  obtain ⟨rfl,rfl,rfl⟩ := hcs
  exact ⟨l,h1,h2,h3,h4⟩
 obtain ⟨c2,rfl,sz2⟩ := okWide_struct Tryz.underlying25 (hval 2 25 v2 rfl rfl)
 have k2 := h2
 have lt2 : ∀ x ∈ p2,x.block < W.heap.size := by obtain ⟨m,hm⟩ := k2; exact DataW.trod_lt m _ _ _ hm
 obtain ⟨n2,A2,len2,cap2,l2,hc2,hl2,hm2,w2⟩ : ∃ (k : Int) (A : Option Addr) (len cap : Nat) (l : List Int),c2 = #[.int .i64 k,.slice A len cap] ∧ l.length = len ∧ len ≤ maxLen ∧ Rel (K0 W) (DiskL.wbV l) (.slice A len cap) := by
  obtain ⟨fuel,hf⟩ := h2
  obtain ⟨k,A,len,cap,l,hcs,h1,h2,h3⟩ := DiskO.wreck_open hf
  exact ⟨k,A,len,cap,l,Array.toList_inj.1 hcs,h1,h2,h3⟩
 subst hc2
 have rw2 : Rel (K0 W) (.agg [.int .i64 n2,DiskL.wbV l2]) (.agg #[.int .i64 n2,.slice A2 len2 cap2]) := .agg _ _ rfl (fun i hi => by match i,hi with | 0,_ => rfl | 1,_ => rfl) (fun i hi => by match i,hi with | 0,_ => exact .int _ _ | 1,_ => exact w2)
 clear hA0 hval0
 have hc := law_callsP (P := Tryz.prog) JourX.plays_ok (w := W) (args := [.int .i64 a0,.list 5 (l1.map JourX.actV) none,.agg [.int .i64 n2,DiskL.wbV l2]]) (vs := #[.int .i64 a0,.slice a1 len1 cap1,.agg #[.int .i64 n2,.slice A2 len2 cap2]]) ⟨a0,l1,⟨n2,l2⟩,rfl,by rw [hl1]; exact hm1,fun a ha => (int_in (hq1 a ha)).2,by show l2.length ≤ _; rw [hl2]; exact hm2,fun _ _ => rfl⟩ rfl (fun j h h' => by
  rcases j with _|_|_|j
  · exact Rel.int _ _
  · exact w1
  · exact rw2
  · exact absurd h (by simp))
 refine hc.mono fun e W' ⟨he,bel⟩ => ?_
 subst he
 exact ⟨_,rfl,_,_,_,[],_,[],hW',trodAll_mk1 (shut_bool Tryz.underlying4 _),(trodAll_cons_mk (shut_int Tryz.underlying3 w0) (trodAll_cons_mk (Below.trod laidOut (by kernel_rfl) (of_decide_eq_true (by kernel_rfl)) k1 bel lt1) (trodAll_cons_mk (Below.trod laidOut (by kernel_rfl) (of_decide_eq_true (by kernel_rfl)) k2 bel lt2) trodAll_mk0))),rfl,bel.frame _,fun h => by cases h⟩
theorem over : Rows.journalPlaysRow.holds Tryz.pinned (OpenSpec.ofChange Rows.journalPlaysSpec) :=
 OpenClaim.holds_of_wide 3 Tryz.f3 rfl rfl rfl rfl rfl rfl rfl ⟨rfl,rfl,rfl,rfl,rfl⟩ rfl rfl rfl rfl rfl (by kernel_rfl) Tryz.func3 (by kernel_rfl)
  (of_decide_eq_true (by kernel_rfl)) (by unfold Func.isWrapper; first | (rw [if_pos (by decide +kernel)]; kernel_rfl) | (rw [if_neg (by decide +kernel)]; exact ⟨rfl,rfl⟩))
  (fun os started H enc _ => lifted os started H enc)
theorem proved : Rows.JournalPlaysSaid := over
#print axioms proved
end Go.Proofs.YthlmfalfnpjndaaGreat.SayJournalPlays
