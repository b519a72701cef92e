import Derived.Test.YthlmfalfnpjndaaAwX
import Derived.Test.YthlmfalfnpjndaaProg
import Derived.Lib.BytesEntry
import Derived.Lib.Strings
import Derived.Lib.Walk
import Derived.WalkKit
import Derived.KernelRfl
namespace Go.Proofs.Ythlmfalfnpjndaa.LibB
open Go Go.Proofs Go.Proofs.Ythlmfalfnpjndaa.Aw Go.RowKit
set_option linter.unusedSimpArgs false
set_option linter.unusedVariables false
def indexF (b : List UInt8) (c : UInt8) : Int := Lib.indexByte b c
theorem bytesOf_nat (l : List UInt8) : Lib.bytesOf (l.map fun x => (x.toNat : Int)) = l := by
  unfold Lib.bytesOf
  rw [List.map_map]
  conv => rhs; rw [← List.map_id l]
  refine List.map_congr_left fun x _ => ?_
  simp
def indexM : FM
  | [.bytes b _, .int .u8 c] => some (True, .int .i64 (indexF b c.toNat.toUInt8), [])
  | _ => none
set_option maxHeartbeats 1000000 in
set_option maxRecDepth 100000 in
theorem index_ok : FSound Try.prog 25 indexM := by
  intro w prot args vs p r fr hth hm hp hsz hrel
  unfold indexM at hm
  split at hm
  · rename_i b t c
    cases hm
    obtain ⟨x, y, rfl⟩ : ∃ x y, vs = #[x, y] := by
      have h2 : vs.size = 2 := hsz
      exact ⟨vs[0], vs[1], by apply Array.ext; simp [h2]; intro i h3 h4; simp at h4; match i with | 0 => rfl | 1 => rfl⟩
    have r0 := hrel 0 (by simp) (by simp)
    have r1 := hrel 1 (by simp) (by simp)
    simp only [List.getElem_cons_zero, List.getElem_cons_succ, List.getElem_toArray] at r0 r1
    cases r1
    cases r0 with
    | bytes l t A cp hc hm hr ht =>
    have hmem0 : Mem Try.prog w (Bs.pure w prot) ⟨w, prot, [], []⟩ [] [] := ⟨Below.refl _ _, fun _ _ _ => Iff.rfl, hth, ⟨rfl, fun o cs h => (by simp at h)⟩, fun b hb => (by cases hb), fun o b cs h => (by simp at h), fun o o' b h => (by simp at h), rfl, fun k v n e h => (by simp at h), fun k k' t t' b h => (by simp at h), fun k t b h => (by simp at h), keeps_pure _ _ _⟩
    have key : (Extern.BytealgIndexByte.indexByte #[.slice A b.length cp, .int .u8 c]).run Try.prog w = .ok (.int .i64 (indexF b c.toNat.toUInt8)) w := by
      cases A with
      | none =>
        have hb : b = [] := by
          cases b with
          | nil => rfl
          | cons z zs => obtain ⟨ad, e, _⟩ := hr 0 (by simp); cases e
        subst hb
        exact Lib.run_indexByteNil w 0 cp c
      | some ad =>
        have hl := Lib.run_loadBytesX (P := Try.prog) w (b.map fun x => (x.toNat : Int)) ad .empty (fun j x hj => by
          have hjl : j < b.length := by simpa using (List.getElem?_eq_some_iff.1 hj).1
          obtain ⟨ad', e, hrd⟩ := hr j hjl
          cases e
          rw [hrd.2]
          rw [List.getElem?_map, List.getElem?_eq_getElem hjl] at hj
          simp only [Option.map_some, Option.some.injEq] at hj
          rw [hj])
        rw [bytesOf_nat, List.length_map] at hl
        have hs := Lib.run_indexByteString (P := Try.prog) ⟨b.toArray⟩ c w
        have he : (⟨ByteArray.empty.data ++ b.toArray⟩ : ByteArray) = ⟨b.toArray⟩ := by
          apply ByteArray.ext
          show (#[] : Array UInt8) ++ b.toArray = b.toArray
          simp
        rw [he] at hl
        change Sem.run Try.prog (do
          let b ← Extern.Bytes.bytesOf (.slice (some ad) b.length cp)
          let c ← Extern.Bytes.asByte (.int .u8 c)
          match (List.range b.size).find? fun i => b[i]! == c with
          | some i => pure (goInt i)
          | none => pure (goInt (-1))) w = _
        change Sem.run Try.prog (do
          let b ← Extern.Bytes.bytesOf (.string ⟨b.toArray⟩)
          let c ← Extern.Bytes.asByte (.int .u8 c)
          match (List.range b.size).find? fun i => b[i]! == c with
          | some i => pure (goInt i)
          | none => pure (goInt (-1))) w = _ at hs
        simp only [Extern.Bytes.bytesOf, Sem.run_bind, Sem.run_pure, hl, Result.andThen] at hs ⊢
        exact hs
    suffices h : Calls Try.prog 25 #[.slice A b.length cp, .int .u8 c] w fun e w' => e = .returned (.int .i64 (indexF b c.toNat.toUInt8)) ∧ w' = w by
      refine h.mono ?_
      rintro e w' ⟨rfl, rfl⟩
      exact ⟨_, ⟨w', prot, [], []⟩, rfl, rfl, hmem0, .int _ _⟩
    go_enter Try.func25, Try.ntmps25
    go_wp2
    rw [run_callFunc_extern Try.func27 (by kernel_rfl) (by kernel_rfl) (by kernel_rfl) (e := Extern.BytealgIndexByte.indexByte) (by kernel_rfl), key]
    simp only [Result.andThen]
    rw [Oper.upon_value]
    go_wp2
    go_ret
    exact ⟨rfl, rfl⟩
  · cases hm
end Go.Proofs.Ythlmfalfnpjndaa.LibB
