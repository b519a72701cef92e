import Derived.Test.YtpncnionnfomeaaAwX
import Derived.Test.YtpncnionnfomeaaDiskV
import Derived.Test.YtpncnionnfomeaaDiskE
namespace Go.Proofs.Ytpncnionnfomeaa.DiskL
open Go Go.Proofs Go.Proofs.Ytpncnionnfomeaa.Aw Go.Proofs.Ytpncnionnfomeaa.Num Go.Proofs.Ytpncnionnfomeaa.DiskM Go.Proofs.Ytpncnionnfomeaa.DiskA Go.Proofs.Ytpncnionnfomeaa.DiskK Go.Proofs.Ytpncnionnfomeaa.DiskC Go.Proofs.Ytpncnionnfomeaa.Disk
set_option linter.unusedSimpArgs false
set_option linter.unusedVariables false
theorem clone_o {L : LL} {T : TT} {M : MD} {w : Own} {o : Nat} (ho : w.o = o) {K : V → LL → TT → Prop} (hd : dAt L T M w) (hs : Small M)
    (hK : ∀ L' T' w', dAt L' T' M w' → Step noS noS L T w'.S w'.R L' T' → K (.box w'.o 0) L' T') : cloneDP [.box o 0] L T K := by
  subst ho
  exact ⟨M, w, rfl, hd, hs, hK⟩
structure Two (L : LL) (T : TT) (M1 : MD) (w1 : Own) (M2 : MD) (w2 : Own) : Prop where
  d1 : dAt L T M1 w1
  d2 : dAt L T M2 w2
  sep : ∀ i, w1.S i → ¬ w2.S i
  rsep : ∀ k, w1.R k → ¬ w2.R k
theorem Two.symm {L : LL} {T : TT} {M1 M2 : MD} {w1 w2 : Own} (h : Two L T M1 w1 M2 w2) : Two L T M2 w2 M1 w1 := ⟨h.d2, h.d1, fun i h1 h2 => h.sep i h2 h1, fun k h1 h2 => h.rsep k h2 h1⟩
theorem Two.left {L L' : LL} {T T' : TT} {M1 M1' M2 : MD} {w1 w1' w2 : Own} (h : Two L T M1 w1 M2 w2) (hd : dAt L' T' M1' w1') (g : Step w1.S w1.R L T w1'.S w1'.R L' T') : Two L' T' M1' w1' M2 w2 := by
  refine ⟨hd, h.d2.frame g (fun i h2 h1 => h.sep i h1 h2) (fun k h2 h1 => h.rsep k h1 h2), fun i h1 h2 => ?_, fun k h1 h2 => ?_⟩
  · rcases g.own i h1 with h3 | h3
    · exact h.sep i h3 h2
    · have := h.d2.lt i h2; omega
  · rcases g.town k h1 with h3 | h3
    · exact h.rsep k h3 h2
    · have := h.d2.tlt k h2; omega
theorem Two.right {L L' : LL} {T T' : TT} {M1 M2 M2' : MD} {w1 w2 w2' : Own} (h : Two L T M1 w1 M2 w2) (hd : dAt L' T' M2' w2') (g : Step w2.S w2.R L T w2'.S w2'.R L' T') : Two L' T' M1 w1 M2' w2' := (h.symm.left hd g).symm
theorem Two.other {L L' : LL} {T T' : TT} {M1 M2 : MD} {w1 w2 : Own} (h : Two L T M1 w1 M2 w2) (g : Step noS noS L T noS noS L' T') : Two L' T' M1 w1 M2 w2 :=
  ⟨h.d1.frame g (fun _ _ h => h) (fun _ _ h => h), h.d2.frame g (fun _ _ h => h) (fun _ _ h => h), h.sep, h.rsep⟩
def bS (w1 w2 : Own) (i : Nat) : Prop := w1.S i ∨ w2.S i
def bR (w1 w2 : Own) (k : Nat) : Prop := w1.R k ∨ w2.R k
theorem Step.two {L L' : LL} {T T' : TT} {w1 w1' w2 : Own} (g : Step w1.S w1.R L T w1'.S w1'.R L' T') : Step (bS w1 w2) (bR w1 w2) L T (bS w1' w2) (bR w1' w2) L' T' :=
  ⟨g.len, fun i hi hs => g.keep i hi (fun h => hs (.inl h)), fun i h => h.elim (fun h => (g.own i h).imp .inl id) (fun h => .inl (.inr h)), g.tlen, fun k hk hr => g.tkeep k hk (fun h => hr (.inl h)), fun k h => h.elim (fun h => (g.town k h).imp .inl id) (fun h => .inl (.inr h))⟩
theorem Step.two' {L L' : LL} {T T' : TT} {w1 w2 w2' : Own} (g : Step w2.S w2.R L T w2'.S w2'.R L' T') : Step (bS w1 w2) (bR w1 w2) L T (bS w1 w2') (bR w1 w2') L' T' :=
  ⟨g.len, fun i hi hs => g.keep i hi (fun h => hs (.inr h)), fun i h => h.elim (fun h => .inl (.inl h)) (fun h => (g.own i h).imp .inr id), g.tlen, fun k hk hr => g.tkeep k hk (fun h => hr (.inr h)), fun k h => h.elim (fun h => .inl (.inl h)) (fun h => (g.town k h).imp .inr id)⟩
theorem two_clone {L L' : LL} {T T' : TT} {M : MD} {w wx : Own} (hd : dAt L T M w) (hdx : dAt L' T' M wx) (hstx : Step noS noS L T wx.S wx.R L' T') : Two L' T' M w M wx :=
  ⟨hd.frame hstx (fun _ _ h => h) (fun _ _ h => h), hdx, fun i h1 h2 => (by rcases hstx.own i h2 with h | h; exact h; have := hd.lt i h1; omega), fun k h1 h2 => (by rcases hstx.town k h2 with h | h; exact h; have := hd.tlt k h1; omega)⟩
theorem step_clone {L0 L L' : LL} {T0 T T' : TT} {w wx : Own} (hg : Step noS noS L0 T0 w.S w.R L T) (hstx : Step noS noS L T wx.S wx.R L' T') : Step noS noS L0 T0 (bS w wx) (bR w wx) L' T' := by
  have hx : Step noS noS L0 T0 w.S w.R L' T' := hg.via hstx (fun _ h => h.elim) (fun _ h => h.elim)
  exact ⟨hx.len, hx.keep, fun i h => h.elim (hx.own i) (fun h => (hstx.own i h).elim (fun h => h.elim) (fun h => .inr (Nat.le_trans hg.len h))), hx.tlen, hx.tkeep, fun k h => h.elim (hx.town k) (fun h => (hstx.town k h).elim (fun h => h.elim) (fun h => .inr (Nat.le_trans hg.tlen h)))⟩
end Go.Proofs.Ytpncnionnfomeaa.DiskL
