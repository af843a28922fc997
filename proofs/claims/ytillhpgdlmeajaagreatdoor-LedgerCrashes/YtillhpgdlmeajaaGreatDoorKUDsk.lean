/-
  A ledger's disks, asked while it is open; two disks whatever they are.
-/
import Derived.Test.YtillhpgdlmeajaaGreatDoorKUItems
namespace Go.Proofs.YtillhpgdlmeajaaGreatDoor
open Go.RowKit
open Go.Proofs
set_option linter.unusedVariables false

section
variable {w0 w : World} {l pd pk : Nat} {S : LS} {f : Fps}
theorem usz_any (h : Lg w0 w l pd pk S f) (n : Nat) (hn : S.dd.bs.length = n) : Calls Tryz.prog 87 #[.pointer (some ⟨pd, 0, none⟩)] w fun e w' => e = .returned (.int .i64 (n : Nat)) ∧ w' = w := by
  obtain ⟨j, s, q, vs, pv, hx⟩ := h
  obtain ⟨v, m, -, hJ, -⟩ := hx.jx
  exact sizen_any pd v S.dd _ w hJ.nw.dk n hn
theorem uarmD_any (h : Lg w0 w l pd pk S f) (x : Int) (hx0 : x ≤ 9223372036854775807) (d' : Dk) (he : S.dd.armed (max x 0) = d') : Calls Tryz.prog 31 #[.pointer (some ⟨pd, 0, none⟩), .int .i64 x] w fun e w' => e = .returned (.tuple #[]) ∧ ∃ f', Lg w0 w' l pd pk { S with dd := d' } f' ∧ LSt w f w' f' := by
  obtain ⟨j, s, q, vs, pv, hx⟩ := h
  obtain ⟨v, m, h1, hJ, h3, h4⟩ := hx.jx
  refine (nw_arm hJ.nw x hx0 he).mono ?_
  rintro e w' ⟨rfl, N, T⟩
  obtain ⟨F', J', T'⟩ := Jx.stepD ⟨m, h1, hJ, h3, h4⟩ N T
  exact ⟨rfl, f.upd 5 F', ⟨j, s, q, vs, pv, hx.stepJ T' J'⟩, T'.one⟩
theorem uarmK_any (h : Lg w0 w l pd pk S f) (x : Int) (hx0 : x ≤ 9223372036854775807) (d' : Dk) (he : S.dk.armed (max x 0) = d') : Calls Tryz.prog 31 #[.pointer (some ⟨pk, 0, none⟩), .int .i64 x] w fun e w' => e = .returned (.tuple #[]) ∧ ∃ f', Lg w0 w' l pd pk { S with dk := d' } f' ∧ LSt w f w' f' := by
  obtain ⟨j, s, q, vs, pv, hx⟩ := h
  obtain ⟨v, jk, m, h1, hJ, h3, h4, h5, h6, h7⟩ := hx.bf
  refine (nw_arm hJ.nw x hx0 he).mono ?_
  rintro e w' ⟨rfl, N, T⟩
  obtain ⟨F', B', T'⟩ := Bf.stepD ⟨jk, m, h1, hJ, h3, h4, h5, h6, h7⟩ N T
  exact ⟨rfl, f.upd 6 F', ⟨j, s, q, vs, pv, hx.stepB T' B' hx.nk⟩, T'.one⟩
/-- both disks, when the ledger is left. -/
structure Ds (w0 w : World) (pd pk : Nat) (dd dk : Dk) (f : Fps) : Prop where
  ok : f.Ok w0 w
  d : Dx w0 w pd dd (f 5)
  k : Dx w0 w pk dk (f 6)
theorem Lg.ds (h : Lg w0 w l pd pk S f) : Ds w0 w pd pk S.dd S.dk f := by
  obtain ⟨j, s, q, vs, pv, hx⟩ := h
  exact ⟨hx.ok, hx.jx.dx, hx.bf.dx⟩
theorem Ds.on {w' : World} {dd dk : Dk} (h : Ds w0 w pd pk dd dk f) (k : Kp [] w w') : Ds w0 w' pd pk dd dk f := ⟨h.ok.on k, h.d.kept k (h.ok.kp.trans k) (by simp), h.k.kept k (h.ok.kp.trans k) (by simp)⟩
theorem ds_crashD {dd dk d' : Dk} (h : Ds w0 w pd pk dd dk f) (x : Int) (he : dd.crash x = d') : Calls Tryz.prog 34 #[.pointer (some ⟨pd, 0, none⟩), .int .i64 x] w fun e w' => e = .returned (.tuple #[]) ∧ ∃ f', Ds w0 w' pd pk d' dk f' ∧ Stp f.tot w w' f'.tot := by
  obtain ⟨v, N, hv⟩ := h.d
  refine (nw_crash N x he).mono ?_
  rintro e w' ⟨rfl, v', N', T⟩
  obtain ⟨F', D', T', hF⟩ := Dx.stepD hv N' T
  have o := h.ok.upd T'
  obtain ⟨U, hU, k⟩ := T'.kp
  refine ⟨rfl, f.upd 5 F', ⟨o, by rw [upd_eq]; exact D', ?_⟩, T'.one⟩
  rw [upd_ne (by decide)]
  exact h.k.kept k o.kp (h.ok.apart (a := 5) (b := 6) (by decide) hU)
theorem ds_crashK {dd dk d' : Dk} (h : Ds w0 w pd pk dd dk f) (x : Int) (he : dk.crash x = d') : Calls Tryz.prog 34 #[.pointer (some ⟨pk, 0, none⟩), .int .i64 x] w fun e w' => e = .returned (.tuple #[]) ∧ ∃ f', Ds w0 w' pd pk dd d' f' ∧ Stp f.tot w w' f'.tot := by
  obtain ⟨v, N, hv⟩ := h.k
  refine (nw_crash N x he).mono ?_
  rintro e w' ⟨rfl, v', N', T⟩
  obtain ⟨F', D', T', hF⟩ := Dx.stepD hv N' T
  have o := h.ok.upd T'
  obtain ⟨U, hU, k⟩ := T'.kp
  refine ⟨rfl, f.upd 6 F', ⟨o, ?_, by rw [upd_eq]; exact D'⟩, T'.one⟩
  rw [upd_ne (by decide)]
  exact h.d.kept k o.kp (h.ok.apart (a := 6) (b := 5) (by decide) hU)
end
theorem RowI.at {w : World} {base m c : Nat} {ao : Option Addr} {l : List Int} (h : RowI w base (.slice ao m c) l) (i : Nat) (hi : i < l.length) : ∃ g, ao = some ⟨g, 0, none⟩ ∧ w.cell? ⟨g, i, none⟩ = some (.int .i64 l[i]) := by
  rcases h.2 with ⟨e, h0⟩ | ⟨g, cap, cur, e, _⟩
  · omega
  · injection e with e1 e2 e3
    subst e1
    have := h.cells (g := g) rfl i (.int .i64 l[i]) (by simp [List.getElem?_eq_getElem hi])
    exact ⟨g, rfl, by simpa [Addr.add_lit] using this⟩
/-- one new item. -/
theorem one_ns {l : List (List Int)} {x : List Int} (h : x ∉ l) : newU l [x] = [x] ∧ allU l [x] = l ++ [x] ∧ nsU l [x] = [(l.length : Int)] := by
  have e : allU l [x] = l ++ [x] := insU_new h
  refine ⟨by unfold newU; rw [e]; simp, e, ?_⟩
  unfold nsU numU
  rw [e]
  simp [idx_post h]
end Go.Proofs.YtillhpgdlmeajaaGreatDoor
