/-
  Package keys: a box in memory; Open, Take, Next, Left.
-/
import Derived.Test.YtillhpgdlmeajaaGreatDoorKKSpec
namespace Go.Proofs.YtillhpgdlmeajaaGreatDoor
open Go.RowKit
open Go.Proofs
set_option linter.unusedVariables false

/-- the box at q: its journal at j, the next key. -/
def Kb (w : World) (q j : Nat) (n : Int) : Prop := w.heap[q]? = some (.cells #[.pointer (some ⟨j, 0, none⟩), .int .i64 n] 144 (0, 0))
theorem Kb.kept {w w' : World} {q j : Nat} {n : Int} {S : List Nat} (h : Kb w q j n) (k : Kp S w w') (hq : q ∉ S) : Kb w' q j n := k.heap h hq
theorem Kb.lt {w : World} {q j : Nat} {n : Int} (h : Kb w q j n) : q < w.heap.size := (Array.getElem?_eq_some_iff.1 h).1
theorem Kb.off {w : World} {q j : Nat} {n : Int} {base p' : Nat} {v : Value} {d : Dk} (h : Kb w q j n) (D : DskP w base p' v d) : q ∉ dfp p' v := fun hm => by
  rcases mem_dfp.1 hm with rfl | hm
  · have h2 := D.here
    unfold Fv at h2
    unfold Kb at h
    rw [h2] at h
    injection h with h
    injection h with h3
    have := congrArg Array.size h3
    simp at this
  · obtain ⟨c, hc⟩ := row_typ D.row hm
    unfold Kb at h
    rw [hc] at h
    injection h with h
    injection h with _ h3
    cases h3
theorem Kb.offJ {w : World} {q j j' p : Nat} {n m : Int} (h : Kb w q j n) (g : Jr w j' p m) : q ≠ j' := fun e => by
  subst e
  unfold Kb at h
  unfold Jr at g
  rw [g] at h
  injection h with h
  injection h with _ h3
  cases h3
theorem Kb.c0 {w : World} {q j : Nat} {n : Int} (h : Kb w q j n) : w.cell? ⟨q, 0, none⟩ = some (.pointer (some ⟨j, 0, none⟩)) := by rw [cell_of_row w q 0 _ _ _ h]; rfl
theorem Kb.c1 {w : World} {q j : Nat} {n : Int} (h : Kb w q j n) : w.cell? ⟨q, 1, none⟩ = some (.int .i64 n) := by rw [cell_of_row w q 1 _ _ _ h]; rfl
theorem Kb.f {w : World} {q j : Nat} {n : Int} (h : Kb w q j n) (i : Nat) : w.frozen? ⟨q, i, none⟩ = false := by
  unfold World.frozen?
  unfold Kb at h
  simp [h]
theorem Kb.s1 {w : World} {q j : Nat} {n : Int} (h : Kb w q j n) (m : Int) : Kb (w.setCell ⟨q, 1, none⟩ (.int .i64 m)) q j m := by
  have := set_at h 1 (.int .i64 m)
  simpa [Kb] using this
/-- a disk made since w0. -/
def Nx (w0 w : World) (p : Nat) (d : Dk) : Prop := ∃ v, Nw w0 w p v d
/-- A box on its disk, both made since w0: the next key n; of its journal's count no more than k. -/
def Bx (w0 w : World) (p : Nat) (d : Dk) (q n k : Nat) : Prop := ∃ v j m, m ≤ k ∧ Jn w0 w p v d j m ∧ Kb w q j n ∧ w0.heap.size ≤ q
section
variable {w0 w w' : World} {p q n k : Nat} {d d' : Dk}
theorem Nx.kp (h : Nx w0 w p d) : Kp [] w0 w := by obtain ⟨v, h⟩ := h; exact h.kp
theorem Nx.on (h : Nx w0 w p d) (g : Kp [] w w') : Nx w0 w' p d := by obtain ⟨v, h⟩ := h; exact ⟨v, h.on g⟩
theorem Bx.nx (h : Bx w0 w p d q n k) : Nx w0 w p d := by obtain ⟨v, j, m, -, h, -⟩ := h; exact ⟨v, h.nw⟩
theorem Bx.kp (h : Bx w0 w p d q n k) : Kp [] w0 w := h.nx.kp
theorem Bx.on (h : Bx w0 w p d q n k) (g : Kp [] w w') : Bx w0 w' p d q n k := by
  obtain ⟨v, j, m, h1, h2, h3, h4⟩ := h
  exact ⟨v, j, m, h1, h2.on g, h3.kept g (by simp), h4⟩
theorem Bx.more {k' : Nat} (h : Bx w0 w p d q n k) (hk : k ≤ k') : Bx w0 w p d q n k' := by
  obtain ⟨v, j, m, h1, h2⟩ := h
  exact ⟨v, j, m, by omega, h2⟩
/-- the disk takes a step beside the box. -/
theorem Bx.disk {v v' : Value} (h : ∃ j m, m ≤ k ∧ Jn w0 w p v d j m ∧ Kb w q j n ∧ w0.heap.size ≤ q) (g : Nw w0 w' p v' d') (t : DSt p w v w' v') : Bx w0 w' p d' q n k := by
  obtain ⟨j, m, h1, h2, h3, h4⟩ := h
  exact ⟨v', j, m, h1, h2.disk g t, h3.kept t.1 (h3.off h2.nw.dk), h4⟩
theorem left_keys (h : Bx w0 w p d q n k) (hn : n ≤ 16) (x : Int) (hx : x = 16 - (n : Int)) : Calls Tryz.prog 80 #[.pointer (some ⟨q, 0, none⟩)] w fun e w' => e = .returned (.int .i64 x) ∧ w' = w := by
  obtain ⟨v, j, m, -, -, h, -⟩ := h
  have hc := h.c1
  clear h
  have hn' : (n : Int) ≤ 16 := by omega
  go_enter Tryz.func80, Tryz.ntmps80
  go_wp2_with fail
  go_ret
  subst hx
  exact ⟨rfl, rfl⟩
theorem take_used (h : Bx w0 w p d q 16 k) : Calls Tryz.prog 115 #[.pointer (some ⟨q, 0, none⟩)] w fun e w' => e = .returned (.tuple #[.int .i64 0, .int .i64 23]) ∧ w' = w := by
  obtain ⟨v, j, m, -, -, h, -⟩ := h
  have hc := h.c1
  clear h
  go_enter Tryz.func115, Tryz.ntmps115
  go_wp2_with fail
  go_ret2
  exact ⟨rfl, rfl⟩
set_option maxRecDepth 100000 in
set_option maxHeartbeats 2000000 in
theorem take_any (h : Bx w0 w p d q n k) (hn : n < 16) (hk : k ≤ 1000) (er : Bool) (he : d.add (recP [(n : Int)]) = (er, d')) (x en : Int) (hx : x = if er then (n : Int) else 0) (hen : en = if er then 0 else 13) (n' : Nat) (hn' : n' = if er then n + 1 else n) :
    Calls Tryz.prog 115 #[.pointer (some ⟨q, 0, none⟩)] w fun e w' => e = .returned (.tuple #[.int .i64 x, .int .i64 en]) ∧ Bx w0 w' p d' q n' (k + 1) := by
  obtain ⟨v, j, m, hm, hJ, hB, hq⟩ := h
  have hc0 := hB.c0
  have hc1 := hB.c1
  have hne : ¬ (n : Int) = 16 := by omega
  have hne' : ((n : Int) == 16) = false := by simpa using hne
  have h8 : IntKind.u8.wrap (n : Int) = n := by simp [IntKind.wrap, IntKind.signed, IntKind.bits]; omega


  have ka : Kp [] w (w.alloc (.cells #[.int .u8 (n : Int)] 5 (0, 0))) := (Kp.refl [] w).alloc _
  obtain ⟨m', hm'⟩ : ∃ m', m' = if (d.app (recP [(n : Int)])).1 then m + 1 else m := ⟨_, rfl⟩
  have HAd := hide (jadd_any (hJ.on ka) (lit_sl w [(n : Int)] 1 (0, 0) rfl (by omega)) (fun b hb => by simp at hb; omega) (by simp) (by omega) er he en hen m' hm')
  have hmk : m' ≤ k + 1 := by rw [hm']; split <;> omega
  have HJ := hide (hJ.on ka)
  have HB := hide (hB.kept ka (by simp))
  have HQ := hide hq
  have HMk := hide hmk
  have HX := hide hx
  have HN := hide hn'
  have HE := hide hen
  clear hJ hB hq hmk hx hn' hen hm' hm he ka
  go_enter Tryz.func115, Tryz.ntmps115
  go_wp2_with fail
  refine HAd.out.mono ?_
  rintro ee w2 ⟨rfl, v2, J2, T2⟩
  have B2 := HB.out.kept T2.1 (fun hm => by
    rcases List.mem_cons.1 hm with e | hm
    · exact HB.out.offJ HJ.out.jr e
    · exact HB.out.off HJ.out.nw.dk hm)
  have HJ2 := hide J2
  have HB2 := hide B2
  cases er
  · obtain rfl : en = 13 := by rw [HE.out]; rfl
    have hx0 : x = 0 := by rw [HX.out]; rfl
    have hn0 : n' = n := by rw [HN.out]; rfl
    subst hx0 hn0
    clear J2 T2 B2 HAd hc0 hc1
    go_wp2_with fail
    go_ret2
    exact ⟨rfl, v2, j, m', HMk.out, HJ2.out, HB2.out, HQ.out⟩
  · obtain rfl : en = 0 := by rw [HE.out]; rfl
    have hx0 : x = n := by rw [HX.out]; rfl
    have hn0 : n' = n + 1 := by rw [HN.out]; rfl
    subst hx0 hn0
    have hc1 := B2.c1
    have hf1 := B2.f 1
    clear J2 T2 B2 HAd hc0
    have hw : IntKind.i64.wrap ((n : Int) + 1) = (n : Int) + 1 := by simp [IntKind.wrap, IntKind.signed, IntKind.bits]; omega
    go_wp2_with fail
    go_ret2
    have ks : Kp [q] w2 (w2.setCell ⟨q, 1, none⟩ (.int .i64 ((n : Int) + 1))) := kp_set w2 q 1 _
    refine ⟨rfl, v2, j, m', HMk.out, ⟨⟨HJ2.out.nw.dk.kept ks (fun i hi hm => ?_), HJ2.out.nw.new, HJ2.out.nw.kp.then ks (fun i hi => .inr ?_), HJ2.out.nw.arm⟩, HJ2.out.jr.kept ks ?_, HJ2.out.new⟩, ?_, HQ.out⟩
    · simp at hm; subst hm; exact HB2.out.off HJ2.out.nw.dk hi
    · simp at hi; subst hi; exact HQ.out
    · simp only [List.mem_cons, List.not_mem_nil, or_false]; exact fun e => HB2.out.offJ HJ2.out.jr e.symm
    · have := HB2.out.s1 ((n : Int) + 1)
      simpa using this
end
end Go.Proofs.YtillhpgdlmeajaaGreatDoor
