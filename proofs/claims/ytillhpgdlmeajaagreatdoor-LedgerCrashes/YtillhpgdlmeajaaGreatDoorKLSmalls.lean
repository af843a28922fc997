/-
  Within as a plain function.
-/
import Derived.Test.YtillhpgdlmeajaaGreatDoorKHBases
import Derived.Test.YtillhpgdlmeajaaGreatDoorKSWire
import Derived.Test.YtillhpgdlmeajaaGreatDoorKRGrows
namespace Go.Proofs.YtillhpgdlmeajaaGreatDoor
open Go.RowKit
open Go.Proofs

/-- what Within tells. -/
def wiP (n lo hi : Int) : Int := if lo ≤ n ∧ n ≤ hi then n else if n.tmod (hi - lo + 1) < 0 then lo + (n.tmod (hi - lo + 1) + hi - lo + 1) else lo + n.tmod (hi - lo + 1)
theorem tmod_bnd (n c : Int) (hc : 0 < c) : -c < n.tmod c ∧ n.tmod c < c := by
  have h1 := Int.emod_nonneg n (by omega : c ≠ 0)
  have h2 := Int.emod_lt_of_pos n hc
  constructor
  · have := Int.lt_tmod_of_pos n hc; omega
  · exact Int.tmod_lt_of_pos n hc
theorem wiP_ge (n lo hi : Int) (h : lo ≤ hi) : lo ≤ wiP n lo hi ∧ wiP n lo hi ≤ hi := by
  have := tmod_bnd n (hi - lo + 1) (by omega)
  unfold wiP
  split
  · assumption
  · split <;> omega
set_option maxHeartbeats 1000000 in
theorem within_wi (n lo hi : Int) (w : World) (h1 : -1000 ≤ lo) (h2 : lo ≤ hi) (h3 : hi ≤ 1073741824) : Calls Tryz.prog 20 #[.int .i64 n, .int .i64 lo, .int .i64 hi] w fun e w' => e = .returned (.int .i64 (wiP n lo hi)) ∧ w' = w := by
  have hb := tmod_bnd n (hi - lo + 1) (by omega)
  have hc : hi - lo + 1 ≠ 0 := by omega
  have hwi : wiP n lo hi = if lo ≤ n ∧ n ≤ hi then n else if n.tmod (hi - lo + 1) < 0 then lo + (n.tmod (hi - lo + 1) + hi - lo + 1) else lo + n.tmod (hi - lo + 1) := rfl
  have W := hide hwi
  clear hwi
  go_enter Tryz.func20, Tryz.ntmps20
  go_wp2
  all_goals
    go_ret
    refine ⟨congrArg Ending.returned (congrArg (Value.int IntKind.i64) ?_), rfl⟩
    rw [unhide W]
    split <;> first | rfl | omega | (split <;> omega)
end Go.Proofs.YtillhpgdlmeajaaGreatDoor

/-
  A writer that is new since a world.
-/
namespace Go.Proofs.YtillhpgdlmeajaaGreatDoor
open Go.RowKit
open Go.Proofs

/-- a writer that is new since w0. -/
def Wn (w0 w : World) (p : Nat) (v : Value) (bs : List Int) : Prop := Wr w p v bs ∧ Kp [] w0 w ∧ w0.heap.size ≤ p ∧ ∀ k, v.ownBlock = some k → w0.heap.size ≤ k
theorem Wn.step {w0 w w' : World} {p : Nat} {v v' : Value} {bs cs : List Int} (h : Wn w0 w p v bs) (k : Wr w' p v' cs) (s : Step p w v w' v') : Wn w0 w' p v' cs := by
  obtain ⟨h1, h2, h3, h4⟩ := h
  refine ⟨k, h2.then s.1 (fun i hi => ?_), h3, fun i hi => ?_⟩
  · simp only [List.mem_cons, Option.mem_toList] at hi
    rcases hi with rfl | hi
    · exact .inr h3
    · exact .inr (h4 i hi)
  · rcases s.2 i hi with h5 | h5
    · exact h4 i h5
    · exact Nat.le_trans h2.size h5
theorem Wn.kp {w0 w w1 : World} {p : Nat} {v : Value} {bs : List Int} (h : Wn w0 w p v bs) (k : Kp (p :: v.ownBlock.toList) w w1) : Kp [] w0 w1 := by
  obtain ⟨h1, h2, h3, h4⟩ := h
  refine h2.then k (fun i hi => ?_)
  simp only [List.mem_cons, Option.mem_toList] at hi
  rcases hi with rfl | hi
  · exact .inr h3
  · exact .inr (h4 i hi)
theorem Wn.kept {w0 w w1 : World} {p : Nat} {v : Value} {bs : List Int} (h : Wn w0 w p v bs) (k : Kp [] w w1) : Wn w0 w1 p v bs :=
  ⟨h.1.kept k (by simp) (by simp), h.2.1.trans k, h.2.2.1, h.2.2.2⟩
theorem be4_len (n : Int) : (be4 n).length = 4 := rfl
theorem be_4 (n : Int) : be n 4 0 = be4 n := by simp [be, byteAt, List.range_succ, be4]
end Go.Proofs.YtillhpgdlmeajaaGreatDoor

/-
  What an operation yields that is looked for only where a test is true.
-/
namespace Go.Proofs.YtillhpgdlmeajaaGreatDoor
open Go.RowKit
def IfT (b : Bool) (R : Tell) : Tell := fun v w => b = true → R v w
theorem stable_ift {b : Bool} {R : Tell} (h : Tell.stable R) : Tell.stable (IfT b R) := fun v w w' k hR hb => h v w w' k (hR hb)
theorem grown_mono {P : Program} {w : World} {R R' : Tell} {x : Result Next} (h : grown P w R x) (hR : ∀ v w', R v w' → R' v w') : grown P w R' x := by
  unfold grown at h ⊢
  split at h
  · exact ⟨h.1, hR _ _ h.2⟩
  · exact ⟨h.1, hR _ _ h.2⟩
  · exact h.mono fun e w'' ⟨v, h1, h2, h3⟩ => ⟨v, h1, h2, hR _ _ h3⟩
  · exact h.elim
theorem wants_ift {P : Program} {ops : Array Oper} {o : Oper} {a : Act} {w : World} {R : Tell} {g : Nat} {b : Bool} {d : Tmp} (hg : o.guard = some (g, true)) (hd : (ops[g]?).bind (·.dst) = some d) (he : a.eval (.tmp d) = .bool b) (h : b = true → grown P w R ((execOp a.eval o).run P w)) : wants P ops o a w (IfT b R) := by
  cases b
  · exact wants_not (d := d) hg hd he (fun h => by cases h)
  · exact wants_guard (d := d) hg hd he (grown_mono (h rfl) (fun v w' hR _ => hR))
theorem wants_none {P : Program} {ops : Array Oper} {o : Oper} {a : Act} {w : World} {R : Tell} {g : Nat} {b : Bool} {d : Tmp} (hg : o.guard = some (g, b)) (hd : (ops[g]?).bind (·.dst) = some d) (he : a.eval (.tmp d) = undef) (h : R undef w) : wants P ops o a w R := by
  have h2 : yielded ops a.tmps g = none := by
    unfold yielded
    rw [hd]
    simp only [Option.bind_some]
    have h1 : a.tmps[d]?.getD undef = undef := by simpa [Act.eval] using he
    cases hx : a.tmps[d]? with
    | none => rfl
    | some x =>
      rw [hx, Option.getD_some] at h1
      subst h1
      rfl
  unfold wants
  rw [if_neg (by simp [Region.wanted, hg, h2])]
  exact h
end Go.Proofs.YtillhpgdlmeajaaGreatDoor
