/-
  A journal and a row of bytes side by side; power that goes at a call that is counted from the outside.
-/
import Derived.Test.YtjmabnchaglpdaaKJApp
namespace Go.Proofs.Ytjmabnchaglpdaa
open Go.RowKit
open Go.Proofs

/-- a journal and a row that is new since wB. -/
structure Lj (w0 wB w : World) (p j : Nat) (v : Value) (d : Dk) (n : Nat) (x : Value) (X : List Int) : Prop where
  jn : Jn w0 w p v d j n
  row : Row w wB.heap.size x X
  dj : ∀ k, x.ownBlock = some k → k ∉ j :: dfp p v
  kb : w0.heap.size ≤ wB.heap.size
  sz : wB.heap.size ≤ w.heap.size
section
variable {w0 wB w w' : World} {p j n n' : Nat} {v v' : Value} {d d' : Dk} {x x' : Value} {X Y : List Int}
theorem Lj.disk (h : Lj w0 wB w p j v d n x X) (g : Jn w0 w' p v' d' j n') (t : JSt p j w v w' v') : Lj w0 wB w' p j v' d' n' x X := by
  refine ⟨g, h.row.kept t.1 h.dj, fun k hk hm => ?_, h.kb, Nat.le_trans h.sz t.1.size⟩
  rcases List.mem_cons.1 hm with rfl | hm
  · exact h.dj _ hk (by simp)
  · rcases mem_dfp.1 hm with rfl | hm
    · exact h.dj _ hk (by simp [dfp])
    · rcases t.2 k hm with e | e
      · exact h.dj k hk (by simp [mem_dfp, e])
      · have := h.row.lt hk; omega
theorem Lj.more (h : Lj w0 wB w p j v d n x X) (r : Row w' wB.heap.size x' Y) (s : RStep w x w' x') : Lj w0 wB w' p j v d n x' Y := by
  have hin : ∀ i ∈ x.ownBlock.toList, x.ownBlock = some i := fun i hi => by simpa [Option.mem_toList] using hi
  have hsz := s.1.size
  refine ⟨⟨⟨h.jn.nw.dk.kept s.1 (fun i hi hm => h.dj i (hin i hm) (by simp [hi])), h.jn.nw.new, h.jn.nw.kp.then s.1 (fun i hi => .inr ?_), h.jn.nw.arm⟩, h.jn.jr.kept s.1 (fun hm => h.dj j (hin j hm) (by simp)), h.jn.new⟩, r, fun k hk hm => ?_, h.kb, Nat.le_trans h.sz hsz⟩
  · have := h.row.own i (hin i hi); have := h.kb; omega
  · rcases s.2 k hk with e | e
    · exact h.dj k e hm
    · rcases List.mem_cons.1 hm with rfl | hm
      · have := h.jn.jr.lt; omega
      · have := h.jn.nw.dk.lt k hm; omega
theorem Lj.on (h : Lj w0 wB w p j v d n x X) (k : Kp [] w w') : Lj w0 wB w' p j v d n x X :=
  ⟨h.jn.on k, h.row.kept k (by simp), h.dj, h.kb, Nat.le_trans h.sz k.size⟩
end
/-- calls that are left till power goes. -/
def rr (arm : Int) (c : Int) (dn : Bool) : Int := if dn then 0 else if 0 < arm then arm - c else 0
theorem rr_down (arm c : Int) : rr arm c true = 0 := rfl
theorem rr_one {arm c : Int} (h0 : 0 < arm) (h : c + 1 = arm) : rr arm c false = 1 := by
  unfold rr
  rw [if_neg (by decide), if_pos h0]
  omega
theorem rr_up (arm c : Int) : rr arm c false = if 0 < arm then arm - c else 0 := by
  unfold rr
  rw [if_neg (by decide)]
theorem rr_not {arm c : Int} (hlt : 0 < arm → c < arm) (h : ¬ (0 < arm ∧ c + 1 = arm)) : rr arm c false ≠ 1 ∧ (if 0 < rr arm c false then rr arm c false - 1 else rr arm c false) = rr arm (c + 1) false := by
  rw [rr_up, rr_up]
  by_cases h0 : 0 < arm
  · have := hlt h0
    simp only [if_pos h0]
    rw [if_pos (by omega)]
    omega
  · simp only [if_neg h0]
    omega
namespace Dk
variable {X : List Int} {sy : Nat} {n arm c : Int}
theorem cal_go {d : Dk} (hd : d.down = false) (h : d.arm ≠ 1) : d.cal = (true, false, { d with arm := if 0 < d.arm then d.arm - 1 else d.arm }) := by
  unfold cal
  rw [if_neg (by rw [hd]; decide)]
  by_cases h0 : 0 < d.arm
  · rw [if_pos h0, if_pos h0, if_neg h]
  · rw [if_neg h0, if_neg h0]
theorem cal_gone {d : Dk} (hd : d.down = false) (h : d.arm = 1) : d.cal = (false, true, { d with arm := 0, down := true }) := by
  unfold cal
  rw [if_neg (by rw [hd]; decide), if_pos (by omega), if_pos h]
theorem rr_cal (hlt : 0 < arm → c < arm) (h : ¬ (0 < arm ∧ c + 1 = arm)) : (⟨X, sy, n, rr arm c false, false⟩ : Dk).cal = (true, false, ⟨X, sy, n, rr arm (c + 1) false, false⟩) := by
  obtain ⟨h1, h2⟩ := rr_not hlt h
  rw [cal_go rfl h1]
  show (true, false, (⟨X, sy, n, if 0 < rr arm c false then rr arm c false - 1 else rr arm c false, false⟩ : Dk)) = _
  rw [h2]
theorem rr_gone (h0 : 0 < arm) (h : c + 1 = arm) : (⟨X, sy, n, rr arm c false, false⟩ : Dk).cal = (false, true, ⟨X, sy, n, rr arm (c + 1) true, true⟩) := by
  rw [cal_gone rfl (rr_one h0 h)]
  rfl
theorem japp_down (b : List Int) : (⟨X, sy, n, rr arm c true, true⟩ : Dk).app b = (false, ⟨X, sy, n, rr arm (c + 1) true, true⟩) := app_down rfl b
theorem jsync_down : (⟨X, sy, n, rr arm c true, true⟩ : Dk).sync = (false, ⟨X, sy, n, rr arm (c + 1) true, true⟩) := sync_down rfl
theorem japp_gone (b : List Int) (h0 : 0 < arm) (h : c + 1 = arm) (hf : ((X.length + b.length : Nat) : Int) ≤ n) : (⟨X, sy, n, rr arm c false, false⟩ : Dk).app b = (false, ⟨X ++ b, sy, n, rr arm (c + 1) true, true⟩) := by
  unfold app
  rw [rr_gone h0 h, if_neg (by simp; omega)]
theorem japp_gonef (b : List Int) (h0 : 0 < arm) (h : c + 1 = arm) (hf : n < ((X.length + b.length : Nat) : Int)) : (⟨X, sy, n, rr arm c false, false⟩ : Dk).app b = (false, ⟨X, sy, n, rr arm (c + 1) true, true⟩) := by
  unfold app
  rw [rr_gone h0 h, if_pos (by simp; omega)]
theorem japp_full (b : List Int) (hlt : 0 < arm → c < arm) (h : ¬ (0 < arm ∧ c + 1 = arm)) (hf : n < ((X.length + b.length : Nat) : Int)) : (⟨X, sy, n, rr arm c false, false⟩ : Dk).app b = (false, ⟨X, sy, n, rr arm (c + 1) false, false⟩) := by
  unfold app
  rw [rr_cal hlt h, if_pos (by simp; omega)]
theorem japp_ok (b : List Int) (hlt : 0 < arm → c < arm) (h : ¬ (0 < arm ∧ c + 1 = arm)) (hf : ((X.length + b.length : Nat) : Int) ≤ n) : (⟨X, sy, n, rr arm c false, false⟩ : Dk).app b = (true, ⟨X ++ b, sy, n, rr arm (c + 1) false, false⟩) := by
  unfold app
  rw [rr_cal hlt h, if_neg (by simp; omega)]
theorem jsync_gone (h0 : 0 < arm) (h : c + 1 = arm) : (⟨X, sy, n, rr arm c false, false⟩ : Dk).sync = (false, ⟨X, sy, n, rr arm (c + 1) true, true⟩) := by
  unfold sync
  rw [rr_gone h0 h, if_neg (by simp)]
theorem jsync_ok (hlt : 0 < arm → c < arm) (h : ¬ (0 < arm ∧ c + 1 = arm)) : (⟨X, sy, n, rr arm c false, false⟩ : Dk).sync = (true, ⟨X, X.length, n, rr arm (c + 1) false, false⟩) := by
  unfold sync
  rw [rr_cal hlt h, if_pos rfl]
theorem add_of {d d' : Dk} {b : List Int} (h : d.app b = (false, d')) : d.add b = (false, d') := by
  unfold add
  rw [h, if_neg (by simp)]
theorem add_then {d d1 d' : Dk} {b : List Int} {e : Bool} (h : d.app b = (true, d1)) (h1 : d1.sync = (e, d')) : d.add b = (e, d') := by
  unfold add
  rw [h, if_pos rfl, h1]
end Dk
end Go.Proofs.Ytjmabnchaglpdaa
