/-
  How long a slice of bytes that is handed in may be.
-/
import Derived.Test.YtbkipibmaghejaaGreatDoorKHSmalls
import Derived.Stop.Joined
import Derived.SizedLaws
namespace Go.Proofs.YtbkipibmaghejaaGreatDoor
open Go.ChangeShapes Go.WideShapes Go.ChangeAt Go.RowKit

theorem reach_bytes {H : Type} {enc : TypeId × Value → H} {w : World} {a : Option Addr} {len cap fuel : Nat} {d : DataW H} {p : List MemPlace} (h : DataW.trod enc Tryz.prog w 0 (fun _ => true) true fuel 23 [.slice a len cap] = some (d, p))
    {ts : List TypeId} {ds : List (DataW H)} (hsz : (DataW.weightsEach Tryz.prog ts ds).all (· ≤ reachBytes) = true) {j : Nat} (ht : ts[j]? = some 23) (hd : ds[j]? = some d) : len ≤ 140737488351232 := by
  rcases open_ints Tryz.underlying23 Tryz.underlying5 (by kernel_rfl) h with ⟨hcs, _⟩ | ⟨x, l, c, zs, hcs, _, hl, hm, hz, hx, _, _⟩
  · cases hcs; omega
  · cases hcs
    simp only [Prod.mk.injEq] at hx
    obtain ⟨rfl, _⟩ := hx
    have := sized_slice hsz ht hd Tryz.underlying23
    rw [show Tryz.prog.bytesOf 5 = 1 from by kernel_rfl] at this
    simp only [lits, List.length_map, List.length_take, List.length_drop, reachBytes, if_true] at this hz
    omega
theorem sl_len {w : World} {a : Option Addr} {len c n : Nat} {bs : List Int} (h : Sl w (.slice a len c) bs) (hn : len ≤ n) : bs.length ≤ n := by
  obtain ⟨_, _, e, _⟩ := h; cases e; exact hn
end Go.Proofs.YtbkipibmaghejaaGreatDoor
