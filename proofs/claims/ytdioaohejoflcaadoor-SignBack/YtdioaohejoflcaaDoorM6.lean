/-
  The contract of the law package's known: two sums that are written down.
-/
import Derived.Test.YtdioaohejoflcaaDoorM5
import Derived.Lib.SlBytesConst
namespace Go.Proofs.YtdioaohejoflcaaDoor
open Go.RowKit

theorem sha_len (bs : List Int) : (sha bs).length = 32 := by
  unfold sha fin8
  rw [lay8_len, blks_len _ _ (blks_len _ _ rfl _)]
theorem lay8_bs (s : List Int) : Bs (lay8 s) := by
  intro b hb
  unfold lay8 at hb
  obtain ⟨x, _, hx⟩ := List.mem_flatMap.1 hb
  simp only [List.mem_cons, List.not_mem_nil, or_false] at hx
  rcases hx with rfl | rfl | rfl | rfl <;> omega
theorem sha_bs (bs : List Int) : Bs (sha bs) := lay8_bs _
theorem known_abc : strOfNums (hexs (sha [97, 98, 99])) = ⟨#[98, 97, 55, 56, 49, 54, 98, 102, 56, 102, 48, 49, 99, 102, 101, 97, 52, 49, 52, 49, 52, 48, 100, 101, 53, 100, 97, 101, 50, 50, 50, 51, 98, 48, 48, 51, 54, 49, 97, 51, 57, 54, 49, 55, 55, 97, 57, 99, 98, 52, 49, 48, 102, 102, 54, 49, 102, 50, 48, 48, 49, 53, 97, 100]⟩ := by rw [sha_abc]; decide +kernel
theorem known_nil : (strOfNums (hexs (sha []))).size = 64 ∧ (strOfNums (hexs (sha []))).extract 0 8 = ⟨#[101, 51, 98, 48, 99, 52, 52, 50]⟩ := by rw [sha_nil]; decide +kernel

theorem sum_at (vb : Value) (bs r : List Int) (hr : r = sha bs) (w : World) (hS : Sl w vb bs) (hB : Bs bs) (hl : bs.length ≤ 1000000000000) (hG : Gl w) :
    Calls Tryd.prog 84 #[vb] w fun e w' => ∃ ao m c, e = .returned (.slice ao m c) ∧ Row w' w.heap.size (.slice ao m c) r ∧ Kp [] w w' := by
  subst hr
  exact sum_any vb bs w hS hB hl hG
/-- what is known of the two sums. -/
theorem known_facts : ∃ (rA rN : List Int) (SA SN : ByteArray), rA = sha [97, 98, 99] ∧ rN = sha [] ∧ SA = strOfNums (hexs rA) ∧ SN = strOfNums (hexs rN) ∧ rA.length = 32 ∧ rN.length = 32 ∧ Bs rA ∧ Bs rN ∧
    SA = ⟨#[98, 97, 55, 56, 49, 54, 98, 102, 56, 102, 48, 49, 99, 102, 101, 97, 52, 49, 52, 49, 52, 48, 100, 101, 53, 100, 97, 101, 50, 50, 50, 51, 98, 48, 48, 51, 54, 49, 97, 51, 57, 54, 49, 55, 55, 97, 57, 99, 98, 52, 49, 48, 102, 102, 54, 49, 102, 50, 48, 48, 49, 53, 97, 100]⟩ ∧ SN.size = 64 ∧ SN.extract 0 8 = ⟨#[101, 51, 98, 48, 99, 52, 52, 50]⟩ :=
  ⟨_, _, _, _, rfl, rfl, rfl, rfl, sha_len _, sha_len _, sha_bs _, sha_bs _, known_abc, known_nil.1, known_nil.2⟩

end Go.Proofs.YtdioaohejoflcaaDoor
