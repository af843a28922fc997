/-
  The contracts of package ledger: leaves, Root, Entry, Public, KeysLeft, isSize.
-/
import Derived.Test.YteabdojjllfcpaaGreatQC22
import Derived.Test.YteabdojjllfcpaaGreatQOFrontEmpties2
import Derived.Test.YteabdojjllfcpaaGreatQOFrontEmpties1
namespace Go.Proofs.YteabdojjllfcpaaGreat
open Go.RowKit
open Go.Proofs
set_option linter.unusedVariables false
section
variable {w0 w : World} {l pd pk : Nat} {S : LS} {f : Fps}
set_option maxRecDepth 100000 in
/-- the first n cells of a block may be written. -/
def UFz (w : World) (g n : Nat) : Prop := ∀ k, k < n → w.frozen? ⟨g, k, none⟩ = false
theorem conv_big2 (S : ByteArray) (w : World) (hS : S.size ≤ 9223372036854775807) : ∃ c w', (convert 9 28 (.string S)).run Tryz.prog w = .ok (.slice (some ⟨w.heap.size, 0, none⟩) S.size c) w' ∧ Sl w' (.slice (some ⟨w.heap.size, 0, none⟩) S.size c) (nums S) ∧ Kp [] w w' ∧ UFz w' w.heap.size S.size := by
  obtain ⟨c, w', h1, h2, h3⟩ := conv_big S w hS
  have h4 := Lib.run_convert_string_bytes (P := Tryz.prog) w 9 28 5 S Tryz.underlying9 Tryz.underlying28 Tryz.underlying5
  rw [h1] at h4
  injection h4 with h5 h6
  refine ⟨c, w', h1, h2, h3, fun k hk => ?_⟩
  subst h6
  have hsz : k < (Lib.bytesCells w 5 S).size := by
    unfold Lib.bytesCells
    have e : S.data.size = S.size := rfl
    simp
    omega
  unfold World.frozen?
  simp only [Lib.bytesWorld_at_new]
  simp; omega
set_option maxRecDepth 100000 in
theorem uentry_ok (h : Lg w0 w l pd pk S f) (i : Nat) (hi : i < S.its.length) (x : List Int) (hx : x = S.its[i]) : Calls Tryz.prog 28 #[.pointer (some ⟨l, 0, none⟩), .int .i64 i] w fun e w' => ∃ c, e = .returned (.tuple #[.slice (some ⟨w.heap.size, 0, none⟩) x.length c, .bool true]) ∧ Sl w' (.slice (some ⟨w.heap.size, 0, none⟩) x.length c) x ∧ Kp [] w w' ∧ UFz w' w.heap.size x.length := by
  have HZ := hide (usize_any h _ rfl)
  obtain ⟨j, s, q, vs, pv, hg⟩ := h
  obtain ⟨v2, b2, hSc, hRU, -⟩ := hg.sh.ex
  obtain ⟨a2, c2, rfl⟩ := hRU.shape
  have hc1 := hg.at_.c1
  have hc0 := hSc.c0
  obtain ⟨g, rfl, hc⟩ := hRU.at i hi
  obtain ⟨hBx, hlx⟩ := hg.sh.bs _ (List.getElem_mem hi)
  rw [← hx] at hc hBx hlx
  obtain ⟨c5, w5, hcv, S5, K5, Z5⟩ := conv_big2 (strOfNums x) w (by rw [str_size]; omega)
  rw [nums_str x hBx] at S5
  rw [str_size] at hcv S5 Z5
  have HS5 := hide S5
  have HK5 := hide K5
  have HZ5 := hide Z5
  obtain ⟨n, hn⟩ : ∃ n, n = S.its.length := ⟨_, rfl⟩
  rw [← hn] at HZ hi hc0
  have h0 : ¬ (i : Int) < 0 := by omega
  have hd : decide ((i : Int) < 0) = false := decide_eq_false h0
  have h1 : ¬ (n : Int) ≤ (i : Int) := by omega
  have h2 : (i : Int) < (n : Int) := by omega
  have hd1 : decide ((n : Int) ≤ (i : Int)) = false := decide_eq_false h1
  obtain ⟨nx, hnx⟩ : ∃ n, n = x.length := ⟨_, rfl⟩
  rw [← hnx] at hcv HS5 HZ5 ⊢
  clear hn hg hSc hRU S5 K5 Z5 hx hnx
  go_enter Tryz.func28, Tryz.ntmps28
  go_wp2_with fail
  refine HZ.out.mono ?_
  rintro ee w1 ⟨rfl, hw⟩
  subst w1
  clear HZ
  go_wp2_with fail
  go_ret2
  exact ⟨c5, rfl, HS5.out, HK5.out, HZ5.out⟩
end
end Go.Proofs.YteabdojjllfcpaaGreat
