/-
  The contract of areHashes.
-/
import Derived.Test.YtiabccgabbdedaaDoorKCEach
namespace Go.Proofs.YtiabccgabbdedaaDoor
open Go.RowKit
open Go.Proofs

def all32 (ls : List (List Int)) : Bool := ls.all fun x => x.length == 32
theorem all32_iff {ls : List (List Int)} : all32 ls = true ↔ ∀ x ∈ ls, x.length = 32 := by simp [all32]
set_option maxRecDepth 100000 in
set_option maxHeartbeats 1000000 in
theorem are_any (vl : Value) (ls : List (List Int)) (w : World) (hL : LcM ls vl w) :
    Calls Tryd.prog 33 #[vl] w fun e w' => e = .returned (.bool (all32 ls)) ∧ w' = w := by
  have HL := hide hL
  obtain ⟨al, cl, e, h1, h2, h3⟩ := hL.shape
  obtain ⟨N, hN⟩ : ∃ N, N = ls.length := ⟨_, rfl⟩
  rw [← hN] at e h1
  subst e
  have HN := hide hN
  have hNi : (N : Int) ≤ 9223372036854775807 := by omega
  clear hL hN h1 h3
  go_enter Tryd.func33, Tryd.ntmps33
  go_wp2_with fail
  go_loopw [7] (fun i wr => ∃ k : Nat, k ≤ N ∧ i = .int .i64 k ∧ wr = w ∧ all32 (ls.take k) = true) (fun i _ => N - (intOf i).toNat)
  case atStart => exact ⟨0, by omega, rfl, rfl, rfl⟩
  case round =>
    obtain ⟨k, hk, rfl, hw, hA⟩ := hrel
    subst wr
    have HA := hide hA
    clear hA
    by_cases hlt : k < N
    · have hlt2 : (k : Int) < (N : Int) := by omega
      have hkl : k < ls.length := by have := unhide HN; omega
      have hx := List.getElem?_eq_getElem hkl
      obtain ⟨x, hxx⟩ : ∃ x, x = ls[k] := ⟨_, rfl⟩
      rw [← hxx] at hx
      obtain ⟨-, b, off, u, rfl, hc, hS, hB⟩ := (unhide HL).at k x hx
      obtain ⟨ax, cx, hux, -⟩ := hS
      have HT : Hid (ls.take (k + 1) = ls.take k ++ [x]) := by rw [hxx]; exact List.take_succ_eq_append_getElem hkl
      have HX : Hid (x ∈ ls) := by rw [hxx]; exact List.getElem_mem hkl
      subst hux
      clear hx hxx hkl hB
      by_cases h32 : x.length = 32
      · have h32i : (x.length : Int) = 32 := by omega
        have HS : Hid (all32 (ls.take (k + 1)) = true) := by
          have h := unhide HA
          rw [all32_iff] at h ⊢
          rw [unhide HT]
          intro y hy
          rcases List.mem_append.1 hy with hy | hy
          · exact h y hy
          · obtain rfl : y = x := by simpa using hy
            exact h32
        clear h32
        go_wp2_with fail
        go_roundw
        case rel => exact ⟨k + 1, by omega, by go_num, trivial, unhide HS⟩
        case measure => simp [intOf]; omega
      · have h32i : ¬ (x.length : Int) = 32 := by omega
        have HF : Hid (all32 ls = false) := by
          have hne : ¬ all32 ls = true := fun hc => h32 (all32_iff.1 hc x (unhide HX))
          exact Bool.eq_false_iff.2 hne
        clear h32
        go_wp2_with fail
        go_ret
        exact ⟨by rw [unhide HF]; rfl, rfl⟩
    · obtain rfl : k = N := by omega
      have HF : Hid (all32 ls = true) := by
        have h := unhide HA
        rw [unhide HN, List.take_length] at h
        exact h
      go_wp2_with fail
      go_ret
      exact ⟨by rw [unhide HF]; rfl, rfl⟩
end Go.Proofs.YtiabccgabbdedaaDoor
