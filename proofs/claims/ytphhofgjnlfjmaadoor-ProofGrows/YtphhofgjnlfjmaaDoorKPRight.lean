/-
  May a path be that of a proof: the contracts of the program's isHash and Right and of the reference's Right.
-/
import Derived.Test.YtphhofgjnlfjmaaDoorKTGrow
namespace Go.Proofs.YtphhofgjnlfjmaaDoor
open Go.RowKit
open Go.Proofs

/-- no more than 16 hashes. -/
def rightP (ps : List (List Int)) : Bool := decide (ps.length ≤ 16) && ps.all fun x => x.length == 32
theorem rightP_iff {ps : List (List Int)} : rightP ps = true ↔ ps.length ≤ 16 ∧ ∀ x ∈ ps, x.length = 32 := by simp [rightP]
theorem rightP_not {ps : List (List Int)} (h : ¬ (ps.length ≤ 16 ∧ ∀ x ∈ ps, x.length = 32)) : rightP ps = false := Bool.eq_false_iff.2 (fun hc => h (rightP_iff.1 hc))

theorem isHash_any (v : Value) (bs : List Int) (w : World) (hS : Sl w v bs) :
    Calls Tryd.prog 42 #[v] w fun e w' => e = .returned (.bool (bs.length == 32)) ∧ w' = w := by
  obtain ⟨ab, cb, rfl, -⟩ := hS
  obtain ⟨n, hn⟩ : ∃ n, n = bs.length := ⟨_, rfl⟩
  rw [← hn]
  clear hn
  by_cases h : n = 32
  · subst h
    go_enter Tryd.func42, Tryd.ntmps42
    go_wp2_with fail
    go_ret
    exact ⟨rfl, rfl⟩
  · have h1 : ((n : Int) == 32) = false := beq_eq_false_iff_ne.2 (by omega)
    have h2 : (n == 32) = false := beq_eq_false_iff_ne.2 h
    rw [h2]
    clear h2
    go_enter Tryd.func42, Tryd.ntmps42
    go_wp2_with fail
    go_ret
    exact ⟨by first | rfl | simp [h1], rfl⟩
set_option maxRecDepth 100000 in
set_option maxHeartbeats 1000000 in
theorem pright_any (vl : Value) (ls : List (List Int)) (w : World) (hL : LcM ls vl w) :
    Calls Tryd.prog 33 #[vl] w fun e w' => e = .returned (.bool (rightP ls)) ∧ w' = w := by
  have HL := hide hL
  obtain ⟨al, cl, e, h1, h2, h3⟩ := hL.shape
  obtain ⟨N, hN⟩ : ∃ N, N = ls.length := ⟨_, rfl⟩
  rw [← hN] at e h1
  subst e
  have HN := hide hN
  have hNi : (N : Int) ≤ 9223372036854775807 := by omega
  clear hL hN h1 h3
  by_cases h16 : N ≤ 16
  · have h16i : (N : Int) ≤ 16 := by omega
    go_enter Tryd.func33, Tryd.ntmps33
    go_wp2_with fail
    go_loopw [10] (fun i wr => ∃ k : Nat, k ≤ N ∧ i = .int .i64 k ∧ wr = w ∧ ∀ x ∈ ls.take k, x.length = 32) (fun i _ => N - (intOf i).toNat)
    case atStart => exact ⟨0, by omega, rfl, rfl, by simp⟩
    case round =>
    obtain ⟨k, hk, rfl, hw, hA⟩ := hrel
    subst wr
    have HA := hide hA
    clear hA
    by_cases hlt : k < N
    · have hlt2 : (k : Int) < (N : Int) := by omega
      have hkl : k < ls.length := by have := unhide HN; omega
      have hx := List.getElem?_eq_getElem hkl
      obtain ⟨x, hxx⟩ : ∃ x, x = ls[k] := ⟨_, rfl⟩
      rw [← hxx] at hx
      obtain ⟨-, b, off, u, rfl, hc, hS, hB⟩ := (unhide HL).at k x hx
      have HI := hide (isHash_any _ x w hS)
      obtain ⟨ax, cx, hux, -⟩ := hS
      have HT : Hid (ls.take (k + 1) = ls.take k ++ [x]) := by rw [hxx]; exact List.take_succ_eq_append_getElem hkl
      have HX : Hid (x ∈ ls) := by rw [hxx]; exact List.getElem_mem hkl
      subst hux
      clear hx hxx hkl hB
      by_cases h32 : x.length = 32
      · have h32i : (x.length : Int) = 32 := by omega
        have HS : Hid (∀ y ∈ ls.take (k + 1), y.length = 32) := by
          rw [unhide HT]
          intro y hy
          rcases List.mem_append.1 hy with hy | hy
          · exact unhide HA y hy
          · obtain rfl : y = x := by simpa using hy
            exact h32
        have H32 := hide h32
        clear h32 h32i
        go_wp2_with fail
        refine (unhide HI).mono ?_
        rintro ee w1 ⟨rfl, hw⟩
        subst w1
        rw [show (x.length == 32) = true by have h := unhide H32; simp [h]]
        clear HI
        go_wp2_with fail
        go_roundw
        case rel => exact ⟨k + 1, by omega, by go_num, trivial, unhide HS⟩
        case measure => simp [intOf]; omega
      · have h32i : ¬ (x.length : Int) = 32 := by omega
        have HF : Hid (rightP ls = false) := rightP_not (fun hc => h32 (hc.2 x (unhide HX)))
        have H32 := hide h32
        clear h32 h32i
        go_wp2_with fail
        refine (unhide HI).mono ?_
        rintro ee w1 ⟨rfl, hw⟩
        subst w1
        rw [show (x.length == 32) = false by have h := unhide H32; simp [h]]
        clear HI
        go_wp2_with fail
        go_ret
        exact ⟨by rw [unhide HF]; rfl, rfl⟩
    · obtain rfl : k = N := by omega
      have HF : Hid (rightP ls = true) := by
        refine rightP_iff.2 ⟨by rw [← unhide HN]; exact h16, ?_⟩
        have h := unhide HA
        rw [unhide HN, List.take_length] at h
        exact h
      go_wp2_with fail
      go_ret
      exact ⟨by rw [unhide HF]; rfl, rfl⟩
  · have h16i : ¬ (N : Int) ≤ 16 := by omega
    have HF : Hid (rightP ls = false) := rightP_not (fun hc => h16 (by rw [unhide HN]; exact hc.1))
    clear h16
    go_enter Tryd.func33, Tryd.ntmps33
    go_wp2_with fail
    go_ret
    exact ⟨by rw [unhide HF]; rfl, rfl⟩
set_option maxRecDepth 100000 in
set_option maxHeartbeats 1000000 in
theorem prright_any (vl : Value) (ls : List (List Int)) (w : World) (hL : LcM ls vl w) :
    Calls Tryd.prog 34 #[vl] w fun e w' => e = .returned (.bool (rightP ls)) ∧ w' = w := by
  have HL := hide hL
  obtain ⟨al, cl, e, h1, h2, h3⟩ := hL.shape
  obtain ⟨N, hN⟩ : ∃ N, N = ls.length := ⟨_, rfl⟩
  rw [← hN] at e h1
  subst e
  have HN := hide hN
  have hNi : (N : Int) ≤ 9223372036854775807 := by omega
  clear hL hN h1 h3
  by_cases h16 : N ≤ 16
  · have h16i : (N : Int) ≤ 16 := by omega
    go_enter Tryd.func34, Tryd.ntmps34
    go_wp2_with fail
    go_loopw [3] (fun i wr => ∃ k : Nat, k ≤ N ∧ i = .int .i64 k ∧ wr = w ∧ ∀ x ∈ ls.take k, x.length = 32) (fun i _ => N - (intOf i).toNat)
    case atStart => exact ⟨0, by omega, rfl, rfl, by simp⟩
    case round =>
    obtain ⟨k, hk, rfl, hw, hA⟩ := hrel
    subst wr
    have HA := hide hA
    clear hA
    by_cases hlt : k < N
    · have hlt2 : (k : Int) < (N : Int) := by omega
      have hkl : k < ls.length := by have := unhide HN; omega
      have hx := List.getElem?_eq_getElem hkl
      obtain ⟨x, hxx⟩ : ∃ x, x = ls[k] := ⟨_, rfl⟩
      rw [← hxx] at hx
      obtain ⟨-, b, off, u, rfl, hc, hS, hB⟩ := (unhide HL).at k x hx
      obtain ⟨ax, cx, hux, -⟩ := hS
      have HT : Hid (ls.take (k + 1) = ls.take k ++ [x]) := by rw [hxx]; exact List.take_succ_eq_append_getElem hkl
      have HX : Hid (x ∈ ls) := by rw [hxx]; exact List.getElem_mem hkl
      subst hux
      clear hx hxx hkl hB
      by_cases h32 : x.length = 32
      · have h32i : (x.length : Int) = 32 := by omega
        have HS : Hid (∀ y ∈ ls.take (k + 1), y.length = 32) := by
          rw [unhide HT]
          intro y hy
          rcases List.mem_append.1 hy with hy | hy
          · exact unhide HA y hy
          · obtain rfl : y = x := by simpa using hy
            exact h32
        clear h32
        go_wp2_with fail
        go_roundw
        case rel => exact ⟨k + 1, by omega, by go_num, trivial, unhide HS⟩
        case measure => simp [intOf]; omega
      · have h32i : ¬ (x.length : Int) = 32 := by omega
        have HF : Hid (rightP ls = false) := rightP_not (fun hc => h32 (hc.2 x (unhide HX)))
        clear h32
        go_wp2_with fail
        go_ret
        exact ⟨by rw [unhide HF]; rfl, rfl⟩
    · obtain rfl : k = N := by omega
      have HF : Hid (rightP ls = true) := by
        refine rightP_iff.2 ⟨by rw [← unhide HN]; exact h16, ?_⟩
        have h := unhide HA
        rw [unhide HN, List.take_length] at h
        exact h
      go_wp2_with fail
      go_ret
      exact ⟨by rw [unhide HF]; rfl, rfl⟩
  · have h16i : ¬ (N : Int) ≤ 16 := by omega
    have HF : Hid (rightP ls = false) := rightP_not (fun hc => h16 (by rw [unhide HN]; exact hc.1))
    clear h16
    go_enter Tryd.func34, Tryd.ntmps34
    go_wp2_with fail
    go_ret
    exact ⟨by rw [unhide HF]; rfl, rfl⟩
end Go.Proofs.YtphhofgjnlfjmaaDoor
