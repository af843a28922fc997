/-
  Package keys: inOrder, Open.
-/
import Derived.Test.YtillhpgdlmeajaaGreatDoorKKBox
namespace Go.Proofs.YtillhpgdlmeajaaGreatDoor
open Go.RowKit
open Go.Proofs
set_option linter.unusedVariables false

theorem ordTo_snoc {rs : List (List Int)} {i : Nat} (h : ordTo rs i) (e : rs[i]? = some [(i : Int)]) : ordTo rs (i + 1) := by
  obtain ⟨hi, e⟩ := List.getElem?_eq_some_iff.1 e
  exact ordTo_succ h hi e
theorem inOrd_no {rs : List (List Int)} {i : Nat} {x : List Int} (e : rs[i]? = some x) (hx : x ≠ [(i : Int)]) : inOrd rs = false := by
  obtain ⟨hi, e⟩ := List.getElem?_eq_some_iff.1 e
  exact inOrd_not hi (by rw [e]; exact hx)
theorem inOrder_long (ao : Option Addr) (m c : Nat) (w : World) (hm : 16 < m) : Calls Tryz.prog 85 #[.slice ao m c] w fun e w' => e = .returned (.bool false) ∧ w' = w := by
  have hm' : (16 : Int) < (m : Int) := by omega
  go_enter Tryz.func85, Tryz.ntmps85
  go_wp2_with fail
  go_ret
  exact ⟨rfl, rfl⟩
set_option maxRecDepth 100000 in
set_option maxHeartbeats 2000000 in
theorem inOrder_any (vl : Value) (l : List (Value × List Int)) (w : World) (hL : Lists w vl l) (rs : List (List Int)) (hrs : l.map (·.2) = rs) (h16 : l.length ≤ 16) :
    Calls Tryz.prog 85 #[vl] w fun e w' => e = .returned (.bool (inOrd rs)) ∧ Kp [] w w' := by
  obtain ⟨al, cl, rfl, -, hcell⟩ := hL
  have HC := hide hcell
  have hn16 : (l.length : Int) ≤ 16 := by omega
  have hn16' : ¬ (16 : Int) < (l.length : Int) := by omega
  have hlr : l.length = rs.length := by rw [← hrs]; simp
  have hget : Hid (∀ i (h : i < l.length), rs[i]? = some l[i].2) := fun i h => by
    subst hrs
    simp [List.getElem?_eq_getElem h]
  have HLR := hide hlr
  clear hcell hrs
  obtain ⟨n, hn⟩ : ∃ n, n = l.length := ⟨_, rfl⟩
  rw [← hn] at hn16 hn16' ⊢
  have HN := hide hn
  clear hn hlr
  go_enter Tryz.func85, Tryz.ntmps85
  go_wp2_with fail
  go_loopw [10] (fun i wr => ∃ k : Nat, k ≤ n ∧ i = .int .i64 k ∧ ordTo rs k ∧ Kp [] w wr) (fun i _ => n - (intOf i).toNat)
  case atStart => exact ⟨0, by omega, rfl, ordTo_zero _, Kp.refl _ _⟩
  case round =>
    obtain ⟨k, hk, rfl, hO, K⟩ := hrel
    have HO := hide hO
    have HK := hide K
    clear hO
    by_cases hlt : k < n
    · have hlt' : (k : Int) < (n : Int) := by omega
      have hkl : k < l.length := by have := HN.out; omega
      obtain ⟨b, off, rfl, hc, hS, hB⟩ := HC.out k hkl
      have hcw := K.cell hc (by simp)
      have hSw := hS.kept K (by simp)
      have hrk : rs[k]? = some l[k].2 := hget.out k hkl
      obtain ⟨x, hx⟩ : ∃ x, x = l[k] := ⟨_, rfl⟩
      rw [← hx] at hcw hSw hrk hB
      obtain ⟨x1, x2⟩ := x
      simp only at hcw hSw hrk hB
      have HRk := hide hrk
      clear hc hS hx K hrk
      obtain ⟨ax, cx, rfl, hcx, -, hax, hcl⟩ := hSw
      by_cases h1 : x2.length = 1
      · obtain ⟨u, rfl⟩ : ∃ u, x2 = [u] := by
          cases x2 with
          | nil => simp at h1
          | cons u t =>
            cases t with
            | nil => exact ⟨u, rfl⟩
            | cons y t => simp at h1
        have hu : 0 ≤ u ∧ u ≤ 255 := hB u (by simp)
        obtain ⟨ad, rfl⟩ : ∃ a, ax = some a := by
          cases ax with
          | none => have := hax rfl; simp at hcx; omega
          | some a => exact ⟨a, rfl⟩
        have hc0 := hcl ad rfl 0 (.int .u8 u) rfl
        rw [Addr.add_zero'] at hc0
        have h64 : IntKind.i64.wrap u = u := by simp [IntKind.wrap, IntKind.signed, IntKind.bits]; omega
        clear hcl hax hB h1 hcx
        simp only [List.length_cons, List.length_nil, Nat.zero_add] at hcw
        by_cases he : u = k
        · subst he
          have HO2 := hide (ordTo_snoc HO.out HRk.out)
          go_wp2_with fail
          go_roundw
          case rel => exact ⟨k + 1, by omega, by go_num, HO2.out, HK.out⟩
          case measure => simp [intOf]; omega
        · have he' : (u == (k : Int)) = false := by simpa using he
          have HF := hide (inOrd_no HRk.out (fun e => by
            injection e with e1
            exact he e1))
          clear HRk
          go_wp2_with fail
          go_ret
          rw [HF.out]
          exact ⟨rfl, HK.out⟩
      · have h1' : ¬ (x2.length : Int) = 1 := by omega
        have h1'' : ((x2.length : Int) == 1) = false := by simpa using h1'
        obtain ⟨nx, hnx⟩ : ∃ n, n = x2.length := ⟨_, rfl⟩
        rw [← hnx] at hcw h1' h1''
        have HF := hide (inOrd_no HRk.out (fun e => h1 (by rw [e]; rfl)))
        clear hcl hcx hax hB h1 hnx HRk
        go_wp2_with fail
        go_ret
        rw [HF.out]
        exact ⟨rfl, HK.out⟩
    · obtain rfl : k = n := by omega
      clear K
      go_wp2_with fail
      go_ret
      have h1 := HO.out
      rw [HN.out, HLR.out] at h1
      rw [ordTo_all h1 (by have := HN.out; have := HLR.out; omega)]
      exact ⟨rfl, HK.out⟩
/-- Open of no disk. -/
theorem kopen_nil (w : World) : Calls Tryz.prog 41 #[.pointer none] w fun e w' => e = .returned (.tuple #[.pointer none, .int .i64 1]) ∧ w' = w := by
  have HO := hide (open_nil w)
  go_enter Tryz.func41, Tryz.ntmps41
  go_wp2_with fail
  refine HO.out.mono ?_
  rintro ee w1 ⟨rfl, hw⟩
  subst w1
  clear HO
  go_wp2_with fail
  go_ret2
  exact ⟨rfl, rfl⟩
set_option maxRecDepth 100000 in
set_option maxHeartbeats 2000000 in
/-- Open: a box behind the first keys' records, else nothing but ErrCorrupt. -/
theorem kopen_any {w0 w : World} {p : Nat} {d : Dk} (h : Nx w0 w p d) (hd : d.down = false) (ha : d.arm ≤ 0) (b : List Int) (hb : d.bs = b) (ok : Bool) (hok : ok = ((opnP b).2.2 && inOrd (opnP b).1)) :
    Calls Tryz.prog 41 #[.pointer (some ⟨p, 0, none⟩)] w fun e w' =>
      (ok = true ∧ ∃ q, e = .returned (.tuple #[.pointer (some ⟨q, 0, none⟩), .int .i64 0]) ∧ Bx w0 w' p d.opn q (opnP b).1.length (opnP b).1.length) ∨
      (ok = false ∧ e = .returned (.tuple #[.pointer none, .int .i64 14]) ∧ Kp [] w0 w') := by
  obtain ⟨v, hN⟩ := h
  have HO := hide (open_at hN hd ha b hb)
  have HOk := hide hok
  clear hN hd ha hb hok
  go_enter Tryz.func41, Tryz.ntmps41
  go_wp2_with fail
  refine HO.out.mono ?_
  rintro ee w1 (⟨ht, j, v1, al, m, cl, l, rfl, J1, -, -, P1, hl1, hm1⟩ | ⟨hf, rfl, N1, K1⟩)
  · have HJ1 := hide J1
    have HT := hide ht
    have HM := hide hm1
    have HL1 := hide hl1
    have hml : m = l.length := by rw [hm1, ← hl1]; simp
    by_cases h16 : m ≤ 16
    · have HI := hide (inOrder_any _ l w1 (P1.parts.lists (by omega)) _ hl1 (by omega))
      clear J1 ht hm1 hl1 P1 HO hml
      go_wp2_with fail
      refine HI.out.mono ?_
      rintro ee w2 ⟨rfl, K2⟩
      have HK2 := hide K2
      have HJ2 := hide (HJ1.out.on K2)
      clear HI K2
      obtain ⟨r, hr⟩ : ∃ r, r = inOrd (opnP b).1 := ⟨_, rfl⟩
      rw [← hr]
      have HR := hide hr
      clear hr
      cases r
      · go_wp2_with fail
        go_ret2
        exact .inr ⟨by rw [HOk.out, HT.out, ← HR.out]; rfl, rfl, HJ2.out.nw.kp⟩
      · go_wp2_with fail
        go_ret2
        have ka : Kp [] w2 (w2.alloc (.cells #[.pointer (some ⟨j, 0, none⟩), .int .i64 m] 144)) := (Kp.refl [] w2).alloc _
        refine .inl ⟨by rw [HOk.out, HT.out, ← HR.out]; rfl, w2.heap.size, rfl, v1, j, _, Nat.le_refl _, HJ2.out.on ka, ?_, HJ2.out.nw.kp.size⟩
        rw [← HM.out]; exact heap_alloc_new w2 _
    · have HI := hide (inOrder_long al m cl w1 (by omega))
      clear J1 ht hm1 hl1 P1 HO hml
      go_wp2_with fail
      refine HI.out.mono ?_
      rintro ee w2 ⟨rfl, hw2⟩
      subst w2
      clear HI
      go_wp2_with fail
      go_ret2
      exact .inr ⟨by rw [HOk.out, inOrd_long (by rw [← HM.out]; omega), Bool.and_false], rfl, HJ1.out.nw.kp⟩
  · have HF := hide hf
    have HN1 := hide N1
    clear hf N1 K1 HO
    go_wp2_with fail
    go_ret2
    exact .inr ⟨by rw [HOk.out, HF.out]; rfl, rfl, HN1.out.kp⟩
/-- Open of a disk with the first keys' records, behind which there may be a torn one. -/
theorem kopen_ok {w0 w : World} {p n at_ : Nat} {d d' : Dk} (h : Nx w0 w p d) (hd : d.down = false) (ha : d.arm ≤ 0) {b : List Int} (hb : d.bs = b) (hn : n ≤ 16) (ho : opnP b = (keyL n, at_, true)) (hd' : d.opn = d') :
    Calls Tryz.prog 41 #[.pointer (some ⟨p, 0, none⟩)] w fun e w' => ∃ q, e = .returned (.tuple #[.pointer (some ⟨q, 0, none⟩), .int .i64 0]) ∧ Bx w0 w' p d' q n n := by
  refine (kopen_any h hd ha b hb true (by rw [ho]; simp [inOrd_key hn])).mono ?_
  rw [ho, hd', keyL_len]
  rintro e w' (⟨-, q, rfl, B⟩ | ⟨hf, -⟩)
  · exact ⟨q, rfl, B⟩
  · cases hf
end Go.Proofs.YtillhpgdlmeajaaGreatDoor
