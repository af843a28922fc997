/-
  The contracts of the reference's Tagged and of the law package's hex.
-/
import Derived.Test.YtioflclfgkcpfaaDoorKHTag
import Derived.Test.YtioflclfgkcpfaaDoorKHRef
namespace Go.Proofs.YtioflclfgkcpfaaDoor
open Go.RowKit

set_option maxRecDepth 100000 in
set_option maxHeartbeats 1000000 in
theorem reftagged_any (tag : Int) (vl : Value) (l : List (Value × List Int)) (r : List Int) (hr : r = sha (tag :: cat l)) (w : World) (hL : Lists w vl l) (h0 : 0 ≤ tag) (h1 : tag ≤ 255) (hn : l.length ≤ 100000) (hm : ∀ x ∈ l, x.2.length ≤ 1000000) :
    Calls Tryd.prog 46 #[.int .u8 tag, vl] w fun e w' => ∃ ao m c, e = .returned (.slice ao m c) ∧ Row w' w.heap.size (.slice ao m c) r ∧ Kp [] w w' := by
  have hBl := hL.bs
  have HBl := hide hBl
  have HR := hide hr
  have HM := hide hm
  obtain ⟨al, cl, rfl, hll, hcell⟩ := hL
  have hlen : (l.length : Int) ≤ 100000 := by omega
  have HC := hide hcell
  clear hcell hr hm hBl hll
  go_enter Tryd.func46, Tryd.ntmps46
  go_wp2_with fail
  have R0 : Row (w.alloc (.cells #[.int .u8 tag] 5)) w.heap.size (.slice (some ⟨w.heap.size, 0, none⟩) 1 1) [tag] := row_of_block (bs := [tag]) (Nat.le_refl _) (heap_alloc_new w _) rfl (by simp [maxLen])
  have hR0 := hide R0
  clear R0
  go_loopw [5, 6] (fun v i wr => ∃ (k m c : Nat) (ao : Option Addr), k ≤ l.length ∧ v = .slice ao m c ∧ i = .int .i64 k ∧ Row wr w.heap.size v (tag :: cat (l.take k)) ∧ Kp [] w wr) (fun _ i _ => l.length - (intOf i).toNat)
  case atStart => exact ⟨0, 1, 1, some ⟨w.heap.size, 0, none⟩, Nat.zero_le _, rfl, rfl, by simpa [cat] using unhide hR0, (Kp.refl [] w).alloc _⟩
  case round =>
    obtain ⟨k, m, c, ao, hk, rfl, rfl, Rr, Kr⟩ := hrel
    by_cases hlt : k < l.length
    · have hlt2 : (k : Int) < (l.length : Int) := by omega
      obtain ⟨b, off, rfl, hc, hS, hB⟩ := unhide HC k hlt
      have hcl : (cat (l.take k)).length ≤ 100000 * 1000000 := by
        have e1 := cat_len (l.take k) 1000000 (fun x hx => unhide HM x (List.mem_of_mem_take hx))
        have e2 : (l.take k).length ≤ 100000 := by simp; omega
        exact Nat.le_trans e1 (Nat.mul_le_mul_right _ e2)
      have hxl := unhide HM l[k] (List.getElem_mem hlt)
      have hE := cat_take l k hlt
      obtain ⟨x, hx⟩ : ∃ x, x = l[k] := ⟨_, rfl⟩
      rw [← hx] at hc hS hxl hE
      have hcw := Kr.cell hc (by simp)
      have hSw := hS.kept Kr (by simp)
      obtain ⟨ax, cx, hxv⟩ : ∃ ax cx, x.1 = .slice ax x.2.length cx := by obtain ⟨ax, cx, e, _⟩ := hS; exact ⟨ax, cx, e⟩
      have HE := hide hE
      rw [hxv] at hSw hcw
      have HSw := hide hSw
      obtain ⟨nx, hnx⟩ : ∃ nx, nx = x.2.length := ⟨_, rfl⟩
      rw [← hnx] at HSw hcw
      clear hE hx hc hS hB hSw hxv HC hnx
      go_wp2_with (at_builtin; refine wpList_append_row rfl (.tmp 15) (.tmp 19) rfl w.heap.size _ _ rfl Rr _ x.2 rfl (unhide HSw) (by simp only [List.length_cons]; omega) Kr.size ?_; intro ao2 m2 c2 w2 r2 s2)
      go_roundw
      case rel =>
        refine ⟨k + 1, m2, c2, ao2, by omega, rfl, by go_num, ?_, Rr.step Kr s2⟩
        rw [unhide HE]; exact r2
      case measure => simp [intOf]; omega
    · obtain rfl : k = l.length := by omega
      rw [List.take_length] at Rr
      have hcl := cat_len l 1000000 (unhide HM)
      have hmul := Nat.mul_le_mul_right 1000000 hn
      have hRr := hide Rr
      have hKr := hide Kr
      have hBt : Hid (Bs (tag :: cat l)) := fun b hb => by
        rcases List.mem_cons.1 hb with rfl | hb
        · exact ⟨h0, h1⟩
        · exact cat_bs l (unhide HBl) b hb
      clear Rr Kr HC
      go_wp2_with (go_at_call 53; refine (refsum_at _ (tag :: cat l) r (unhide HR) _ (unhide hRr).sl (unhide hBt) (by simp only [List.length_cons]; omega)).mono ?_; rintro ee w3 ⟨ao3, m3, c3, rfl, R3, K3⟩)
      go_ret
      exact ⟨ao3, m3, c3, rfl, owns_rebase R3 (fun i hi => Nat.le_trans (unhide hKr).size (R3.own i hi)), (unhide hKr).trans K3⟩
end Go.Proofs.YtioflclfgkcpfaaDoor
