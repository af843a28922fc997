/-
  The contracts of the reference reader over this seat's program: Raw, Number, Bytes, End, Left, by the same plain function of what is left as the program's own reader.
-/
import Derived.Test.YtillhpgdlmeajaaGreatDoorKSWire
import Derived.Test.YtillhpgdlmeajaaGreatDoorKHSums
import Derived.Deep.QuietTactic
import Derived.BigQuiet
namespace Go.Proofs.YtillhpgdlmeajaaGreatDoor
open Go.RowKit

/-- A reference reader: its three cells at block q: all bytes B, how far it is, whether it is bad. -/
def RR (w : World) (q : Nat) (v : Value) (i : Nat) (bad : Bool) (B : List Int) : Prop :=
  w.heap[q]? = some (.cells #[v, .int .i64 i, .bool bad] 125 (0, 0)) ∧ Sl w v B ∧ v.ownBlock ≠ some q ∧ i ≤ B.length
/-- what is left of it. -/
def rest (i : Nat) (bad : Bool) (B : List Int) : List Int := if bad then [] else B.drop i

theorem cell_of_three {w : World} {b : Nat} {v u x : Value} {t : TypeId} (h : w.heap[b]? = some (.cells #[v, u, x] t (0, 0))) : w.cell? ⟨b, 0, none⟩ = some v ∧ w.cell? ⟨b, 1, none⟩ = some u ∧ w.cell? ⟨b, 2, none⟩ = some x :=
  ⟨by rw [cell_of_row w b 0 _ t _ h]; rfl, by rw [cell_of_row w b 1 _ t _ h]; rfl, by rw [cell_of_row w b 2 _ t _ h]; rfl⟩
theorem three_setCell1 {w : World} {b : Nat} {v u x y : Value} {t : TypeId} (h : w.heap[b]? = some (.cells #[v, u, x] t (0, 0))) : (w.setCell ⟨b, 1, none⟩ y).heap[b]? = some (.cells #[v, y, x] t (0, 0)) := by
  have hlt := lt_of_block h
  have h' : w.heap[b] = .cells #[v, u, x] t (0, 0) := by simpa [Array.getElem?_eq_getElem hlt] using h
  show (w.heap.modify b _)[b]? = _
  rw [Array.getElem?_eq_getElem (by simpa using hlt), Array.getElem_modify_self, h']
  rfl
theorem three_setCell2 {w : World} {b : Nat} {v u x y : Value} {t : TypeId} (h : w.heap[b]? = some (.cells #[v, u, x] t (0, 0))) : (w.setCell ⟨b, 2, none⟩ y).heap[b]? = some (.cells #[v, u, y] t (0, 0)) := by
  have hlt := lt_of_block h
  have h' : w.heap[b] = .cells #[v, u, x] t (0, 0) := by simpa [Array.getElem?_eq_getElem hlt] using h
  show (w.heap.modify b _)[b]? = _
  rw [Array.getElem?_eq_getElem (by simpa using hlt), Array.getElem_modify_self, h']
  rfl
theorem RR.kept {w w' : World} {q : Nat} {v : Value} {i : Nat} {bad : Bool} {B : List Int} {S : List Nat} (h : RR w q v i bad B) (k : Kp S w w') (hp : q ∉ S) (hv : ∀ i, v.ownBlock = some i → i ∉ S) : RR w' q v i bad B :=
  ⟨k.heap h.1 hp, h.2.1.kept k hv, h.2.2.1, h.2.2.2⟩
theorem rr_bad {w : World} {q : Nat} {v : Value} {i : Nat} {bad : Bool} {B : List Int} (h : RR w q v i bad B) : RR (w.setCell ⟨q, 2, none⟩ (.bool true)) q v i true B ∧ Kp [q] w (w.setCell ⟨q, 2, none⟩ (.bool true)) := by
  have k : Kp [q] w (w.setCell ⟨q, 2, none⟩ (.bool true)) := (Kp.refl [q] w).setCell (p := ⟨q, 2, none⟩) (.inl (by simp)) _
  exact ⟨⟨three_setCell2 h.1, h.2.1.kept k (fun j hj hm => by simp only [List.mem_singleton] at hm; subst hm; exact h.2.2.1 hj), h.2.2.1, h.2.2.2⟩, k⟩
theorem rr_go {w : World} {q : Nat} {v : Value} {i : Nat} {bad : Bool} {B : List Int} (h : RR w q v i bad B) (j : Nat) (hj : j ≤ B.length) : RR (w.setCell ⟨q, 1, none⟩ (.int .i64 j)) q v j bad B ∧ Kp [q] w (w.setCell ⟨q, 1, none⟩ (.int .i64 j)) := by
  have k : Kp [q] w (w.setCell ⟨q, 1, none⟩ (.int .i64 j)) := (Kp.refl [q] w).setCell (p := ⟨q, 1, none⟩) (.inl (by simp)) _
  exact ⟨⟨three_setCell1 h.1, h.2.1.kept k (fun j hj hm => by simp only [List.mem_singleton] at hm; subst hm; exact h.2.2.1 hj), h.2.2.1, hj⟩, k⟩

theorem rest_tk (i : Nat) (B : List Int) (n : Nat) (h : i + n ≤ B.length) : tk false (B.drop i) n = ((B.drop i).take n, false, B.drop (i + n)) := by
  rw [tk_ok false _ n (by rw [List.length_drop]; omega), List.drop_drop]

/-- what a call of a reference reader leaves. -/
def RLeft (w : World) (q : Nat) (v : Value) (B : List Int) (s : Bool × List Int) (w' : World) : Prop :=
  ∃ i bad, RR w' q v i bad B ∧ s = (bad, rest i bad B) ∧ Kp [q] w w'

set_option maxRecDepth 100000 in
set_option maxHeartbeats 2000000 in
theorem rraw_any (q : Nat) (v : Value) (i : Nat) (bad : Bool) (B : List Int) (n : Int) (w : World) (hR : RR w q v i bad B) (hb : B.length ≤ 140737488355328) (hn : -9223372036854775808 ≤ n ∧ n ≤ 9223372036854775807) :
    Calls Tryz.prog 106 #[.pointer (some ⟨q, 0, none⟩), .int .i64 n] w fun e w' => ∃ ao m c, e = .returned (.slice ao m c) ∧ Own w w' (.slice ao m c) (tk bad (rest i bad B) n).1 ∧ RLeft w q v B (tk bad (rest i bad B) n).2 w' := by
  obtain ⟨ao, c, rfl, h1, h2, h3, h4⟩ := hR.2.1
  obtain ⟨hc0, hc1, hc2⟩ := cell_of_three hR.1
  have hf := free_of_two hR.1
  have hf1 := hf 1
  have hf2 := hf 2
  have hi := hR.2.2.2
  clear hf h4
  have hi1 : (0 : Int) ≤ (i : Int) := by omega
  have hi2 : (i : Int) ≤ (B.length : Int) := by omega
  cases bad with
  | true =>
    have hB := rr_bad hR
    have ht : tk true (rest i true B) n = ([], true, []) := by
      show tk true [] n = _
      unfold tk; split <;> simp
    rw [ht]
    go_enter Tryz.func106, Tryz.ntmps106
    go_wp2_with fail
    go_quiet (fail)
    go_wp2_with fail
    go_ret
    exact ⟨none, 0, 0, rfl, ⟨Sl.nil _, by intro k hk; cases hk⟩, i, true, hB.1.kept (kp_drewN _ _) (by simp) (by simp), rfl, hB.2.trans ((kp_drewN _ _).mono (by simp))⟩
  | false =>
    have hr : rest i false B = B.drop i := rfl
    rw [hr]
    by_cases hn0 : n < 0
    · have hB := rr_bad hR
      rw [tk_no false _ n (.inl hn0)]
      have hd : decide (n < 0) = true := by simpa using hn0
      go_enter Tryz.func106, Tryz.ntmps106
      go_wp2_with fail
      go_quiet (fail)
      go_wp2_with fail
      go_ret
      exact ⟨none, 0, 0, rfl, ⟨Sl.nil _, by intro k hk; cases hk⟩, i, true, hB.1.kept (kp_drewN _ _) (by simp) (by simp), rfl, hB.2.trans ((kp_drewN _ _).mono (by simp))⟩
    · obtain ⟨m, rfl⟩ := Int.eq_ofNat_of_zero_le (show 0 ≤ n by omega)
      have hd : decide ((m : Int) < 0) = false := by simp
      by_cases hbig : B.length - i < m
      · have hB := rr_bad hR
        rw [tk_no false _ m (.inr (by rw [List.length_drop]; omega))]
        have hd2 : decide ((B.length : Int) - (i : Int) < (m : Int)) = true := by simp; omega
        have hd3 : (B.length : Int) - (i : Int) < (m : Int) := by omega
        go_enter Tryz.func106, Tryz.ntmps106
        go_wp2_with fail
        go_quiet (fail)
        go_wp2_with fail
        go_ret
        exact ⟨none, 0, 0, rfl, ⟨Sl.nil _, by intro k hk; cases hk⟩, i, true, hB.1.kept (kp_drewN _ _) (by simp) (by simp), rfl, hB.2.trans ((kp_drewN _ _).mono (by simp))⟩
      · have hG := rr_go hR (i + m) (by omega)
        rw [rest_tk i B m (by omega)]
        have hd2 : decide ((B.length : Int) - (i : Int) < (m : Int)) = false := by simp; omega
        have hd3 : ¬ (B.length : Int) - (i : Int) < (m : Int) := by omega
        go_enter Tryz.func106, Tryz.ntmps106
        go_wp2_with fail
        go_quiet (fail)
        go_wp2_with fail
        have G : RR ((w.drewN nq).setCell ⟨q, 1, none⟩ (.int .i64 ((i : Int) + (m : Int)))) q (.slice ao B.length c) (i + m) false B ∧ Kp [q] w ((w.drewN nq).setCell ⟨q, 1, none⟩ (.int .i64 ((i : Int) + (m : Int)))) := by
          have e : ((i + m : Nat) : Int) = (i : Int) + (m : Int) := by omega
          rw [← e]
          exact ⟨hG.1.kept (kp_drewN _ nq) (by simp) (by simp), hG.2.trans ((kp_drewN _ nq).mono (by simp))⟩
        clear hG hc0 hc1 hc2 hf1 hf2 hd hd2 hd3 hR hr
        generalize (w.drewN nq).setCell ⟨q, 1, none⟩ (.int .i64 ((i : Int) + (m : Int))) = W at G ⊢
        obtain ⟨gR, gK⟩ := G
        obtain ⟨hc0, hc1, hc2⟩ := cell_of_three gR.1
        have hc1' : W.cell? ⟨q, 1, none⟩ = some (.int .i64 ((i : Int) + (m : Int))) := by rw [hc1]; rfl
        have hq := lt_of_block gR.1
        have hlo : (i : Int) + (m : Int) ≤ (c : Int) := by omega
        have h2' : (c : Int) ≤ 9223372036854775807 := by unfold maxLen at h2; omega
        have hw1 : IntKind.i64.wrap ((i : Int) + (m : Int) - (m : Int)) = i := by simp [IntKind.wrap, IntKind.signed, IntKind.bits]; omega
        have hw2 : IntKind.i64.wrap (i : Int) = i := by simp [IntKind.wrap, IntKind.signed, IntKind.bits]; omega
        have hne1 := World.new_ne W ⟨q, 0, none⟩ hc0
        have hne2 := World.new_ne W ⟨q, 1, none⟩ hc1
        obtain ⟨X, hX⟩ : ∃ X, X = if c = i then ao else ao.map (·.add i) := ⟨_, rfl⟩
        obtain ⟨cs, hcs⟩ : ∃ cs, cs = (B.drop i).take m := ⟨_, rfl⟩
        have hcl : cs.length ≤ 140737488355328 := by rw [hcs, List.length_take, List.length_drop]; omega
        have hS : Sl W (.slice X m (c - i)) cs := by
          rw [hX, hcs]
          exact (gR.2.1.drop i hi).take m (by rw [List.length_drop]; omega)
        have hrs : ∀ w', (Instr.slice 22 (.slice ao B.length c) (some (.int .i64 (i : Int))) (some (.int .i64 ((i : Int) + (m : Int)))) none).run Tryz.prog w' = .ok (.slice X m (c - i)) w' := fun w' => by
          rw [run_slice_lh (P := Tryz.prog) w' 22 ao B.length c (by kernel_rfl) .i64 .i64 _ _ (by omega) (by omega) (by omega)]
          rw [hX]
          have e1 : ((i : Int) + (m : Int)).toNat = i + m := by omega
          obtain ⟨i0, hi0, hz0, hz1, hz2⟩ := info_parts Tryz.info5
          simp [sizeOf, typeInfo, show Tryz.prog.elem 22 = 5 from by kernel_rfl, sliced, e1, hi0, hz1, Result.andThen]
        have hrow0 : Row (W.alloc (.cells #[] 5)).drew W.heap.size (.slice (some ⟨W.heap.size, 0, none⟩) 0 0) [] := (World.ownsRow_made W #[] 0 (Nat.le_refl _) (by simp [maxLen]) rfl).drew
        have hSa : Sl (W.alloc (.cells #[] 5)).drew (.slice X m (c - i)) cs := hS.kept (((Kp.refl [] W).alloc _).drew) (by simp)
        have HF : Hid ((B.drop i).take m = cs) := hcs.symm
        have HS := hide hS
        have HR := hide gR
        clear hc1 hc2 h2 hX hcs hS gR
        go_region_held3 (fun w' => w'.cell? ⟨q, 0, none⟩ = some (.slice ao B.length c) ∧ w'.cell? ⟨q, 1, none⟩ = some (.int .i64 ((i : Int) + (m : Int))))
          (first
            | go_keep
            | (go_split_ands
               refine ⟨?_, ?_⟩
               · exact s1.1.cell (by assumption) (by simp [Value.ownBlock]; omega)
               · exact s1.1.cell (by assumption) (by simp [Value.ownBlock]; omega)))
          ((refine step_append_row (by rfl) (.tmp 39) (.tmp 54) (by rfl) W.heap.size _ [] (by rfl) hrow0 _ cs (by rfl) hSa (by simpa using hcl) (by simp) ?_; intro ao2 m2 c2 w1 r1 s1))
        go_wp2_with fail
        go_ret
        rw [unhide HF]
        have kW : Kp [] W w1 := (((Kp.refl [] W).alloc (.cells #[] 5)).drew).then s1.1 (fun k hk => by simp [Value.ownBlock] at hk; exact .inr (by omega))
        exact ⟨ao2, m2, c2, rfl, ⟨by simpa using r1.sl, fun k hk => Nat.le_trans gK.size (World.ownsRow.lt r1 k hk).1⟩, i + m, false, (unhide HR).kept kW (by simp) (by simp), rfl, gK.trans (kW.mono (by simp))⟩

theorem rest_bs {i : Nat} {bad : Bool} {B : List Int} (h : Bs B) : Bs (rest i bad B) := by
  unfold rest; split
  · intro b hb; cases hb
  · exact h.drop _

set_option maxHeartbeats 400000 in
theorem rnumb_any (q : Nat) (v : Value) (i : Nat) (bad : Bool) (B : List Int) (n : Nat) (w : World) (hR : RR w q v i bad B) (hb : B.length ≤ 140737488355328) (h4 : n ≤ 4) (hB : Bs B) :
    Calls Tryz.prog 63 #[.pointer (some ⟨q, 0, none⟩), .int .i64 n] w fun e w' => e = .returned (.int .u32 (val (tk bad (rest i bad B) n).1)) ∧ RLeft w q v B (tk bad (rest i bad B) n).2 w' := by
  have hBc : Bs (tk bad (rest i bad B) n).1 := tk_bs1 (rest_bs hB)
  have hl4 : (tk bad (rest i bad B) n).1.length ≤ 4 := Nat.le_trans tk_len1 h4
  obtain ⟨cs, hcs⟩ : ∃ cs, cs = (tk bad (rest i bad B) n).1 := ⟨_, rfl⟩
  go_enter Tryz.func63, Tryz.ntmps63
  go_wp2_with fail
  refine (rraw_any q v i bad B n _ hR hb (by omega)).mono ?_
  rintro e w1 ⟨ao, m, c, rfl, hO, hL⟩
  rw [← hcs] at hO hBc hl4
  have HC := hide hcs
  have HL := hide hL
  have hS := hO.1
  clear hcs hL hR hO
  obtain ⟨ao', c', he, hS1, hS2, hS3, hS4⟩ := hS
  injection he with e1 e2 e3
  subst e1 e2 e3
  go_wp2_with fail
  go_loop [5, 12] (fun x j => ∃ k : Nat, k ≤ cs.length ∧ j = .int .i64 k ∧ x = .int .u32 (val (cs.take k))) (fun _ j => cs.length - (intOf j).toNat)
  case atStart => exact ⟨0, Nat.zero_le _, rfl, rfl⟩
  case round =>
    obtain ⟨k, hk, rfl, rfl⟩ := hrel
    by_cases hlt : k < cs.length
    · have hSl : Sl w1 (.slice ao cs.length c) cs := ⟨ao, c, rfl, hS1, hS2, hS3, hS4⟩
      obtain ⟨b, off, rfl, _, hcell⟩ := hSl.at2 (by omega)
      have hc := hcell k hlt
      have hb1 := hBc cs[k] (List.getElem_mem hlt)
      have hvb := val_bd (cs.take k) (hBc.take k)
      have hlen : (cs.take k).length ≤ 3 := by simp; omega
      have hv1 := val_small (cs.take k) (hBc.take k) hlen
      obtain ⟨x, hx⟩ : ∃ x, x = val (cs.take k) := ⟨_, rfl⟩
      obtain ⟨y, hy⟩ : ∃ y, y = cs[k] := ⟨_, rfl⟩
      have HX : Hid (val (cs.take (k + 1)) = x * 256 + y) := by rw [hx, hy]; exact val_take_succ cs k hlt
      rw [← hx] at hvb hv1
      rw [← hx]
      rw [← hy] at hc hb1
      obtain ⟨hb1, hb2⟩ := hb1
      obtain ⟨hx0, _⟩ := hvb
      have hor := bits_or_byte x y hx0 hv1 hb1 hb2
      clear hx hy hlen hBc hcell hSl hS3 hS4
      go_wp2
      go_round
      case rel => exact ⟨k + 1, by omega, by go_num, by rw [HX.out]⟩
      case measure => simp [intOf]; omega
    · obtain rfl : k = cs.length := by omega
      clear hS3 hS4
      go_wp2
      go_ret
      exact ⟨congrArg (fun l => Ending.returned (.int .u32 (val l))) (unhide HC), unhide HL⟩

end Go.Proofs.YtillhpgdlmeajaaGreatDoor
