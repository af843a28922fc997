/-
  Helpers of the laws: Cut, Within; how an argument that is a row of bytes is read; what the laid table gives.
-/
import Derived.Below
import Derived.ChangeOld
import Derived.Deep.Slices
import Derived.LaidMore
import Derived.Lib.LaidTab
import Derived.Lib.SmallJoins
import Derived.OpenShut
import Derived.ProofKit
import Derived.ShutString
import Derived.Stop.Joined
import Derived.Test.YtillhpgdlmeajaaGreatDoorRows
import Derived.Test.YtillhpgdlmeajaaGreatDoorQB1
import Derived.BigCall
import Derived.Test.YtillhpgdlmeajaaGreatDoorQB2
import Derived.Lib.ConvBytes
import Derived.BigQuiet
import Derived.Deep.QuietTactic
import Derived.Test.YtillhpgdlmeajaaGreatDoorQB3
import Derived.Deep.MidRow
import Derived.Laws.ResultCell
import Derived.Laws.Rows
import Derived.Test.YtillhpgdlmeajaaGreatDoorQB4
import Derived.Lib.BitFns
import Derived.Test.YtillhpgdlmeajaaGreatDoorQB5
import Derived.Deep.RegionHeld3
import Derived.Test.YtillhpgdlmeajaaGreatDoorQB6
import Derived.Deep.LoopGhost
import Derived.Test.YtillhpgdlmeajaaGreatDoorQB7
import Derived.ArgAppend
import Derived.Deep.Upon
namespace Go.Proofs.YtillhpgdlmeajaaGreatDoor
open Go.ChangeShapes Go.WideShapes Go.ChangeAt Go.RowKit
open Go.Deep
theorem cut_any (v : Value) (bs : List Int) (n : Nat) (w : World) (h : Sl w v bs) :
    Calls Tryz.prog 21 #[v, .int .i64 n] w fun e w' => ∃ ao c, e = .returned (.slice ao (bs.take n).length c) ∧ (∀ W, Sl W v bs → Sl W (.slice ao (bs.take n).length c) (bs.take n)) ∧ w' = w := by
  obtain ⟨ao, c, rfl, h1, h2, h3, h4⟩ := h
  unfold maxLen at h2
  clear h4
  by_cases hn : n < bs.length
  · have hlt : (n : Int) < (bs.length : Int) := by omega
    have hc : (n : Int) ≤ (c : Int) := by omega
    have hT := fun W (hs : Sl W (.slice ao bs.length c) bs) => hs.take n (by omega)
    have hl : (bs.take n).length = n := by simp; omega
    rw [hl]
    have HT := hide hT
    clear hT
    go_enter Tryz.func21, Tryz.ntmps21
    go_wp2
    go_ret
    exact ⟨ao, c, rfl, unhide HT, rfl⟩
  · have hlt : ¬ (n : Int) < (bs.length : Int) := by omega
    rw [List.take_of_length_le (by omega)]
    go_enter Tryz.func21, Tryz.ntmps21
    go_wp2
    go_ret
    exact ⟨ao, c, rfl, fun _ hs => hs, rfl⟩
section
variable {H : Type} {enc : TypeId × Value → H} {w : World}
theorem bytes_of_trod {v : Value} {fuel : Nat} {x : DataW H × List MemPlace} (h : DataW.trod enc Tryz.prog w 0 (fun _ => true) true fuel 22 [v] = some x) : ∃ bs, Sl w v bs ∧ Bs bs := by
  rcases open_ints Tryz.underlying22 Tryz.underlying5 (by kernel_rfl) h with ⟨hcs, _⟩ | ⟨a, len, cap, zs, hcs, _, hl, hm, hz, _, hcell, hwz⟩
  · simp only [List.cons.injEq, and_true] at hcs
    subst hcs
    exact ⟨[], Sl.nil w, fun b hb => by cases hb⟩
  · simp only [List.cons.injEq, and_true] at hcs
    subst hcs
    simp only [if_true] at hz
    have hlen : (zs.take len).length = len := by simp; omega
    refine ⟨zs.take len, ⟨some a, cap, by rw [hlen], by omega, hm, (fun h => by cases h), fun a' ha j u hu => ?_⟩, fun b hb => bounds_u8 (hwz b (List.mem_of_mem_take hb))⟩
    cases ha
    have hj : j < (zs.take len).length := by have := (List.getElem?_eq_some_iff.1 hu).1; simpa using this
    rw [hcell j (by simp at hj; omega)]
    rw [List.getElem?_map, List.getElem?_take] at hu
    split at hu
    · rw [← hu]
      have : j < zs.length := by omega
      simp [List.getD, List.getElem?_eq_getElem this]
    · cases hu
end
theorem laidOut : laidOutB Tryz.prog = true := by kernel_rfl
end Go.Proofs.YtillhpgdlmeajaaGreatDoor

/-
  Slices of ints, and rows of slices that a call owns.
-/
namespace Go.Proofs.YtillhpgdlmeajaaGreatDoor
open Go.ChangeShapes Go.WideShapes Go.ChangeAt Go.RowKit
open Go.Deep
section
variable {H : Type} {enc : TypeId × Value → H} {w : World}
theorem ints_of_trod {v : Value} {fuel : Nat} {x : DataW H × List MemPlace} (h : DataW.trod enc Tryz.prog w 0 (fun _ => true) true fuel 35 [v] = some x) : ∃ l, Ints w v l := by
  rcases open_ints Tryz.underlying35 Tryz.underlying3 (by kernel_rfl) h with ⟨hcs, _⟩ | ⟨a, len, cap, zs, hcs, _, hl, hm, hz, _, hcell, hwz⟩
  · simp only [List.cons.injEq, and_true] at hcs
    subst hcs
    exact ⟨[], none, 0, rfl, by simp [maxLen], (fun x hx => by cases hx), fun i hi => by cases hi⟩
  · simp only [List.cons.injEq, and_true] at hcs
    subst hcs
    simp only [if_true] at hz
    have hlen : (zs.take len).length = len := by simp; omega
    refine ⟨zs.take len, some a, cap, by rw [hlen], by omega, fun b hb => bounds_i64 (hwz b (List.mem_of_mem_take hb)), fun i hi => ⟨a, rfl, ?_⟩⟩
    rw [hcell i (by omega)]
    have : i < zs.length := by omega
    simp [List.getD, List.getElem?_eq_getElem this]
end
theorem run_from (ao : Option Addr) (n c p : Nat) (w : World) (h1 : p ≤ n) (h2 : n ≤ c) (h4 : ao = none → c = 0) :
    (Instr.sliceAt 22 (.slice ao n c) (some (.int .i64 p)) none none).run Tryz.prog w = .ok (.slice (if c = p then ao else ao.map (·.add p)) (n - p) (c - p)) w := by
  have e2 : (p : Int) ≤ (n : Int) := by omega
  by_cases hc : c = p
  · rw [if_pos hc]
    subst hc
    simp [go_sem, e2]
  · rw [if_neg hc]
    cases ao with
    | none => have := h4 rfl; omega
    | some a => simp [go_sem, e2, hc]
end Go.Proofs.YtillhpgdlmeajaaGreatDoor

/-
  Single operations of a region that only makes memory.
-/
namespace Go.Proofs.YtillhpgdlmeajaaGreatDoor
open Go.RowKit
section
variable {P : Program} {ops : Array Oper} {o : Oper} {a : Act} {w : World} {R : Tell}
theorem grown_conv (x : Operand) (src dst e : TypeId) (bs : List Int) (ho : o.op = .convert src dst x) (hS : Sl w (a.eval x) bs) (hs : P.underlying src = some (.slice e)) (he : P.underlying e = some (.int .u8)) (hd : P.underlying dst = some .string) (hR : R (.string (strOfNums bs)) w) : grown P w R ((execOp a.eval o).run P w) := by
  refine grown_run ?_ (Kp.refl _ _) hR
  unfold execOp
  simp only [ho, Sem.run_bind, hS.conv src dst e hs he hd, Result.andThen_ok, Sem.run_pure]
end
end Go.Proofs.YtillhpgdlmeajaaGreatDoor

/-
  Plain facts on the four bytes of a number: they make the number, and they stand in order as the numbers do.
-/
namespace Go.Proofs.YtillhpgdlmeajaaGreatDoor
open Go.RowKit
theorem toNat_of (x : Int) (h0 : 0 ≤ x) (h1 : x ≤ 255) : ((UInt8.ofNat x.toNat).toNat : Int) = x := by
  simp; omega
theorem str_toList (bs : List Int) : (strOfNums bs).toList = bs.map fun n => UInt8.ofNat n.toNat := by
  rw [ByteArray.toList_eq]; rfl
theorem of_eq (x y : Int) (hx : 0 ≤ x ∧ x ≤ 255) (hy : 0 ≤ y ∧ y ≤ 255) : (UInt8.ofNat x.toNat = UInt8.ofNat y.toNat) ↔ x = y := by
  constructor
  · intro h
    have := toNat_of x hx.1 hx.2
    have := toNat_of y hy.1 hy.2
    rw [h] at *
    omega
  · intro h; rw [h]
theorem str_inj (bs cs : List Int) (hb : Bs bs) (hc : Bs cs) (h : (strOfNums bs).toList = (strOfNums cs).toList) : bs = cs := by
  rw [str_toList, str_toList] at h
  induction bs generalizing cs with
  | nil => cases cs with
    | nil => rfl
    | cons c cs => simp at h
  | cons b bs ih => cases cs with
    | nil => simp at h
    | cons c cs =>
      simp only [List.map_cons, List.cons.injEq] at h
      rw [(of_eq b c (hb b (by simp)) (hc c (by simp))).1 h.1, ih cs (fun x hx => hb x (by simp [hx])) (fun x hx => hc x (by simp [hx])) h.2]
theorem str_beq (bs cs : List Int) (hb : Bs bs) (hc : Bs cs) : ((strOfNums bs).toList == (strOfNums cs).toList) = decide (bs = cs) := by
  rw [Bool.eq_iff_iff]
  simp only [beq_iff_eq, decide_eq_true_eq]
  exact ⟨str_inj bs cs hb hc, fun h => by rw [h]⟩
end Go.Proofs.YtillhpgdlmeajaaGreatDoor

/-
  A string turned into bytes: it makes memory, and reads as the string's bytes; strings and the lists of their bytes.
-/
namespace Go.Proofs.YtillhpgdlmeajaaGreatDoor
open Go.RowKit
theorem nums_bs (S : ByteArray) : Bs (nums S) := by
  intro b hb
  obtain ⟨x, _, rfl⟩ := List.mem_map.1 hb
  have := x.toNat_lt
  omega
end Go.Proofs.YtillhpgdlmeajaaGreatDoor

/-
  Chapter 9 as plain functions: which names and manifests may be, a manifest as bytes, bytes as a manifest; that what is written is read, that what is read is written so, that what is cut off or has more behind it is none.
-/
namespace Go.Proofs.YtillhpgdlmeajaaGreatDoor
open Go.RowKit
def lowP (ns : List Int) : Bool := ns.all fun b => decide (97 ≤ b) && decide (b ≤ 122)
def nameP (ns : List Int) : Bool := decide (1 ≤ ns.length) && decide (ns.length ≤ 20) && lowP ns
def encM (m : Mf) : List Int := [77] ++ (be2 (nums m.s).length ++ nums m.s) ++ be4 m.v ++ m.f ++ (be2 m.n.length ++ m.n)
theorem nameP_len {ns : List Int} (h : nameP ns = true) : 1 ≤ ns.length ∧ ns.length ≤ 20 := by
  unfold nameP at h
  simp only [Bool.and_eq_true, decide_eq_true_eq] at h
  exact h.1
theorem encM_len (m : Mf) : (encM m).length = 9 + (nums m.s).length + m.f.length + m.n.length := by
  unfold encM be2 be4
  simp only [List.length_append, List.length_cons, List.length_nil]
  omega
theorem encM_bs (m : Mf) (h : m.ok) : Bs (encM m) := by
  unfold encM
  exact ((((Bs.append (fun b hb => by simp at hb; omega) ((be2_bs _).append (nums_bs _))).append (be4_bs _)).append h.f).append ((be2_bs _).append h.n))
end Go.Proofs.YtillhpgdlmeajaaGreatDoor

/-
  Chapter 15 as plain functions: items each once, their numbers, a batch as a record, what a journal's records hold.
-/
namespace Go.Proofs.YtillhpgdlmeajaaGreatDoor
open Go.RowKit
open Go.Proofs
theorem gatU_nodup {rs : List (List Int)} : ∀ {l m : List (List Int)}, l.Nodup → gatU l rs = some m → m.Nodup := by
  induction rs with
  | nil => intro l m h e; simp only [gatU, Option.some.injEq] at e; exact e ▸ h
  | cons r rs ih =>
    intro l m h e
    simp only [gatU] at e
    split at e
    · cases e
    · split at e
      · rename_i hn; exact ih hn e
      · cases e
theorem gatU_pre {rs : List (List Int)} : ∀ {l m : List (List Int)}, gatU l rs = some m → ∃ t, m = l ++ t := by
  induction rs with
  | nil => intro l m e; simp only [gatU, Option.some.injEq] at e; exact ⟨[], by simp [e]⟩
  | cons r rs ih =>
    intro l m e
    simp only [gatU] at e
    split at e
    · cases e
    · split at e
      · obtain ⟨t, ht⟩ := ih e; exact ⟨_, by rw [ht, List.append_assoc]⟩
      · cases e
end Go.Proofs.YtillhpgdlmeajaaGreatDoor

/-
  The contracts of the reference reader over this seat's program: Raw, Number, Bytes, End, Left, by the same plain function of what is left as the program's own reader.
-/
namespace Go.Proofs.YtillhpgdlmeajaaGreatDoor
open Go.RowKit
theorem cell_of_three {w : World} {b : Nat} {v u x : Value} {t : TypeId} (h : w.heap[b]? = some (.cells #[v, u, x] t (0, 0))) : w.cell? ⟨b, 0, none⟩ = some v ∧ w.cell? ⟨b, 1, none⟩ = some u ∧ w.cell? ⟨b, 2, none⟩ = some x :=
  ⟨by rw [cell_of_row w b 0 _ t _ h]; rfl, by rw [cell_of_row w b 1 _ t _ h]; rfl, by rw [cell_of_row w b 2 _ t _ h]; rfl⟩
theorem three_setCell1 {w : World} {b : Nat} {v u x y : Value} {t : TypeId} (h : w.heap[b]? = some (.cells #[v, u, x] t (0, 0))) : (w.setCell ⟨b, 1, none⟩ y).heap[b]? = some (.cells #[v, y, x] t (0, 0)) := by
  have hlt := lt_of_block h
  have h' : w.heap[b] = .cells #[v, u, x] t (0, 0) := by simpa [Array.getElem?_eq_getElem hlt] using h
  show (w.heap.modify b _)[b]? = _
  rw [Array.getElem?_eq_getElem (by simpa using hlt), Array.getElem_modify_self, h']
  rfl
theorem three_setCell2 {w : World} {b : Nat} {v u x y : Value} {t : TypeId} (h : w.heap[b]? = some (.cells #[v, u, x] t (0, 0))) : (w.setCell ⟨b, 2, none⟩ y).heap[b]? = some (.cells #[v, u, y] t (0, 0)) := by
  have hlt := lt_of_block h
  have h' : w.heap[b] = .cells #[v, u, x] t (0, 0) := by simpa [Array.getElem?_eq_getElem hlt] using h
  show (w.heap.modify b _)[b]? = _
  rw [Array.getElem?_eq_getElem (by simpa using hlt), Array.getElem_modify_self, h']
  rfl
theorem rr_bad {w : World} {q : Nat} {v : Value} {i : Nat} {bad : Bool} {B : List Int} (h : RR w q v i bad B) : RR (w.setCell ⟨q, 2, none⟩ (.bool true)) q v i true B ∧ Kp [q] w (w.setCell ⟨q, 2, none⟩ (.bool true)) := by
  have k : Kp [q] w (w.setCell ⟨q, 2, none⟩ (.bool true)) := (Kp.refl [q] w).setCell (p := ⟨q, 2, none⟩) (.inl (by simp)) _
  exact ⟨⟨three_setCell2 h.1, h.2.1.kept k (fun j hj hm => by simp only [List.mem_singleton] at hm; subst hm; exact h.2.2.1 hj), h.2.2.1, h.2.2.2⟩, k⟩
theorem rr_go {w : World} {q : Nat} {v : Value} {i : Nat} {bad : Bool} {B : List Int} (h : RR w q v i bad B) (j : Nat) (hj : j ≤ B.length) : RR (w.setCell ⟨q, 1, none⟩ (.int .i64 j)) q v j bad B ∧ Kp [q] w (w.setCell ⟨q, 1, none⟩ (.int .i64 j)) := by
  have k : Kp [q] w (w.setCell ⟨q, 1, none⟩ (.int .i64 j)) := (Kp.refl [q] w).setCell (p := ⟨q, 1, none⟩) (.inl (by simp)) _
  exact ⟨⟨three_setCell1 h.1, h.2.1.kept k (fun j hj hm => by simp only [List.mem_singleton] at hm; subst hm; exact h.2.2.1 hj), h.2.2.1, hj⟩, k⟩
theorem rest_tk (i : Nat) (B : List Int) (n : Nat) (h : i + n ≤ B.length) : tk false (B.drop i) n = ((B.drop i).take n, false, B.drop (i + n)) := by
  rw [tk_ok false _ n (by rw [List.length_drop]; omega), List.drop_drop]
set_option maxRecDepth 100000 in
set_option maxHeartbeats 2000000 in
theorem rraw_any (q : Nat) (v : Value) (i : Nat) (bad : Bool) (B : List Int) (n : Int) (w : World) (hR : RR w q v i bad B) (hb : B.length ≤ 140737488355328) (hn : -9223372036854775808 ≤ n ∧ n ≤ 9223372036854775807) :
    Calls Tryz.prog 106 #[.pointer (some ⟨q, 0, none⟩), .int .i64 n] w fun e w' => ∃ ao m c, e = .returned (.slice ao m c) ∧ Own w w' (.slice ao m c) (tk bad (rest i bad B) n).1 ∧ RLeft w q v B (tk bad (rest i bad B) n).2 w' := by
  obtain ⟨ao, c, rfl, h1, h2, h3, h4⟩ := hR.2.1
  obtain ⟨hc0, hc1, hc2⟩ := cell_of_three hR.1
  have hf := free_of_two hR.1
  have hf1 := hf 1
  have hf2 := hf 2
  have hi := hR.2.2.2
  clear hf h4
  have hi1 : (0 : Int) ≤ (i : Int) := by omega
  have hi2 : (i : Int) ≤ (B.length : Int) := by omega
  cases bad with
  | true =>
    have hB := rr_bad hR
    have ht : tk true (rest i true B) n = ([], true, []) := by
      show tk true [] n = _
      unfold tk; split <;> simp
    rw [ht]
    go_enter Tryz.func106, Tryz.ntmps106
    go_wp2_with fail
    go_quiet (fail)
    go_wp2_with fail
    go_ret
    exact ⟨none, 0, 0, rfl, ⟨Sl.nil _, by intro k hk; cases hk⟩, i, true, hB.1.kept (kp_drewN _ _) (by simp) (by simp), rfl, hB.2.trans ((kp_drewN _ _).mono (by simp))⟩
  | false =>
    have hr : rest i false B = B.drop i := rfl
    rw [hr]
    by_cases hn0 : n < 0
    · have hB := rr_bad hR
      rw [tk_no false _ n (.inl hn0)]
      have hd : decide (n < 0) = true := by simpa using hn0
      go_enter Tryz.func106, Tryz.ntmps106
      go_wp2_with fail
      go_quiet (fail)
      go_wp2_with fail
      go_ret
      exact ⟨none, 0, 0, rfl, ⟨Sl.nil _, by intro k hk; cases hk⟩, i, true, hB.1.kept (kp_drewN _ _) (by simp) (by simp), rfl, hB.2.trans ((kp_drewN _ _).mono (by simp))⟩
    · obtain ⟨m, rfl⟩ := Int.eq_ofNat_of_zero_le (show 0 ≤ n by omega)
      have hd : decide ((m : Int) < 0) = false := by simp
      by_cases hbig : B.length - i < m
      · have hB := rr_bad hR
        rw [tk_no false _ m (.inr (by rw [List.length_drop]; omega))]
        have hd2 : decide ((B.length : Int) - (i : Int) < (m : Int)) = true := by simp; omega
        have hd3 : (B.length : Int) - (i : Int) < (m : Int) := by omega
        go_enter Tryz.func106, Tryz.ntmps106
        go_wp2_with fail
        go_quiet (fail)
        go_wp2_with fail
        go_ret
        exact ⟨none, 0, 0, rfl, ⟨Sl.nil _, by intro k hk; cases hk⟩, i, true, hB.1.kept (kp_drewN _ _) (by simp) (by simp), rfl, hB.2.trans ((kp_drewN _ _).mono (by simp))⟩
      · have hG := rr_go hR (i + m) (by omega)
        rw [rest_tk i B m (by omega)]
        have hd2 : decide ((B.length : Int) - (i : Int) < (m : Int)) = false := by simp; omega
        have hd3 : ¬ (B.length : Int) - (i : Int) < (m : Int) := by omega
        go_enter Tryz.func106, Tryz.ntmps106
        go_wp2_with fail
        go_quiet (fail)
        go_wp2_with fail
        have G : RR ((w.drewN nq).setCell ⟨q, 1, none⟩ (.int .i64 ((i : Int) + (m : Int)))) q (.slice ao B.length c) (i + m) false B ∧ Kp [q] w ((w.drewN nq).setCell ⟨q, 1, none⟩ (.int .i64 ((i : Int) + (m : Int)))) := by
          have e : ((i + m : Nat) : Int) = (i : Int) + (m : Int) := by omega
          rw [← e]
          exact ⟨hG.1.kept (kp_drewN _ nq) (by simp) (by simp), hG.2.trans ((kp_drewN _ nq).mono (by simp))⟩
        clear hG hc0 hc1 hc2 hf1 hf2 hd hd2 hd3 hR hr
        generalize (w.drewN nq).setCell ⟨q, 1, none⟩ (.int .i64 ((i : Int) + (m : Int))) = W at G ⊢
        obtain ⟨gR, gK⟩ := G
        obtain ⟨hc0, hc1, hc2⟩ := cell_of_three gR.1
        have hc1' : W.cell? ⟨q, 1, none⟩ = some (.int .i64 ((i : Int) + (m : Int))) := by rw [hc1]; rfl
        have hq := lt_of_block gR.1
        have hlo : (i : Int) + (m : Int) ≤ (c : Int) := by omega
        have h2' : (c : Int) ≤ 9223372036854775807 := by unfold maxLen at h2; omega
        have hw1 : IntKind.i64.wrap ((i : Int) + (m : Int) - (m : Int)) = i := by simp [IntKind.wrap, IntKind.signed, IntKind.bits]; omega
        have hw2 : IntKind.i64.wrap (i : Int) = i := by simp [IntKind.wrap, IntKind.signed, IntKind.bits]; omega
        have hne1 := World.new_ne W ⟨q, 0, none⟩ hc0
        have hne2 := World.new_ne W ⟨q, 1, none⟩ hc1
        obtain ⟨X, hX⟩ : ∃ X, X = if c = i then ao else ao.map (·.add i) := ⟨_, rfl⟩
        obtain ⟨cs, hcs⟩ : ∃ cs, cs = (B.drop i).take m := ⟨_, rfl⟩
        have hcl : cs.length ≤ 140737488355328 := by rw [hcs, List.length_take, List.length_drop]; omega
        have hS : Sl W (.slice X m (c - i)) cs := by
          rw [hX, hcs]
          exact (gR.2.1.drop i hi).take m (by rw [List.length_drop]; omega)
        have hrs : ∀ w', (Instr.slice 22 (.slice ao B.length c) (some (.int .i64 (i : Int))) (some (.int .i64 ((i : Int) + (m : Int)))) none).run Tryz.prog w' = .ok (.slice X m (c - i)) w' := fun w' => by
          rw [run_slice_lh (P := Tryz.prog) w' 22 ao B.length c (by kernel_rfl) .i64 .i64 _ _ (by omega) (by omega) (by omega)]
          rw [hX]
          have e1 : ((i : Int) + (m : Int)).toNat = i + m := by omega
          obtain ⟨i0, hi0, hz0, hz1, hz2⟩ := info_parts Tryz.info5
          simp [sizeOf, typeInfo, show Tryz.prog.elem 22 = 5 from by kernel_rfl, sliced, e1, hi0, hz1, Result.andThen]
        have hrow0 : Row (W.alloc (.cells #[] 5)).drew W.heap.size (.slice (some ⟨W.heap.size, 0, none⟩) 0 0) [] := (World.ownsRow_made W #[] 0 (Nat.le_refl _) (by simp [maxLen]) rfl).drew
        have hSa : Sl (W.alloc (.cells #[] 5)).drew (.slice X m (c - i)) cs := hS.kept (((Kp.refl [] W).alloc _).drew) (by simp)
        have HF : Hid ((B.drop i).take m = cs) := hcs.symm
        have HS := hide hS
        have HR := hide gR
        clear hc1 hc2 h2 hX hcs hS gR
        go_region_held3 (fun w' => w'.cell? ⟨q, 0, none⟩ = some (.slice ao B.length c) ∧ w'.cell? ⟨q, 1, none⟩ = some (.int .i64 ((i : Int) + (m : Int))))
          (first
            | go_keep
            | (go_split_ands
               refine ⟨?_, ?_⟩
               · exact s1.1.cell (by assumption) (by simp [Value.ownBlock]; omega)
               · exact s1.1.cell (by assumption) (by simp [Value.ownBlock]; omega)))
          ((refine step_append_row (by rfl) (.tmp 39) (.tmp 54) (by rfl) W.heap.size _ [] (by rfl) hrow0 _ cs (by rfl) hSa (by simpa using hcl) (by simp) ?_; intro ao2 m2 c2 w1 r1 s1))
        go_wp2_with fail
        go_ret
        rw [unhide HF]
        have kW : Kp [] W w1 := (((Kp.refl [] W).alloc (.cells #[] 5)).drew).then s1.1 (fun k hk => by simp [Value.ownBlock] at hk; exact .inr (by omega))
        exact ⟨ao2, m2, c2, rfl, ⟨by simpa using r1.sl, fun k hk => Nat.le_trans gK.size (World.ownsRow.lt r1 k hk).1⟩, i + m, false, (unhide HR).kept kW (by simp) (by simp), rfl, gK.trans (kW.mono (by simp))⟩
theorem rest_bs {i : Nat} {bad : Bool} {B : List Int} (h : Bs B) : Bs (rest i bad B) := by
  unfold rest; split
  · intro b hb; cases hb
  · exact h.drop _
set_option maxHeartbeats 400000 in
theorem rnumb_any (q : Nat) (v : Value) (i : Nat) (bad : Bool) (B : List Int) (n : Nat) (w : World) (hR : RR w q v i bad B) (hb : B.length ≤ 140737488355328) (h4 : n ≤ 4) (hB : Bs B) :
    Calls Tryz.prog 63 #[.pointer (some ⟨q, 0, none⟩), .int .i64 n] w fun e w' => e = .returned (.int .u32 (val (tk bad (rest i bad B) n).1)) ∧ RLeft w q v B (tk bad (rest i bad B) n).2 w' := by
  have hBc : Bs (tk bad (rest i bad B) n).1 := tk_bs1 (rest_bs hB)
  have hl4 : (tk bad (rest i bad B) n).1.length ≤ 4 := Nat.le_trans tk_len1 h4
  obtain ⟨cs, hcs⟩ : ∃ cs, cs = (tk bad (rest i bad B) n).1 := ⟨_, rfl⟩
  go_enter Tryz.func63, Tryz.ntmps63
  go_wp2_with fail
  refine (rraw_any q v i bad B n _ hR hb (by omega)).mono ?_
  rintro e w1 ⟨ao, m, c, rfl, hO, hL⟩
  rw [← hcs] at hO hBc hl4
  have HC := hide hcs
  have HL := hide hL
  have hS := hO.1
  clear hcs hL hR hO
  obtain ⟨ao', c', he, hS1, hS2, hS3, hS4⟩ := hS
  injection he with e1 e2 e3
  subst e1 e2 e3
  go_wp2_with fail
  go_loop [5, 12] (fun x j => ∃ k : Nat, k ≤ cs.length ∧ j = .int .i64 k ∧ x = .int .u32 (val (cs.take k))) (fun _ j => cs.length - (intOf j).toNat)
  case atStart => exact ⟨0, Nat.zero_le _, rfl, rfl⟩
  case round =>
    obtain ⟨k, hk, rfl, rfl⟩ := hrel
    by_cases hlt : k < cs.length
    · have hSl : Sl w1 (.slice ao cs.length c) cs := ⟨ao, c, rfl, hS1, hS2, hS3, hS4⟩
      obtain ⟨b, off, rfl, _, hcell⟩ := hSl.at2 (by omega)
      have hc := hcell k hlt
      have hb1 := hBc cs[k] (List.getElem_mem hlt)
      have hvb := val_bd (cs.take k) (hBc.take k)
      have hlen : (cs.take k).length ≤ 3 := by simp; omega
      have hv1 := val_small (cs.take k) (hBc.take k) hlen
      obtain ⟨x, hx⟩ : ∃ x, x = val (cs.take k) := ⟨_, rfl⟩
      obtain ⟨y, hy⟩ : ∃ y, y = cs[k] := ⟨_, rfl⟩
      have HX : Hid (val (cs.take (k + 1)) = x * 256 + y) := by rw [hx, hy]; exact val_take_succ cs k hlt
      rw [← hx] at hvb hv1
      rw [← hx]
      rw [← hy] at hc hb1
      obtain ⟨hb1, hb2⟩ := hb1
      obtain ⟨hx0, _⟩ := hvb
      have hor := bits_or_byte x y hx0 hv1 hb1 hb2
      clear hx hy hlen hBc hcell hSl hS3 hS4
      go_wp2
      go_round
      case rel => exact ⟨k + 1, by omega, by go_num, by rw [HX.out]⟩
      case measure => simp [intOf]; omega
    · obtain rfl : k = cs.length := by omega
      clear hS3 hS4
      go_wp2
      go_ret
      exact ⟨congrArg (fun l => Ending.returned (.int .u32 (val l))) (unhide HC), unhide HL⟩
end Go.Proofs.YtillhpgdlmeajaaGreatDoor

/-
  The reference's Record and Open; the law's lay.
-/
namespace Go.Proofs.YtillhpgdlmeajaaGreatDoor
open Go.RowKit
open Go.Proofs
set_option maxHeartbeats 400000 in
theorem jnum_any (v : Value) (bs : List Int) (n : Int) (base : Nat) (w : World) (h : Row w base v bs) (hbase : base ≤ w.heap.size) (hb : bs.length ≤ 100000000000) :
    Calls Tryz.prog 49 #[v, .int .u32 n] w fun e w' => ∃ ao m c, e = .returned (.slice ao m c) ∧ Row w' base (.slice ao m c) (bs ++ bq n) ∧ RStep w v w' (.slice ao m c) := by
  obtain ⟨cs, hcs⟩ : ∃ cs, cs = bq n := ⟨_, rfl⟩
  have hl : cs.length = 4 := by rw [hcs]; rfl
  have hsl : Sl (w.alloc (.cells #[.int .u8 (n / 16777216 % 256), .int .u8 (n / 65536 % 256), .int .u8 (n / 256 % 256), .int .u8 (n % 256)] 5)) (.slice (some ⟨w.heap.size, 0, none⟩) 4 4) cs := by
    rw [hcs]; exact Sl.block (cs := [n / 16777216 % 256, n / 65536 % 256, n / 256 % 256, n % 256]) (t := 5) (heap_alloc_new w _) (by simp [maxLen])
  rw [← hcs]
  clear hcs
  go_enter Tryz.func49, Tryz.ntmps49
  go_wp2_with (at_builtin; refine wpList_append_row rfl _ _ rfl base v bs rfl (h.kept ((Kp.refl [] w).alloc _) (by simp)) _ cs rfl hsl (by omega) (by simp; omega) ?_; intro ao m c w1 r1 s1)
  go_ret
  exact ⟨ao, m, c, rfl, r1, s1.after ((Kp.refl [] w).alloc _)⟩
/-- a step of a row that is new since w: nothing old is changed. -/
theorem RStep.kpn {w w1 w2 : World} {v v' : Value} {bs : List Int} (s : RStep w1 v w2 v') (k : Kp [] w w1) (r : Row w1 w.heap.size v bs) : Kp [] w w2 :=
  k.then s.1 (fun i hi => .inr (r.own i (by simpa [Option.mem_toList] using hi)))
set_option maxRecDepth 100000 in
set_option maxHeartbeats 2000000 in
theorem record_any (v : Value) (r : List Int) (w : World) (hS : Sl w v r) (hl : r.length ≤ 65535) :
    Calls Tryz.prog 13 #[v] w fun e w' => ∃ ao m c, e = .returned (.slice ao m c) ∧ Row w' w.heap.size (.slice ao m c) (recP r) ∧ Kp [] w w' := by
  have HS := hide (fun w' (k : Kp [] w w') => hS.kept k (by simp))
  have HR : Hid (recP r = [] ++ bq r.length ++ bq (4294967295 - r.length) ++ r) := by unfold recP; exact hide (by simp)
  have HL := hide hl
  obtain ⟨ar, cr, rfl, -⟩ := hS
  obtain ⟨n, hn⟩ : ∃ n, n = r.length := ⟨_, rfl⟩
  have hn32 : IntKind.u32.wrap (n : Int) = n := by simp [IntKind.wrap, IntKind.signed, IntKind.bits]; omega
  have hnl : (n : Int) ≤ 65535 := by omega
  have hus := uns32
  have hx := not32 n (by omega) (by omega)
  rw [← hn] at HS HR HL ⊢
  have HN := hide hn
  clear hn hl
  have H1 := hide (jnum_any (.slice none 0 0) [] n w.heap.size w ⟨rfl, .inl ⟨rfl, rfl⟩⟩ (Nat.le_refl _) (by simp))
  have R0 : Row w w.heap.size (.slice none 0 0) [] := ⟨rfl, .inl ⟨rfl, rfl⟩⟩
  have HR0 := hide R0
  clear R0
  go_enter Tryz.func13, Tryz.ntmps13
  go_wp2_with fail
  refine H1.out.mono ?_
  rintro ee w1 ⟨a1, m1, c1, rfl, R1, S1⟩
  have HK1 := hide (S1.kpn (Kp.refl [] w) HR0.out)
  have H2 := hide (jnum_any _ _ (4294967295 - (n : Int)) w.heap.size w1 R1 HK1.out.size (by simp [bq_len]))
  have HR1 := hide R1
  clear R1 S1 H1
  go_wp2_with fail
  refine H2.out.mono ?_
  rintro ee w2 ⟨a2, m2, c2, rfl, R2, S2⟩
  have HK2 := hide (S2.kpn HK1.out HR1.out)
  have HR2 := hide R2
  have hsx := HS.out w2 HK2.out
  have hlr : r.length ≤ 65535 := by have := HN.out; have := HL.out; omega
  clear R2 S2 H2
  go_wp2_with (at_builtin; refine wpList_append_row rfl (.tmp 11) (.tmp 12) rfl w.heap.size _ _ rfl HR2.out _ r rfl hsx (by simp [bq_len]; omega) HK2.out.size ?_; intro a3 m3 c3 w3 R3 S3)
  go_ret
  rw [HR.out]
  exact ⟨a3, m3, c3, rfl, R3, S3.kpn HK2.out HR2.out⟩
theorem wpList_rows {base : Nat} {wr w2 : World} {ops : Array Oper} {rest : List Oper} {o : Oper} {a : Act} {Q : Exit → Act → World → Prop} (hgd : o.guard = none) (s x : Operand)
    (ho : o.op = .call { callee := .builtin .append, args := #[s, x], argTypes := #[33, 33] }) (v : Value) (l : List (Value × List Int)) (hs : a.eval s = v) (hP : RowS wr base v l) (hbase : base ≤ wr.heap.size) (hl : l.length ≤ 1000000)
    (vx : Value) (bs : List Int) (k : Kp [] wr w2) (hr : Sl w2 vx bs) (hnew : ∀ i, vx.ownBlock = some i → wr.heap.size ≤ i) (hb : Bs bs) (hx : a.eval x = .slice (some ⟨w2.heap.size, 0, none⟩) 1 1)
    (h : ∀ ao m c w', RowS w' base (.slice ao m c) (l ++ [(vx, bs)]) → Kp v.ownBlock.toList w2 w' → wpList Tryz.prog ops Q rest (a.put o.dst (.slice ao m c)) w') : wpList Tryz.prog ops Q (o :: rest) a (w2.alloc (.cells #[vx] 22)) := by
  have k2 : Kp [] w2 (w2.alloc (.cells #[vx] 22)) := (Kp.refl [] w2).alloc _
  have hP2 := (hP.kept k).kept k2
  have hr0 := hr
  obtain ⟨ax, cx, hvx, -⟩ := hr0
  refine wpList_append_rowv hgd s x ho base v (l.map (·.1)) hs hP2.1 ⟨w2.heap.size, 0, none⟩ 1 [vx] hx ?_ ?_ ?_ ?_ ?_
  · intro j u hu
    exact World.news_of_block (heap_alloc_new w2 _) j u (by simpa using hu)
  · simp [hvx, Value.oneCell']
  · simp; omega
  · have := k.size
    simp; omega
  · intro ao m c w' r st
    refine h ao m c w' (hP2.snocJ (x := (vx, bs)) (hr.kept k2 (by simp)) hb (fun i h1 h2 => by have := hP.1.lt h2; have := hnew i h1; omega) r st) ?_
    exact (k2.mono (by simp)).trans st.1
set_option maxRecDepth 100000 in
set_option maxHeartbeats 4000000 in
theorem refopen_any (v : Value) (b : List Int) (w : World) (hS : Sl w v b) (hB : Bs b) (hl : b.length ≤ 1048576) :
    Calls Tryz.prog 62 #[v] w fun e w' => ∃ ao m c l, e = .returned (.tuple #[.slice ao m c, .int .i64 (opnP b).2.1, .bool (opnP b).2.2]) ∧ RowS w' w.heap.size (.slice ao m c) l ∧ l.map (·.2) = (opnP b).1 ∧ m = (opnP b).1.length ∧ Kp [] w w' := by
  have HS := hide (fun w' (k : Kp [] w w') => hS.kept k (by simp))
  have HB := hide hB
  obtain ⟨ab, cb, rfl, hcb, hmx, hab, -⟩ := hS
  obtain ⟨n, hn⟩ : ∃ n, n = b.length := ⟨_, rfl⟩
  rw [← hn] at HS hl hcb ⊢
  have HN := hide hn
  have hln : (n : Int) ≤ 1048576 := by omega
  have hus := uns32
  have HAb := hide hab
  have HMx := hide hmx
  clear hn hB hl hab hmx
  go_enter Tryz.func62, Tryz.ntmps62
  go_wp2_with fail
  go_loopw [5, 6] (fun o s wr => ∃ (at_ : Nat) (l : List (Value × List Int)), at_ ≤ n ∧ s = .int .i64 at_ ∧ (∃ ao c, o = .slice ao l.length c) ∧ RowS wr w.heap.size o l ∧ Kp [] w wr ∧ opnP b = (l.map (·.2) ++ (opnP (b.drop at_)).1, at_ + (opnP (b.drop at_)).2.1, (opnP (b.drop at_)).2.2)) (fun _ s _ => n - (intOf s).toNat)
  case atStart => exact ⟨0, [], by omega, rfl, ⟨_, _, rfl⟩, ⟨World.ownsRow_nil _ _ _ _, by simp⟩, Kp.refl _ _, by simp⟩
  case round =>
    obtain ⟨at_, l, hat, rfl, ⟨ao, c, rfl⟩, hP, hK, hO⟩ := hrel
    have HO := hide hO
    have HP := hide hP
    have HK := hide hK
    have hrun : ∀ W, (Instr.sliceAt 22 (.slice ab n cb) (some (.int .i64 at_)) none none).run Tryz.prog W = .ok (.slice (if cb = at_ then ab else ab.map (·.add at_)) (n - at_) (cb - at_)) W := fun W => run_from ab n cb at_ W hat hcb HAb.out
    obtain ⟨X, hX⟩ : ∃ X, X = if cb = at_ then ab else ab.map (·.add at_) := ⟨_, rfl⟩
    obtain ⟨k, hk⟩ : ∃ k, k = n - at_ := ⟨_, rfl⟩
    obtain ⟨cx, hcx⟩ : ∃ k, k = cb - at_ := ⟨_, rfl⟩
    obtain ⟨x, hx⟩ : ∃ x, x = b.drop at_ := ⟨_, rfl⟩
    rw [← hX, ← hk, ← hcx] at hrun
    have hSx : Sl wr (.slice X k cx) x := by
      have := (HS.out wr HK.out).drop at_ (by have := HN.out; omega)
      rw [← hX, ← hk, ← hcx, ← hx] at this
      exact this
    have hkx : k = x.length := by rw [hx, List.length_drop, hk, HN.out]
    have HX := hide hx
    have HKx := hide hkx
    have hkn : k + at_ = n := by omega
    have HBx : Hid (Bs x) := by rw [hx]; exact HB.out.drop _
    have HSx := hide hSx
    rw [← hx] at HO
    clear hx hkx hX hk hcx hO hP hK hSx
    by_cases h8 : k < 8
    · have h8' : (k : Int) < 8 := by omega
      go_wp2_with fail
      go_ret3
      have e := opnP_short (b := x) (by have := HKx.out; omega)
      have eb := HO.out
      rw [e] at eb
      exact ⟨ao, _, c, l, by rw [eb]; rfl, HP.out, by rw [eb]; simp, by rw [eb]; simp, HK.out⟩
    · have h8' : ¬ (k : Int) < 8 := by omega
      obtain ⟨q, hq⟩ : ∃ q, q = wr.heap.size := ⟨_, rfl⟩
      obtain ⟨w1, hw1⟩ : ∃ w1, w1 = wr.alloc (.cells #[.slice X k cx, .int .i64 0, .bool false] 125) := ⟨_, rfl⟩
      have K1 : Kp [] wr w1 := by rw [hw1]; exact (Kp.refl [] wr).alloc _
      have hS1 := HSx.out.kept K1 (by simp)
      have hrr : RR w1 q (.slice X k cx) 0 false x := by
        refine ⟨by rw [hw1, hq]; exact heap_alloc_new wr _, hS1, fun e => ?_, Nat.zero_le _⟩
        by_cases hx0 : x = []
        · have := HKx.out; rw [hx0] at this; simp at this; omega
        · obtain ⟨b', off, rfl, -, hcl⟩ := HSx.out.at2 (by omega)
          have hpos : 0 < x.length := List.length_pos_iff.2 hx0
          have := World.block_lt_of_cell? _ _ (hcl 0 hpos)
          have e' : b' = q := by simpa [Value.ownBlock] using e
          simp at this
          omega
      have HK1 := hide K1
      have HQ := hide hq
      have HW1 := hide hw1
      have hxk : x.length = k := HKx.out.symm
      have HN1 := hide (rnumb_any q _ 0 false x 4 w1 hrr (by omega) (by omega) HBx.out)
      have et : tk false (rest 0 false x) (4 : Nat) = (x.take 4, false, x.drop 4) := by
        show tk false (x.drop 0) (4 : Nat) = _
        rw [List.drop_zero, tk_ok false x 4 (by omega)]
      rw [et] at HN1
      obtain ⟨a, ha⟩ : ∃ a, a = num1 x := ⟨_, rfl⟩
      have ha' : val (x.take 4) = a := ha.symm
      simp only [ha'] at HN1
      have hab : 0 ≤ a ∧ a ≤ 4294967295 := by
        have h1 := val_bd (x.take 4) (HBx.out.takes 4)
        have h2 : (x.take 4).length = 4 := by simp; omega
        rw [h2, ha'] at h1
        omega
      obtain ⟨m, rfl⟩ := Int.eq_ofNat_of_zero_le hab.1
      have hx32 := not32 m hab.1 hab.2
      have hw64 : IntKind.i64.wrap (m : Int) = m := by simp [IntKind.wrap, IntKind.signed, IntKind.bits]; omega
      have HA := hide ha
      have HM := hide hab
      have hk8 : IntKind.u32.wrap ((k : Int) - 8) = (k : Int) - 8 := by simp [IntKind.wrap, IntKind.signed, IntKind.bits]; omega
      have hk8' : IntKind.i64.wrap ((k : Int) - 8) = (k : Int) - 8 := by simp [IntKind.wrap, IntKind.signed, IntKind.bits]; omega
      clear ha ha' hab et hrr hS1 K1 hq hw1 hxk
      go_wp2_with fail
      rw [← HW1.out, ← HQ.out]
      refine HN1.out.mono ?_
      rintro ee w2 ⟨rfl, i2, bad2, R2, e2, K2⟩
      have e2a : bad2 = false := (congrArg Prod.fst e2).symm
      subst e2a
      have e2b : rest i2 false x = x.drop 4 := (congrArg Prod.snd e2).symm
      have hxk : x.length = k := HKx.out.symm
      have HN2 := hide (rnumb_any q _ i2 false x 4 w2 R2 (by omega) (by omega) HBx.out)
      have et : tk false (rest i2 false x) (4 : Nat) = ((x.drop 4).take 4, false, x.drop 8) := by
        rw [e2b, tk_ok false _ 4 (by simp; omega), List.drop_drop]
      rw [et] at HN2
      obtain ⟨t, ht⟩ : ∃ t, t = num2 x := ⟨_, rfl⟩
      have ht' : val ((x.drop 4).take 4) = t := ht.symm
      simp only [ht'] at HN2
      have HT := hide ht
      have HK2 := hide K2
      clear ht ht' et e2 e2b R2 K2 HN1 hxk
      go_wp2_with fail
      refine HN2.out.mono ?_
      rintro ee w3 ⟨rfl, i3, bad3, R3, e3, K3⟩
      have e3a : bad3 = false := (congrArg Prod.fst e3).symm
      subst e3a
      have e3b : rest i3 false x = x.drop 8 := (congrArg Prod.snd e3).symm
      have HR3 := hide R3
      have HE3 := hide e3b
      have HK3 : Hid (Kp [] wr w3) := HK1.out.then (HK2.out.trans K3) (fun i hi => .inr (by simp at hi; have := HQ.out; omega))
      clear R3 e3 e3b K3 HN2
      by_cases hbad : t = 4294967295 - (m : Int) ∧ m ≤ 65535
      · obtain ⟨rfl, hm⟩ := hbad
        have hm' : ¬ (65535 : Int) < m := by omega
        have hm'' : (m : Int) ≤ 65535 := by omega
        by_cases htn : k - 8 < m
        · have htn' : (k : Int) - 8 < m := by omega
          go_wp2_with fail
          go_ret3
          have e := opnP_torn (b := x) (by have := HKx.out; omega) (by rw [← HT.out, ← HA.out]) (by rw [← HA.out]; omega) (by rw [← HA.out]; have := HKx.out; omega)
          have eb := HO.out
          rw [e] at eb
          exact ⟨ao, _, c, l, by rw [eb]; rfl, HP.out.kept HK3.out, by rw [eb]; simp, by rw [eb]; simp, HK.out.trans HK3.out⟩
        · have htn' : ¬ (k : Int) - 8 < m := by omega
          have HRw := hide (rraw_any q _ i3 false x m w3 HR3.out (by have := HKx.out; omega) (by omega))
          have et : tk false (rest i3 false x) (m : Int) = ((x.drop 8).take m, false, x.drop (8 + m)) := by
            rw [HE3.out, tk_ok false _ m (by have := HKx.out; simp; omega), List.drop_drop]
          rw [et] at HRw
          clear et
          go_wp2_with fail
          refine HRw.out.mono ?_
          rintro ee w4 ⟨a4, m4, c4, rfl, ⟨S4, o4⟩, i4, b4, -, -, K4⟩
          have HS4 := hide S4
          have HK4 : Hid (Kp [] wr w4) := HK3.out.then K4 (fun i hi => .inr (by simp at hi; have := HQ.out; omega))
          have ho4 : ∀ i, (Value.slice a4 m4 c4).ownBlock = some i → wr.heap.size ≤ i := fun i hi => Nat.le_trans HK3.out.size (o4 i hi)
          have hll : l.length ≤ 1000000 := by
            have h1 := opnP_count b
            rw [HO.out] at h1
            simp only [List.length_append, List.length_map] at h1
            have := HN.out
            omega
          have hbx : Bs ((x.drop 8).take m) := (HBx.out.drop 8).takes m
          have hwa : IntKind.i64.wrap ((at_ : Int) + 8) = (at_ : Int) + 8 := by simp [IntKind.wrap, IntKind.signed, IntKind.bits]; omega
          have hwb : IntKind.i64.wrap ((at_ : Int) + 8 + (m : Int)) = (at_ : Int) + 8 + (m : Int) := by simp [IntKind.wrap, IntKind.signed, IntKind.bits]; omega
          clear S4 o4 K4 HRw
          go_wp2_with (at_builtin; refine wpList_rows (base := w.heap.size) (wr := wr) rfl (.tmp 44) (.tmp 49) rfl (.slice ao l.length c) l rfl HP.out HK.out.size hll (.slice a4 m4 c4) _ HK4.out HS4.out ho4 hbx rfl ?_; intro a6 m6 c6 w6 P6 K6)
          have hq6 : ∀ i ∈ (Value.slice ao l.length c).ownBlock.toList, w.heap.size ≤ i := fun i hi => HP.out.1.own i (by simpa [Option.mem_toList] using hi)
          have hm6 : m6 = l.length + 1 := by have := P6.1.len; simpa using this
          subst hm6
          have HP6 := hide P6
          have HK6 : Hid (Kp [] w w6) := (HK.out.trans HK4.out).then K6 (fun i hi => .inr (hq6 i hi))
          clear P6 K6 hq6 HS4 ho4 hbx
          go_wp2_with fail
          go_roundw
          case rel =>
            have hst := opnP_step b at_ (l.map (·.2)) (by rw [← HX.out]; exact HO.out) (by rw [← HX.out]; have := HKx.out; omega) (by rw [← HX.out, ← HT.out, ← HA.out]) (by rw [← HX.out, ← HA.out]; omega) (by rw [← HX.out, ← HA.out]; have := HKx.out; omega)
            rw [← HX.out, ← HA.out, Int.toNat_natCast] at hst
            refine ⟨at_ + (8 + m), _, by omega, ?_, ⟨a6, c6, ?_⟩, HP6.out, HK6.out, ?_⟩
            · congr 1; omega
            · simp
            · rw [hst]; simp
          case measure =>
            simp [intOf]; omega
      · by_cases hb1 : t = 4294967295 - (m : Int)
        · have hm' : (65535 : Int) < m := by
            have : ¬ m ≤ 65535 := fun h => hbad ⟨hb1, h⟩
            omega
          have HBD : Hid (opnP x = ([], 0, false)) := opnP_bad (by have := HKx.out; omega) (.inr (by rw [← HA.out]; exact hm'))
          subst hb1
          clear hbad
          go_wp2_with fail
          go_ret3
          have eb := HO.out
          rw [HBD.out] at eb
          exact ⟨ao, _, c, l, by rw [eb]; rfl, HP.out.kept HK3.out, by rw [eb]; simp, by rw [eb]; simp, HK.out.trans HK3.out⟩
        · have HBD : Hid (opnP x = ([], 0, false)) := opnP_bad (by have := HKx.out; omega) (.inl (by rw [← HA.out, ← HT.out]; exact hb1))
          clear hbad
          go_wp2_with fail
          go_ret3
          have eb := HO.out
          rw [HBD.out] at eb
          exact ⟨ao, _, c, l, by rw [eb]; rfl, HP.out.kept HK3.out, by rw [eb]; simp, by rw [eb]; simp, HK.out.trans HK3.out⟩
end Go.Proofs.YtillhpgdlmeajaaGreatDoor

/-
  Manifests (api.Manifest) as values and in memory: loaded, stored, handed back.
-/
namespace Go.Proofs.YtillhpgdlmeajaaGreatDoor
open Go.RowKit
open Go.Proofs
theorem Tryz.manSize : (Tryz.prog.info? 160).map (·.size) = some 4 := by kernel_rfl
section
variable {w : World} {g : Nat} {x y z u : Value} {fr : Nat × Nat}
theorem cell_man {t : TypeId} (hg : w.heap[g]? = some (.cells #[x, y, z, u] t fr)) : w.cell? ⟨g, 0, none⟩ = some x ∧ w.cell? ⟨g, 1, none⟩ = some y ∧ w.cell? ⟨g, 2, none⟩ = some z ∧ w.cell? ⟨g, 3, none⟩ = some u := by
  refine ⟨?_, ?_, ?_, ?_⟩ <;> rw [cell_of_row w g _ _ _ _ hg] <;> rfl
theorem results_man1 {fn : Func} {p : Tmp} (h : fn.results = #[.cell p 160]) (tmps : Array Value) (hp : tmps.getD p undef = .pointer (some ⟨g, 0, none⟩)) (hg : w.heap[g]? = some (.cells #[x, y, z, u] 160 fr)) : (results fn tmps).run Tryz.prog w = .ok (.agg #[x, y, z, u]) w :=
  results_cell_row h tmps w g 160 #[x, y, z, u] fr _ hp hg Tryz.underlying160 rfl Tryz.manSize
theorem kp_mcells (w : World) (g : Nat) : ∀ (l : List Value) (o : Nat) (w1 : World), Kp [g] w w1 → Kp [g] w (w1.setCells g o l)
  | [], _, _, h => h
  | x :: l, o, w1, h => kp_mcells w g l (o + 1) _ (h.setCell (p := ⟨g, o, none⟩) (.inl (by simp)) x)
theorem wpList_store_man {ops : Array Oper} {rest : List Oper} {o : Oper} {a : Act} {Q : Exit → Act → World → Prop} (hgd : o.guard = none) (p r : Operand) (ho : o.op = .store 160 p r) (g : Nat) (hp : a.eval p = .pointer (some ⟨g, 0, none⟩)) (x0 y0 z0 u0 x y z u : Value)
    (hg : w.heap[g]? = some (.cells #[x0, y0, z0, u0] 160 (0, 0))) (hu : a.eval r = .agg #[x, y, z, u]) (h1 : x.oneCell' = true ∧ y.oneCell' = true ∧ z.oneCell' = true ∧ u.oneCell' = true)
    (h : ∀ w', w'.heap[g]? = some (.cells #[x, y, z, u] 160 (0, 0)) → Kp [g] w w' → wpList Tryz.prog ops Q rest (a.put o.dst undef) w') : wpList Tryz.prog ops Q (o :: rest) a w := by
  refine wpList_store_mid hgd 160 p r ho g 0 #[x, y, z, u] hp hu ?_ (by simpa using Tryz.manSize) (all_oneCell_toArray (by simp [h1])) ?_
  · intro j hj
    simp only [List.size_toArray, List.length_cons, List.length_nil] at hj
    rw [Nat.zero_add, cell_of_row w g j _ _ _ hg]
    refine ⟨?_, frozen_of_row w g j _ _ hg⟩
    rcases (by omega : j = 0 ∨ j = 1 ∨ j = 2 ∨ j = 3) with rfl | rfl | rfl | rfl <;> rfl
  · refine h _ ?_ (kp_mcells w g _ 0 w (Kp.refl _ _))
    simp only [World.setCells]
    have e1 := heap_setCell_same w g 0 _ _ x hg
    have e2 := heap_setCell_same (w.setCell ⟨g, 0, none⟩ x) g 1 _ _ y e1
    have e3 := heap_setCell_same ((w.setCell ⟨g, 0, none⟩ x).setCell ⟨g, 1, none⟩ y) g 2 _ _ z e2
    have e4 := heap_setCell_same (((w.setCell ⟨g, 0, none⟩ x).setCell ⟨g, 1, none⟩ y).setCell ⟨g, 2, none⟩ z) g 3 _ _ u e3
    simpa using e4
end
/-- The value is the manifest m. -/
def MvT (m : Mf) : Tell := fun v w => MV w v m
theorem stable_mv (m : Mf) : Tell.stable (MvT m) := fun _ _ _ k h => h.kept k
section
variable {o : Oper} {a : Act} {w : World} {R : Tell} {g : Nat} {x y z u : Value} {fr : Nat × Nat}
theorem man_fld (g j : Nat) (hj : j < 4) (w : World) : (Instr.fieldAt 160 (.pointer (some ⟨g, 0, none⟩)) j).run Tryz.prog w = .ok (.pointer (some ⟨g, j, none⟩)) w := by
  rcases (by omega : j = 0 ∨ j = 1 ∨ j = 2 ∨ j = 3) with rfl | rfl | rfl | rfl <;> simp [go_sem]
theorem grown_mfld (p : Operand) (j : Nat) (hj : j < 4) (ho : o.op = .fieldAddr 160 p j) (hp : a.eval p = .pointer (some ⟨g, 0, none⟩)) : grown Tryz.prog w (Is (.pointer (some ⟨g, j, none⟩))) ((execOp a.eval o).run Tryz.prog w) := by
  refine grown_run ?_ (Kp.refl _ _) rfl
  unfold execOp
  simp only [ho, hp, Sem.run_bind, man_fld g j hj w, Result.andThen_ok, Sem.run_pure]
theorem grown_lds (p : Operand) (ho : o.op = .load 9 p) (j : Nat) (S : ByteArray) (hp : a.eval p = .pointer (some ⟨g, j, none⟩)) (hc : w.cell? ⟨g, j, none⟩ = some (.string S)) : grown Tryz.prog w (Is (.string S)) ((execOp a.eval o).run Tryz.prog w) := by
  refine grown_run (v := .string S) ?_ (Kp.refl _ _) rfl
  obtain ⟨ρ, hρ, _⟩ := eval_is a
  rw [hρ] at hp ⊢
  unfold execOp
  simp only [ho]
  simp [go_sem, hp, hc]
theorem grown_ldu (p : Operand) (ho : o.op = .load 103 p) (j : Nat) (i : Int) (hp : a.eval p = .pointer (some ⟨g, j, none⟩)) (hc : w.cell? ⟨g, j, none⟩ = some (.int .u32 i)) : grown Tryz.prog w (Is (.int .u32 i)) ((execOp a.eval o).run Tryz.prog w) := by
  refine grown_run (v := .int .u32 i) ?_ (Kp.refl _ _) rfl
  obtain ⟨ρ, hρ, _⟩ := eval_is a
  rw [hρ] at hp ⊢
  unfold execOp
  simp only [ho]
  simp [go_sem, hp, hc]
end
theorem man_no {S : ByteArray} {i : Int} {v u : Value} (hv : ∀ y, v ≠ .int .u8 y) (hu : ∀ y, u ≠ .int .u8 y) : ∀ x ∈ (#[Value.string S, .int .u32 i, v, u]).toList, ∀ y, x ≠ .int .u8 y := by
  intro x hx y
  rcases (by simpa using hx : x = .string S ∨ x = .int .u32 i ∨ x = v ∨ x = u) with rfl | rfl | rfl | rfl
  · simp
  · simp
  · exact hv y
  · exact hu y
theorem noBy_man {w : World} {g : Nat} {S : ByteArray} {i : Int} {a1 a2 : Option Addr} {n1 c1 n2 c2 : Nat} {t : TypeId} {fr : Nat × Nat} (hg : w.heap[g]? = some (.cells #[.string S, .int .u32 i, .slice a1 n1 c1, .slice a2 n2 c2] t fr)) : NoBy w [g] := by
  intro x hx
  obtain rfl : x = g := by simpa using hx
  exact ⟨_, _, _, hg, man_no (by simp) (by simp)⟩
end Go.Proofs.YtillhpgdlmeajaaGreatDoor

/-
  Chapter 6 as plain functions: where a row of leaves is parted, leaves, nodes, the root.
-/
namespace Go.Proofs.YtillhpgdlmeajaaGreatDoor
theorem tsplP_of {n j : Nat} (h1 : 2 ^ j < n) (h2 : n ≤ 2 * 2 ^ j) : tsplP n = 2 ^ j := by
  have hp : 1 ≤ 2 ^ j := Nat.one_le_two_pow
  rw [tsplP_more (by omega)]
  congr 1
  exact (Nat.log2_eq_iff (by omega)).2 ⟨by omega, by rw [Nat.pow_succ]; omega⟩
end Go.Proofs.YtillhpgdlmeajaaGreatDoor

/-
  The contracts of Leaf and Node, of the program and of the reference.
-/
namespace Go.Proofs.YtillhpgdlmeajaaGreatDoor
open Go.RowKit
set_option maxRecDepth 100000 in
set_option maxHeartbeats 1000000 in
theorem rleaf_any (v : Value) (bs : List Int) (r : List Int) (hr : r = tleafP bs) (w : World) (hS : Sl w v bs) (hB : Bs bs) (hl : bs.length ≤ 1000000) :
    Calls Tryz.prog 72 #[v] w fun e w' => ∃ ao m c, e = .returned (.slice ao m c) ∧ Row w' w.heap.size (.slice ao m c) r ∧ Kp [] w w' := by
  have HL := lists1 hS hB
  have HK := hide ((Kp.refl [] w).alloc (.cells #[v] 22))
  have HC := hide (reftagged_any 0 _ _ r (by rw [hr, cat1]; rfl) _ HL (by omega) (by omega) (by simp) (small1 hl))
  rw [show (w.alloc (.cells #[v] 22)).heap.size = w.heap.size + 1 by simp] at HC
  obtain ⟨ab, cb, hvb, _⟩ := hS
  obtain ⟨nb, hnb⟩ : ∃ n, n = bs.length := ⟨_, rfl⟩
  rw [← hnb] at hvb
  subst hvb
  clear hr hB hl HL hnb
  go_enter Tryz.func72, Tryz.ntmps72
  go_wp2_with fail
  refine (unhide HC).mono ?_
  rintro ee w2 ⟨ao2, m2, c2, rfl, R2, K2⟩
  have HR2 : Hid (Row w2 w.heap.size (.slice ao2 m2 c2) r) := owns_rebase R2 (fun i hi => by have := Row.own R2 i hi; omega)
  have HK2 := hide ((unhide HK).trans K2)
  clear HC HK R2 K2
  go_wp2_with fail
  go_ret
  exact ⟨ao2, m2, c2, rfl, unhide HR2, unhide HK2⟩
set_option maxRecDepth 100000 in
set_option maxHeartbeats 1000000 in
theorem rnode_any (v u : Value) (bs cs : List Int) (r : List Int) (hr : r = tnodeP bs cs) (w : World) (hS : Sl w v bs) (hB : Bs bs) (hl : bs.length ≤ 1000000) (hT : Sl w u cs) (hC : Bs cs) (hm : cs.length ≤ 1000000) :
    Calls Tryz.prog 71 #[v, u] w fun e w' => ∃ ao m c, e = .returned (.slice ao m c) ∧ Row w' w.heap.size (.slice ao m c) r ∧ Kp [] w w' := by
  have HL := lists2 hS hB hT hC
  have HK := hide ((Kp.refl [] w).alloc (.cells #[v, u] 22))
  have HC := hide (reftagged_any 1 _ _ r (by rw [hr, cat2]; rfl) _ HL (by omega) (by omega) (by simp) (small2 hl hm))
  rw [show (w.alloc (.cells #[v, u] 22)).heap.size = w.heap.size + 1 by simp] at HC
  obtain ⟨ab, cb, hvb, _⟩ := hS
  obtain ⟨nb, hnb⟩ : ∃ n, n = bs.length := ⟨_, rfl⟩
  rw [← hnb] at hvb
  subst hvb
  obtain ⟨ad, cd, hvd, _⟩ := hT
  obtain ⟨nd, hnd⟩ : ∃ n, n = cs.length := ⟨_, rfl⟩
  rw [← hnd] at hvd
  subst hvd
  clear hr hB hl hC hm HL hnb hnd
  go_enter Tryz.func71, Tryz.ntmps71
  go_wp2_with fail
  refine (unhide HC).mono ?_
  rintro ee w2 ⟨ao2, m2, c2, rfl, R2, K2⟩
  have HR2 : Hid (Row w2 w.heap.size (.slice ao2 m2 c2) r) := owns_rebase R2 (fun i hi => by have := Row.own R2 i hi; omega)
  have HK2 := hide ((unhide HK).trans K2)
  clear HC HK R2 K2
  go_wp2_with fail
  go_ret
  exact ⟨ao2, m2, c2, rfl, unhide HR2, unhide HK2⟩
end Go.Proofs.YtillhpgdlmeajaaGreatDoor

/-
  The contracts of the reference reader's Bytes and End.
-/
namespace Go.Proofs.YtillhpgdlmeajaaGreatDoor
open Go.RowKit
open Go.Proofs
set_option maxHeartbeats 400000 in
theorem rbyt_any (q : Nat) (v : Value) (i : Nat) (bad : Bool) (B : List Int) (most : Int) (w : World) (hR : RR w q v i bad B) (hb : B.length ≤ 140737488355328) (hB : Bs B) (hm0 : 0 ≤ most) :
    Calls Tryz.prog 64 #[.pointer (some ⟨q, 0, none⟩), .int .i64 most] w fun e w' => ∃ ao m c, e = .returned (.slice ao m c) ∧ Own w w' (.slice ao m c) (tkb bad (rest i bad B) most).1 ∧ RLeft w q v B (tkb bad (rest i bad B) most).2 w' := by
  have hv := val_two (tk bad (rest i bad B) 2).1 (tk_bs1 (rest_bs hB)) (@tk_len1 bad (rest i bad B) 2)
  obtain ⟨t, ht⟩ : ∃ t, t = tk bad (rest i bad B) 2 := ⟨_, rfl⟩
  have h2 : (tkb bad (rest i bad B) most) = if most < val t.1 then ([], true, []) else tk t.2.1 t.2.2 (val t.1) := by
    unfold tkb; rw [ht, show max most 0 = most from by omega]
  rw [← ht] at hv
  have HT := hide ht
  obtain ⟨x, hx⟩ : ∃ x, x = val t.1 := ⟨_, rfl⟩
  have hw64 : IntKind.i64.wrap x = x := by rw [hx]; simp [IntKind.wrap, IntKind.signed, IntKind.bits]; omega
  rw [← hx] at hv h2
  have HX := hide hx
  clear ht hx
  obtain ⟨hv0, hv1⟩ := hv
  by_cases hm : most < x
  · rw [if_pos hm] at h2
    rw [h2]
    have hx0 : 0 < x := by omega
    clear h2
    go_enter Tryz.func64, Tryz.ntmps64
    go_wp2_with fail
    refine (rnumb_any q v i bad B 2 _ hR hb (by omega) hB).mono ?_
    rintro e w1 ⟨rfl, hL⟩
    rw [show ((2 : Nat) : Int) = 2 from rfl, ← unhide HT, ← unhide HX]
    obtain ⟨j, bad', r1, _, k1⟩ := hL
    have hc2 := (cell_of_three r1.1).2.2
    have hf2 := free_of_two r1.1 2
    have hB2 := rr_bad r1
    go_wp2_with fail
    refine (rraw_any q v j true B x _ hB2.1 hb (by omega)).mono ?_
    have ht2 : tk true (rest j true B) x = ([], true, []) := by
      show tk true [] x = _
      unfold tk; split <;> simp
    rw [ht2]
    rintro e w3 ⟨ao, m, c, rfl, hO, hL3⟩
    go_wp2_with fail
    go_ret
    obtain ⟨j3, bad3, r3, e3, k3⟩ := hL3
    exact ⟨ao, m, c, rfl, ⟨hO.1, fun k hk => Nat.le_trans (k1.trans hB2.2).size (hO.2 k hk)⟩, j3, bad3, r3, e3, (k1.trans hB2.2).trans k3⟩
  · rw [if_neg hm] at h2
    rw [h2]
    clear h2
    go_enter Tryz.func64, Tryz.ntmps64
    go_wp2_with fail
    refine (rnumb_any q v i bad B 2 _ hR hb (by omega) hB).mono ?_
    rintro e w1 ⟨rfl, hL⟩
    rw [show ((2 : Nat) : Int) = 2 from rfl, ← unhide HT] at hL
    rw [show ((2 : Nat) : Int) = 2 from rfl, ← unhide HT, ← unhide HX]
    obtain ⟨j, bad', r1, e1, k1⟩ := hL
    go_wp2_with fail
    refine (rraw_any q v j bad' B x _ r1 hb (by omega)).mono ?_
    rintro e w3 ⟨ao, m, c, rfl, hO, hL3⟩
    go_wp2_with fail
    go_ret
    obtain ⟨j3, bad3, r3, e3, k3⟩ := hL3
    rw [show t.2.1 = bad' from by rw [e1], show t.2.2 = rest j bad' B from by rw [e1]]
    exact ⟨ao, m, c, rfl, ⟨hO.1, fun k hk => Nat.le_trans k1.size (hO.2 k hk)⟩, j3, bad3, r3, e3, k1.trans k3⟩
theorem rend_any (q : Nat) (v : Value) (i : Nat) (bad : Bool) (B : List Int) (w : World) (hR : RR w q v i bad B) :
    Calls Tryz.prog 66 #[.pointer (some ⟨q, 0, none⟩)] w fun e w' => e = .returned (.bool (!bad && (rest i bad B).isEmpty)) ∧ ∃ n, w' = w.drewN n := by
  obtain ⟨ao, c, rfl, h1, h2, h3, h4⟩ := hR.2.1
  obtain ⟨hc0, hc1, hc2⟩ := cell_of_three hR.1
  have hi := hR.2.2.2
  clear h4 h3 hR
  cases bad with
  | true =>
    go_enter Tryz.func66, Tryz.ntmps66
    go_wp2_with fail
    go_quiet (fail)
    go_wp2_with fail
    go_ret
    exact ⟨rfl, nq, rfl⟩
  | false =>
    have hE : (B.drop i).isEmpty = ((i : Int) == (B.length : Int)) := by
      rw [Bool.eq_iff_iff]; simp; omega
    have HE : Hid ((!false && (rest i false B).isEmpty) = ((i : Int) == (B.length : Int))) := hE
    rw [HE.out]
    clear hE HE
    go_enter Tryz.func66, Tryz.ntmps66
    go_wp2_with fail
    go_quiet (fail)
    go_wp2_with fail
    go_ret
    exact ⟨rfl, nq, rfl⟩
end Go.Proofs.YtillhpgdlmeajaaGreatDoor

/-
  The contracts of package ledger: gathered, Open.
-/
namespace Go.Proofs.YtillhpgdlmeajaaGreatDoor
open Go.RowKit
open Go.Proofs
set_option linter.unusedVariables false
theorem opnP_bs {b : List Int} (hB : Bs b) : ∀ r ∈ (opnP b).1, Bs r := by
  induction hl : b.length using Nat.strongRecOn generalizing b with
  | ind n ih =>
    subst hl
    rw [opnP_eq]
    split
    · intro r hr; cases hr
    · split
      · intro r hr; cases hr
      · split
        · intro r hr; cases hr
        · intro r hr
          rcases List.mem_cons.1 hr with rfl | hr
          · exact fun x hx => hB x (List.mem_of_mem_drop (List.mem_of_mem_take hx))
          · exact ih (b.drop (8 + (num1 b).toNat)).length (by rw [List.length_drop]; omega) (fun x hx => hB x (List.mem_of_mem_drop hx)) rfl r hr
theorem opnP_len (b : List Int) : lenU (opnP b).1 ≤ b.length := by
  induction hl : b.length using Nat.strongRecOn generalizing b with
  | ind n ih =>
    subst hl
    rw [opnP_eq]
    split
    · simp [lenU]
    · split
      · simp [lenU]
      · split
        · simp [lenU]
        · have := ih (b.drop (8 + (num1 b).toNat)).length (by rw [List.length_drop]; omega) _ rfl
          rw [List.length_drop] at this
          have e : lenU (((b.drop 8).take (num1 b).toNat) :: (opnP (b.drop (8 + (num1 b).toNat))).1) = ((b.drop 8).take (num1 b).toNat).length + lenU (opnP (b.drop (8 + (num1 b).toNat))).1 := by simp [lenU]
          simp only []
          rw [e, List.length_take, List.length_drop]
          omega
section
variable {w0 w : World} {pd pk n at_ : Nat} {dd dk dk' dd' : Dk} {f : Fps}
/-- what stands on the log's disk can't be opened. -/
theorem uopen_bad (vs : Value) (seed : List Int) (hS : Sl w vs seed) (hl : seed.length = 32) (hf : f.Ok w0 w) (hD : Dx w0 w pd dd (f 5)) (dn : dd.down = false) (da : dd.arm ≤ 0) (hK : Dx w0 w pk dk (f 6)) (kd : dk.down = false) (ka : dk.arm ≤ 0) {b : List Int} (hb : dk.bs = b) (hn : n ≤ 16) (ho : opnP b = (keyL n, at_, true)) {bd : List Int} (hbd : dd.bs = bd) (hB : Bs bd) (hlen : bd.length ≤ 100000) (hbad : ((opnP bd).2.2 && (redU (opnP bd).1).isSome) = false) :
    Calls Tryz.prog 10 #[.pointer (some ⟨pd, 0, none⟩), .pointer (some ⟨pk, 0, none⟩), vs] w fun e w' => e = .returned (.tuple #[.pointer none, .int .i64 14]) ∧ Kp [] w0 w' := by
  obtain ⟨av, cv, hvs, -⟩ := hS
  rw [hl] at hvs
  subst hvs
  have HK := hide (bf_open hK kd ka hb hn ho rfl)
  have HD := hide hD
  have HF := hide hf
  have Hdn := hide dn
  have Hda := hide da
  have Hbd := hide hbd
  have HBd := hide hB
  have HLe := hide hlen
  have HBad := hide hbad
  clear hK kd ka hb hn ho hD hf dn da hbd hB hlen hbad
  go_enter Tryz.func10, Tryz.ntmps10
  go_wp2_with fail
  refine HK.out.mono ?_
  rintro ee w1 ⟨q, rfl, F, B1, T1⟩
  have ok1 := HF.out.upd T1
  obtain ⟨T, hT, k1⟩ := T1.kp
  obtain ⟨v, N1, hv⟩ := HD.out.kept k1 ok1.kp (HF.out.apart (a := 6) (b := 5) (by decide) hT)
  have HJ := hide (open_at N1 Hdn.out Hda.out bd Hbd.out)
  clear HK B1 T1 ok1 hT k1 N1 hv
  go_wp2_with fail
  refine HJ.out.mono ?_
  rintro ee w2 (⟨ht, j, v2, al, m, cl, lv, rfl, J2, hj2, D2, P2, hl2, hm2⟩ | ⟨hf2, rfl, N2, K2⟩)
  · have hred : redU (opnP bd).1 = none := by
      have := HBad.out
      rw [ht] at this
      simpa using this
    have hml : m = lv.length := by rw [hm2, ← hl2]; simp
    have hcnt := opnP_count bd
    have HG := hide (gathered_any (.slice al m cl) lv _ hl2 w2 (lists_big P2.parts.rowS (by rw [← hml, hm2]; have := HLe.out; omega)) (opnP_bs HBd.out) (Nat.le_trans (opnP_len bd) HLe.out) (by have := HLe.out; omega) false (by rw [hred]; rfl))
    have HK2 := hide J2.nw.kp
    clear HJ ht J2 hj2 D2 P2 hl2 hm2 hred hml
    go_wp2_with fail
    refine HG.out.mono ?_
    rintro ee w3 ⟨p3, rfl, K3, -⟩
    have HK3 := hide (HK2.out.trans K3)
    clear HG K3
    go_wp2_with fail
    go_ret2
    exact ⟨rfl, HK3.out⟩
  · have HK2 := hide N2.kp
    clear HJ hf2 N2 K2
    go_wp2_with fail
    go_ret2
    exact ⟨rfl, HK2.out⟩
end
end Go.Proofs.YtillhpgdlmeajaaGreatDoor

/-
  The laws of ledger: fresh, on, Same, two new disks and a ledger on them; Add and Publish while power lasts.
-/
namespace Go.Proofs.YtillhpgdlmeajaaGreatDoor
open Go.RowKit
open Go.Proofs
set_option linter.unusedVariables false
set_option maxHeartbeats 1000000 in
theorem uon_any (vb : Value) (b : List Int) (w : World) (hS : Sl w vb b) (hB : Bs b) (hl : b.length ≤ 1048576) :
    Calls Tryz.prog 12 #[vb] w fun e w' => ∃ p v, e = .returned (.pointer (some ⟨p, 0, none⟩)) ∧ Nw w w' p v (dkOn b) := by
  have HA : Hid ((dkOn []).app b = (true, ⟨b, 0, 1048576, 0, false⟩)) := by
    have h1 := Dk.app_plain (d := dkOn []) rfl (Int.le_refl 0) b (by show ((0 + b.length : Nat) : Int) ≤ 1048576; omega)
    exact h1
  have HY : Hid ((⟨b, 0, 1048576, 0, false⟩ : Dk).sync = (true, dkOn b)) := Dk.sync_plain (d := ⟨b, 0, 1048576, 0, false⟩) rfl (Int.le_refl 0)
  have HS := hide (fun w' (k : Kp [] w w') => hS.kept k (by simp))
  have HB := hide hB
  have HF := hide (fresh_any w)
  obtain ⟨ab, cb, hvb, -⟩ := hS
  obtain ⟨nb, hnb⟩ : ∃ n, n = b.length := ⟨_, rfl⟩
  rw [← hnb] at hvb
  subst hvb
  clear hB hl hnb
  go_enter Tryz.func12, Tryz.ntmps12
  go_wp2_with fail
  refine HF.out.mono ?_
  rintro ee w1 ⟨p, rfl, N1⟩
  have HN1 := hide N1
  have HAp := hide (nw_append N1 (HS.out w1 N1.kp) HB.out true HA.out 0 rfl)
  clear HF N1
  go_wp2_with fail
  refine HAp.out.mono ?_
  rintro ee w2 ⟨rfl, v2, N2, -⟩
  have HSy := hide (nw_sync N2 true HY.out 0 rfl)
  clear HAp N2
  go_wp2_with fail
  refine HSy.out.mono ?_
  rintro ee w3 ⟨rfl, N3, -⟩
  have HN3 := hide N3
  clear HSy N3
  go_wp2_with fail
  go_ret
  exact ⟨p, v2, rfl, HN3.out⟩
section
variable {w0 w : World} {l pd pk : Nat} {S : LS} {f : Fps}
end
end Go.Proofs.YtillhpgdlmeajaaGreatDoor

/-
  append of bytes onto a slice that has no room: it only makes memory.
-/
namespace Go.Proofs.YtillhpgdlmeajaaGreatDoor
open Go.RowKit
/-- The value is a slice that reads as these bytes, and has no room behind them. -/
def Full (bs : List Int) : Tell := fun v w => (∃ a, v = .slice (some a) bs.length bs.length) ∧ Sl w v bs
theorem stable_full (bs : List Int) : Tell.stable (Full bs) := fun _ _ _ k h => ⟨h.1, h.2.kept k (by simp)⟩
end Go.Proofs.YtillhpgdlmeajaaGreatDoor

/-
  The contracts of the reference's Num and Bytes (numbers and texts behind what there is).
-/
namespace Go.Proofs.YtillhpgdlmeajaaGreatDoor
open Go.RowKit
open Go.Proofs
set_option maxHeartbeats 400000 in
theorem refnumM_any (v : Value) (bs : List Int) (n : Int) (base : Nat) (w : World) (h : Row w base v bs) (hbase : base ≤ w.heap.size) (hb : bs.length ≤ 100000000000) :
    Calls Tryz.prog 49 #[v, .int .u32 n] w fun e w' => ∃ ao m c, e = .returned (.slice ao m c) ∧ Row w' base (.slice ao m c) (bs ++ be4 n) ∧ RStep w v w' (.slice ao m c) := by
  obtain ⟨cs, hcs⟩ : ∃ cs, cs = be4 n := ⟨_, rfl⟩
  have hl : cs.length = 4 := by rw [hcs]; rfl
  have hsl : Sl (w.alloc (.cells #[.int .u8 (n / 16777216 % 256), .int .u8 (n / 65536 % 256), .int .u8 (n / 256 % 256), .int .u8 (n % 256)] 5)) (.slice (some ⟨w.heap.size, 0, none⟩) 4 4) cs := by
    rw [hcs]; exact Sl.block (cs := [n / 16777216 % 256, n / 65536 % 256, n / 256 % 256, n % 256]) (t := 5) (heap_alloc_new w _) (by simp [maxLen])
  rw [← hcs]
  clear hcs
  go_enter Tryz.func49, Tryz.ntmps49
  go_wp2_with (at_builtin; refine wpList_append_row rfl _ _ rfl base v bs rfl (h.kept ((Kp.refl [] w).alloc _) (by simp)) _ cs rfl hsl (by omega) (by simp; omega) ?_; intro ao m c w1 r1 s1)
  go_ret
  exact ⟨ao, m, c, rfl, r1, s1.after ((Kp.refl [] w).alloc _)⟩
set_option maxHeartbeats 400000 in
theorem refbytes_any (v : Value) (bs : List Int) (vx : Value) (cs : List Int) (base : Nat) (w : World) (h : Row w base v bs) (hbase : base ≤ w.heap.size) (hb : bs.length + cs.length ≤ 100000000000) (hS : Sl w vx cs) (hk : ∀ w1, Kp v.ownBlock.toList w w1 → Sl w1 vx cs) :
    Calls Tryz.prog 50 #[v, vx] w fun e w' => ∃ ao m c, e = .returned (.slice ao m c) ∧ Row w' base (.slice ao m c) (bs ++ be2 cs.length ++ cs) ∧ RStep w v w' (.slice ao m c) := by
  obtain ⟨ax, cx, rfl, hx1, hx2, hx3, _⟩ := hS
  have HK := hide hk
  clear hk
  obtain ⟨ds, hds⟩ : ∃ ds, ds = be2 cs.length := ⟨_, rfl⟩
  have hl : ds.length = 2 := by rw [hds]; rfl
  have hsl : Sl (w.alloc (.cells #[.int .u8 ((cs.length : Int) / 256 % 256), .int .u8 ((cs.length : Int) % 256)] 5)) (.slice (some ⟨w.heap.size, 0, none⟩) 2 2) ds := by
    rw [hds]; exact Sl.block (cs := [(cs.length : Int) / 256 % 256, (cs.length : Int) % 256]) (t := 5) (heap_alloc_new w _) (by simp [maxLen])
  rw [← hds]
  clear hds
  go_enter Tryz.func50, Tryz.ntmps50
  go_wp2_with (first | (at_builtin; refine wpList_append_row rfl (.tmp 5) (.tmp 13) rfl base v bs rfl (h.kept ((Kp.refl [] w).alloc _) (by simp)) _ ds rfl hsl (by omega) (by simp; omega) ?_; intro ao m c w1 r1 s1; have s1' := s1.after ((Kp.refl [] w).alloc _); have hsx := unhide HK _ s1'.1) | (at_builtin; refine wpList_append_row rfl (.tmp 14) (.tmp 15) rfl base _ _ rfl r1 _ cs rfl hsx (by rw [List.length_append]; omega) (by have := s1'.1.size; omega) ?_; intro ao2 m2 c2 w2 r2 s2))
  go_ret
  exact ⟨ao2, m2, c2, rfl, r2, s1'.trans s2⟩
/-- onto a slice without room: it only makes memory. -/
theorem refbytes_full (v : Value) (bs : List Int) (vx : Value) (cs : List Int) (w : World) (h : Full bs v w) (hb : bs.length + cs.length ≤ 100000000000) (hS : Sl w vx cs) :
    Calls Tryz.prog 50 #[v, vx] w fun e w' => ∃ ao m c, e = .returned (.slice ao m c) ∧ Row w' w.heap.size (.slice ao m c) (bs ++ be2 cs.length ++ cs) ∧ Kp [] w w' := by
  obtain ⟨i0, hi0, hz0, hz1, hz2⟩ := info_parts Tryz.info5
  obtain ⟨⟨ad, rfl⟩, hV⟩ := h
  have HS := hide hS
  obtain ⟨ax, cx, rfl, hx1, hx2, hx3, _⟩ := hS
  obtain ⟨ds, hds⟩ : ∃ ds, ds = be2 cs.length := ⟨_, rfl⟩
  have hl : ds.length = 2 := by rw [hds]; rfl
  obtain ⟨ob, hob⟩ : ∃ o : Obj, o = .cells #[.int .u8 ((cs.length : Int) / 256 % 256), .int .u8 ((cs.length : Int) % 256)] 5 := ⟨_, rfl⟩
  have K1 : Kp [] w (w.alloc ob) := (Kp.refl [] w).alloc ob
  have hsl : Sl (w.alloc ob) (.slice (some ⟨w.heap.size, 0, none⟩) 2 2) ds := by
    rw [hds, hob]; exact Sl.block (cs := [(cs.length : Int) / 256 % 256, (cs.length : Int) % 256]) (t := 5) (heap_alloc_new w _) (by simp [maxLen])
  have hnews : ∀ j u, (ds.map (Value.int .u8))[j]? = some u → (w.alloc ob).cell? ((⟨w.heap.size, 0, none⟩ : Addr).add j) = some u := by
    obtain ⟨_, _, e, _, _, _, h4⟩ := hsl
    injection e with e1 e2 e3
    exact h4 _ e1.symm
  have holds : ∀ b, some ad = some b → ∀ j u, (bs.map (Value.int .u8))[j]? = some u → (w.alloc ob).cell? (b.add j) = some u := by
    obtain ⟨_, _, e, _, _, _, h4⟩ := hV.kept K1 (by simp)
    injection e with e1 e2 e3
    intro b hb'
    exact h4 _ (by rw [← e1]; exact hb')
  have hz : (w.alloc ob).heap.size = w.heap.size + 1 := by simp
  rw [← hds]
  rw [hob] at K1 hnews holds hz
  have HK1 := hide K1
  have HZ := hide hz
  clear hds hob hsl hz
  go_enter Tryz.func50, Tryz.ntmps50
  go_wp2_with (first
    | (at_builtin; refine wpList_append_grows _ rfl (.tmp 5) (.tmp 13) 22 rfl 5 i0 (.int .u8 0) 1 1 Tryz.underlying22 hi0 hz0 hz1 hz2 rfl (by omega) (some ad) bs.length bs.length (bs.map (Value.int .u8)) rfl (fun h => by cases h) (by simp) holds ⟨w.heap.size, 0, none⟩ 2 2 (ds.map (Value.int .u8)) rfl (by simp; omega) hnews (by simp [Value.oneCell']) (by omega) (by unfold maxLen; omega) (by omega) ?_; intro v1 w1 o1 g1; have R1 : Row w1 w.heap.size v1 (bs ++ ds) := (by rw [unhide HZ] at o1; have := owns_rebase (base' := w.heap.size) o1 (fun k hk => by have := (o1.lt k hk).1; omega); unfold Row; rw [List.map_append, List.length_append, hl]; exact this); have K2 := (unhide HK1).grown g1 (by intro k hk; cases hk); obtain ⟨b1, m1, y1, hv1⟩ : ∃ b m y, v1 = .slice b m y := (by obtain ⟨b, y, e⟩ := R1.shape; exact ⟨b, _, y, e⟩); subst hv1; have hsx := (unhide HS).kept K2 (by simp))
    | (at_builtin; refine wpList_append_row rfl (.tmp 14) (.tmp 15) rfl w.heap.size _ _ rfl R1 _ cs rfl hsx (by rw [List.length_append]; omega) (by have := K2.size; omega) ?_; intro ao2 m2 c2 w2 r2 s2))
  go_ret
  exact ⟨ao2, m2, c2, rfl, r2, R1.step K2 s2⟩
end Go.Proofs.YtillhpgdlmeajaaGreatDoor

/-
  The contracts of the law package's helpers Hash and Manifest.
-/
namespace Go.Proofs.YtillhpgdlmeajaaGreatDoor
open Go.RowKit
open Go.Proofs
def nm0 : ByteArray := ⟨#[112, 117, 109, 112]⟩
def nm1 : ByteArray := ⟨#[118, 97, 108, 118, 101]⟩
def nm2 : ByteArray := ⟨#[97]⟩
def nm3 : ByteArray := ⟨#[103, 97, 117, 103, 101, 111, 102, 116, 104, 101, 108, 111, 110, 103, 101, 115, 116, 110, 97, 109]⟩
/-- one of the names. -/
def nmK (k : Nat) : ByteArray := if k = 0 then nm0 else if k = 1 then nm1 else if k = 2 then nm2 else nm3
def hashK (n : Int) : List Int := sha [98, wiP n 0 100000 % 256]
def mkM (a v f : Int) : Mf := ⟨nmK (wiP a 0 1000 % 4).toNat, 1 + wiP v 0 100000 % 9, hashK (f.tmod 4), [f % 256]⟩
theorem hashK_len (n : Int) : (hashK n).length = 32 := sha_len _
theorem hashK_bs (n : Int) : Bs (hashK n) := sha_bs _
theorem nm_name (k : Nat) : nameP (nums (nmK k)) = true := by
  unfold nmK
  split
  · decide +kernel
  · split
    · decide +kernel
    · split <;> decide +kernel
theorem nmK_size (k : Nat) : 1 ≤ (nmK k).size ∧ (nmK k).size ≤ 20 := by have := nameP_len (nm_name k); rwa [nums_len] at this
theorem mkM_ver (a v f : Int) : 1 ≤ (mkM a v f).v ∧ (mkM a v f).v ≤ 9 := by
  have h := wiP_ge v 0 100000 (by omega)
  show 1 ≤ 1 + wiP v 0 100000 % 9 ∧ 1 + wiP v 0 100000 % 9 ≤ 9
  omega
theorem mkM_ok (a v f : Int) : (mkM a v f).ok := by
  have h := mkM_ver a v f
  refine ⟨by omega, by omega, hashK_bs _, fun b hb => ?_⟩
  have : b = f % 256 := by simpa [mkM] using hb
  omega
theorem mkM_size (a v f : Int) : (mkM a v f).s.size ≤ 20 := (nmK_size _).2
theorem wrap_u8M (f : Int) : IntKind.u8.wrap f = f % 256 := by simp [IntKind.wrap, IntKind.signed, IntKind.bits]
theorem wrap_u32 {x : Int} (h0 : 0 ≤ x) (h1 : x ≤ 4294967295) : IntKind.u32.wrap x = x := by simp [IntKind.wrap, IntKind.signed, IntKind.bits]; omega
set_option maxRecDepth 100000 in
set_option maxHeartbeats 1000000 in
theorem khash_any (n : Int) (w : World) :
    Calls Tryz.prog 138 #[.int .i64 n] w fun e w' => ∃ ao m c, e = .returned (.slice ao m c) ∧ Row w' w.heap.size (.slice ao m c) (hashK n) ∧ Kp [] w w' := by
  have HW := hide (within_wi n 0 100000 w (by omega) (by omega) (by omega))
  obtain ⟨x, hx⟩ : ∃ x, x = wiP n 0 100000 := ⟨_, rfl⟩
  have hu := wrap_u8M x
  rw [← hx] at HW
  have HX := hide hx
  clear hx
  go_enter Tryz.func138, Tryz.ntmps138
  go_wp2_with fail
  refine (unhide HW).mono ?_
  rintro ee w1 ⟨rfl, hw⟩
  subst w1
  clear HW
  go_wp2_with fail
  obtain ⟨ob, hob⟩ : ∃ o : Obj, o = (.cells #[.int .u8 (x % 256)] 5) := ⟨_, rfl⟩
  have hP : Sl (w.alloc ob) (.slice (some ⟨w.heap.size, 0, none⟩) 1 1) [x % 256] := by
    rw [hob]; exact Sl.block (cs := [x % 256]) (t := 5) (fr := (0, 0)) (heap_alloc_new w _) (by simp [maxLen])
  have hPB : Bs [x % 256] := by
    intro b hb
    obtain rfl : b = x % 256 := by simpa using hb
    omega
  have Ka := (Kp.refl [] w).alloc ob
  have HL := lists1 hP hPB
  rw [show (w.alloc ob).heap.size = w.heap.size + 1 by simp] at HL
  have HK := hide (Ka.alloc (.cells #[.slice (some ⟨w.heap.size, 0, none⟩) 1 1] 22))
  rw [← hob]
  refine (reftagged_any 98 _ _ _ rfl _ HL (by omega) (by omega) (by simp) (by simp)).mono ?_
  rintro ee w2 ⟨ao2, m2, c2, rfl, R2, K2⟩
  have hr : sha (98 :: cat [(Value.slice (some ⟨w.heap.size, 0, none⟩) 1 1, [x % 256])]) = hashK n := by unfold hashK; rw [← unhide HX]; rfl
  rw [hr] at R2
  have HR2 := hide (row_new R2 (unhide HK))
  have HK2 := hide ((unhide HK).trans K2)
  clear HL HK hob R2 K2 Ka hP hPB hr hu
  go_wp2_with fail
  go_ret
  exact ⟨ao2, m2, c2, rfl, unhide HR2, unhide HK2⟩
/-- The value is the list of the four names. -/
def Str4 : Tell := fun v w => ∃ g, v = .slice (some ⟨g, 0, none⟩) 4 4 ∧ ∀ j, j < 4 → w.cell? ⟨g, j, none⟩ = some (.string (nmK j))
theorem stable_str4 : Tell.stable Str4 := fun _ _ _ k ⟨g, e, h⟩ => ⟨g, e, fun j hj => k.cell (h j hj) (by simp)⟩
/-- The value points to this string. -/
def PtS (S : ByteArray) : Tell := fun v w => ∃ g j, v = .pointer (some ⟨g, j, none⟩) ∧ w.cell? ⟨g, j, none⟩ = some (.string S)
theorem stable_pts (S : ByteArray) : Tell.stable (PtS S) := fun _ _ _ k ⟨g, j, e, h⟩ => ⟨g, j, e, k.cell h (by simp)⟩
section
variable {o : Oper} {a : Act} {w : World}
theorem grown_nm3 (ho : o.op = .slice 9 (.const (.string ⟨#[103, 97, 117, 103, 101, 111, 102, 116, 104, 101, 108, 111, 110, 103, 101, 115, 116, 110, 97, 109, 101]⟩)) none (some (.const (.int .i64 20))) none) : grown Tryz.prog w (Is (.string nm3)) ((execOp a.eval o).run Tryz.prog w) := by
  refine grown_run (v := .string nm3) ?_ (Kp.refl _ _) rfl
  obtain ⟨ρ, hρ, hc, _⟩ := eval_is a
  rw [hρ]
  unfold execOp
  simp only [ho]
  simp [go_sem, hc]
  decide +kernel
theorem grown_str4 (x : Operand) (ho : o.op = .buildSlice 109 4 #[(0, .const (.string nm0)), (1, .const (.string nm1)), (2, .const (.string nm2)), (3, x)]) (h : a.eval x = .string nm3) : grown Tryz.prog w Str4 ((execOp a.eval o).run Tryz.prog w) := by
  have G := heap_alloc_new w (.cells #[.string nm0, .string nm1, .string nm2, .string nm3] 9)
  refine grown_run (v := .slice (some ⟨w.heap.size, 0, none⟩) 4 4) (w' := w.alloc (.cells #[.string nm0, .string nm1, .string nm2, .string nm3] 9)) ?_ ((Kp.refl _ _).alloc _) ⟨_, rfl, fun j hj => ?_⟩
  · obtain ⟨ρ, hρ, hc, _⟩ := eval_is a
    rw [hρ] at h ⊢
    unfold execOp
    simp only [ho]
    simp [go_sem, hc, h]
  · rw [cell_of_row _ _ j _ _ _ G]
    rcases (by omega : j = 0 ∨ j = 1 ∨ j = 2 ∨ j = 3) with rfl | rfl | rfl | rfl <;> rfl
theorem grown_pts (s i : Operand) (k : Nat) (hk : k < 4) (ho : o.op = .indexAddr 109 s i) (h : Str4 (a.eval s) w) (hi : a.eval i = .int .i64 (k : Nat)) : grown Tryz.prog w (PtS (nmK k)) ((execOp a.eval o).run Tryz.prog w) := by
  obtain ⟨g, e, hc⟩ := h
  have hi2 : (k : Int) < 4 := by omega
  refine grown_run (v := .pointer (some ⟨g, k, none⟩)) ?_ (Kp.refl _ _) ⟨g, k, rfl, hc k hk⟩
  obtain ⟨ρ, hρ, _⟩ := eval_is a
  rw [hρ] at e hi ⊢
  unfold execOp
  simp only [ho]
  simp [go_sem, e, hi, hi2]
theorem grown_ldS (p : Operand) (S : ByteArray) (ho : o.op = .load 9 p) (h : PtS S (a.eval p) w) : grown Tryz.prog w (Is (.string S)) ((execOp a.eval o).run Tryz.prog w) := by
  obtain ⟨g, j, e, hc⟩ := h
  exact grown_lds p ho j S e hc
theorem grown_byte1 (x : Operand) (b : Int) (ho : o.op = .buildSlice 22 1 #[(0, x)]) (h : a.eval x = .int .u8 b) : grown Tryz.prog w (SlT [b]) ((execOp a.eval o).run Tryz.prog w) := by
  refine grown_run (v := .slice (some ⟨w.heap.size, 0, none⟩) 1 1) (w' := w.alloc (.cells #[.int .u8 b] 5)) ?_ ((Kp.refl _ _).alloc _) (Sl.block (cs := [b]) (t := 5) (fr := (0, 0)) (heap_alloc_new w _) (by simp [maxLen]))
  obtain ⟨ρ, hρ, _⟩ := eval_is a
  rw [hρ] at h ⊢
  unfold execOp
  simp only [ho]
  simp [go_sem, h]
theorem grown_man (x0 x1 x2 x3 : Operand) (ho : o.op = .build 160 #[(0, x0), (1, x1), (2, x2), (3, x3)]) (m : Mf) (h0 : a.eval x0 = .string m.s) (h1 : a.eval x1 = .int .u32 m.v) (h2 : Sl w (a.eval x2) m.f) (h3 : Sl w (a.eval x3) m.n) (hok : m.ok) : grown Tryz.prog w (MvT m) ((execOp a.eval o).run Tryz.prog w) := by
  obtain ⟨a2, c2, e2, r2⟩ := h2
  obtain ⟨a3, c3, e3, r3⟩ := h3
  refine grown_run (v := .agg #[.string m.s, .int .u32 m.v, .slice a2 m.f.length c2, .slice a3 m.n.length c3]) ?_ (Kp.refl _ _) ⟨a2, _, c2, a3, _, c3, rfl, ⟨a2, c2, rfl, r2⟩, ⟨a3, c3, rfl, r3⟩, hok⟩
  obtain ⟨ρ, hρ, _⟩ := eval_is a
  rw [hρ] at h0 h1 e2 e3 ⊢
  unfold execOp
  simp only [ho]
  simp [go_sem, h0, h1, e2, e3]
end
set_option maxRecDepth 100000 in
set_option maxHeartbeats 2000000 in
theorem kman_any (ia v f : Int) (w : World) :
    Calls Tryz.prog 105 #[.int .i64 ia, .int .i64 v, .int .i64 f] w fun e w' => ∃ x, e = .returned x ∧ MV w' x (mkM ia v f) ∧ Kp [] w w' := by
  have ha := wiP_ge ia 0 1000 (by omega)
  have hv := wiP_ge v 0 100000 (by omega)
  obtain ⟨k, hk⟩ : ∃ k : Nat, k = (wiP ia 0 1000 % 4).toNat := ⟨_, rfl⟩
  obtain ⟨r, hr⟩ : ∃ r, r = wiP v 0 100000 % 9 := ⟨_, rfl⟩
  have HKR : Hid ((wiP ia 0 1000).tmod 4 = (k : Int)) := hide (by rw [Int.tmod_eq_emod_of_nonneg ha.1]; omega)
  have HRR : Hid ((wiP v 0 100000).tmod 9 = r) := hide (by rw [Int.tmod_eq_emod_of_nonneg hv.1]; omega)
  have HK4 : Hid (k < 4) := hide (by omega)
  have HR9 : Hid (0 ≤ r ∧ r < 9) := hide (by omega)
  have HNM : Hid ((mkM ia v f).s = nmK k) := hide (by rw [hk]; rfl)
  have HV : Hid (1 + r = (mkM ia v f).v) := hide (by rw [hr]; rfl)
  have HZ := hide ((Kp.refl [] w).alloc (.cells #[.string ⟨#[]⟩, .int .u32 0, .slice none 0 0, .slice none 0 0] 160))
  have G0 := heap_alloc_new w (.cells #[.string ⟨#[]⟩, .int .u32 0, .slice none 0 0, .slice none 0 0] 160)
  have HG0 := hide G0
  clear ha hv hk hr G0
  go_enter Tryz.func105, Tryz.ntmps105
  go_wp2_with fail
  obtain ⟨g0, hg0⟩ : ∃ g, g = w.heap.size := ⟨_, rfl⟩
  obtain ⟨w0, hw0⟩ : ∃ w0, w0 = w.alloc (.cells #[.string ⟨#[]⟩, .int .u32 0, .slice none 0 0, .slice none 0 0] 160) := ⟨_, rfl⟩
  rw [← hw0] at HZ HG0 ⊢
  rw [← hg0] at HG0 ⊢
  have HGW := hide hg0
  clear hg0 hw0
  refine region_grow_tail 19 Tryz.mixed [Is (.string nm3), Str4, Is (.int .i64 ia), Is (.int .i64 (wiP ia 0 1000)), Is (.int .i64 k), PtS (nmK k), Is (.string (nmK k)), Is (.int .i64 v), Is (.int .i64 (wiP v 0 100000)), Is (.int .i64 r), Is (.int .i64 (1 + r)), Is (.int .u32 (1 + r)), Is (.int .i64 f), Is (.int .i64 (f.tmod 4)), SlT (hashK (f.tmod 4)), Is (.int .i64 f), Is (.int .u8 (f % 256)), SlT ([f % 256]), MvT (mkM ia v f)] [[], [(7, some 0)], [(0, none)], [(9, some 2)], [(10, some 3)], [(8, some 1), (11, some 4)], [(12, some 5)], [(1, none)], [(14, some 7)], [(15, some 8)], [(16, some 9)], [(17, some 10)], [(2, none)], [(19, some 12)], [(20, some 13)], [(2, none)], [(22, some 15)], [(23, some 16)], [(13, some 6), (18, some 11), (21, some 14), (24, some 17)]] (by kernel_rfl) ?_ ?_ ?_
  all_goals try simp only [List.take_succ_cons, List.take_zero, List.drop_succ_cons, List.drop_zero]
  · simp only [List.mem_cons, List.not_mem_nil, or_false]
    intro R hR
    rcases hR with rfl | rfl | rfl | rfl | rfl | rfl | rfl | rfl | rfl | rfl | rfl | rfl | rfl | rfl | rfl | rfl | rfl | rfl | rfl <;> first | exact stable_is _ | exact stable_str4 | exact stable_pts _ | exact stable_sl _ | exact stable_mv _
  · refine steps_cons (fun a w hk hn => ?_) ?_
    · clear hn
      refine wants_plain rfl ?_
      exact grown_nm3 rfl
    refine steps_cons (fun a w hk hn => ?_) ?_
    · have h7 : a.eval (.tmp 7) = .string nm3 := hn.1
      clear hn
      refine wants_plain rfl ?_
      exact grown_str4 (.tmp 7) rfl h7
    refine steps_cons (fun a w hk hn => ?_) ?_
    · have h0 : a.eval (.tmp 0) = .int .i64 ia := hn.1
      clear hn
      refine wants_plain rfl ?_
      exact grown_move (.tmp 0) rfl h0
    refine steps_cons (fun a w hk hn => ?_) ?_
    · have h9 : a.eval (.tmp 9) = .int .i64 ia := hn.1
      clear hn
      refine wants_plain rfl ?_
      refine grown_call (f := 20) rfl Tryz.func20 (by kernel_rfl) (by kernel_rfl) ?_
      simp only [List.map_toArray, List.map_cons, List.map_nil, h9]
      refine (within_wi ia 0 1000 w (by omega) (by omega) (by omega)).mono ?_
      rintro e w' ⟨rfl, rfl⟩
      exact ⟨_, rfl, Kp.refl _ _, rfl⟩
    refine steps_cons (fun a w hk hn => ?_) ?_
    · have h10 : a.eval (.tmp 10) = .int .i64 (wiP ia 0 1000) := hn.1
      clear hn
      refine wants_plain rfl ?_
      refine grown_run (v := .int .i64 k) ?_ (Kp.refl _ _) rfl
      obtain ⟨ρ, hρ, hc, hf, hg⟩ := eval_is a
      rw [hρ] at h10 ⊢
      simp [go_sem, hc, h10]
      exact unhide HKR
    refine steps_cons (fun a w hk hn => ?_) ?_
    · have h8 : (Str4) (a.eval (.tmp 8)) w := hn.1
      have h11 : a.eval (.tmp 11) = .int .i64 k := hn.2.1
      clear hn
      refine wants_plain rfl ?_
      exact grown_pts (.tmp 8) (.tmp 11) k (unhide HK4) rfl h8 h11
    refine steps_cons (fun a w hk hn => ?_) ?_
    · have h12 : (PtS (nmK k)) (a.eval (.tmp 12)) w := hn.1
      clear hn
      refine wants_plain rfl ?_
      exact grown_ldS (.tmp 12) _ rfl h12
    refine steps_cons (fun a w hk hn => ?_) ?_
    · have h1 : a.eval (.tmp 1) = .int .i64 v := hn.1
      clear hn
      refine wants_plain rfl ?_
      exact grown_move (.tmp 1) rfl h1
    refine steps_cons (fun a w hk hn => ?_) ?_
    · have h14 : a.eval (.tmp 14) = .int .i64 v := hn.1
      clear hn
      refine wants_plain rfl ?_
      refine grown_call (f := 20) rfl Tryz.func20 (by kernel_rfl) (by kernel_rfl) ?_
      simp only [List.map_toArray, List.map_cons, List.map_nil, h14]
      refine (within_wi v 0 100000 w (by omega) (by omega) (by omega)).mono ?_
      rintro e w' ⟨rfl, rfl⟩
      exact ⟨_, rfl, Kp.refl _ _, rfl⟩
    refine steps_cons (fun a w hk hn => ?_) ?_
    · have h15 : a.eval (.tmp 15) = .int .i64 (wiP v 0 100000) := hn.1
      clear hn
      refine wants_plain rfl ?_
      refine grown_run (v := .int .i64 r) ?_ (Kp.refl _ _) rfl
      obtain ⟨ρ, hρ, hc, hf, hg⟩ := eval_is a
      rw [hρ] at h15 ⊢
      simp [go_sem, hc, h15]
      exact unhide HRR
    refine steps_cons (fun a w hk hn => ?_) ?_
    · have h16 : a.eval (.tmp 16) = .int .i64 r := hn.1
      clear hn
      refine wants_plain rfl ?_
      refine grown_run (v := .int .i64 (1 + r)) ?_ (Kp.refl _ _) rfl
      have hr9 := unhide HR9
      obtain ⟨ρ, hρ, hc, hf, hg⟩ := eval_is a
      rw [hρ] at h16 ⊢
      simp [go_sem, hc, h16]
      exact wrap_at rfl (by omega) (by omega)
    refine steps_cons (fun a w hk hn => ?_) ?_
    · have h17 : a.eval (.tmp 17) = .int .i64 (1 + r) := hn.1
      clear hn
      refine wants_plain rfl ?_
      refine grown_run (v := .int .u32 (1 + r)) ?_ (Kp.refl _ _) rfl
      have hr9 := unhide HR9
      obtain ⟨ρ, hρ, hc, hf, hg⟩ := eval_is a
      rw [hρ] at h17 ⊢
      simp [go_sem, h17]
      exact wrap_u32 (by omega) (by omega)
    refine steps_cons (fun a w hk hn => ?_) ?_
    · have h2 : a.eval (.tmp 2) = .int .i64 f := hn.1
      clear hn
      refine wants_plain rfl ?_
      exact grown_move (.tmp 2) rfl h2
    refine steps_cons (fun a w hk hn => ?_) ?_
    · have h19 : a.eval (.tmp 19) = .int .i64 f := hn.1
      clear hn
      refine wants_plain rfl ?_
      refine grown_run (v := .int .i64 (f.tmod 4)) ?_ (Kp.refl _ _) rfl
      obtain ⟨ρ, hρ, hc, hf, hg⟩ := eval_is a
      rw [hρ] at h19 ⊢
      simp [go_sem, hc, h19]
    refine steps_cons (fun a w hk hn => ?_) ?_
    · have h20 : a.eval (.tmp 20) = .int .i64 (f.tmod 4) := hn.1
      clear hn
      refine wants_plain rfl ?_
      refine grown_call (f := 138) rfl Tryz.func138 (by kernel_rfl) (by kernel_rfl) ?_
      simp only [List.map_toArray, List.map_cons, List.map_nil, h20]
      refine (khash_any (f.tmod 4) w).mono ?_
      rintro e w' ⟨ao, m, c, rfl, R, K⟩
      exact ⟨_, rfl, K, R.sl⟩
    refine steps_cons (fun a w hk hn => ?_) ?_
    · have h2 : a.eval (.tmp 2) = .int .i64 f := hn.1
      clear hn
      refine wants_plain rfl ?_
      exact grown_move (.tmp 2) rfl h2
    refine steps_cons (fun a w hk hn => ?_) ?_
    · have h22 : a.eval (.tmp 22) = .int .i64 f := hn.1
      clear hn
      refine wants_plain rfl ?_
      refine grown_run (v := .int .u8 (f % 256)) ?_ (Kp.refl _ _) rfl
      obtain ⟨ρ, hρ, hc, hf, hg⟩ := eval_is a
      rw [hρ] at h22 ⊢
      simp [go_sem, h22]
      exact wrap_u8M f
    refine steps_cons (fun a w hk hn => ?_) ?_
    · have h23 : a.eval (.tmp 23) = .int .u8 (f % 256) := hn.1
      clear hn
      refine wants_plain rfl ?_
      exact grown_byte1 (.tmp 23) _ rfl h23
    refine steps_cons (fun a w hk hn => ?_) ?_
    · have h13 : a.eval (.tmp 13) = .string (nmK k) := hn.1
      have h18 : a.eval (.tmp 18) = .int .u32 (1 + r) := hn.2.1
      have h21 : Sl w (a.eval (.tmp 21)) (hashK (f.tmod 4)) := hn.2.2.1
      have h24 : Sl w (a.eval (.tmp 24)) ([f % 256]) := hn.2.2.2.1
      clear hn
      refine wants_plain rfl ?_
      exact grown_man (.tmp 13) (.tmp 18) (.tmp 21) (.tmp 24) rfl (mkM ia v f) (by rw [h13]; exact congrArg Value.string (unhide HNM).symm) (by rw [h18]; exact congrArg (fun t => Value.int .u32 t) (unhide HV)) h21 h24 (mkM_ok ia v f)
    exact trivial
  intro W1 hkW1
  rintro _ rfl
  intro v8 h8
  rintro _ rfl
  rintro _ rfl
  rintro _ rfl
  intro v12 h12
  rintro _ rfl
  rintro _ rfl
  rintro _ rfl
  rintro _ rfl
  rintro _ rfl
  rintro _ rfl
  rintro _ rfl
  rintro _ rfl
  intro v21 h21
  rintro _ rfl
  rintro _ rfl
  intro v24 h24
  intro v25 h25
  refine fin_nil ?_
  simp only [Act.put, List.set_cons_zero, List.set_cons_succ, List.setIfInBounds_toArray]
  have K1 := (kp_drew w0).trans hkW1
  have G1 := K1.heap (unhide HG0) (by simp)
  obtain ⟨af, nf, cf, an, nn, cn, e25, hF, hN, hok⟩ := h25
  subst e25
  go_wp2_with (refine wpList_store_man rfl (.tmp 6) (.tmp 25) rfl g0 rfl _ _ _ _ _ _ _ _ G1 rfl ⟨rfl, rfl, rfl, rfl⟩ ?_; intro wa Ga Ka)
  refine bodyPost_ret (results_man1 rfl _ rfl Ga) rfl ?_
  have N1 := noBy_man G1
  exact ⟨_, rfl, ⟨af, nf, cf, an, nn, cn, rfl, hF.offBy N1 Ka, hN.offBy N1 Ka, hok⟩, (((unhide HZ).trans K1)).then Ka (fun i hi => .inr (by have := unhide HGW; simp at hi; omega))⟩
end Go.Proofs.YtillhpgdlmeajaaGreatDoor

/-
  The contracts of the reference's Encode and of the law package's Item.
-/
namespace Go.Proofs.YtillhpgdlmeajaaGreatDoor
open Go.RowKit
open Go.Proofs
/-- The value is a slice of the call's own that reads so. -/
def RowB (B : Nat) (bs : List Int) : Tell := fun v w => (∃ ao m c, v = .slice ao m c) ∧ Row w B v bs
theorem stable_rowb (B : Nat) (bs : List Int) : Tell.stable (RowB B bs) := fun _ _ _ k h => ⟨h.1, h.2.kept k (by simp)⟩
theorem grown_full1 {o : Oper} {a : Act} {w : World} (b : Int) (ho : o.op = .buildSlice 22 1 #[(0, .const (.int .u8 b))]) : grown Tryz.prog w (Full [b]) ((execOp a.eval o).run Tryz.prog w) := by
  refine grown_run (v := .slice (some ⟨w.heap.size, 0, none⟩) 1 1) (w' := w.alloc (.cells #[.int .u8 b] 5)) ?_ ((Kp.refl _ _).alloc _) ⟨⟨_, rfl⟩, Sl.block (cs := [b]) (t := 5) (fr := (0, 0)) (heap_alloc_new w _) (by simp [maxLen])⟩
  obtain ⟨ρ, hρ, hc, _⟩ := eval_is a
  rw [hρ]
  unfold execOp
  simp only [ho]
  simp [go_sem, hc]
theorem grown_convS {o : Oper} {a : Act} {w : World} (x : Operand) (S : ByteArray) (hS : S.size ≤ 9223372036854775807) (ho : o.op = .convert 9 22 x) (h : a.eval x = .string S) : grown Tryz.prog w (SlT (nums S)) ((execOp a.eval o).run Tryz.prog w) := by
  obtain ⟨c, w', hr, hs, hk⟩ := conv_big S w hS
  refine grown_run (v := .slice (some ⟨w.heap.size, 0, none⟩) S.size c) (w' := w') ?_ hk hs
  unfold execOp
  simp only [ho, h, Sem.run_bind, hr, Result.andThen_ok, Sem.run_pure]
theorem step_callM {P : Program} {ops : Array Oper} {o : Oper} {a : Act} {w : World} {K : Act → World → Prop} {Q : Exit → Act → World → Prop} {E : Prop} {f : FuncId} {fn : Func} {xs : Array Operand} {ats : Array TypeId} (hgd : o.guard = none) (ho : o.op = .call { callee := .value (.func f), args := xs, argTypes := ats }) (hf : P.funcs[f]? = some fn) (hn : (fn.name == "runtime.NumGoroutine") = false) (hb : fn.body.isNone = false)
    (h : Calls P f (xs.map a.eval) w fun e w' => ∃ v, e = .returned v ∧ K (a.put o.dst v) w') : if Region.wanted o (yielded ops a.tmps) = true then Oper.wp P o a w K Q else E := by
  have hw : Region.wanted o (yielded ops a.tmps) = true := by simp [Region.wanted, hgd]
  rw [if_pos hw]
  have e : (execOp a.eval o).run P w = .ok (.enter f (xs.map a.eval)) w := by
    obtain ⟨dst, op, ty, pos, after, guard⟩ := o
    simp only at ho
    subst ho
    rw [execOp_call_go]
    have h1 : fn.name ≠ "runtime.NumGoroutine" := by simpa using hn
    have h2 : ¬ fn.body = none := by intro h2; rw [h2] at hb; cases hb
    simp [callFunc, hf, h1, h2]
  unfold Oper.wp
  rw [e]
  simp only [Oper.upon]
  refine h.mono ?_
  rintro e' w' ⟨v, rfl, hv⟩
  exact hv
set_option maxRecDepth 100000 in
set_option maxHeartbeats 4000000 in
theorem rencode_any (v : Value) (m : Mf) (w : World) (hV : MV w v m) (hsz : m.s.size ≤ 1000) (hfz : m.f.length ≤ 1000) (hnz : m.n.length ≤ 1000) :
    Calls Tryz.prog 104 #[v] w fun e w' => ∃ ao k c, e = .returned (.slice ao k c) ∧ Row w' w.heap.size (.slice ao k c) (encM m) ∧ Kp [] w w' := by
  obtain ⟨af, nf, cf, an, nn, cn, rfl, hF, hNt, hok⟩ := hV
  have hE : encM m = [77] ++ be2 (nums m.s).length ++ nums m.s ++ be4 m.v ++ m.f ++ be2 m.n.length ++ m.n := by unfold encM; simp only [List.append_assoc]
  obtain ⟨s, x, f, n⟩ := m
  simp only at hF hNt hE hsz hfz hnz ⊢
  have HE := hide hE
  have HSZ := hide hsz
  have HFZ := hide hfz
  have HNZ := hide hnz
  have HF := hide hF
  have HNt := hide hNt
  obtain ⟨g0, hg0⟩ : ∃ g, g = w.heap.size := ⟨_, rfl⟩
  obtain ⟨w0, hw0⟩ : ∃ w0, w0 = w.alloc (.cells #[.string s, .int .u32 x, .slice af nf cf, .slice an nn cn] 160) := ⟨_, rfl⟩
  have K0 : Kp [] w w0 := by rw [hw0]; exact (Kp.refl [] w).alloc _
  have G0 : w0.heap[g0]? = some (.cells #[.string s, .int .u32 x, .slice af nf cf, .slice an nn cn] 160 (0, 0)) := by rw [hw0, hg0]; exact heap_alloc_new w _
  have HK0 := hide K0
  have HG0 := hide G0
  have HST : Hid (∀ w', Kp [] w0.drew w' → w'.heap[g0]? = some (.cells #[.string s, .int .u32 x, .slice af nf cf, .slice an nn cn] 160 (0, 0))) := fun w' k' => ((kp_drew w0).trans k').heap G0 (by simp)
  have HGW := hide hg0
  have HW0 := hide hw0
  clear hF hNt hE hsz hfz hnz hok hg0 hw0 K0 G0
  go_enter Tryz.func104, Tryz.ntmps104
  go_wp2_with fail
  rw [← unhide HW0, ← unhide HGW]
  refine region_grow_tail 7 Tryz.mixed [Full [77], Is (.pointer (some ⟨g0, 0, none⟩)), Is (.string s), SlT (nums s), RowB w0.drew.heap.size ([77] ++ be2 (nums s).length ++ nums s), Is (.pointer (some ⟨g0, 1, none⟩)), Is (.int .u32 x)] [[], [(1, none)], [(5, some 1)], [(6, some 2)], [(4, some 0), (7, some 3)], [(1, none)], [(9, some 5)]] (by kernel_rfl) ?_ ?_ ?_
  all_goals try simp only [List.take_succ_cons, List.take_zero, List.drop_succ_cons, List.drop_zero]
  · simp only [List.mem_cons, List.not_mem_nil, or_false]
    intro R hR
    rcases hR with rfl | rfl | rfl | rfl | rfl | rfl | rfl <;> first | exact stable_full _ | exact stable_is _ | exact stable_sl _ | exact stable_rowb _ _
  · refine steps_cons (fun a w hk hn => ?_) ?_
    · clear hn
      refine wants_plain rfl ?_
      exact grown_full1 77 rfl
    refine steps_cons (fun a w hk hn => ?_) ?_
    · have h1 : a.eval (.tmp 1) = .pointer (some ⟨g0, 0, none⟩) := hn.1
      clear hn
      refine wants_plain rfl ?_
      exact grown_mfld (.tmp 1) 0 (by omega) rfl h1
    refine steps_cons (fun a w hk hn => ?_) ?_
    · have h5 : a.eval (.tmp 5) = .pointer (some ⟨g0, 0, none⟩) := hn.1
      clear hn
      refine wants_plain rfl ?_
      exact grown_lds (.tmp 5) rfl 0 _ h5 (cell_man (unhide HST w hk)).1
    refine steps_cons (fun a w hk hn => ?_) ?_
    · have h6 : a.eval (.tmp 6) = .string s := hn.1
      clear hn
      refine wants_plain rfl ?_
      exact grown_convS (.tmp 6) s (by have := unhide HSZ; omega) rfl h6
    refine steps_cons (fun a w hk hn => ?_) ?_
    · have h4 : (Full [77]) (a.eval (.tmp 4)) w := hn.1
      have h7 : Sl w (a.eval (.tmp 7)) (nums s) := hn.2.1
      clear hn
      refine wants_plain rfl ?_
      refine grown_call (f := 50) rfl Tryz.func50 (by kernel_rfl) (by kernel_rfl) ?_
      simp only [List.map_toArray, List.map_cons, List.map_nil]
      refine (refbytes_full _ [77] _ (nums s) w h4 (by have := unhide HSZ; rw [nums_len]; simp; omega) h7).mono ?_
      rintro e w' ⟨ao, m, c, rfl, R, K⟩
      exact ⟨_, rfl, K, ⟨ao, m, c, rfl⟩, row_new R hk⟩
    refine steps_cons (fun a w hk hn => ?_) ?_
    · have h1 : a.eval (.tmp 1) = .pointer (some ⟨g0, 0, none⟩) := hn.1
      clear hn
      refine wants_plain rfl ?_
      exact grown_mfld (.tmp 1) 1 (by omega) rfl h1
    refine steps_cons (fun a w hk hn => ?_) ?_
    · have h9 : a.eval (.tmp 9) = .pointer (some ⟨g0, 1, none⟩) := hn.1
      clear hn
      refine wants_plain rfl ?_
      exact grown_ldu (.tmp 9) rfl 1 _ h9 (cell_man (unhide HST w hk)).2.1
    exact trivial
  intro W1 hkW1
  intro v4 h4
  rintro _ rfl
  rintro _ rfl
  intro v7 h7
  intro v8 h8
  rintro _ rfl
  rintro _ rfl
  refine fin_nil ?_
  simp only [Act.put, List.set_cons_zero, List.set_cons_succ, List.setIfInBounds_toArray]
  obtain ⟨⟨a8, m8, c8, e8⟩, R8⟩ := h8
  subst e8
  obtain ⟨B, hB⟩ : ∃ B, B = w0.drew.heap.size := ⟨_, rfl⟩
  rw [← hB] at R8
  obtain ⟨L6, hL6⟩ : ∃ L, L = [77] ++ be2 (nums s).length ++ nums s := ⟨_, rfl⟩
  rw [← hL6] at R8
  have hl6 : L6.length ≤ 1003 := by rw [hL6]; simp only [List.length_append, List.length_cons, List.length_nil, be2, nums_len]; have := unhide HSZ; omega
  have hgB : g0 < B := by rw [hB]; exact (Array.getElem?_eq_some_iff.1 (unhide HG0)).1
  have K1 := (kp_drew w0).trans hkW1
  have hBW : B ≤ W1.heap.size := by rw [hB]; exact hkW1.size
  have HC := hide (refnumM_any (.slice a8 m8 c8) L6 x B W1 R8 hBW (by omega))
  have HK1 := hide ((unhide HK0).trans K1)
  have HR8 := hide R8
  have HL6 := hide hL6
  have HLL := hide hl6
  have HB0 := hide hB
  have HG1 := hide (K1.heap (unhide HG0) (by simp))
  clear h4 h7 hkW1 hL6 hl6 R8 K1 hB HST
  go_wp2_with fail
  refine (unhide HC).mono ?_
  rintro ee w2 ⟨a2, m2, c2, rfl, R2, S2⟩
  have K2 : Kp [] w w2 := (unhide HK1).then S2.1 (fun i hi => .inr (by have := (unhide HR8).own i (by simpa using hi); have := unhide HGW; omega))
  have G2 := S2.1.heap (unhide HG1) (fun hm => by have := (unhide HR8).own g0 (by simpa using hm); omega)
  obtain ⟨L7, hL7⟩ : ∃ L, L = L6 ++ be4 x := ⟨_, rfl⟩
  rw [← hL7] at R2
  have hl7 : L7.length ≤ 1007 := by rw [hL7, List.length_append]; have := unhide HLL; have : (be4 x).length = 4 := rfl; omega
  have hBW2 : B ≤ w2.heap.size := Nat.le_trans hBW S2.1.size
  have hR2 : Row w2.drew B (.slice a2 m2 c2) L7 := R2.kept (kp_drew w2) (by simp)
  have hF2 : Sl w2.drew (.slice af nf cf) f := (unhide HF).kept (K2.trans (kp_drew w2)) (by simp)
  have hNA : Hid (∀ W, Kp [] w W → Sl W (.slice an nn cn) n) := fun W k => (unhide HNt).kept k (by simp)
  have hc2 : w2.cell? ⟨g0, 2, none⟩ = some (.slice af nf cf) := (cell_man G2).2.2.1
  have hc3 : w2.cell? ⟨g0, 3, none⟩ = some (.slice an nn cn) := (cell_man G2).2.2.2
  have HK2 := hide (K2.trans (kp_drew w2))
  have HL7 := hide hL7
  have hbd : L7.length + f.length ≤ 140737488355328 := by have := unhide HFZ; omega
  have hbd2 : (L7 ++ f).length + n.length ≤ 100000000000 := by rw [List.length_append]; have := unhide HFZ; have := unhide HNZ; omega
  have hgl : w.heap.size < B := by have := unhide HGW; omega
  clear HC S2 R2 hL7 hl7 K2 G2 HG1 HR8
  go_wp2_with fail
  go_region_held3 (fun W => W.cell? ⟨g0, 2, none⟩ = some (.slice af nf cf) ∧ W.cell? ⟨g0, 3, none⟩ = some (.slice an nn cn))
    (first
      | go_keep
      | (go_split_ands
         refine ⟨?_, ?_⟩
         · exact s3.1.cell (by assumption) (fun hm => by have := hR2.own g0 (by simpa using hm); omega)
         · exact s3.1.cell (by assumption) (fun hm => by have := hR2.own g0 (by simpa using hm); omega))
      | (go_split_ands
         refine ⟨?_, ?_⟩
         · exact S4.1.cell (by assumption) (fun hm => by have := r3.own g0 (by simpa using hm); omega)
         · exact S4.1.cell (by assumption) (fun hm => by have := r3.own g0 (by simpa using hm); omega)))
    (first
      | (refine step_append_row (by rfl) (.tmp 12) (.tmp 14) (by rfl) B _ L7 (by rfl) hR2 _ f (by rfl) hF2 hbd hBW2 ?_; intro a3 m3 c3 w3 r3 s3; have K3 : Kp [] w w3 := ((unhide HK2).then s3.1 (fun i hi => .inr (by have := hR2.own i (by simpa using hi); omega))))
      | (refine step_callM (by rfl) (by rfl) Tryz.func50 (by kernel_rfl) (by kernel_rfl) ?_; simp only [List.map_toArray, List.map_cons, List.map_nil]; refine (refbytes_any (.slice a3 m3 c3) (L7 ++ f) (.slice an nn cn) n B w3 r3 (by have := s3.1.size; have e : w2.drew.heap.size = w2.heap.size := rfl; omega) hbd2 (unhide hNA w3 K3) (fun W k => unhide hNA W (K3.then k (fun i hi => .inr (by have := r3.own i (by simpa using hi); omega))))).mono ?_; rintro ee w4 ⟨a4, m4, c4, rfl, R4, S4⟩; refine ⟨_, rfl, ?_⟩))
  go_wp2_with fail
  go_ret
  have K4 : Kp [] w w4 := K3.then S4.1 (fun i hi => .inr (by have := r3.own i (by simpa using hi); omega))
  exact ⟨a4, m4, c4, rfl, by rw [unhide HE, ← unhide HL6, ← unhide HL7]; exact owns_rebase R4 (fun i hi => by have := R4.own i hi; omega), K4⟩
set_option maxRecDepth 100000 in
set_option maxHeartbeats 1000000 in
theorem kitem_any (ia iv jf : Int) (w : World) :
    Calls Tryz.prog 61 #[.int .i64 ia, .int .i64 iv, .int .i64 jf] w fun e w' => ∃ ao k c, e = .returned (.slice ao k c) ∧ Row w' w.heap.size (.slice ao k c) (encM (mkM ia iv jf)) ∧ Kp [] w w' := by
  have HM := hide (kman_any ia iv jf w)
  have h1 := mkM_size ia iv jf
  have HR := hide (fun v w1 (h : MV w1 v (mkM ia iv jf)) => rencode_any v (mkM ia iv jf) w1 h (by omega) (by show (hashK _).length ≤ 1000; rw [hashK_len]; omega) (by show [jf % 256].length ≤ 1000; simp))
  clear h1
  go_enter Tryz.func61, Tryz.ntmps61
  go_wp2_with fail
  refine (unhide HM).mono ?_
  rintro ee w1 ⟨x, rfl, V1, K1⟩
  have HC := hide (unhide HR x w1 V1)
  have HK1 := hide K1
  clear V1 K1 HM HR
  go_wp2_with fail
  refine (unhide HC).mono ?_
  rintro ee w2 ⟨a2, m2, c2, rfl, R2, K2⟩
  have HR2 := hide (row_new R2 (unhide HK1))
  have HK2 := hide ((unhide HK1).trans K2)
  clear HC R2 K2
  go_wp2_with fail
  go_ret
  exact ⟨a2, m2, c2, rfl, unhide HR2, unhide HK2⟩
end Go.Proofs.YtillhpgdlmeajaaGreatDoor

/-
  The laws of ledger: the reference's Batch, items.
-/
namespace Go.Proofs.YtillhpgdlmeajaaGreatDoor
open Go.RowKit
open Go.Proofs
set_option linter.unusedVariables false
/-- an item as it is drawn. -/
def itemX (x : Int) : List Int := encM (mkM x (x.tdiv 4) (x.tdiv 40))
theorem itemX_len (x : Int) : (itemX x).length ≤ 62 := by
  unfold itemX
  rw [encM_len, nums_len]
  have h1 := mkM_size x (x.tdiv 4) (x.tdiv 40)
  have h2 : (mkM x (x.tdiv 4) (x.tdiv 40)).f.length = 32 := hashK_len _
  have h3 : (mkM x (x.tdiv 4) (x.tdiv 40)).n.length = 1 := rfl
  omega
theorem itemX_bs (x : Int) : Bs (itemX x) := encM_bs _ (mkM_ok _ _ _)
theorem tdiv_le (x c : Int) (hc : 0 < c) : (0 ≤ x → 0 ≤ x.tdiv c ∧ x.tdiv c ≤ x) ∧ (x < 0 → x ≤ x.tdiv c ∧ x.tdiv c ≤ 0) := by
  refine ⟨fun h => ⟨Int.tdiv_nonneg h (by omega), ?_⟩, fun h => ?_⟩
  · rw [Int.tdiv_eq_ediv_of_nonneg h]; exact Int.ediv_le_self c h
  · have e : x.tdiv c = -((-x).tdiv c) := by rw [Int.neg_tdiv]; omega
    rw [e, Int.tdiv_eq_ediv_of_nonneg (by omega)]
    have h1 := Int.ediv_le_self c (show 0 ≤ -x by omega)
    have h2 := Int.ediv_nonneg (show 0 ≤ -x by omega) (show 0 ≤ c by omega)
    omega
theorem RowsQ.off {w w' : World} {base : Nat} {v : Value} {l : List (Value × List Int)} {S : List Nat} (h : RowsQ w base v l) (k : Kp S w w') (hS : ∀ i ∈ S, i < base ∨ w.heap.size ≤ i) : RowsQ w' base v l :=
  h.kept (k.less (T := S.filter (fun i => decide (i < base))) (fun i hi hl => List.mem_filter.2 ⟨hi, decide_eq_true ((hS i hi).resolve_right (by omega))⟩)) (fun i hi => of_decide_eq_true (List.mem_filter.1 hi).2)
theorem RowsQ.lists {w : World} {base : Nat} {v : Value} {l : List (Value × List Int)} (h : RowsQ w base v l) (hl : l.length ≤ 1000000) : Lists w v l := lists_big h.1 hl
theorem RowsQ.rebase {w : World} {base b : Nat} {v : Value} {l : List (Value × List Int)} (h : RowsQ w base v l) (hb : b ≤ base) : RowsQ w b v l :=
  ⟨⟨owns_rebase h.1.1 (fun i hi => Nat.le_trans hb (h.1.1.own i hi)), h.1.2⟩, fun x hx i hi => Nat.le_trans hb (h.2 x hx i hi)⟩
theorem rowsQ_nil (w : World) (base : Nat) : RowsQ w base (.slice none 0 0) [] := ⟨⟨World.ownsRow_nil _ _ _ _, by simp⟩, by simp⟩
/-- a list of one slice that lies from B on. -/
def OneO (B : Nat) (r : List Int) : Tell := fun v w => ∃ g u, v = .slice (some ⟨g, 0, none⟩) 1 1 ∧ w.cell? ⟨g, 0, none⟩ = some u ∧ RO B r u w
theorem stable_oneo (B : Nat) (r : List Int) : Tell.stable (OneO B r) := fun _ _ _ k ⟨g, u, e, h1, h2⟩ => ⟨g, u, e, k.cell h1 (by simp), stable_ro B r _ _ _ k h2⟩
theorem grown_oneo {o : Oper} {a : Act} {w : World} (x : Operand) (ho : o.op = .buildSlice 33 1 #[(0, x)]) (B : Nat) (r : List Int) (h : RO B r (a.eval x) w) : grown Tryz.prog w (OneO B r) ((execOp a.eval o).run Tryz.prog w) := by
  have h' := h
  obtain ⟨ao, m, c, e, _⟩ := h
  have k : Kp [] w (w.alloc (.cells #[.slice ao m c] 22)) := (Kp.refl [] w).alloc _
  rw [e] at h'
  refine grown_run (v := .slice (some ⟨w.heap.size, 0, none⟩) 1 1) (w' := w.alloc (.cells #[.slice ao m c] 22)) ?_ k ⟨w.heap.size, _, rfl, by rw [cell_of_row _ _ 0 _ _ _ (heap_alloc_new w _)]; rfl, stable_ro B r _ _ _ k h'⟩
  obtain ⟨ρ, hρ, _⟩ := eval_is a
  rw [hρ] at e ⊢
  unfold execOp
  simp only [ho]
  simp [go_sem, e]
theorem wpList_rowsO {base B : Nat} {w2 : World} {ops : Array Oper} {rest : List Oper} {o : Oper} {a : Act} {Q : Exit → Act → World → Prop} (hgd : o.guard = none) (s x : Operand)
    (ho : o.op = .call { callee := .builtin .append, args := #[s, x], argTypes := #[33, 33] }) (v : Value) (l : List (Value × List Int)) (hs : a.eval s = v) (hP : RowsQ w2 base v l) (hbase : base ≤ w2.heap.size) (hl : l.length ≤ 1000000)
    (bs : List Int) (hx : OneO B bs (a.eval x) w2) (hb : Bs bs) (hap : ∀ i, v.ownBlock = some i → i < B) (hbB : base ≤ B)
    (h : ∀ ao m c w' u, RowsQ w' base (.slice ao m c) (l ++ [(u, bs)]) → RStep w2 v w' (.slice ao m c) → wpList Tryz.prog ops Q rest (a.put o.dst (.slice ao m c)) w') : wpList Tryz.prog ops Q (o :: rest) a w2 := by
  obtain ⟨g, u, ex, hc, ⟨ax, mx, cx, rfl, hS, hown⟩⟩ := hx
  refine wpList_append_rowv hgd s x ho base v (l.map (·.1)) hs hP.1.1 ⟨g, 0, none⟩ 1 [.slice ax mx cx] ex ?_ ?_ ?_ hbase ?_
  · intro j y hy
    have : j = 0 ∧ y = .slice ax mx cx := by
      cases j with
      | zero => exact ⟨rfl, by simpa using hy.symm⟩
      | succ j => simp at hy
    obtain ⟨rfl, rfl⟩ := this
    rw [Addr.add_lit]; exact hc
  · simp [Value.oneCell']
  · simp; omega
  · intro ao m c w' r st
    refine h ao m c w' (.slice ax mx cx) ⟨hP.1.snocJ (x := (.slice ax mx cx, bs)) hS hb (fun i h1 h2 => by have := hown i h1; have := hap i h2; omega) r st, fun y hy => ?_⟩ st
    rcases List.mem_append.1 hy with hy | hy
    · exact hP.2 y hy
    · obtain rfl : y = (.slice ax mx cx, bs) := by simpa using hy
      exact fun i hi => Nat.le_trans hbB (hown i hi)
set_option maxRecDepth 100000 in
set_option maxHeartbeats 4000000 in
theorem uitems_any (v : Value) (xs ys : List Int) (hys : ys = xs.take 6) (w : World) (hL : Ints w v xs) :
    Calls Tryz.prog 19 #[v] w fun e w' => ∃ ao m c, e = .returned (.slice ao m c) ∧ Kp [] w w' ∧ m = ys.length ∧ ∃ l, RowsQ w' w.heap.size (.slice ao m c) l ∧ l.map (·.2) = ys.map itemX := by
  have HYs := hide hys
  clear hys
  obtain ⟨al, cl, rfl, hlm, hbd, hcell⟩ := hL
  obtain ⟨N, hN⟩ : ∃ N, N = xs.length := ⟨_, rfl⟩
  have HC : Hid (∀ i (h : i < N), ∃ (hi : i < xs.length), ∃ a, al = some a ∧ w.cell? (a.add i) = some (.int .i64 xs[i]) ∧ -9223372036854775808 ≤ xs[i] ∧ xs[i] ≤ 9223372036854775807) := fun i hi => by
    have hi2 : i < xs.length := by omega
    obtain ⟨a, e, hc⟩ := hcell i hi2
    exact ⟨hi2, a, e, hc, hbd _ (List.getElem_mem hi2)⟩
  rw [← hN] at hlm ⊢
  unfold maxLen at hlm
  have HN := hide hN
  clear hcell hbd hN
  go_enter Tryz.func19, Tryz.ntmps19
  go_wp2_with fail
  go_loopw [3, 4] (fun o i wr => ∃ k : Nat, k ≤ N ∧ k ≤ 6 ∧ i = .int .i64 k ∧ (∃ ao m c, o = .slice ao m c) ∧ Kp [] w wr ∧ ∃ l, RowsQ wr w.heap.size o l ∧ l.map (·.2) = (xs.take k).map itemX) (fun _ i _ => N - (intOf i).toNat)
  case atStart => exact ⟨0, by omega, by omega, rfl, ⟨_, _, _, rfl⟩, Kp.refl _ _, [], rowsQ_nil _ _, by simp⟩
  case round =>
    obtain ⟨k, hkN, hk6, rfl, ⟨ao, m, c, rfl⟩, K, l, P, hl⟩ := hrel
    have HK := hide K
    have HP := hide P
    have HL := hide hl
    have hll : l.length = k := by have h := congrArg List.length hl; rw [List.length_map, List.length_map, List.length_take] at h; have := HN.out; omega
    clear hl P
    by_cases hlt : k < N ∧ k < 6
    · obtain ⟨hl1, hl2⟩ := hlt
      have hl1' : (k : Int) < (N : Int) := by omega
      have hl2' : (k : Int) < 6 := by omega
      have hd1 : decide ((k : Int) < (N : Int)) = true := decide_eq_true hl1'
      have hd2 : decide ((k : Int) < 6) = true := decide_eq_true hl2'
      obtain ⟨hkx, a0, rfl, hc, hb0, hb1⟩ := HC.out k hl1
      have htk : xs.take (k + 1) = xs.take k ++ [xs[k]] := List.take_succ_eq_append_getElem hkx
      obtain ⟨x, hx⟩ : ∃ x, x = xs[k] := ⟨_, rfl⟩
      rw [← hx] at hc hb0 hb1 htk
      have HTK := hide htk
      have HIn := hide hl1'
      have HLd : Hid (∀ w', Kp [] wr.drew w' → w'.cell? (a0.add k) = some (.int .i64 x)) := fun w' k' => (K.trans ((kp_drew wr).trans k')).cell hc (by simp)
      have HQ4 : Hid (IntKind.i64.wrap (x.tdiv 4) = x.tdiv 4) := hide (by have := tdiv_le x 4 (by omega); simp [IntKind.wrap, IntKind.signed, IntKind.bits]; omega)
      have HQ40 : Hid (IntKind.i64.wrap (x.tdiv 40) = x.tdiv 40) := hide (by have := tdiv_le x 40 (by omega); simp [IntKind.wrap, IntKind.signed, IntKind.bits]; omega)
      clear hc htk hx hb0 hb1 K
      go_wp2_with fail
      refine region_grow_tail 17 Tryz.mixed [Is (.slice ao m c), Is (.slice (some a0) N cl), Is (.int .i64 (k : Int)), Is (.pointer (some (a0.add k))), Is (.int .i64 x), Is (.slice (some a0) N cl), Is (.int .i64 (k : Int)), Is (.pointer (some (a0.add k))), Is (.int .i64 x), Is (.int .i64 (x.tdiv 4)), Is (.slice (some a0) N cl), Is (.int .i64 (k : Int)), Is (.pointer (some (a0.add k))), Is (.int .i64 x), Is (.int .i64 (x.tdiv 40)), RO wr.drew.heap.size (itemX x), OneO wr.drew.heap.size (itemX x)] [[(3, none)], [(0, none)], [(4, none)], [(16, some 1), (17, some 2)], [(18, some 3)], [(0, none)], [(4, none)], [(20, some 5), (21, some 6)], [(22, some 7)], [(23, some 8)], [(0, none)], [(4, none)], [(25, some 10), (26, some 11)], [(27, some 12)], [(28, some 13)], [(19, some 4), (24, some 9), (29, some 14)], [(30, some 15)]] (by kernel_rfl) ?_ ?_ ?_
      all_goals try simp only [List.take_succ_cons, List.take_zero, List.drop_succ_cons, List.drop_zero]
      · simp only [List.mem_cons, List.not_mem_nil, or_false]
        intro R hR
        rcases hR with rfl | rfl | rfl | rfl | rfl | rfl | rfl | rfl | rfl | rfl | rfl | rfl | rfl | rfl | rfl | rfl | rfl <;> first | exact stable_is _ | exact stable_ro _ _ | exact stable_oneo _ _
      · refine steps_cons (fun a w hk hn => ?_) ?_
        · have h3 : a.eval (.tmp 3) = .slice ao m c := hn.1
          clear hn
          refine wants_plain rfl ?_
          exact grown_move (.tmp 3) rfl h3
        refine steps_cons (fun a w hk hn => ?_) ?_
        · have h0 : a.eval (.tmp 0) = .slice (some a0) N cl := hn.1
          clear hn
          refine wants_plain rfl ?_
          exact grown_move (.tmp 0) rfl h0
        refine steps_cons (fun a w hk hn => ?_) ?_
        · have h4 : a.eval (.tmp 4) = .int .i64 (k : Int) := hn.1
          clear hn
          refine wants_plain rfl ?_
          exact grown_move (.tmp 4) rfl h4
        refine steps_cons (fun a w hk hn => ?_) ?_
        · have h16 : a.eval (.tmp 16) = .slice (some a0) N cl := hn.1
          have h17 : a.eval (.tmp 17) = .int .i64 (k : Int) := hn.2.1
          clear hn
          refine wants_plain rfl ?_
          refine grown_run (v := .pointer (some (a0.add k))) ?_ (Kp.refl _ _) rfl
          obtain ⟨ρ, hρ, hc, hf, hg⟩ := eval_is a
          rw [hρ] at h16 h17 ⊢
          simp [go_sem, h16, h17, HIn.out]
        refine steps_cons (fun a w hk hn => ?_) ?_
        · have h18 : a.eval (.tmp 18) = .pointer (some (a0.add k)) := hn.1
          clear hn
          refine wants_plain rfl ?_
          refine grown_run (v := .int .i64 x) ?_ (Kp.refl _ _) rfl
          have hcell := HLd.out w hk
          obtain ⟨ρ, hρ, hc, hf, hg⟩ := eval_is a
          rw [hρ] at h18 ⊢
          simp [go_sem, h18, hcell]
        refine steps_cons (fun a w hk hn => ?_) ?_
        · have h0 : a.eval (.tmp 0) = .slice (some a0) N cl := hn.1
          clear hn
          refine wants_plain rfl ?_
          exact grown_move (.tmp 0) rfl h0
        refine steps_cons (fun a w hk hn => ?_) ?_
        · have h4 : a.eval (.tmp 4) = .int .i64 (k : Int) := hn.1
          clear hn
          refine wants_plain rfl ?_
          exact grown_move (.tmp 4) rfl h4
        refine steps_cons (fun a w hk hn => ?_) ?_
        · have h20 : a.eval (.tmp 20) = .slice (some a0) N cl := hn.1
          have h21 : a.eval (.tmp 21) = .int .i64 (k : Int) := hn.2.1
          clear hn
          refine wants_plain rfl ?_
          refine grown_run (v := .pointer (some (a0.add k))) ?_ (Kp.refl _ _) rfl
          obtain ⟨ρ, hρ, hc, hf, hg⟩ := eval_is a
          rw [hρ] at h20 h21 ⊢
          simp [go_sem, h20, h21, HIn.out]
        refine steps_cons (fun a w hk hn => ?_) ?_
        · have h22 : a.eval (.tmp 22) = .pointer (some (a0.add k)) := hn.1
          clear hn
          refine wants_plain rfl ?_
          refine grown_run (v := .int .i64 x) ?_ (Kp.refl _ _) rfl
          have hcell := HLd.out w hk
          obtain ⟨ρ, hρ, hc, hf, hg⟩ := eval_is a
          rw [hρ] at h22 ⊢
          simp [go_sem, h22, hcell]
        refine steps_cons (fun a w hk hn => ?_) ?_
        · have h23 : a.eval (.tmp 23) = .int .i64 x := hn.1
          clear hn
          refine wants_plain rfl ?_
          refine grown_run (v := .int .i64 (x.tdiv 4)) ?_ (Kp.refl _ _) rfl
          obtain ⟨ρ, hρ, hc, hf, hg⟩ := eval_is a
          rw [hρ] at h23 ⊢
          simp [go_sem, hc, h23, HQ4.out]
        refine steps_cons (fun a w hk hn => ?_) ?_
        · have h0 : a.eval (.tmp 0) = .slice (some a0) N cl := hn.1
          clear hn
          refine wants_plain rfl ?_
          exact grown_move (.tmp 0) rfl h0
        refine steps_cons (fun a w hk hn => ?_) ?_
        · have h4 : a.eval (.tmp 4) = .int .i64 (k : Int) := hn.1
          clear hn
          refine wants_plain rfl ?_
          exact grown_move (.tmp 4) rfl h4
        refine steps_cons (fun a w hk hn => ?_) ?_
        · have h25 : a.eval (.tmp 25) = .slice (some a0) N cl := hn.1
          have h26 : a.eval (.tmp 26) = .int .i64 (k : Int) := hn.2.1
          clear hn
          refine wants_plain rfl ?_
          refine grown_run (v := .pointer (some (a0.add k))) ?_ (Kp.refl _ _) rfl
          obtain ⟨ρ, hρ, hc, hf, hg⟩ := eval_is a
          rw [hρ] at h25 h26 ⊢
          simp [go_sem, h25, h26, HIn.out]
        refine steps_cons (fun a w hk hn => ?_) ?_
        · have h27 : a.eval (.tmp 27) = .pointer (some (a0.add k)) := hn.1
          clear hn
          refine wants_plain rfl ?_
          refine grown_run (v := .int .i64 x) ?_ (Kp.refl _ _) rfl
          have hcell := HLd.out w hk
          obtain ⟨ρ, hρ, hc, hf, hg⟩ := eval_is a
          rw [hρ] at h27 ⊢
          simp [go_sem, h27, hcell]
        refine steps_cons (fun a w hk hn => ?_) ?_
        · have h28 : a.eval (.tmp 28) = .int .i64 x := hn.1
          clear hn
          refine wants_plain rfl ?_
          refine grown_run (v := .int .i64 (x.tdiv 40)) ?_ (Kp.refl _ _) rfl
          obtain ⟨ρ, hρ, hc, hf, hg⟩ := eval_is a
          rw [hρ] at h28 ⊢
          simp [go_sem, hc, h28, HQ40.out]
        refine steps_cons (fun a w hk hn => ?_) ?_
        · have h19 : a.eval (.tmp 19) = .int .i64 x := hn.1
          have h24 : a.eval (.tmp 24) = .int .i64 (x.tdiv 4) := hn.2.1
          have h29 : a.eval (.tmp 29) = .int .i64 (x.tdiv 40) := hn.2.2.1
          clear hn
          refine wants_plain rfl ?_
          refine grown_call (f := 61) rfl Tryz.func61 (by kernel_rfl) (by kernel_rfl) ?_
          simp only [List.map_toArray, List.map_cons, List.map_nil, h19, h24, h29]
          refine (kitem_any x (x.tdiv 4) (x.tdiv 40) w).mono ?_
          rintro e w' ⟨ao', m', c', rfl, R, K⟩
          exact ⟨_, rfl, K, ⟨ao', m', c', rfl, R.sl, fun i hi => Nat.le_trans hk.size (R.own i hi)⟩⟩
        refine steps_cons (fun a w hk hn => ?_) ?_
        · have h30 : (RO wr.drew.heap.size (itemX x)) (a.eval (.tmp 30)) w := hn.1
          clear hn
          refine wants_plain rfl ?_
          exact grown_oneo (.tmp 30) rfl _ _ h30
        exact trivial
      intro W1 hkW1
      rintro _ rfl
      rintro _ rfl
      rintro _ rfl
      rintro _ rfl
      rintro _ rfl
      rintro _ rfl
      rintro _ rfl
      rintro _ rfl
      rintro _ rfl
      rintro _ rfl
      rintro _ rfl
      rintro _ rfl
      rintro _ rfl
      rintro _ rfl
      rintro _ rfl
      intro v30 h30
      intro v31 h31
      refine fin_nil ?_
      simp only [Act.put, List.set_cons_zero, List.set_cons_succ, List.setIfInBounds_toArray]
      have K1 := (kp_drew wr).trans hkW1
      have HP1 := hide (HP.out.kept K1 (by simp))
      have HK1 := hide (HK.out.trans K1)
      have HOn := hide h31
      have hs1 := K1.size
      clear h30 h31 hkW1 K1
      go_wp2_with (at_builtin; refine wpList_rowsO (B := wr.drew.heap.size) rfl (.tmp 15) (.tmp 31) rfl (.slice ao m c) l rfl HP1.out HK1.out.size (by omega) (itemX x) HOn.out (itemX_bs x) (fun i hi => HP.out.1.1.lt hi) HK.out.size ?_; intro a7 m7 c7 w7 u7 P7 S7)
      go_roundw
      case rel =>
        refine ⟨k + 1, by omega, by omega, by go_num, ⟨a7, m7, c7, rfl⟩, HK1.out.then S7.1 (fun i hi => .inr (HP1.out.1.1.own i (by simpa [Option.mem_toList] using hi))), _, P7, ?_⟩
        rw [HTK.out, List.map_append, List.map_append, HL.out]; rfl
      case measure => simp [intOf]; omega
    · have hmk : m = k := by have := HP.out.1.1.len; rw [List.length_map] at this; omega
      have e6 : xs.take 6 = xs.take k := by
        have := HN.out
        by_cases h : k = 6
        · rw [h]
        · rw [List.take_of_length_le (by omega), List.take_of_length_le (by omega)]
      have hlen : (xs.take 6).length = k := by rw [e6, List.length_take]; have := HN.out; omega
      have HE6 : Hid (ys = xs.take k) := hide (by rw [HYs.out]; exact e6)
      have HLen : Hid (k = ys.length) := hide (by rw [HYs.out]; exact hlen.symm)
      subst hmk
      clear K e6 hlen
      by_cases hl1 : m < N
      · have hl1' : (m : Int) < (N : Int) := by omega
        have hl2' : ¬ (m : Int) < 6 := by omega
        have hd1 : decide ((m : Int) < (N : Int)) = true := decide_eq_true hl1'
        have hd2 : decide ((m : Int) < 6) = false := decide_eq_false hl2'
        go_wp2_with fail
        go_ret
        exact ⟨ao, m, c, rfl, HK.out, HLen.out, l, HP.out, by rw [HL.out, HE6.out]⟩
      · have hl1' : ¬ (m : Int) < (N : Int) := by omega
        have hd1 : decide ((m : Int) < (N : Int)) = false := decide_eq_false hl1'
        go_wp2_with fail
        go_ret
        exact ⟨ao, m, c, rfl, HK.out, HLen.out, l, HP.out, by rw [HL.out, HE6.out]⟩
set_option maxRecDepth 100000 in
set_option maxHeartbeats 4000000 in
theorem ubatch_any (v : Value) (l : List (Value × List Int)) (w : World) (hL : Lists w v l) (hs : ∀ x ∈ l, x.2.length ≤ 65535) (hn : l.length ≤ 1000) :
    Calls Tryz.prog 14 #[v] w fun e w' => ∃ ao m c, e = .returned (.slice ao m c) ∧ Row w' w.heap.size (.slice ao m c) (batU (l.map (·.2))) ∧ Kp [] w w' := by
  obtain ⟨al, cl, rfl, -, hcell⟩ := hL
  have HC := hide hcell
  have HS := hide hs
  obtain ⟨N, hN⟩ : ∃ N, N = l.length := ⟨_, rfl⟩
  have hn32 : IntKind.u32.wrap (N : Int) = N := by simp [IntKind.wrap, IntKind.signed, IntKind.bits]; omega
  rw [← hN] at hn ⊢
  have HN := hide hN
  have HNum := hide (jnum_any (.slice none 0 0) [] (N : Int) w.heap.size w (World.ownsRow_nil _ _ _ _) (Nat.le_refl _) (by simp))
  clear hcell hs hN
  go_enter Tryz.func14, Tryz.ntmps14
  go_wp2_with fail
  refine HNum.out.mono ?_
  rintro ee w1 ⟨a1, m1, c1, rfl, R1, S1⟩
  rw [List.nil_append] at R1
  have HR1 := hide R1
  have HK1 : Hid (Kp [] w w1) := S1.1.mono (by simp [Value.ownBlock])
  clear HNum R1 S1
  go_wp2_with fail
  go_loopw [3, 4] (fun o i wr => ∃ k : Nat, k ≤ N ∧ i = .int .i64 k ∧ ∃ ao m c, o = .slice ao m c ∧ Row wr w.heap.size o (bq N ++ (((l.take k).map (·.2)).map itmU).flatten) ∧ Kp [] w wr) (fun _ i _ => N - (intOf i).toNat)
  case atStart => exact ⟨0, by omega, rfl, a1, m1, c1, rfl, by simpa using HR1.out, HK1.out⟩
  case round =>
    obtain ⟨k, hk, rfl, ao, m, c, rfl, R, K⟩ := hrel
    have HR := hide R
    have HK := hide K
    clear HR1 HK1
    by_cases hlt : k < N
    · have hlt' : (k : Int) < (N : Int) := by omega
      have hkl : k < l.length := by have := HN.out; omega
      obtain ⟨b, off, rfl, hc, hS, hB⟩ := HC.out k hkl
      have hcw := K.cell hc (by simp)
      have hlen := HS.out l[k] (List.getElem_mem hkl)
      have he : (((l.take (k + 1)).map (·.2)).map itmU).flatten = (((l.take k).map (·.2)).map itmU).flatten ++ itmU l[k].2 := by
        rw [List.take_succ_eq_append_getElem hkl, List.map_append, List.map_append]; simp
      have hll : ((((l.take k).map (·.2)).map itmU).flatten).length ≤ 100000000 := by
        have h1 := flatU_len ((l.take k).map (·.2)) 65535 (fun r hr => by
          obtain ⟨x, hx, rfl⟩ := List.mem_map.1 hr
          exact HS.out x (List.mem_of_mem_take hx))
        rw [List.length_map, List.length_take] at h1
        have : min k l.length * (2 + 65535) ≤ 1000 * (2 + 65535) := Nat.mul_le_mul_right _ (by omega)
        omega
      obtain ⟨x, hx⟩ : ∃ x, x = l[k] := ⟨_, rfl⟩
      rw [← hx] at hc hS hB hcw hlen he
      have hown := fun i hi => R.own i hi
      have HBy := hide (refbytes_any (.slice ao m c) _ x.1 x.2 w.heap.size wr R K.size (by rw [List.length_append, bq_len]; omega) (hS.kept K (by simp)) (fun w1 k1 => hS.kept (K.then k1 (fun i hi => .inr (hown i (by simpa [Option.mem_toList] using hi)))) (by simp)))
      obtain ⟨ax, cx, hxs, -⟩ := id hS
      obtain ⟨nx, hnx⟩ : ∃ n, n = x.2.length := ⟨_, rfl⟩
      rw [← hnx] at hxs
      rw [hxs] at hcw HBy
      have HE := hide he
      clear hc hS hB he hx hlen R K hxs hnx hll hown
      go_wp2_with fail
      refine HBy.out.mono ?_
      rintro ee w2 ⟨a2, m2, c2, rfl, R2, S2⟩
      have HR2 := hide R2
      have HK2 := hide (S2.kpn HK.out HR.out)
      clear HBy R2 S2 hcw
      go_wp2_with fail
      go_roundw
      case rel => exact ⟨k + 1, by omega, by go_num, a2, m2, c2, rfl, by have := HR2.out; rw [HE.out]; show Row w2 w.heap.size (.slice a2 m2 c2) (bq N ++ ((((l.take k).map (·.2)).map itmU).flatten ++ (be2 x.2.length ++ x.2))); simpa only [List.append_assoc] using this, HK2.out⟩
      case measure => simp [intOf]; omega
    · have hkn : k = N := by omega
      have hnlt : ¬ (k : Int) < (N : Int) := by omega
      have HRn : Hid (Row wr w.heap.size (.slice ao m c) (batU (l.map (·.2)))) := by
        have := HR.out
        rw [List.take_of_length_le (by have := HN.out; omega)] at this
        unfold batU
        rw [List.length_map, ← HN.out]
        exact this
      clear R K hkn HR
      go_wp2_with fail
      go_ret
      exact ⟨ao, m, c, rfl, HRn.out, HK.out⟩
end Go.Proofs.YtillhpgdlmeajaaGreatDoor

/-
  Arguments of the laws of ledger: slices of slices of numbers; rows of slices that lie aside.
-/
namespace Go.Proofs.YtillhpgdlmeajaaGreatDoor
open Go.RowKit
open Go.Proofs
open Go.Deep Go.ChangeShapes Go.WideShapes
set_option linter.unusedVariables false
/-- a slice of slices of numbers. -/
def Intss (w : World) (v : Value) (l : List (Value × List Int)) : Prop :=
  ∃ ao c, v = .slice ao l.length c ∧ l.length ≤ 9223372036854775807 ∧ ∀ i (h : i < l.length), ∃ b off, ao = some ⟨b, off, none⟩ ∧ w.cell? ⟨b, off + i, none⟩ = some l[i].1 ∧ Ints w l[i].1 l[i].2
section
variable {H : Type} {enc : TypeId × Value → H} {w : World}
theorem intss_of_trod {v : Value} {fuel : Nat} {x : DataW H × List MemPlace} (h : DataW.trod enc Tryz.prog w 0 (fun _ => true) true fuel 42 [v] = some x) : ∃ l, Intss w v l := by
  rcases open_slice1 Tryz.underlying42 (by kernel_rfl) h with ⟨hcs, _⟩ | ⟨a, len, cap, m, n, V, D, Pl, hcs, _, hl, hm, hmm, _, hx⟩
  · simp only [List.cons.injEq, and_true] at hcs
    subst hcs
    exact ⟨[], none, 0, rfl, by simp, fun i hi => by cases hi⟩
  · simp only [List.cons.injEq, and_true] at hcs
    subst hcs
    simp only [if_true] at hmm
    subst hmm
    have key : ∀ i, i < len → ∃ d : Value × List Int, w.cell? (a.add i) = some d.1 ∧ Ints w d.1 d.2 := fun i hi => by
      obtain ⟨h1, h2⟩ := hx i (by omega)
      obtain ⟨bs, hs⟩ := ints_of_trod h2
      exact ⟨(V i, bs), h1, hs⟩
    have inst : Inhabited (Value × List Int) := ⟨(.slice none 0 0, [])⟩
    obtain ⟨F, hF⟩ := @choose_lt (Value × List Int) inst len (fun i d => w.cell? (a.add i) = some d.1 ∧ Ints w d.1 d.2) key
    have hlen : ((List.range len).map F).length = len := by simp
    refine ⟨(List.range len).map F, some a, m, by rw [hlen], by unfold maxLen at hm; omega, fun i hi => ?_⟩
    rw [hlen] at hi
    have s0 := (hF 0 (by omega)).1
    obtain ⟨hA, hS⟩ := hF i hi
    obtain ⟨b, off, spot⟩ := a
    have hspot : ((⟨b, off, spot⟩ : Addr).add 0).spot = none := World.cell?_spot s0
    have hspot' : spot = none := by rw [Addr.add_zero'] at hspot; exact hspot
    subst hspot'
    rw [Addr.add_lit] at hA
    exact ⟨b, off, rfl, by simpa using hA, by simpa using hS⟩
end
theorem RowsQ.aside {w w' : World} {base : Nat} {v : Value} {l : List (Value × List Int)} {S : List Nat} (h : RowsQ w base v l) (k : Kp S w w') (h1 : ∀ i, v.ownBlock = some i → i ∉ S) (h2 : ∀ x ∈ l, ∀ i, x.1.ownBlock = some i → i ∉ S) : RowsQ w' base v l :=
  ⟨⟨h.1.1.kept k h1, fun x hx => ⟨(h.1.2 x hx).1.kept k (h2 x hx), (h.1.2 x hx).2⟩⟩, h.2⟩
theorem RowV.at {w : World} {base m c : Nat} {ao : Option Addr} {l : List Value} (h : RowV w base (.slice ao m c) l) (i : Nat) (hi : i < l.length) : ∃ g, ao = some ⟨g, 0, none⟩ ∧ w.cell? ⟨g, i, none⟩ = some l[i] := by
  rcases h.2 with ⟨e, h0⟩ | ⟨g, cap, cur, e, _⟩
  · omega
  · injection e with e1 e2 e3
    subst e1
    have := h.cells (g := g) rfl i l[i] (by simp [List.getElem?_eq_getElem hi])
    exact ⟨g, rfl, by simpa [Addr.add_lit] using this⟩
/-- a row of slices that lies beside the blocks F. -/
structure Al (w0 w : World) (F : Nat → Prop) (v : Value) (la : List (Value × List Int)) : Prop where
  row : RowsQ w w0.heap.size v la
  own : ∀ k, v.ownBlock = some k → k < w.heap.size ∧ ¬ F k
  its : ∀ x ∈ la, ∀ k, x.1.ownBlock = some k → k < w.heap.size ∧ ¬ F k
section
variable {w0 w w' : World} {F F' : Nat → Prop} {v v' : Value} {la : List (Value × List Int)}
theorem Al.step (h : Al w0 w F v la) (t : Stp F w w' F') : Al w0 w' F' v la := by
  obtain ⟨S, hS, k⟩ := t.kp
  exact ⟨h.row.aside k (fun i hi hm => (h.own i hi).2 (hS i hm)) (fun x hx i hi hm => (h.its x hx i hi).2 (hS i hm)), fun i hi => ⟨Nat.lt_of_lt_of_le (h.own i hi).1 k.size, t.off (h.own i hi).1 (h.own i hi).2⟩, fun x hx i hi => ⟨Nat.lt_of_lt_of_le (h.its x hx i hi).1 k.size, t.off (h.its x hx i hi).1 (h.its x hx i hi).2⟩⟩
theorem Al.on (h : Al w0 w F v la) (k : Kp [] w w') : Al w0 w' F v la := h.step (Stp.mid k)
/-- one more. -/
theorem Al.put {x : Value × List Int} (h : Al w0 w F v la) (hF : ∀ i, F i → i < w.heap.size) (r : RowsQ w' w0.heap.size v' (la ++ [x])) (s : RStep w v w' v') (hx : ∀ k, x.1.ownBlock = some k → k < w.heap.size ∧ ¬ F k) : Al w0 w' F v' (la ++ [x]) := by
  have hs := s.1.size
  refine ⟨r, fun k hk => ⟨r.1.1.lt hk, ?_⟩, fun y hy k hk => ?_⟩
  · rcases s.2 k hk with h1 | h1
    · exact (h.own k h1).2
    · exact fun e => by have := hF k e; omega
  · rcases List.mem_append.1 hy with hy | hy
    · exact ⟨by have := (h.its y hy k hk).1; omega, (h.its y hy k hk).2⟩
    · obtain rfl : y = x := by simpa using hy
      exact ⟨by have := (hx k hk).1; omega, (hx k hk).2⟩
end
/-- a row of slices whose blocks lie between lo and hi. -/
structure Xs (w : World) (lo hi : Nat) (v : Value) (l : List (Value × List Int)) : Prop where
  row : RowsQ w lo v l
  own : ∀ k, v.ownBlock = some k → k < hi
  its : ∀ x ∈ l, ∀ k, x.1.ownBlock = some k → k < hi
theorem sl_lt {w : World} {v : Value} {bs : List Int} {k : Nat} (h : Sl w v bs) (hb : bs ≠ []) (hk : v.ownBlock = some k) : k < w.heap.size := by
  obtain ⟨ao, c, rfl, _, _, _, h4⟩ := h
  have hpos : 0 < bs.length := List.length_pos_iff.2 hb
  cases ao with
  | none => cases hk
  | some a =>
    have hc := h4 a rfl 0 (.int .u8 bs[0]) (by simp [List.getElem?_eq_getElem hpos])
    have := World.block_lt_of_cell? _ _ hc
    rw [add_block] at this
    have e : a.block = k := by simpa [Value.ownBlock] using hk
    omega
theorem Xs.kept {w w' : World} {lo hi : Nat} {v : Value} {l : List (Value × List Int)} {S : List Nat} (h : Xs w lo hi v l) (k : Kp S w w') (hS : ∀ i ∈ S, i < lo ∨ hi ≤ i) : Xs w' lo hi v l :=
  ⟨h.row.aside k (fun i e hm => by have := h.own i e; have := h.row.1.1.own i e; have := hS i hm; omega) (fun x hx i e hm => by have := h.its x hx i e; have := h.row.2 x hx i e; have := hS i hm; omega), h.own, h.its⟩
/-- append of a slice that lies anywhere else. -/
theorem wpList_rowsR {base : Nat} {w2 : World} {ops : Array Oper} {rest : List Oper} {o : Oper} {a : Act} {Q : Exit → Act → World → Prop} (hgd : o.guard = none) (s x : Operand)
    (ho : o.op = .call { callee := .builtin .append, args := #[s, x], argTypes := #[33, 33] }) (v : Value) (l : List (Value × List Int)) (hs : a.eval s = v) (hP : RowsQ w2 base v l) (hbase : base ≤ w2.heap.size) (hl : l.length ≤ 1000000)
    (vx : Value) (bs : List Int) (hr : Sl w2 vx bs) (hap : ∀ i, vx.ownBlock = some i → v.ownBlock ≠ some i) (hnb : ∀ i, vx.ownBlock = some i → base ≤ i) (hb : Bs bs) (hx : a.eval x = .slice (some ⟨w2.heap.size, 0, none⟩) 1 1)
    (h : ∀ ao m c w', m = l.length + 1 → RowsQ w' base (.slice ao m c) (l ++ [(vx, bs)]) → RStep w2 v w' (.slice ao m c) → wpList Tryz.prog ops Q rest (a.put o.dst (.slice ao m c)) w') : wpList Tryz.prog ops Q (o :: rest) a (w2.alloc (.cells #[vx] 22)) := by
  have k2 : Kp [] w2 (w2.alloc (.cells #[vx] 22)) := (Kp.refl [] w2).alloc _
  have hP2 := hP.1.kept k2
  obtain ⟨ax, cx, hvx, -⟩ := id hr
  refine wpList_append_rowv hgd s x ho base v (l.map (·.1)) hs hP2.1 ⟨w2.heap.size, 0, none⟩ 1 [vx] hx ?_ ?_ ?_ ?_ ?_
  · intro j u hu
    exact World.news_of_block (heap_alloc_new w2 _) j u (by simpa using hu)
  · simp [hvx, Value.oneCell']
  · simp; omega
  · simp; omega
  · intro ao m c w' r st
    have hml := r.len
    refine h ao m c w' (by rw [hml]; simp) ⟨hP2.snocJ (x := (vx, bs)) (hr.kept k2 (by simp)) hb (fun i h1 h2 => absurd h2 (hap i h1)) r st, fun y hy => ?_⟩ ⟨(k2.mono (by simp)).trans st.1, fun k hk => (st.2 k hk).imp id (fun h => Nat.le_trans k2.size h)⟩
    · rcases List.mem_append.1 hy with hy | hy
      · exact hP.2 y hy
      · obtain rfl : y = (vx, bs) := by simpa using hy
        exact hnb
/-- where x was last found among the first of l. -/
def fdU (l : List (List Int)) (x : List Int) : Int := if x ∈ l then (l.idxOf x : Int) else -1
end Go.Proofs.YtillhpgdlmeajaaGreatDoor

/-
  The contract of the reference ledger's Find.
-/
namespace Go.Proofs.YtillhpgdlmeajaaGreatDoor
open Go.RowKit
open Go.Proofs
set_option linter.unusedVariables false
set_option maxRecDepth 100000 in
set_option maxHeartbeats 4000000 in
theorem rfind_any (p : Nat) (va : Value) (la : List (Value × List Int)) (vx : Value) (x : List Int) (r : Int) (w : World) (hc : w.cell? ⟨p, 0, none⟩ = some va) (hL : Lists w va la) (hS : Sl w vx x) (hB : Bs x) (hl : la.length ≤ 1000000) (hr : r = fdU (la.map (·.2)) x) :
    Calls Tryz.prog 65 #[.pointer (some ⟨p, 0, none⟩), vx] w fun e w' => e = .returned (.int .i64 r) ∧ Kp [] w w' := by
  have HBx := hide hB
  have HR := hide hr
  obtain ⟨ax, cx, hvx, -⟩ := id hS
  obtain ⟨nx, hnx⟩ : ∃ n, n = x.length := ⟨_, rfl⟩
  rw [← hnx] at hvx
  subst hvx
  have HSx := hide hS
  obtain ⟨aa, ca, rfl, -, hcell⟩ := hL
  have HC := hide hcell
  obtain ⟨N, hN⟩ : ∃ N, N = la.length := ⟨_, rfl⟩
  have HN := hide hN
  rw [← hN] at hc hl
  have HCp := hide hc
  clear hcell hN hB hr hS hnx hc
  go_enter Tryz.func65, Tryz.ntmps65
  go_wp2_with fail
  go_loopw [5] (fun j wr => ∃ i : Nat, i ≤ N ∧ j = .int .i64 i ∧ Hid (x ∉ (la.map (·.2)).take i) ∧ Hid (Kp [] w wr)) (fun j _ => N - (intOf j).toNat)
  case atStart => exact ⟨0, by omega, rfl, hide (by simp), hide (Kp.refl _ _)⟩
  case round =>
    obtain ⟨i, hi, rfl, HNi, HK⟩ := hrel
    have hcp := HK.out.cell HCp.out (by simp)
    by_cases hlt : i < N
    · have hi' : (i : Int) < (N : Int) := by omega
      have hdi : decide ((i : Int) < (N : Int)) = true := decide_eq_true hi'
      have hil : i < la.length := by rw [← HN.out]; exact hlt
      obtain ⟨b1, o1, rfl, hc1, hS1, hB1⟩ := HC.out i hil
      have HKd := hide (HK.out.trans (kp_drew _))
      have d0 := HKd.out.cell HCp.out (by simp)
      have d1 := HKd.out.cell hc1 (by simp)
      have v1 := (hS1.kept HKd.out (by simp)).conv (P := Tryz.prog) 22 9 5 Tryz.underlying22 Tryz.underlying5 Tryz.underlying9
      have v2 := (HSx.out.kept HKd.out (by simp)).conv (P := Tryz.prog) 22 9 5 Tryz.underlying22 Tryz.underlying5 Tryz.underlying9
      have htk : (la.map (·.2)).take (i + 1) = (la.map (·.2)).take i ++ [la[i].2] := by
        have := List.take_succ_eq_append_getElem (l := la.map (·.2)) (i := i) (by rw [List.length_map]; exact hil)
        rw [this, List.getElem_map]
      have hall : la.map (·.2) = ((la.map (·.2)).take i ++ [la[i].2]) ++ (la.map (·.2)).drop (i + 1) := by rw [← htk, List.take_append_drop]
      have hli : ((la.map (·.2)).take i).length = i := by rw [List.length_take, List.length_map]; omega
      obtain ⟨bi, hbi⟩ : ∃ x, x = la[i].2 := ⟨_, rfl⟩
      obtain ⟨vi, hvi⟩ : ∃ x, x = la[i].1 := ⟨_, rfl⟩
      rw [← hbi] at hS1 hB1 v1 htk hall
      rw [← hvi] at hS1 d1 v1
      obtain ⟨ai, ci, hvi', -⟩ := hS1
      obtain ⟨mi, hmi⟩ : ∃ n, n = bi.length := ⟨_, rfl⟩
      rw [← hmi] at hvi'
      subst hvi'
      have HTk := hide htk
      have HAl := hide hall
      have HLi := hide hli
      by_cases hxy : bi = x
      · subst hxy
        obtain ⟨S1, hS1⟩ : ∃ S, S = strOfNums bi := ⟨_, rfl⟩
        rw [← hS1] at v1 v2
        clear hS1 hbi hvi hmi htk hall hli hB1 hil hc1 hcp
        have hcp := HK.out.cell HCp.out (by simp)
        go_wp2_with fail
        refine region_read Tryz.mixed (by kernel_rfl) ?_
        repeat (first | go_big_quiet_skip | (go_big_quiet_want; go_big_quiet_op; go_big_quiet_on))
        refine wpQuiet_nil ?_
        go_wp2_with fail
        go_ret
        refine ⟨?_, HKd.out⟩
        rw [HR.out, HAl.out]
        unfold fdU
        rw [if_pos (by simp), idx_pre (by simp), idx_post HNi.out, HLi.out]
        simp
      · have hss := str_beq bi x hB1 HBx.out
        rw [decide_eq_false hxy] at hss
        have HXy := hide hxy
        obtain ⟨S1, hS1⟩ : ∃ S, S = strOfNums bi := ⟨_, rfl⟩
        obtain ⟨S2, hS2⟩ : ∃ S, S = strOfNums x := ⟨_, rfl⟩
        rw [← hS1, ← hS2] at hss
        rw [← hS1] at v1
        rw [← hS2] at v2
        clear hS1 hS2 hbi hvi hmi htk hall hli hB1 hil hc1 hxy
        go_wp2_with fail
        refine region_read Tryz.mixed (by kernel_rfl) ?_
        repeat (first | go_big_quiet_skip | (go_big_quiet_want; go_big_quiet_op; go_big_quiet_on))
        refine wpQuiet_nil ?_
        go_wp2_with fail
        go_roundw
        case rel => exact ⟨i + 1, by omega, by go_num, hide (by rw [HTk.out]; simp only [List.mem_append, List.mem_singleton, not_or]; exact ⟨HNi.out, fun e => HXy.out e.symm⟩), HKd⟩
        case measure => simp [intOf]; omega
    · obtain rfl : i = N := by omega
      have hi' : ¬ (i : Int) < (i : Int) := by omega
      have hdi : decide ((i : Int) < (i : Int)) = false := decide_eq_false hi'
      have hnm : x ∉ la.map (·.2) := by
        have := HNi.out
        rwa [List.take_of_length_le (by rw [List.length_map, HN.out]; omega)] at this
      have HNm := hide hnm
      clear hnm
      go_wp2_with fail
      go_ret
      refine ⟨?_, HK.out⟩
      rw [HR.out]
      unfold fdU
      rw [if_neg HNm.out]
      rfl
end Go.Proofs.YtillhpgdlmeajaaGreatDoor
