/-
  Lists gathered behind one another; records cut off by a crash.
-/
import Derived.Test.YtillhpgdlmeajaaGreatDoorQC18
import Derived.Test.YtillhpgdlmeajaaGreatDoorQOLedgerCrashes5
namespace Go.Proofs.YtillhpgdlmeajaaGreatDoor
open Go.RowKit
open Go.Proofs
theorem wpList_append_list {w : World} {ops : Array Oper} {rest : List Oper} {o : Oper} {a : Act} {Q : Exit → Act → World → Prop} (hgd : o.guard = none) (s x : Operand)
    (ho : o.op = .call { callee := .builtin .append, args := #[s, x], argTypes := #[33, 33] }) (base : Nat) (v : Value) (xs : List Value) (hs : a.eval s = v) (hrow : RowV w base v xs)
    (ol : Option Addr) (m oc : Nat) (la : List (Value × List Int)) (hx : a.eval x = .slice ol m oc) (hL : Lists w (.slice ol m oc) la) (hn : ol = none → oc = 0) (hb : xs.length + la.length ≤ 1000000) (hbase : base ≤ w.heap.size)
    (h : ∀ ao m c w', RowV w' base (.slice ao m c) (xs ++ la.map (·.1)) → RStep w v w' (.slice ao m c) → wpList Tryz.prog ops Q rest (a.put o.dst (.slice ao m c)) w') : wpList Tryz.prog ops Q (o :: rest) a w := by
  obtain ⟨ol', oc', e, hl1, hcell⟩ := hL
  injection e with e1 e2 e3
  subst e1 e3
  subst e2
  cases ol with
  | none =>
    have h0 : la = [] := by
      cases la with
      | nil => rfl
      | cons y t =>
        obtain ⟨b, off, e, -⟩ := hcell 0 (by simp)
        cases e
    subst h0
    have hoc := hn rfl
    subst hoc
    obtain ⟨i0, hi0, hz0, hz1, hz2⟩ := info_parts Tryz.infoSl
    have hrow0 := hrow
    obtain ⟨av, cv, rfl⟩ := hrow0.shape
    refine wpList_append_own_none hgd s x 33 ho base 22 i0 1 Tryz.underlying33 hi0 _ xs.length xs hs hrow (by simpa using hx) ?_
    exact h av _ cv w (by simpa using hrow) (RStep.refl _ _)
  | some ad =>
    refine wpList_append_rowv hgd s x ho base v xs hs hrow ad oc (la.map (·.1)) (by rw [hx]; simp) ?_ ?_ (by simp; omega) hbase h
    · intro j u hu
      have hj : j < la.length := by have := (List.getElem?_eq_some_iff.1 hu).1; simpa using this
      obtain ⟨b, off, e, hc, -⟩ := hcell j hj
      injection e with e
      subst e
      rw [Addr.add_lit, hc]
      simpa [List.getElem?_eq_getElem hj] using hu
    · intro u hu
      obtain ⟨y, hy, rfl⟩ := List.mem_map.1 hu
      obtain ⟨i, hi, rfl⟩ := List.getElem_of_mem hy
      obtain ⟨b, off, e, hc, ⟨a1, c1, e1, -⟩, -⟩ := hcell i hi
      rw [e1]; rfl
/-- what a crash leaves of records that were added and put. -/
theorem crash_lay (A B : List (List Int)) (keep : Int) (hA : ∀ r ∈ A, r.length ≤ 65535) (hB : ∀ r ∈ B, r.length ≤ 65535) :
    ∃ (q jj : Nat), q ≤ (layP (A ++ B)).length ∧ (⟨layP (A ++ B), (layP A).length, 1048576, 0, false⟩ : Dk).crash keep = ⟨(layP (A ++ B)).take q, q, 1048576, 0, false⟩ ∧
      A.length ≤ jj ∧ jj ≤ A.length + B.length ∧ opnP ((layP (A ++ B)).take q) = ((A ++ B).take jj, (layP ((A ++ B).take jj)).length, true) ∧
      (⟨(layP (A ++ B)).take q, q, 1048576, 0, false⟩ : Dk).opn = dkOn (layP ((A ++ B).take jj)) := by
  have hAB : ∀ r ∈ A ++ B, r.length ≤ 65535 := fun r hr => (List.mem_append.1 hr).elim (hA r) (hB r)
  have hle : (layP A).length ≤ (layP (A ++ B)).length := by rw [layP_append, List.length_append]; omega
  obtain ⟨q, hq⟩ : ∃ q, q = (⟨layP (A ++ B), (layP A).length, 1048576, 0, false⟩ : Dk).left keep := ⟨_, rfl⟩
  have hq' : q = (layP A).length + min keep.toNat ((layP (A ++ B)).length - (layP A).length) := hq
  have hq1 : q ≤ (layP (A ++ B)).length := by omega
  have hq2 : (layP A).length ≤ q := by omega
  obtain ⟨jj, h1, h2, h3, h4⟩ := opnP_take (A ++ B) hAB q hq1
  have hjA : A.length ≤ jj := h4 A.length (by simp) (by rw [List.take_left' rfl]; exact hq2)
  refine ⟨q, jj, hq1, ?_, hjA, by simpa using h1, h2, ?_⟩
  · unfold Dk.crash
    rw [← hq]
    show (⟨(layP (A ++ B)).take q, min q (layP (A ++ B)).length, 1048576, 0, false⟩ : Dk) = _
    rw [show min q (layP (A ++ B)).length = q from by omega]
  · have hl : ((layP (A ++ B)).take q).length = q := by simp; omega
    have hpre : (layP (A ++ B)).take (layP ((A ++ B).take jj)).length = layP ((A ++ B).take jj) := by
      have e : layP (A ++ B) = layP ((A ++ B).take jj) ++ layP ((A ++ B).drop jj) := by rw [← layP_append, List.take_append_drop]
      rw [e, List.take_left' rfl]
      
    unfold Dk.opn
    have hbs : (⟨(layP (A ++ B)).take q, q, 1048576, 0, false⟩ : Dk).bs = (layP (A ++ B)).take q := rfl
    rw [hbs, h2]
    simp only [hl]
    split
    · rw [List.take_take, show min (layP ((A ++ B).take jj)).length q = (layP ((A ++ B).take jj)).length from by omega, hpre]
      rfl
    · have hqe : q = (layP ((A ++ B).take jj)).length := by omega
      rw [hqe, hpre]
      rfl
end Go.Proofs.YtillhpgdlmeajaaGreatDoor

/-
  Chapter 14 as plain functions: the records of the first keys.
-/
namespace Go.Proofs.YtillhpgdlmeajaaGreatDoor
theorem keyL_take {n k : Nat} (h : k ≤ n) : (keyL n).take k = keyL k := by
  refine List.ext_getElem (by simp [keyL_len]; omega) (fun i h1 h2 => ?_)
  rw [keyL_len] at h2
  rw [List.getElem_take, keyL_get h2, keyL_get (by omega)]
namespace Dk
/-- a key's record is added where there is room and power. -/
theorem add_up {d : Dk} (h : d.down = false) (ha : d.arm ≤ 0) (b : List Int) (hf : ((d.bs.length + b.length : Nat) : Int) ≤ d.lim) : d.add b = (true, { d with bs := d.bs ++ b, syn := (d.bs ++ b).length }) := by
  unfold add
  rw [app_plain h ha b hf, if_pos rfl]
  exact sync_plain (d := { d with bs := d.bs ++ b }) h ha
theorem add_down {d : Dk} (h : d.down = true) (b : List Int) : d.add b = (false, d) := by
  unfold add
  rw [app_down h b, if_neg (by simp)]
end Dk
end Go.Proofs.YtillhpgdlmeajaaGreatDoor

/-
  Package keys: a box in memory; Open, Take, Next, Left.
-/
namespace Go.Proofs.YtillhpgdlmeajaaGreatDoor
open Go.RowKit
open Go.Proofs
set_option linter.unusedVariables false
section
variable {w0 w w' : World} {p q n k : Nat} {d d' : Dk}
theorem take_used (h : Bx w0 w p d q 16 k) : Calls Tryz.prog 115 #[.pointer (some ⟨q, 0, none⟩)] w fun e w' => e = .returned (.tuple #[.int .i64 0, .int .i64 23]) ∧ w' = w := by
  obtain ⟨v, j, m, -, -, h, -⟩ := h
  have hc := h.c1
  clear h
  go_enter Tryz.func115, Tryz.ntmps115
  go_wp2_with fail
  go_ret2
  exact ⟨rfl, rfl⟩
end
end Go.Proofs.YtillhpgdlmeajaaGreatDoor

/-
  Disks, journals and boxes with the blocks that they lie in.
-/
namespace Go.Proofs.YtillhpgdlmeajaaGreatDoor
open Go.RowKit
open Go.Proofs
set_option linter.unusedVariables false
section
variable {w0 w w' : World} {p q j n k : Nat} {d d' : Dk} {F : Nat → Prop} {v : Value}
theorem Bf.dx (h : Bf w0 w p d q n k F) : Dx w0 w p d F := by
  obtain ⟨v, j, m, h1, h2, h3, h4, h5, h6, h7⟩ := h
  exact ⟨v, h2.nw, h7⟩
theorem Jx.dx (h : Jx w0 w p d j k F) : Dx w0 w p d F := by
  obtain ⟨v, m, h1, h2, h3, h4⟩ := h
  exact ⟨v, h2.nw, h4⟩
/-- a disk takes a step. -/
theorem Dx.stepD {v v' : Value} (hF : ∀ i ∈ dfp p v, F i) (g : Nw w0 w' p v' d') (t : DSt p w v w' v') : ∃ F', Dx w0 w' p d' F' ∧ Stp F w w' F' ∧ ∀ i, F i → F' i :=
  ⟨grF F v', ⟨v', g, grF_fp (hF p (mem_dfp.2 (.inl rfl)))⟩, t.stp hF g.rlt, fun i h => .inl h⟩
theorem Jx.stepD {v v' : Value} (h : ∃ m, m ≤ k ∧ Jn w0 w p v d j m ∧ F j ∧ ∀ i ∈ dfp p v, F i) (g : Nw w0 w' p v' d') (t : DSt p w v w' v') : ∃ F', Jx w0 w' p d' j k F' ∧ Stp F w w' F' := by
  obtain ⟨m, h1, h2, h3, h4⟩ := h
  exact ⟨grF F v', ⟨v', m, h1, h2.disk g t, .inl h3, grF_fp (h4 p (mem_dfp.2 (.inl rfl)))⟩, t.stp h4 g.rlt⟩
theorem Bf.stepD {v v' : Value} (h : ∃ j m, m ≤ k ∧ Jn w0 w p v d j m ∧ Kb w q j n ∧ w0.heap.size ≤ q ∧ F q ∧ F j ∧ ∀ i ∈ dfp p v, F i) (g : Nw w0 w' p v' d') (t : DSt p w v w' v') : ∃ F', Bf w0 w' p d' q n k F' ∧ Stp F w w' F' := by
  obtain ⟨j, m, h1, h2, h3, h4, h5, h6, h7⟩ := h
  exact ⟨grF F v', ⟨v', j, m, h1, h2.disk g t, h3.kept t.1 (h3.off h2.nw.dk), h4, .inl h5, .inl h6, grF_fp (h7 p (mem_dfp.2 (.inl rfl)))⟩, t.stp h7 g.rlt⟩
end
end Go.Proofs.YtillhpgdlmeajaaGreatDoor

/-
  Arguments of the laws of keys: slices of numbers.
-/
namespace Go.Proofs.YtillhpgdlmeajaaGreatDoor
open Go.RowKit
open Go.Proofs
open Go.Deep Go.ChangeShapes Go.WideShapes
def IntsK (w : World) (v : Value) (l : List Int) : Prop :=
  ∃ ao c, v = .slice ao l.length c ∧ l.length ≤ 9223372036854775807 ∧ ∀ i (h : i < l.length), ∃ b off, ao = some ⟨b, off, none⟩ ∧ w.cell? ⟨b, off + i, none⟩ = some (.int .i64 l[i])
theorem IntsK.kept {w w' : World} {v : Value} {l : List Int} (h : IntsK w v l) (k : Kp [] w w') : IntsK w' v l := by
  obtain ⟨ao, c, rfl, h1, h2⟩ := h
  refine ⟨ao, c, rfl, h1, fun i hi => ?_⟩
  obtain ⟨b, off, e, h3⟩ := h2 i hi
  exact ⟨b, off, e, k.cell h3 (by simp)⟩
section
variable {H : Type} {enc : TypeId × Value → H} {w : World}
end
end Go.Proofs.YtillhpgdlmeajaaGreatDoor

/-
  What stands on a box's disk between its calls, and behind a crash.
-/
namespace Go.Proofs.YtillhpgdlmeajaaGreatDoor
/-- n keys were told, power goes at the a-th call. -/
def upD (n : Nat) (a : Int) : Dk := ⟨klay n, (klay n).length, 1048576, a, false⟩
/-- power went while the n-th was taken: its record may be lost. -/
def dnD (n : Nat) : Dk := ⟨klay (n + 1), (klay n).length, 1048576, 0, true⟩
def Stn (d : Dk) (n : Nat) : Prop := n ≤ 16 ∧ ((∃ a, 0 ≤ a ∧ d = upD n a) ∨ (n < 16 ∧ d = dnD n))
theorem upD_arm (n : Nat) (a : Int) (h : 0 ≤ a) : (upD n 0).armed (max a 0) = upD n a := by
  unfold Dk.armed
  rw [if_neg (by show ¬ false = true; decide)]
  show (⟨klay n, (klay n).length, 1048576, max a 0, false⟩ : Dk) = _
  rw [show max a 0 = a by omega]
  rfl
theorem upD_fits {n : Nat} (a : Int) (h : n < 16) : (((upD n a).bs.length + (recP [(n : Int)]).length : Nat) : Int) ≤ (upD n a).lim := by
  show (((klay n).length + (recP [(n : Int)]).length : Nat) : Int) ≤ 1048576
  rw [klay_len, recP_len]; simp; omega
theorem stn_take {d : Dk} {n : Nat} (h : Stn d n) (hn : n < 16) : ∃ er d', d.add (recP [(n : Int)]) = (er, d') ∧ Stn d' (if er then n + 1 else n) := by
  obtain ⟨-, ⟨a, ha, rfl⟩ | ⟨-, rfl⟩⟩ := h
  · by_cases h0 : a = 0
    · subst h0
      refine ⟨true, upD (n + 1) 0, ?_, by simp; omega, .inl ⟨0, Int.le_refl 0, rfl⟩⟩
      have := Dk.add_up (d := upD n 0) rfl (Int.le_refl 0) (recP [(n : Int)]) (upD_fits 0 hn)
      rw [this]
      show (true, (⟨klay n ++ recP [(n : Int)], (klay n ++ recP [(n : Int)]).length, 1048576, 0, false⟩ : Dk)) = _
      rw [← klay_succ]
      rfl
    · by_cases h1 : a = 1
      · subst h1
        refine ⟨false, dnD n, ?_, by simp; omega, .inr ⟨hn, rfl⟩⟩
        unfold Dk.add
        rw [Dk.app_at (d := upD n 1) rfl rfl (recP [(n : Int)]) (upD_fits 1 hn), if_neg (by simp)]
        show (false, (⟨klay n ++ recP [(n : Int)], (klay n).length, 1048576, 0, true⟩ : Dk)) = _
        rw [← klay_succ]
        rfl
      · have hc : (upD n a).cal = (true, false, upD n (a - 1)) := by
          unfold Dk.cal
          rw [if_neg (by show ¬ false = true; decide), if_pos (by show 0 < a; omega), if_neg (by show ¬ a = 1; omega)]
          rfl
        have happ : (upD n a).app (recP [(n : Int)]) = (true, ⟨klay (n + 1), (klay n).length, 1048576, a - 1, false⟩) := by
          have := upD_fits a hn
          unfold Dk.app
          rw [hc, if_neg (by simp; omega)]
          show (true, (⟨klay n ++ recP [(n : Int)], (klay n).length, 1048576, a - 1, false⟩ : Dk)) = _
          rw [← klay_succ]
        by_cases h2 : a = 2
        · subst h2
          refine ⟨false, dnD n, ?_, by simp; omega, .inr ⟨hn, rfl⟩⟩
          unfold Dk.add
          rw [happ, if_pos rfl]
          rfl
        · refine ⟨true, upD (n + 1) (a - 2), ?_, by simp; omega, .inl ⟨a - 2, by omega, rfl⟩⟩
          unfold Dk.add
          rw [happ, if_pos rfl]
          have hc2 : (⟨klay (n + 1), (klay n).length, 1048576, a - 1, false⟩ : Dk).cal = (true, false, ⟨klay (n + 1), (klay n).length, 1048576, a - 1 - 1, false⟩) := by
            unfold Dk.cal
            rw [if_neg (by show ¬ false = true; decide), if_pos (by show 0 < a - 1; omega), if_neg (by show ¬ a - 1 = 1; omega)]
          show Dk.sync _ = _
          unfold Dk.sync
          rw [hc2, if_pos rfl]
          show (true, (⟨klay (n + 1), (klay (n + 1)).length, 1048576, a - 1 - 1, false⟩ : Dk)) = _
          rw [show a - 1 - 1 = a - 2 by omega]
          rfl
  · exact ⟨false, dnD n, Dk.add_down rfl _, by simp; omega, .inr ⟨hn, rfl⟩⟩
/-- a disk as it stands between crashes: so many keys are on it. -/
structure Rst (d : Dk) (m : Nat) : Prop where
  le : m ≤ 16
  down : d.down = false
  arm : d.arm ≤ 0
  opn : ∃ at_, opnP d.bs = (keyL m, at_, true)
  cut : d.opn = upD m 0
theorem stn_crash {d : Dk} {n : Nat} (h : Stn d n) (keep : Int) : ∃ m, n ≤ m ∧ Rst (d.crash keep) m := by
  obtain ⟨hn, ⟨a, ha, rfl⟩ | ⟨hn', rfl⟩⟩ := h
  · obtain ⟨q, jj, h1, h2, h3, h4, h5, h6⟩ := crash_lay (keyL n) [] keep (keyL_short n) (by simp)
    rw [List.append_nil] at h1 h2 h5 h6
    have e : (upD n a).crash keep = (⟨layP (keyL n), (layP (keyL n)).length, 1048576, 0, false⟩ : Dk).crash keep := rfl
    rw [keyL_len] at h3 h4
    simp only [List.length_nil, Nat.add_zero] at h4
    rw [keyL_take (by omega)] at h5 h6
    refine ⟨jj, by omega, ?_⟩
    rw [e, h2]
    exact ⟨by omega, rfl, Int.le_refl 0, ⟨_, h5⟩, h6⟩
  · obtain ⟨q, jj, h1, h2, h3, h4, h5, h6⟩ := crash_lay (keyL n) [[(n : Int)]] keep (keyL_short n) (by simp)
    rw [← keyL_succ] at h1 h2 h5 h6
    have e : (dnD n).crash keep = (⟨layP (keyL (n + 1)), (layP (keyL n)).length, 1048576, 0, false⟩ : Dk).crash keep := rfl
    rw [keyL_len] at h3 h4
    simp only [List.length_cons, List.length_nil, Nat.zero_add] at h4
    rw [keyL_take (by omega)] at h5 h6
    refine ⟨jj, by omega, ?_⟩
    rw [e, h2]
    exact ⟨by omega, rfl, Int.le_refl 0, ⟨_, h5⟩, h6⟩
end Go.Proofs.YtillhpgdlmeajaaGreatDoor
