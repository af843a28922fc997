/-
  Lists gathered behind one another; records cut off by a crash.
-/
import Derived.Test.YtillhpgdlmeajaaGreatDoorKJArg
namespace Go.Proofs.YtillhpgdlmeajaaGreatDoor
open Go.RowKit
open Go.Proofs

theorem RowV.room {w : World} {base m c : Nat} {ao : Option Addr} {xs : List Value} (h : RowV w base (.slice ao m c) xs) : m ≤ c ∧ m = xs.length := by
  have hm := h.len
  rcases h.2 with ⟨h', h0⟩ | ⟨g, cap, cur, h', hb, hg, hc, -⟩
  · injection h' with h1 h2 h3
    exact ⟨by omega, hm⟩
  · injection h' with h1 h2 h3
    exact ⟨by omega, hm⟩
theorem rowv_none (w : World) : RowV (w.alloc (.cells #[] 22)) w.heap.size (.slice (some ⟨w.heap.size, 0, none⟩) 0 0) [] := World.ownsRow_made w #[] 0 (Nat.le_refl _) (by simp [maxLen]) rfl
theorem wpList_append_list {w : World} {ops : Array Oper} {rest : List Oper} {o : Oper} {a : Act} {Q : Exit → Act → World → Prop} (hgd : o.guard = none) (s x : Operand)
    (ho : o.op = .call { callee := .builtin .append, args := #[s, x], argTypes := #[33, 33] }) (base : Nat) (v : Value) (xs : List Value) (hs : a.eval s = v) (hrow : RowV w base v xs)
    (ol : Option Addr) (m oc : Nat) (la : List (Value × List Int)) (hx : a.eval x = .slice ol m oc) (hL : Lists w (.slice ol m oc) la) (hn : ol = none → oc = 0) (hb : xs.length + la.length ≤ 1000000) (hbase : base ≤ w.heap.size)
    (h : ∀ ao m c w', RowV w' base (.slice ao m c) (xs ++ la.map (·.1)) → RStep w v w' (.slice ao m c) → wpList Tryz.prog ops Q rest (a.put o.dst (.slice ao m c)) w') : wpList Tryz.prog ops Q (o :: rest) a w := by
  obtain ⟨ol', oc', e, hl1, hcell⟩ := hL
  injection e with e1 e2 e3
  subst e1 e3
  subst e2
  cases ol with
  | none =>
    have h0 : la = [] := by
      cases la with
      | nil => rfl
      | cons y t =>
        obtain ⟨b, off, e, -⟩ := hcell 0 (by simp)
        cases e
    subst h0
    have hoc := hn rfl
    subst hoc
    obtain ⟨i0, hi0, hz0, hz1, hz2⟩ := info_parts Tryz.infoSl
    have hrow0 := hrow
    obtain ⟨av, cv, rfl⟩ := hrow0.shape
    refine wpList_append_own_none hgd s x 33 ho base 22 i0 1 Tryz.underlying33 hi0 _ xs.length xs hs hrow (by simpa using hx) ?_
    exact h av _ cv w (by simpa using hrow) (RStep.refl _ _)
  | some ad =>
    refine wpList_append_rowv hgd s x ho base v xs hs hrow ad oc (la.map (·.1)) (by rw [hx]; simp) ?_ ?_ (by simp; omega) hbase h
    · intro j u hu
      have hj : j < la.length := by have := (List.getElem?_eq_some_iff.1 hu).1; simpa using this
      obtain ⟨b, off, e, hc, -⟩ := hcell j hj
      injection e with e
      subst e
      rw [Addr.add_lit, hc]
      simpa [List.getElem?_eq_getElem hj] using hu
    · intro u hu
      obtain ⟨y, hy, rfl⟩ := List.mem_map.1 hu
      obtain ⟨i, hi, rfl⟩ := List.getElem_of_mem hy
      obtain ⟨b, off, e, hc, ⟨a1, c1, e1, -⟩, -⟩ := hcell i hi
      rw [e1]; rfl
theorem RStep.kpv {w w1 w2 : World} {v v' : Value} {xs : List Value} (s : RStep w1 v w2 v') (k : Kp [] w w1) (r : RowV w1 w.heap.size v xs) : Kp [] w w2 :=
  k.then s.1 (fun i hi => .inr (r.own i (by simpa [Option.mem_toList] using hi)))
/-- what a crash leaves of records that were added and put. -/
theorem crash_lay (A B : List (List Int)) (keep : Int) (hA : ∀ r ∈ A, r.length ≤ 65535) (hB : ∀ r ∈ B, r.length ≤ 65535) :
    ∃ (q jj : Nat), q ≤ (layP (A ++ B)).length ∧ (⟨layP (A ++ B), (layP A).length, 1048576, 0, false⟩ : Dk).crash keep = ⟨(layP (A ++ B)).take q, q, 1048576, 0, false⟩ ∧
      A.length ≤ jj ∧ jj ≤ A.length + B.length ∧ opnP ((layP (A ++ B)).take q) = ((A ++ B).take jj, (layP ((A ++ B).take jj)).length, true) ∧
      (⟨(layP (A ++ B)).take q, q, 1048576, 0, false⟩ : Dk).opn = dkOn (layP ((A ++ B).take jj)) := by
  have hAB : ∀ r ∈ A ++ B, r.length ≤ 65535 := fun r hr => (List.mem_append.1 hr).elim (hA r) (hB r)
  have hle : (layP A).length ≤ (layP (A ++ B)).length := by rw [layP_append, List.length_append]; omega
  obtain ⟨q, hq⟩ : ∃ q, q = (⟨layP (A ++ B), (layP A).length, 1048576, 0, false⟩ : Dk).left keep := ⟨_, rfl⟩
  have hq' : q = (layP A).length + min keep.toNat ((layP (A ++ B)).length - (layP A).length) := hq
  have hq1 : q ≤ (layP (A ++ B)).length := by omega
  have hq2 : (layP A).length ≤ q := by omega
  obtain ⟨jj, h1, h2, h3, h4⟩ := opnP_take (A ++ B) hAB q hq1
  have hjA : A.length ≤ jj := h4 A.length (by simp) (by rw [List.take_left' rfl]; exact hq2)
  refine ⟨q, jj, hq1, ?_, hjA, by simpa using h1, h2, ?_⟩
  · unfold Dk.crash
    rw [← hq]
    show (⟨(layP (A ++ B)).take q, min q (layP (A ++ B)).length, 1048576, 0, false⟩ : Dk) = _
    rw [show min q (layP (A ++ B)).length = q from by omega]
  · have hl : ((layP (A ++ B)).take q).length = q := by simp; omega
    have hpre : (layP (A ++ B)).take (layP ((A ++ B).take jj)).length = layP ((A ++ B).take jj) := by
      have e : layP (A ++ B) = layP ((A ++ B).take jj) ++ layP ((A ++ B).drop jj) := by rw [← layP_append, List.take_append_drop]
      rw [e, List.take_left' rfl]
      
    unfold Dk.opn
    have hbs : (⟨(layP (A ++ B)).take q, q, 1048576, 0, false⟩ : Dk).bs = (layP (A ++ B)).take q := rfl
    rw [hbs, h2]
    simp only [hl]
    split
    · rw [List.take_take, show min (layP ((A ++ B).take jj)).length q = (layP ((A ++ B).take jj)).length from by omega, hpre]
      rfl
    · have hqe : q = (layP ((A ++ B).take jj)).length := by omega
      rw [hqe, hpre]
      rfl
theorem crash0 (b : List Int) : (dkOn b).crash 0 = dkOn b := by
  have hl : (dkOn b).left 0 = b.length := by show b.length + min (0 : Int).toNat (b.length - b.length) = b.length; simp
  unfold Dk.crash
  rw [hl]
  show (⟨b.take b.length, min b.length b.length, 1048576, 0, false⟩ : Dk) = dkOn b
  rw [List.take_length, Nat.min_self]
  rfl
end Go.Proofs.YtillhpgdlmeajaaGreatDoor
