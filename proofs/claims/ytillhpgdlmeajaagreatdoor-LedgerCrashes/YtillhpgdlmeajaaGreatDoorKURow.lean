/-
  Rows of numbers that a call owns; items of a row of texts.
-/
import Derived.Test.YtillhpgdlmeajaaGreatDoorKUShelf
import Derived.Test.YtillhpgdlmeajaaGreatDoorKMWire
import Derived.Test.YtillhpgdlmeajaaGreatDoorKLSmalls
namespace Go.Proofs.YtillhpgdlmeajaaGreatDoor
open Go.RowKit
open Go.Proofs
set_option linter.unusedVariables false

theorem beU_2 (n : Int) : be n 2 0 = be2 n := be_two n
theorem be_bqU (n : Int) : be n 4 0 = bq n := by simp [be, byteAt, List.range_succ, bq]
theorem Tryz.infoInt : (Tryz.prog.info? 3).map (fun i => (i.zero, i.size, i.bytes)) = some (some (.int .i64 0), 1, 8) := by kernel_rfl
/-- the row v of ints, of the call's own from base on. -/
def RowI (w : World) (base : Nat) (v : Value) (l : List Int) : Prop := w.ownsRow base 3 1 v l.length (l.map (Value.int .i64))
theorem RowI.kept {w w' : World} {base : Nat} {v : Value} {l : List Int} {S : List Nat} (h : RowI w base v l) (k : Kp S w w') (hv : ∀ i, v.ownBlock = some i → i ∉ S) : RowI w' base v l := k.owns h hv
theorem RowI.shape {w : World} {base : Nat} {v : Value} {l : List Int} (h : RowI w base v l) : ∃ ao c, v = .slice ao l.length c := owns_shape h
theorem RowI.lt {w : World} {base k : Nat} {v : Value} {l : List Int} (h : RowI w base v l) (hk : v.ownBlock = some k) : base ≤ k ∧ k < w.heap.size := by
  rcases h.2 with ⟨rfl, _⟩ | ⟨g, cap, cur, rfl, hb, hg, _⟩
  · cases hk
  · cases hk; exact ⟨hb, (Array.getElem?_eq_some_iff.1 hg).1⟩
theorem RowI.rebase {w : World} {base base' : Nat} {v : Value} {l : List Int} (h : RowI w base v l) (hn : ∀ k, v.ownBlock = some k → base' ≤ k) : RowI w base' v l := owns_rebase h hn
theorem wpList_append_rowi {w : World} {ops : Array Oper} {rest : List Oper} {o : Oper} {a : Act} {Q : Exit → Act → World → Prop} (hgd : o.guard = none) (s x : Operand)
    (ho : o.op = .call { callee := .builtin .append, args := #[s, x], argTypes := #[35, 35] }) (base : Nat) (v : Value) (xs : List Int) (hs : a.eval s = v) (hrow : RowI w base v xs)
    (n : Int) (hx : a.eval x = .slice (some ⟨w.heap.size, 0, none⟩) 1 1) (hb : xs.length ≤ 1000000) (hbase : base ≤ w.heap.size)
    (h : ∀ ao m c w', RowI w' base (.slice ao m c) (xs ++ [n]) → RStep w v w' (.slice ao m c) → wpList Tryz.prog ops Q rest (a.put o.dst (.slice ao m c)) w') : wpList Tryz.prog ops Q (o :: rest) a (w.alloc (.cells #[.int .i64 n] 3)) := by
  obtain ⟨i0, hi0, hz0, hz1, hz2⟩ := info_parts Tryz.infoInt
  obtain ⟨av, cv, rfl⟩ := hrow.shape
  have k0 : Kp [] w (w.alloc (.cells #[.int .i64 n] 3)) := (Kp.refl [] w).alloc _
  refine wpList_append_own_at _ hgd s x 35 ho base 3 i0 (.int .i64 0) 1 8 Tryz.underlying35 hi0 hz0 hz1 hz2 rfl (by decide) _ xs.length (xs.map (Value.int .i64)) hs (hrow.kept k0 (by simp)) ⟨w.heap.size, 0, none⟩ 1 1 [.int .i64 n] hx rfl (fun j u hu => World.news_of_block (heap_alloc_new w _) j u (by simpa using hu)) (by simp [Value.oneCell']) (by unfold maxLen; omega) (by omega) (Nat.le_trans hbase k0.size) ?_
  intro v' w1 hown hgrow _ hat
  have R : RowI w1 base v' (xs ++ [n]) := by unfold RowI; rw [List.length_append, List.map_append]; exact hown
  obtain ⟨ao', c', hv⟩ := R.shape
  subst hv
  refine h ao' _ c' w1 R ⟨(k0.mono (by simp)).trans ((Kp.refl _ _).grown hgrow (fun k hk => .inl (by simp [hk]))), fun k hk => ?_⟩
  rcases hat with e | e
  · exact .inl (e ▸ hk)
  · rw [e] at hk; cases hk; exact .inr (by simp)
/-- an item of a row of texts. -/
theorem RowU.at {w : World} {base m c : Nat} {ao : Option Addr} {l : List (List Int)} (h : RowU w base (.slice ao m c) l) (i : Nat) (hi : i < l.length) : ∃ g, ao = some ⟨g, 0, none⟩ ∧ w.cell? ⟨g, i, none⟩ = some (.string (strOfNums l[i])) := by
  rcases h.2 with ⟨e, h0⟩ | ⟨g, cap, cur, e, _⟩
  · omega
  · injection e with e1 e2 e3
    subst e1
    have := h.cells (g := g) rfl i (sv l[i]) (by simp [List.getElem?_eq_getElem hi])
    exact ⟨g, rfl, by simpa [Addr.add_lit, sv] using this⟩
set_option maxRecDepth 100000 in
set_option maxHeartbeats 4000000 in
theorem ulaid_any (v : Value) (l : List (List Int)) (w : World) (hR : RowU w 0 v l) (hs : ∀ x ∈ l, Bs x ∧ x.length ≤ 65535) (hn : l.length ≤ 1000) :
    Calls Tryz.prog 98 #[v] w fun e w' => ∃ ao m c, e = .returned (.tuple #[.slice ao m c, .bool true]) ∧ Row w' w.heap.size (.slice ao m c) (batU l) ∧ Kp [] w w' := by
  obtain ⟨al, cl, rfl⟩ := hR.shape
  have HR := hide hR
  have HS := hide hs
  obtain ⟨n, hnl⟩ : ∃ n, n = l.length := ⟨_, rfl⟩
  have hn32 : IntKind.u32.wrap (n : Int) = n := by simp [IntKind.wrap, IntKind.signed, IntKind.bits]; omega
  have HB0 : Hid ((l.take 0).map itmU = []) := by simp [Hid]
  rw [← hnl] at HR hn ⊢
  have HN := hide hnl
  clear hR hs hnl
  go_enter Tryz.func98, Tryz.ntmps98
  go_wp2_with fail
  refine (new_abs w).mono ?_
  rintro ee w1 ⟨p, rfl, W1, hp1, K1⟩
  have HW : Hid (Wn w w1 p (.slice none 0 0) []) := ⟨W1, K1, hp1, fun k hk => by cases hk⟩
  clear W1 hp1 K1
  go_wp2_with fail
  refine (num_any p n (.slice none 0 0) [] w1 HW.out.1 (by simp)).mono ?_
  rintro ee w2 ⟨rfl, v2, W2, S2⟩
  rw [List.nil_append, be_bqU] at W2
  have HW2 := hide (HW.out.step W2 S2)
  clear W2 S2 HW
  go_wp2_with fail
  go_loopw [15] (fun i wr => ∃ k : Nat, k ≤ n ∧ i = .int .i64 k ∧ ∃ vw, Wn w wr p vw (bq n ++ ((l.take k).map itmU).flatten)) (fun i _ => n - (intOf i).toNat)
  case atStart => exact ⟨0, by omega, rfl, v2, by simpa using HW2.out⟩
  case round =>
    obtain ⟨k, hk, rfl, vw, W⟩ := hrel
    have HWk := hide W
    clear W HW2
    by_cases hlt : k < n
    · have hlt' : (k : Int) < (n : Int) := by omega
      have hkl : k < l.length := by have := HN.out; omega
      obtain ⟨g, rfl, hc⟩ := (HR.out.kept HWk.out.2.1 (by simp)).at k hkl
      obtain ⟨hBx, hlx⟩ := HS.out l[k] (List.getElem_mem hkl)
      have he : ((l.take (k + 1)).map itmU).flatten = ((l.take k).map itmU).flatten ++ itmU l[k] := by
        rw [List.take_succ_eq_append_getElem hkl, List.map_append]; simp
      have hll : ((l.take k).map itmU).flatten.length ≤ 100000000 := by
        have h1 := flatU_len (l.take k) 65535 (fun r hr => (HS.out r (List.mem_of_mem_take hr)).2)
        rw [List.length_take] at h1
        have : min k l.length * (2 + 65535) ≤ 1000 * (2 + 65535) := Nat.mul_le_mul_right _ (by omega)
        omega
      obtain ⟨x, hx⟩ : ∃ x, x = l[k] := ⟨_, rfl⟩
      rw [← hx] at hc hBx hlx he
      obtain ⟨c5, w5, hcv, S5, K5⟩ := conv_big (strOfNums x) wr (by rw [str_size]; omega)
      rw [nums_str x hBx] at S5
      have HW5 := hide (HWk.out.kept K5)
      have HB5 := hide (bytes_ok p vw _ _ x w5 HW5.out.1 S5 (fun w1 k1 => S5.kept k1 (fun i hi hm => by
        have e : wr.heap.size = i := by simpa [Value.ownBlock] using hi
        simp only [List.mem_cons, Option.mem_toList] at hm
        rcases hm with hm | hm
        · have := HWk.out.1.lt; omega
        · have := (HWk.out.1.2.lt i hm).2; omega)) (by rw [List.length_append, bq_len]; omega) hlx)
      have HE := hide he
      clear S5 K5 HWk he hx hll
      go_wp2_with fail
      refine HB5.out.mono ?_
      rintro ee w6 ⟨rfl, v6, W6, S6⟩
      have HW6 := hide (HW5.out.step W6 S6)
      clear W6 S6 HB5 HW5 hcv hc
      go_wp2_with fail
      go_roundw
      case rel => exact ⟨k + 1, by omega, by go_num, v6, by have := HW6.out; rw [HE.out]; show Wn w w6 p v6 (bq n ++ (((l.take k).map itmU).flatten ++ (be2 x.length ++ x))); rw [beU_2] at this; simpa only [List.append_assoc] using this⟩
      case measure => simp [intOf]; omega
    · have hkn : k = n := by omega
      have HWn : Hid (Wn w wr p vw (batU l)) := by
        have := HWk.out
        rw [hkn, HN.out, List.take_length] at this
        exact this
      have hnlt : ¬ (k : Int) < (n : Int) := by omega
      have hbl : (batU l).length ≤ 100000000 := by
        have h1 := batU_len l 65535 (fun r hr => (HS.out r hr).2)
        have : l.length * (2 + 65535) ≤ 1000 * (2 + 65535) := Nat.mul_le_mul_right _ (by have := HN.out; omega)
        omega
      have HD := hide (done_any p vw _ wr HWn.out.1 (by omega))
      obtain ⟨m, hm⟩ : ∃ m, m = (batU l).length := ⟨_, rfl⟩
      rw [← hm] at HD
      have HM := hide hm
      clear hm hbl HWk hkn
      go_wp2_with fail
      refine HD.out.mono ?_
      rintro ee w5 ⟨a5, c5, rfl, R5, K5⟩
      have HR5 : Hid (Row w5 w.heap.size (.slice a5 m c5) (batU l)) := row_new (w0 := wr) (by unfold Row; rw [← HM.out]; exact R5) HWn.out.2.1
      have HK5 := hide (HWn.out.2.1.trans K5)
      clear R5 K5 HD
      go_wp2_with fail
      go_ret2
      exact ⟨a5, m, c5, rfl, HR5.out, HK5.out⟩
end Go.Proofs.YtillhpgdlmeajaaGreatDoor
