/-
  The contract of Append.
-/
import Derived.Test.YtiabccgabbdedaaDoorKCAppend
namespace Go.Proofs.YtiabccgabbdedaaDoor
open Go.RowKit
open Go.Proofs

theorem Rg.side {w w' : World} {base p n b : Nat} {v v' u : Value} {l : List (Value × List Int)} {x : List Int} (h : Rg w base p v n l) (s : RgS p w v w' v') (hr : Row w b u x) : Row w' b u x := by
  refine hr.kept s.1 (fun i hi hm => ?_)
  obtain ⟨c, hc⟩ := row_type hr hi
  simp only [rfp, List.mem_cons, Option.mem_toList] at hm
  rcases hm with rfl | hm
  · rw [h.here] at hc
    injection hc with h1
    injection h1 with _ h2
    cases h2
  · obtain ⟨c2, hc2⟩ := rowv_type h.parts.1 hm
    rw [hc] at hc2
    injection hc2 with h1
    injection h1 with _ h2
    cases h2
theorem Rg.bump {w : World} {base p n : Nat} {v : Value} {l : List (Value × List Int)} (h : Rg w base p v n l) (k : Nat) : Rg (w.setCell ⟨p, 0, none⟩ (.int .u64 k)) base p v k l ∧ RgS p w v (w.setCell ⟨p, 0, none⟩ (.int .u64 k)) v := by
  have K1 : Kp [p] w (w.setCell ⟨p, 0, none⟩ (.int .u64 k)) := (Kp.refl [p] w).setCell (p := ⟨p, 0, none⟩) (.inl (by simp)) _
  refine ⟨⟨(pair_setCell h.here).1, h.low, h.parts.1.kept K1 (fun i hi hm => h.apart (by simp at hm; rw [← hm]; exact hi)), fun y hy => ⟨(h.parts.2 y hy).1.kept K1 (fun i hi hm => h.nodeApart hy (by simp at hm; rw [← hm]; exact hi)), (h.parts.2 y hy).2⟩⟩, K1.mono (by simp [rfp]), fun k hk => .inl hk⟩

theorem xor_max (n : Nat) (h : n < 18446744073709551616) : bits BinOp.xor IntKind.u64 IntKind.u64.max (n : Int) = ((18446744073709551615 - n : Nat) : Int) := by
  have e1 : BitVec.ofInt 64 IntKind.u64.max = BitVec.allOnes 64 := by decide
  have e2 : (BitVec.ofInt 64 (n : Int)).toNat = n := by
    rw [BitVec.ofInt_natCast, BitVec.toNat_ofNat]; exact Nat.mod_eq_of_lt (by omega)
  show IntKind.u64.wrap ((BitVec.ofInt 64 IntKind.u64.max ^^^ BitVec.ofInt 64 (n : Int)).toNat : Int) = _
  rw [e1, BitVec.allOnes_xor, BitVec.toNat_not, e2, IntKind.wrap_u64]
  omega
/-- what stands in the range behind some of the steps. -/
def Mid (base p n : Nat) (w : World) (v : Value) (l0 : List (Value × List Int)) (goal : List (List Int)) (j : Nat) (vt : Value) (wr : World) : Prop :=
  ∃ ao m c at_ mt ct l x, vt = .slice at_ mt ct ∧ Rg wr base p (.slice ao m c) n l ∧ RgS p w v wr (.slice ao m c) ∧ (∀ y ∈ l, y ∈ l0) ∧ Row wr w.heap.size (.slice at_ mt ct) x ∧ Bs x ∧ x.length ≤ 1000 ∧ (∀ y ∈ l, y.2.length ≤ 1000) ∧ j ≤ l.length ∧ l.length ≤ 90000 ∧ cappP j (l.map (·.2)) x = goal

set_option maxRecDepth 100000 in
set_option maxHeartbeats 2000000 in
theorem append_any (p : Nat) (v : Value) (n base : Nat) (l : List (Value × List Int)) (vx : Value) (x : List Int) (goal : List (List Int)) (w : World) (h : Rg w base p v n l) (hgoal : cappP (troP n) (l.map (·.2)) x = goal) (hS : Sl w vx x) (hB : Bs x) (hx : x.length ≤ 1000) (hl : ∀ y ∈ l, y.2.length ≤ 1000) (ht : troP n ≤ l.length) (hll : l.length ≤ 90000) (hn : n < 9223372036854775807) (hb : base ≤ w.heap.size) (hg : 3 ≤ base) (hG : Gl w) :
    Calls Tryd.prog 12 #[.pointer (some ⟨p, 0, none⟩), vx] w fun e w' => e = .returned (.tuple #[]) ∧ ∃ ao m c l', Rg w' base p (.slice ao m c) (n + 1) l' ∧ RgS p w v w' (.slice ao m c) ∧ l'.map (·.2) = goal ∧ ∀ y ∈ l', y ∈ l ∨ ∀ k, y.1.ownBlock = some k → w.heap.size ≤ k := by
  have hp := h.lt
  obtain ⟨ax, cx, ex⟩ : ∃ ao c, vx = .slice ao x.length c := by obtain ⟨ao, c, e, _⟩ := hS; exact ⟨ao, c, e⟩
  have HC := hide (copyOf_any vx x w hS (by omega))
  have HX := hide (And.intro hB hx)
  have HH := hide h
  have HG := hide hG
  have HT := hide (And.intro ht (And.intro hl hll))
  have HGO := hide hgoal
  obtain ⟨nx, hnx⟩ : ∃ nx, nx = x.length := ⟨_, rfl⟩
  rw [← hnx] at ex
  subst ex
  obtain ⟨t, htn⟩ : ∃ t, t = troP n := ⟨_, rfl⟩
  rw [← htn] at HT HGO
  have htb : t ≤ 90000 := by rw [htn]; omega
  have HTN := hide htn
  clear hS hB hx hl ht hll hG h hgoal hnx htn
  go_enter Tryd.func12, Tryd.ntmps12
  go_wp2_with fail
  refine (unhide HC).mono ?_
  rintro ee w1 ⟨at1, mt1, ct1, rfl, R1, K1⟩
  have H1 := (unhide HH).keptN K1
  have hc0 := H1.cell0
  have HR1 : Hid (Row w1 w.heap.size (.slice at1 mt1 ct1) x) := R1
  have HK1 := hide K1
  have HH1 := hide H1
  have hG1 := (unhide HG).kept K1 (by simp)
  have HTZ := hide (tz_any n (by omega) w1 hG1.db)
  rw [← unhide HTN] at HTZ
  have hxo := xor_max n (by omega)
  obtain ⟨N, hN⟩ : ∃ N, N = 18446744073709551615 - n := ⟨_, rfl⟩
  rw [← hN] at HTZ hxo
  clear HC R1 K1 H1 hG1 hN
  go_wp2_with fail
  refine (unhide HTZ).mono ?_
  rintro ee w2 ⟨rfl, hw⟩
  subst w2
  have HM : Hid (Mid base p n w v l goal t (.slice at1 mt1 ct1) w1) := by
    obtain ⟨q1, q2, q3⟩ := unhide HT
    obtain ⟨ao, c, e⟩ := (unhide HH1).shape
    have r := unhide HH1
    have s := RgS.mid (p := p) v (unhide HK1)
    rw [e] at r s
    exact ⟨ao, _, c, at1, mt1, ct1, l, x, rfl, r, by rw [e]; exact s, fun y hy => hy, unhide HR1, (unhide HX).1, (unhide HX).2, q2, q1, q3, unhide HGO⟩
  clear HTZ hxo HR1 HX HT HGO hc0 HH1 HK1
  go_wp2_with fail
  go_loopw [13, 4] (fun i vt wr => ∃ (k : Nat), k ≤ t ∧ i = .int .i64 k ∧ Mid base p n w v l goal (t - k) vt wr) (fun i _ _ => t - (intOf i).toNat)
  case atStart => exact ⟨0, by omega, rfl, unhide HM⟩
  case round =>
    clear HM
    obtain ⟨k, hk, rfl, ao, m, c, at_, mt, ct, l2, x2, rfl, hR, hSt, hSub, hRow, hB2, hx2, hl2, hj, hll2, hgo⟩ := hrel
    by_cases hlt : k < t
    · have hlt2 : (k : Int) < (t : Int) := by omega
      obtain ⟨l3, y, rfl⟩ : ∃ l3 y, l2 = l3 ++ [y] := by
        refine ⟨l2.dropLast, l2.getLast (by intro e; rw [e] at hj; simp at hj; omega), (List.dropLast_concat_getLast _).symm⟩
      have HG2 := hide (hSt.gl (unhide HG) ((unhide HH).gn hg))
      have HTL := hide (takeLast_any p _ n base l3 y wr hR (by simp at hll2; omega))
      have HHr := hide hR
      have HSt := hide hSt
      have HSUB := hide hSub
      have HRow := hide hRow
      have HB2 := hide hB2
      have HL2 := hide hl2
      have HGO := hide hgo
      have HJ := hide hj
      have HLL := hide hll2
      have HYB := hide (hR.parts.2 y (by simp)).2.1
      have HYL := hide (hl2 y (by simp))
      clear hR hSt hSub hRow hB2 hl2 hgo hj hll2
      go_wp2_with fail
      refine (unhide HTL).mono ?_
      rintro ee w3 ⟨rfl, ao3, m3, c3, R3, S3, Y3⟩
      have Row3 := (unhide HHr).side S3 (unhide HRow)
      have G3 := S3.gl (unhide HG2) ((unhide HHr).gn hg)
      have HND := hide (tnode_any y.1 (.slice at_ mt ct) y.2 x2 _ rfl w3 Y3.sl (unhide HYB) (by have := unhide HYL; omega) Row3.sl (unhide HB2) (by omega) G3)
      have FIN : Hid (∀ w4 a4 m4 c4, Kp [] w3 w4 → Row w4 w3.heap.size (.slice a4 m4 c4) (tnodeP y.2 x2) → Mid base p n w v l goal (t - (k + 1)) (.slice a4 m4 c4) w4) := by
        intro w4 a4 m4 c4 K4 R4
        refine ⟨ao3, m3, c3, a4, m4, c4, l3, tnodeP y.2 x2, rfl, R3.keptN K4, ((unhide HSt).trans S3).trans (RgS.mid _ K4), fun z hz => unhide HSUB z (by simp [hz]), ?_, sha_bs _, by rw [tnodeP_len]; omega, fun z hz => unhide HL2 z (by simp [hz]), ?_, ?_, ?_⟩
        · exact owns_rebase R4 (fun i hi => by have h1 := Row.own R4 i hi; have h2 := ((unhide HSt).trans S3).1.size; omega)
        · have := unhide HJ; simp at this; omega
        · have := unhide HLL; simp at this; omega
        · have e := unhide HGO
          rw [show t - k = (t - (k + 1)) + 1 by omega] at e
          rw [← e]
          show _ = cappP _ (List.map (·.2) (l3 ++ [y])).dropLast _
          rw [List.map_append, List.map_cons, List.map_nil, List.dropLast_concat, List.getLast?_concat]
          rfl
      obtain ⟨ay, cy, ey⟩ := Y3.shape
      obtain ⟨ny, hny⟩ : ∃ ny, ny = y.2.length := ⟨_, rfl⟩
      rw [← hny] at ey
      rw [ey] at HND ⊢
      clear HTL R3 S3 Y3 Row3 G3 HHr HRow HSt HSUB HL2 HGO HJ HLL hny ey
      go_wp2_with fail
      refine (unhide HND).mono ?_
      rintro ee w4 ⟨a4, m4, c4, rfl, R4, K4⟩
      have HF := hide (unhide FIN w4 a4 m4 c4 K4 R4)
      clear HND FIN R4 K4
      go_wp2_with fail
      go_roundw
      case rel => exact ⟨k + 1, by omega, by go_num, unhide HF⟩
      case measure => simp [intOf]; omega
    · obtain rfl : k = t := by omega
      rw [Nat.sub_self] at hgo
      have HAD := hide (radd_any p _ n base l2 (.slice at_ mt ct, x2) wr hR (owns_rebase hRow (fun i hi => Nat.le_trans hb (Row.own hRow i hi))) hB2 (by omega) (Nat.le_trans hb hSt.1.size))
      have HSt := hide hSt
      have HGO : Hid (l2.map (·.2) ++ [x2] = goal) := hgo
      have HNEW : Hid (∀ y ∈ l2 ++ [(.slice at_ mt ct, x2)], y ∈ l ∨ ∀ k, y.1.ownBlock = some k → w.heap.size ≤ k) := fun y hy => by
        rcases List.mem_append.1 hy with hy | hy
        · exact .inl (hSub y hy)
        · obtain rfl : y = (.slice at_ mt ct, x2) := by simpa using hy
          exact .inr (fun k hk => Row.own hRow k hk)
      clear hR hSt hSub hRow hB2 hl2 hj hll2 hgo hx2 hk hlt
      go_wp2_with fail
      refine (unhide HAD).mono ?_
      rintro ee w5 ⟨rfl, ao5, m5, c5, R5, S5⟩
      have c0 := R5.cell0
      have f0 := R5.frz 0
      have hw : IntKind.u64.wrap ((n : Int) + 1) = ((n + 1 : Nat) : Int) := by rw [IntKind.wrap_u64]; omega
      have HF := hide (R5.bump (n + 1))
      have HS5 := hide ((unhide HSt).trans S5)
      clear HAD R5 S5 HSt
      go_wp2_with fail
      go_end0
      refine ⟨rfl, ao5, m5, c5, l2 ++ [(.slice at_ mt ct, x2)], ?_, ?_, ?_, unhide HNEW⟩
      · exact (unhide HF).1
      · exact (unhide HS5).trans (unhide HF).2
      · rw [List.map_append]; exact unhide HGO
end Go.Proofs.YtiabccgabbdedaaDoor
