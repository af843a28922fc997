/-
  Slices of ints, and rows of slices that a call owns.
-/
import Derived.Test.YtillhpgdlmeajabGreatDoorQB1
import Derived.Test.YtillhpgdlmeajabGreatDoorQB2
import Derived.Test.YtillhpgdlmeajabGreatDoorQB3
import Derived.Lib.SlBytesConst
import Derived.Test.YtillhpgdlmeajabGreatDoorQB4
import Derived.ArgAppend
import Derived.Deep.Upon
import Derived.Deep.RegionHeld3
import Derived.Test.YtillhpgdlmeajabGreatDoorQB7
import Derived.Test.YtillhpgdlmeajabGreatDoorQB5
import Derived.Test.YtillhpgdlmeajabGreatDoorQB6
namespace Go.Proofs.YtillhpgdlmeajabGreatDoor
open Go.ChangeShapes Go.WideShapes Go.ChangeAt Go.RowKit
open Go.Deep
section
variable {H : Type} {enc : TypeId × Value → H} {w : World}
theorem ints_of_trod {v : Value} {fuel : Nat} {x : DataW H × List MemPlace} (h : DataW.trod enc Tryz.prog w 0 (fun _ => true) true fuel 33 [v] = some x) : ∃ l, Ints w v l := by
  rcases open_ints Tryz.underlying33 Tryz.underlying3 (by kernel_rfl) h with ⟨hcs, _⟩ | ⟨a, len, cap, zs, hcs, _, hl, hm, hz, _, hcell, hwz⟩
  · simp only [List.cons.injEq, and_true] at hcs
    subst hcs
    exact ⟨[], none, 0, rfl, by simp [maxLen], (fun x hx => by cases hx), fun i hi => by cases hi⟩
  · simp only [List.cons.injEq, and_true] at hcs
    subst hcs
    simp only [if_true] at hz
    have hlen : (zs.take len).length = len := by simp; omega
    refine ⟨zs.take len, some a, cap, by rw [hlen], by omega, fun b hb => bounds_i64 (hwz b (List.mem_of_mem_take hb)), fun i hi => ⟨a, rfl, ?_⟩⟩
    rw [hcell i (by omega)]
    have : i < zs.length := by omega
    simp [List.getD, List.getElem?_eq_getElem this]
end
end Go.Proofs.YtillhpgdlmeajabGreatDoor

/-
  Chapter 12 as plain functions: a disk of one file, what each call answers and what it leaves.
-/
namespace Go.Proofs.YtillhpgdlmeajabGreatDoor
namespace Dk
def grow (d : Dk) (n : Int) : Bool × Dk := if (d.bs.length : Int) ≤ n ∧ n ≤ 1048576 then (true, { d with lim := n }) else (false, d)
theorem app_full {d : Dk} (h : d.down = false) (ha : d.arm ≤ 0) (b : List Int) (hf : d.lim < ((d.bs.length + b.length : Nat) : Int)) : d.app b = (false, d) := by
  unfold app
  rw [cal_plain h ha, if_pos (by simp; omega)]
theorem grow_ok {d : Dk} (h : d.Ok) (n : Int) : (d.grow n).2.Ok := by
  unfold grow
  split
  · rename_i hn
    exact ⟨h.syn, hn.1, hn.2⟩
  · exact h
end Dk
end Go.Proofs.YtillhpgdlmeajabGreatDoor

/-
  The contracts of package disk's small functions: count, told, keep, New, Size, Synced, Down, Arm, Grow, Bytes.
-/
namespace Go.Proofs.YtillhpgdlmeajabGreatDoor
open Go.RowKit
open Go.Proofs
theorem Dk.Fit.grows {d : Dk} (h : d.Fit) (n : Int) : (d.grow n).2.Fit := by
  have := Dk.grow_ok h.ok n
  unfold Dk.grow at *
  split
  · rename_i hd
    rw [if_pos hd] at this
    exact ⟨this, h.lo, h.hi, h.dn, h.bytes⟩
  · exact h
set_option maxHeartbeats 1000000 in
theorem grow_any (p : Nat) (v : Value) (d : Dk) (n : Int) (base : Nat) (w : World) (h : DskP w base p v d) :
    Calls Tryz.prog 18 #[.pointer (some ⟨p, 0, none⟩), .int .i64 n] w fun e w' => e = .returned (.bool (d.grow n).1) ∧ DskP w' base p v (d.grow n).2 ∧ DSt p w v w' v := by
  have hc0 := h.here.c0
  have hc2 := h.here.c2
  have f2 := h.here.f 2
  have hft := h.fit.grows n
  obtain ⟨ao, c, rfl⟩ := h.shape
  obtain ⟨k, hk⟩ : ∃ k, k = d.bs.length := ⟨_, rfl⟩
  rw [← hk] at hc0 h ⊢
  by_cases hg : (k : Int) ≤ n ∧ n ≤ 1048576
  · have e : d.grow n = (true, { d with lim := n }) := by unfold Dk.grow; rw [if_pos (by omega)]
    obtain ⟨g1, g2⟩ := hg
    rw [e] at hft ⊢
    have FIN : Hid (DskP (w.setCell ⟨p, 2, none⟩ (.int .i64 n)) base p (.slice ao k c) { d with lim := n }) := h.poke (kp_set w p 2 _) (h.here.s2 _) rfl hft
    have g1' : ¬ n < (k : Int) := by omega
    have g2' : ¬ 1048576 < n := by omega
    clear h hft hk e
    go_enter Tryz.func18, Tryz.ntmps18
    go_wp2_with fail
    go_ret
    exact ⟨rfl, FIN.out, DSt.one _ (kp_set _ _ _ _)⟩
  · have e : d.grow n = (false, d) := by unfold Dk.grow; rw [if_neg (by omega)]
    rw [e] at hft ⊢
    have FIN := hide h
    by_cases g1 : n < (k : Int)
    · clear h hft hk e
      go_enter Tryz.func18, Tryz.ntmps18
      go_wp2_with fail
      go_ret
      exact ⟨rfl, FIN.out, DSt.refl _ _ _⟩
    · have g2' : 1048576 < n := by omega
      clear h hft hk e
      go_enter Tryz.func18, Tryz.ntmps18
      go_wp2_with fail
      go_ret
      exact ⟨rfl, FIN.out, DSt.refl _ _ _⟩
end Go.Proofs.YtillhpgdlmeajabGreatDoor

/-
  A new disk and its steps, as the law package takes them; Cut of the law package by its value; known.
-/
namespace Go.Proofs.YtillhpgdlmeajabGreatDoor
open Go.RowKit
open Go.Proofs
namespace Dk
theorem grow_arm {d : Dk} (h0 : 0 ≤ d.arm) (n : Int) : 0 ≤ (d.grow n).2.arm := by
  unfold grow
  split <;> exact h0
end Dk
section
variable {w0 w w' : World} {p : Nat} {v v' : Value} {d d' : Dk}
theorem nw_grow (h : Nw w0 w p v d) (n : Int) (er : Bool) (he : d.grow n = (er, d')) : Calls Tryz.prog 18 #[.pointer (some ⟨p, 0, none⟩), .int .i64 n] w fun e w' => e = .returned (.bool er) ∧ Nw w0 w' p v d' ∧ DSt p w v w' v := by
  refine (grow_any p v d n w0.heap.size w h.dk).mono ?_
  rintro e w' ⟨rfl, D, T⟩
  have ha := Dk.grow_arm h.arm n
  rw [he] at D ha
  exact ⟨by rw [he], h.step D T ha, T⟩
end
theorem sizen_any (p : Nat) (v : Value) (d : Dk) (base : Nat) (w : World) (h : DskP w base p v d) (n : Nat) (hn : d.bs.length = n) :
    Calls Tryz.prog 15 #[.pointer (some ⟨p, 0, none⟩)] w fun e w' => e = .returned (.int .i64 (n : Nat)) ∧ w' = w := by subst hn; exact size_any p v d base w h
end Go.Proofs.YtillhpgdlmeajabGreatDoor

/-
  The reference's Record and Open; the law's lay.
-/
namespace Go.Proofs.YtillhpgdlmeajabGreatDoor
open Go.RowKit
open Go.Proofs
set_option maxHeartbeats 400000 in
theorem jnum_any (v : Value) (bs : List Int) (n : Int) (base : Nat) (w : World) (h : Row w base v bs) (hbase : base ≤ w.heap.size) (hb : bs.length ≤ 100000000000) :
    Calls Tryz.prog 38 #[v, .int .u32 n] w fun e w' => ∃ ao m c, e = .returned (.slice ao m c) ∧ Row w' base (.slice ao m c) (bs ++ bq n) ∧ RStep w v w' (.slice ao m c) := by
  obtain ⟨cs, hcs⟩ : ∃ cs, cs = bq n := ⟨_, rfl⟩
  have hl : cs.length = 4 := by rw [hcs]; rfl
  have hsl : Sl (w.alloc (.cells #[.int .u8 (n / 16777216 % 256), .int .u8 (n / 65536 % 256), .int .u8 (n / 256 % 256), .int .u8 (n % 256)] 5)) (.slice (some ⟨w.heap.size, 0, none⟩) 4 4) cs := by
    rw [hcs]; exact Sl.block (cs := [n / 16777216 % 256, n / 65536 % 256, n / 256 % 256, n % 256]) (t := 5) (heap_alloc_new w _) (by simp [maxLen])
  rw [← hcs]
  clear hcs
  go_enter Tryz.func38, Tryz.ntmps38
  go_wp2_with (at_builtin; refine wpList_append_row rfl _ _ rfl base v bs rfl (h.kept ((Kp.refl [] w).alloc _) (by simp)) _ cs rfl hsl (by omega) (by simp; omega) ?_; intro ao m c w1 r1 s1)
  go_ret
  exact ⟨ao, m, c, rfl, r1, s1.after ((Kp.refl [] w).alloc _)⟩
/-- a step of a row that is new since w: nothing old is changed. -/
theorem RStep.kpn {w w1 w2 : World} {v v' : Value} {bs : List Int} (s : RStep w1 v w2 v') (k : Kp [] w w1) (r : Row w1 w.heap.size v bs) : Kp [] w w2 :=
  k.then s.1 (fun i hi => .inr (r.own i (by simpa [Option.mem_toList] using hi)))
end Go.Proofs.YtillhpgdlmeajabGreatDoor

/-
  Chapter 14 as plain functions: the records of the first keys.
-/
namespace Go.Proofs.YtillhpgdlmeajabGreatDoor
namespace Dk
/-- a key's record is added where there is room and power. -/
theorem add_up {d : Dk} (h : d.down = false) (ha : d.arm ≤ 0) (b : List Int) (hf : ((d.bs.length + b.length : Nat) : Int) ≤ d.lim) : d.add b = (true, { d with bs := d.bs ++ b, syn := (d.bs ++ b).length }) := by
  unfold add
  rw [app_plain h ha b hf, if_pos rfl]
  exact sync_plain (d := { d with bs := d.bs ++ b }) h ha
theorem add_full {d : Dk} (h : d.down = false) (ha : d.arm ≤ 0) (b : List Int) (hf : d.lim < ((d.bs.length + b.length : Nat) : Int)) : d.add b = (false, d) := by
  unfold add
  rw [app_full h ha b hf, if_neg (by simp)]
end Dk
end Go.Proofs.YtillhpgdlmeajabGreatDoor

/-
  Disks, journals and boxes with the blocks that they lie in.
-/
namespace Go.Proofs.YtillhpgdlmeajabGreatDoor
open Go.RowKit
open Go.Proofs
set_option linter.unusedVariables false
section
variable {w0 w w' : World} {p q j n k : Nat} {d d' : Dk} {F : Nat → Prop} {v : Value}
/-- a disk takes a step. -/
theorem Dx.stepD {v v' : Value} (hF : ∀ i ∈ dfp p v, F i) (g : Nw w0 w' p v' d') (t : DSt p w v w' v') : ∃ F', Dx w0 w' p d' F' ∧ Stp F w w' F' ∧ ∀ i, F i → F' i :=
  ⟨grF F v', ⟨v', g, grF_fp (hF p (mem_dfp.2 (.inl rfl)))⟩, t.stp hF g.rlt, fun i h => .inl h⟩
theorem Jx.stepD {v v' : Value} (h : ∃ m, m ≤ k ∧ Jn w0 w p v d j m ∧ F j ∧ ∀ i ∈ dfp p v, F i) (g : Nw w0 w' p v' d') (t : DSt p w v w' v') : ∃ F', Jx w0 w' p d' j k F' ∧ Stp F w w' F' := by
  obtain ⟨m, h1, h2, h3, h4⟩ := h
  exact ⟨grF F v', ⟨v', m, h1, h2.disk g t, .inl h3, grF_fp (h4 p (mem_dfp.2 (.inl rfl)))⟩, t.stp h4 g.rlt⟩
theorem Bf.stepD {v v' : Value} (h : ∃ j m, m ≤ k ∧ Jn w0 w p v d j m ∧ Kb w q j n ∧ w0.heap.size ≤ q ∧ F q ∧ F j ∧ ∀ i ∈ dfp p v, F i) (g : Nw w0 w' p v' d') (t : DSt p w v w' v') : ∃ F', Bf w0 w' p d' q n k F' ∧ Stp F w w' F' := by
  obtain ⟨j, m, h1, h2, h3, h4, h5, h6, h7⟩ := h
  exact ⟨grF F v', ⟨v', j, m, h1, h2.disk g t, h3.kept t.1 (h3.off h2.nw.dk), h4, .inl h5, .inl h6, grF_fp (h7 p (mem_dfp.2 (.inl rfl)))⟩, t.stp h7 g.rlt⟩
end
end Go.Proofs.YtillhpgdlmeajabGreatDoor

/-
  The contracts of the reference's Num and Bytes (numbers and texts behind what there is).
-/
namespace Go.Proofs.YtillhpgdlmeajabGreatDoor
open Go.RowKit
open Go.Proofs
set_option maxHeartbeats 400000 in
theorem refbytes_any (v : Value) (bs : List Int) (vx : Value) (cs : List Int) (base : Nat) (w : World) (h : Row w base v bs) (hbase : base ≤ w.heap.size) (hb : bs.length + cs.length ≤ 100000000000) (hS : Sl w vx cs) (hk : ∀ w1, Kp v.ownBlock.toList w w1 → Sl w1 vx cs) :
    Calls Tryz.prog 39 #[v, vx] w fun e w' => ∃ ao m c, e = .returned (.slice ao m c) ∧ Row w' base (.slice ao m c) (bs ++ be2 cs.length ++ cs) ∧ RStep w v w' (.slice ao m c) := by
  obtain ⟨ax, cx, rfl, hx1, hx2, hx3, _⟩ := hS
  have HK := hide hk
  clear hk
  obtain ⟨ds, hds⟩ : ∃ ds, ds = be2 cs.length := ⟨_, rfl⟩
  have hl : ds.length = 2 := by rw [hds]; rfl
  have hsl : Sl (w.alloc (.cells #[.int .u8 ((cs.length : Int) / 256 % 256), .int .u8 ((cs.length : Int) % 256)] 5)) (.slice (some ⟨w.heap.size, 0, none⟩) 2 2) ds := by
    rw [hds]; exact Sl.block (cs := [(cs.length : Int) / 256 % 256, (cs.length : Int) % 256]) (t := 5) (heap_alloc_new w _) (by simp [maxLen])
  rw [← hds]
  clear hds
  go_enter Tryz.func39, Tryz.ntmps39
  go_wp2_with (first | (at_builtin; refine wpList_append_row rfl (.tmp 5) (.tmp 13) rfl base v bs rfl (h.kept ((Kp.refl [] w).alloc _) (by simp)) _ ds rfl hsl (by omega) (by simp; omega) ?_; intro ao m c w1 r1 s1; have s1' := s1.after ((Kp.refl [] w).alloc _); have hsx := unhide HK _ s1'.1) | (at_builtin; refine wpList_append_row rfl (.tmp 14) (.tmp 15) rfl base _ _ rfl r1 _ cs rfl hsx (by rw [List.length_append]; omega) (by have := s1'.1.size; omega) ?_; intro ao2 m2 c2 w2 r2 s2))
  go_ret
  exact ⟨ao2, m2, c2, rfl, r2, s1'.trans s2⟩
end Go.Proofs.YtillhpgdlmeajabGreatDoor

/-
  The laws of ledger: the reference's Batch, items.
-/
namespace Go.Proofs.YtillhpgdlmeajabGreatDoor
open Go.RowKit
open Go.Proofs
set_option linter.unusedVariables false
set_option maxRecDepth 100000 in
set_option maxHeartbeats 4000000 in
theorem ubatch_any (v : Value) (l : List (Value × List Int)) (w : World) (hL : Lists w v l) (hs : ∀ x ∈ l, x.2.length ≤ 65535) (hn : l.length ≤ 1000) :
    Calls Tryz.prog 16 #[v] w fun e w' => ∃ ao m c, e = .returned (.slice ao m c) ∧ Row w' w.heap.size (.slice ao m c) (batU (l.map (·.2))) ∧ Kp [] w w' := by
  obtain ⟨al, cl, rfl, -, hcell⟩ := hL
  have HC := hide hcell
  have HS := hide hs
  obtain ⟨N, hN⟩ : ∃ N, N = l.length := ⟨_, rfl⟩
  have hn32 : IntKind.u32.wrap (N : Int) = N := by simp [IntKind.wrap, IntKind.signed, IntKind.bits]; omega
  rw [← hN] at hn ⊢
  have HN := hide hN
  have HNum := hide (jnum_any (.slice none 0 0) [] (N : Int) w.heap.size w (World.ownsRow_nil _ _ _ _) (Nat.le_refl _) (by simp))
  clear hcell hs hN
  go_enter Tryz.func16, Tryz.ntmps16
  go_wp2_with fail
  refine HNum.out.mono ?_
  rintro ee w1 ⟨a1, m1, c1, rfl, R1, S1⟩
  rw [List.nil_append] at R1
  have HR1 := hide R1
  have HK1 : Hid (Kp [] w w1) := S1.1.mono (by simp [Value.ownBlock])
  clear HNum R1 S1
  go_wp2_with fail
  go_loopw [3, 4] (fun o i wr => ∃ k : Nat, k ≤ N ∧ i = .int .i64 k ∧ ∃ ao m c, o = .slice ao m c ∧ Row wr w.heap.size o (bq N ++ (((l.take k).map (·.2)).map itmU).flatten) ∧ Kp [] w wr) (fun _ i _ => N - (intOf i).toNat)
  case atStart => exact ⟨0, by omega, rfl, a1, m1, c1, rfl, by simpa using HR1.out, HK1.out⟩
  case round =>
    obtain ⟨k, hk, rfl, ao, m, c, rfl, R, K⟩ := hrel
    have HR := hide R
    have HK := hide K
    clear HR1 HK1
    by_cases hlt : k < N
    · have hlt' : (k : Int) < (N : Int) := by omega
      have hkl : k < l.length := by have := HN.out; omega
      obtain ⟨b, off, rfl, hc, hS, hB⟩ := HC.out k hkl
      have hcw := K.cell hc (by simp)
      have hlen := HS.out l[k] (List.getElem_mem hkl)
      have he : (((l.take (k + 1)).map (·.2)).map itmU).flatten = (((l.take k).map (·.2)).map itmU).flatten ++ itmU l[k].2 := by
        rw [List.take_succ_eq_append_getElem hkl, List.map_append, List.map_append]; simp
      have hll : ((((l.take k).map (·.2)).map itmU).flatten).length ≤ 100000000 := by
        have h1 := flatU_len ((l.take k).map (·.2)) 65535 (fun r hr => by
          obtain ⟨x, hx, rfl⟩ := List.mem_map.1 hr
          exact HS.out x (List.mem_of_mem_take hx))
        rw [List.length_map, List.length_take] at h1
        have : min k l.length * (2 + 65535) ≤ 1000 * (2 + 65535) := Nat.mul_le_mul_right _ (by omega)
        omega
      obtain ⟨x, hx⟩ : ∃ x, x = l[k] := ⟨_, rfl⟩
      rw [← hx] at hc hS hB hcw hlen he
      have hown := fun i hi => R.own i hi
      have HBy := hide (refbytes_any (.slice ao m c) _ x.1 x.2 w.heap.size wr R K.size (by rw [List.length_append, bq_len]; omega) (hS.kept K (by simp)) (fun w1 k1 => hS.kept (K.then k1 (fun i hi => .inr (hown i (by simpa [Option.mem_toList] using hi)))) (by simp)))
      obtain ⟨ax, cx, hxs, -⟩ := id hS
      obtain ⟨nx, hnx⟩ : ∃ n, n = x.2.length := ⟨_, rfl⟩
      rw [← hnx] at hxs
      rw [hxs] at hcw HBy
      have HE := hide he
      clear hc hS hB he hx hlen R K hxs hnx hll hown
      go_wp2_with fail
      refine HBy.out.mono ?_
      rintro ee w2 ⟨a2, m2, c2, rfl, R2, S2⟩
      have HR2 := hide R2
      have HK2 := hide (S2.kpn HK.out HR.out)
      clear HBy R2 S2 hcw
      go_wp2_with fail
      go_roundw
      case rel => exact ⟨k + 1, by omega, by go_num, a2, m2, c2, rfl, by have := HR2.out; rw [HE.out]; show Row w2 w.heap.size (.slice a2 m2 c2) (bq N ++ ((((l.take k).map (·.2)).map itmU).flatten ++ (be2 x.2.length ++ x.2))); simpa only [List.append_assoc] using this, HK2.out⟩
      case measure => simp [intOf]; omega
    · have hkn : k = N := by omega
      have hnlt : ¬ (k : Int) < (N : Int) := by omega
      have HRn : Hid (Row wr w.heap.size (.slice ao m c) (batU (l.map (·.2)))) := by
        have := HR.out
        rw [List.take_of_length_le (by have := HN.out; omega)] at this
        unfold batU
        rw [List.length_map, ← HN.out]
        exact this
      clear R K hkn HR
      go_wp2_with fail
      go_ret
      exact ⟨ao, m, c, rfl, HRn.out, HK.out⟩
end Go.Proofs.YtillhpgdlmeajabGreatDoor

/-
  A ledger's disks, asked while it is open; two disks whatever they are.
-/
namespace Go.Proofs.YtillhpgdlmeajabGreatDoor
open Go.RowKit
open Go.Proofs
set_option linter.unusedVariables false
section
variable {w0 w : World} {l pd pk : Nat} {S : LS} {f : Fps}
theorem usz_any (h : Lg w0 w l pd pk S f) (n : Nat) (hn : S.dd.bs.length = n) : Calls Tryz.prog 15 #[.pointer (some ⟨pd, 0, none⟩)] w fun e w' => e = .returned (.int .i64 (n : Nat)) ∧ w' = w := by
  obtain ⟨j, s, q, vs, pv, hx⟩ := h
  obtain ⟨v, m, -, hJ, -⟩ := hx.jx
  exact sizen_any pd v S.dd _ w hJ.nw.dk n hn
theorem ugrow_any (h : Lg w0 w l pd pk S f) (x : Int) (er : Bool) (d' : Dk) (he : S.dd.grow x = (er, d')) : Calls Tryz.prog 18 #[.pointer (some ⟨pd, 0, none⟩), .int .i64 x] w fun e w' => e = .returned (.bool er) ∧ ∃ f', Lg w0 w' l pd pk { S with dd := d' } f' ∧ LSt w f w' f' := by
  obtain ⟨j, s, q, vs, pv, hx⟩ := h
  obtain ⟨v, m, h1, hJ, h3, h4⟩ := hx.jx
  refine (nw_grow hJ.nw x er he).mono ?_
  rintro e w' ⟨rfl, N, T⟩
  obtain ⟨F', J', T'⟩ := Jx.stepD ⟨m, h1, hJ, h3, h4⟩ N T
  exact ⟨rfl, f.upd 5 F', ⟨j, s, q, vs, pv, hx.stepJ T' J'⟩, T'.one⟩
end
/-- one new item. -/
theorem one_ns {l : List (List Int)} {x : List Int} (h : x ∉ l) : newU l [x] = [x] ∧ allU l [x] = l ++ [x] ∧ nsU l [x] = [(l.length : Int)] := by
  have e : allU l [x] = l ++ [x] := insU_new h
  refine ⟨by unfold newU; rw [e]; simp, e, ?_⟩
  unfold nsU numU
  rw [e]
  simp [idx_post h]
end Go.Proofs.YtillhpgdlmeajabGreatDoor
