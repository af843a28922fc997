/-
  A new disk and its steps, as the law package takes them; Cut of the law package by its value; known.
-/
import Derived.Test.YtillhpgdlmeajaaGreatDoorKDDisk
import Derived.Lib.SlBytesConst
namespace Go.Proofs.YtillhpgdlmeajaaGreatDoor
open Go.RowKit
open Go.Proofs

theorem sl_nlen {w : World} {a : Option Addr} {l c : Nat} {bs : List Int} (h : Sl w (.slice a l c) bs) : l = bs.length := by
  obtain ⟨ao, c', e, _⟩ := h
  injection e with e1 e2 e3
theorem cutv_any (a : Option Addr) (l c : Nat) (n : Nat) (bs : List Int) (w : World) (h : Sl w (.slice a l c) bs) :
    Calls Tryz.prog 21 #[.slice a l c, .int .i64 n] w fun e w' => e = .returned (.slice a (min l n) c) ∧ w' = w := by
  have hl := sl_nlen h
  obtain ⟨ao, c', e, h1, h2, h3, h4⟩ := h
  injection e with e1 e2 e3
  subst e1
  subst e3
  unfold maxLen at h2
  clear h4 h3 e2
  by_cases hn : n < l
  · have hlt : (n : Int) < (l : Int) := by omega
    have hc : (n : Int) ≤ (c : Int) := by omega
    rw [show min l n = n from by omega]
    clear hl h1 h2
    go_enter Tryz.func21, Tryz.ntmps21
    go_wp2_with fail
    go_ret
    exact ⟨rfl, rfl⟩
  · have hlt : ¬ (n : Int) < (l : Int) := by omega
    rw [show min l n = l from by omega]
    clear hl h1 h2
    go_enter Tryz.func21, Tryz.ntmps21
    go_wp2_with fail
    go_ret
    exact ⟨rfl, rfl⟩
theorem cutv_sl {w : World} {a : Option Addr} {l c : Nat} {bs : List Int} (n : Nat) (h : Sl w (.slice a l c) bs) : Sl w (.slice a (min l n) c) (bs.take n) := by
  have hl := sl_nlen h
  by_cases hn : n ≤ bs.length
  · rw [show min l n = n from by omega]; exact h.take n hn
  · rw [show min l n = l from by omega, List.take_of_length_le (by omega)]; exact h
theorem Bs.takes {bs : List Int} (h : Bs bs) (n : Nat) : Bs (bs.take n) := fun b hb => h b (List.mem_of_mem_take hb)
namespace Dk
theorem app_arm {d : Dk} (h : d.Fit) (h0 : 0 ≤ d.arm) (b : List Int) : 0 ≤ (d.app b).2.arm := by
  have h1 := (cnt_fit h h0).2
  unfold app
  rw [cal_cnt h h0]
  split <;> exact h1
theorem sync_arm {d : Dk} (h : d.Fit) (h0 : 0 ≤ d.arm) : 0 ≤ d.sync.2.arm := by
  have h1 := (cnt_fit h h0).2
  unfold sync
  rw [cal_cnt h h0]
  split <;> exact h1
theorem cut_arm {d : Dk} (h : d.Fit) (h0 : 0 ≤ d.arm) (n : Int) : 0 ≤ (d.cut n).2.arm := by
  have h1 := (cnt_fit h h0).2
  unfold cut
  rw [cal_cnt h h0]
  split
  · exact h0
  · split
    · exact h0
    · split <;> exact h1
theorem armed_arm {d : Dk} (h0 : 0 ≤ d.arm) (n : Int) : 0 ≤ (d.armed (max n 0)).arm := by
  unfold armed
  split
  · exact h0
  · show 0 ≤ max n 0; omega
theorem grow_arm {d : Dk} (h0 : 0 ≤ d.arm) (n : Int) : 0 ≤ (d.grow n).2.arm := by
  unfold grow
  split <;> exact h0
end Dk
/-- A disk made since w0. -/
structure Nw (w0 w : World) (p : Nat) (v : Value) (d : Dk) : Prop where
  dk : DskP w w0.heap.size p v d
  new : w0.heap.size ≤ p
  kp : Kp [] w0 w
  arm : 0 ≤ d.arm
section
variable {w0 w w' : World} {p : Nat} {v v' : Value} {d d' : Dk}
theorem Nw.news (h : Nw w0 w p v d) : ∀ i ∈ dfp p v, w0.heap.size ≤ i := fun i hi => by
  rcases h.dk.own i hi with rfl | h1
  · exact h.new
  · exact h1
theorem Nw.stepK (h : Nw w0 w p v d) (t : DSt p w v w' v') : Kp [] w0 w' := h.kp.then t.1 (fun i hi => .inr (h.news i hi))
theorem Nw.step (h : Nw w0 w p v d) (g : DskP w' w0.heap.size p v' d') (t : DSt p w v w' v') (ha : 0 ≤ d'.arm) : Nw w0 w' p v' d' := ⟨g, h.new, h.stepK t, ha⟩
theorem Nw.on (h : Nw w0 w p v d) (k : Kp [] w w') : Nw w0 w' p v d := ⟨h.dk.keptN k, h.new, h.kp.trans k, h.arm⟩
theorem nw_new (n : Int) (w : World) (h0 : 0 ≤ n) (h1 : n ≤ 1048576) : Calls Tryz.prog 46 #[.int .i64 n] w fun e w' => ∃ p, e = .returned (.tuple #[.pointer (some ⟨p, 0, none⟩), .int .i64 0]) ∧ Nw w w' p (.slice none 0 0) (dk0 n) := by
  refine (new_any n w h0 h1).mono ?_
  rintro e w' ⟨p, rfl, D, k, hp⟩
  exact ⟨p, rfl, D _, hp, k, Int.le_refl 0⟩
theorem nw_append (h : Nw w0 w p v d) {vb : Value} {b : List Int} (hS : Sl w vb b) (hB : Bs b) (er : Bool) (he : d.app b = (er, d')) (en : Int) (hn : en = if er then 0 else 13) : Calls Tryz.prog 47 #[.pointer (some ⟨p, 0, none⟩), vb] w fun e w' => e = .returned (.int .i64 en) ∧ ∃ v', Nw w0 w' p v' d' ∧ DSt p w v w' v' := by
  refine (dappend_any p v d vb b w0.heap.size w h.dk h.arm hS hB h.kp.size).mono ?_
  rintro e w' ⟨rfl, v', D, T⟩
  have ha := Dk.app_arm h.dk.fit h.arm b
  rw [he] at D ha
  exact ⟨by rw [hn, he], v', h.step D T ha, T⟩
theorem nw_sync (h : Nw w0 w p v d) (er : Bool) (he : d.sync = (er, d')) (en : Int) (hn : en = if er then 0 else 13) : Calls Tryz.prog 48 #[.pointer (some ⟨p, 0, none⟩)] w fun e w' => e = .returned (.int .i64 en) ∧ Nw w0 w' p v d' ∧ DSt p w v w' v := by
  refine (dsync_any p v d w0.heap.size w h.dk h.arm).mono ?_
  rintro e w' ⟨rfl, D, T⟩
  have ha := Dk.sync_arm h.dk.fit h.arm
  rw [he] at D ha
  exact ⟨by rw [hn, he], h.step D T ha, T⟩
theorem nw_cut (h : Nw w0 w p v d) (n en : Int) (he : d.cut n = (en, d')) : Calls Tryz.prog 88 #[.pointer (some ⟨p, 0, none⟩), .int .i64 n] w fun e w' => e = .returned (.int .i64 en) ∧ ∃ v', Nw w0 w' p v' d' ∧ DSt p w v w' v' := by
  refine (dcut_any p v d n w0.heap.size w h.dk h.arm).mono ?_
  rintro e w' ⟨rfl, v', D, T⟩
  have ha := Dk.cut_arm h.dk.fit h.arm n
  rw [he] at D ha
  exact ⟨by rw [he], v', h.step D T ha, T⟩
theorem nw_arm (h : Nw w0 w p v d) (n : Int) (hh : n ≤ 9223372036854775807) (he : d.armed (max n 0) = d') : Calls Tryz.prog 31 #[.pointer (some ⟨p, 0, none⟩), .int .i64 n] w fun e w' => e = .returned (.tuple #[]) ∧ Nw w0 w' p v d' ∧ DSt p w v w' v := by
  refine (arm_any p v d n w0.heap.size w h.dk hh).mono ?_
  rintro e w' ⟨rfl, D, T⟩
  have ha := Dk.armed_arm h.arm n
  rw [he] at D ha
  exact ⟨rfl, h.step D T ha, T⟩
theorem nw_crash (h : Nw w0 w p v d) (n : Int) (he : d.crash n = d') : Calls Tryz.prog 34 #[.pointer (some ⟨p, 0, none⟩), .int .i64 n] w fun e w' => e = .returned (.tuple #[]) ∧ ∃ v', Nw w0 w' p v' d' ∧ DSt p w v w' v' := by
  refine (dcrash_any p v d n w0.heap.size w h.dk).mono ?_
  rintro e w' ⟨rfl, v', D, T⟩
  rw [he] at D
  exact ⟨rfl, v', h.step D T (by rw [← he]; exact Int.le_refl 0), T⟩
theorem nw_bytes (h : Nw w0 w p v d) : Calls Tryz.prog 60 #[.pointer (some ⟨p, 0, none⟩)] w fun e w' => ∃ ao m c, e = .returned (.slice ao m c) ∧ Row w' w.heap.size (.slice ao m c) d.bs ∧ Nw w0 w' p v d ∧ Kp [] w w' ∧ (convert 22 9 (.slice ao m c)).run Tryz.prog w' = .ok (.string (strOfNums d.bs)) w' := by
  refine (dbytes_any p v d w0.heap.size w h.dk).mono ?_
  rintro e w' ⟨ao, m, c, rfl, R, k⟩
  exact ⟨ao, m, c, rfl, R, h.on k, k, R.sl.conv 22 9 5 Tryz.underlying22 Tryz.underlying5 Tryz.underlying9⟩
end
/-- []byte of a constant: the row is made, then marked. -/
theorem lit_cv (w : World) (cs : List Int) (n : Nat) (hn : cs.length = n) : (convert 22 22 (.slice (some ⟨w.heap.size, 0, none⟩) n n)).run Tryz.prog (w.alloc (.cells (cs.map (Value.int .u8)).toArray 5)) = .ok (.slice (some ⟨w.heap.size, 0, none⟩) n n) (w.alloc (.cells (cs.map (Value.int .u8)).toArray 5 (n, n + 1))) := by
  have := Go.Lib.run_convert_bytes_const (P := Tryz.prog) w 22 5 (cs.map (Value.int .u8)).toArray n n Tryz.underlying22 Tryz.underlying5
  rw [this]
  simp [hn]
theorem lit_sl (w : World) (cs : List Int) (n : Nat) (fr : Nat × Nat) (hn : cs.length = n) (hm : n ≤ 1000) : Sl (w.alloc (.cells (cs.map (Value.int .u8)).toArray 5 fr)) (.slice (some ⟨w.heap.size, 0, none⟩) n n) cs := by
  subst hn
  exact Sl.block (heap_alloc_new w _) (by unfold maxLen; omega)
theorem sizen_any (p : Nat) (v : Value) (d : Dk) (base : Nat) (w : World) (h : DskP w base p v d) (n : Nat) (hn : d.bs.length = n) :
    Calls Tryz.prog 87 #[.pointer (some ⟨p, 0, none⟩)] w fun e w' => e = .returned (.int .i64 (n : Nat)) ∧ w' = w := by subst hn; exact size_any p v d base w h
/-- a slice cut at its beginning, by its value. -/
theorem grown_bfirst {o : Oper} {a : Act} {w : World} (s k : Operand) (ho : o.op = .slice 22 s none (some k) none) (ao : Option Addr) (m c y : Nat) (hs : a.eval s = .slice ao m c) (hk : a.eval k = .int .i64 (y : Nat)) (hy : y ≤ c) (h4 : ao = none → c = 0) : grown Tryz.prog w (Is (.slice ao y c)) ((execOp a.eval o).run Tryz.prog w) := by
  refine grown_run (v := .slice ao y c) (w' := w) ?_ (Kp.refl _ _) rfl
  have hr := run_first ao m c y w hy h4
  unfold execOp
  simp only [ho, hs, hk, Sem.run_bind, hr, Result.andThen_ok, Sem.run_pure, Option.map_some, Option.map_none]
end Go.Proofs.YtillhpgdlmeajaaGreatDoor
