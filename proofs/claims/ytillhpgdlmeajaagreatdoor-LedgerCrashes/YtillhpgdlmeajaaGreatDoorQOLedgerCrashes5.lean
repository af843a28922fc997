/-
  Plain facts on the four bytes of a number: they make the number, and they stand in order as the numbers do.
-/
import Derived.Test.YtillhpgdlmeajaaGreatDoorQOLedgerCrashes4
import Derived.Test.YtillhpgdlmeajaaGreatDoorQOLedgerCrashes2
import Derived.Test.YtillhpgdlmeajaaGreatDoorQOLedgerCrashes1
import Derived.Test.YtillhpgdlmeajaaGreatDoorQC15
namespace Go.Proofs.YtillhpgdlmeajaaGreatDoor
open Go.RowKit
theorem toNat_of (x : Int) (h0 : 0 ≤ x) (h1 : x ≤ 255) : ((UInt8.ofNat x.toNat).toNat : Int) = x := by
  simp; omega
theorem str_toList (bs : List Int) : (strOfNums bs).toList = bs.map fun n => UInt8.ofNat n.toNat := by
  rw [ByteArray.toList_eq]; rfl
theorem of_eq (x y : Int) (hx : 0 ≤ x ∧ x ≤ 255) (hy : 0 ≤ y ∧ y ≤ 255) : (UInt8.ofNat x.toNat = UInt8.ofNat y.toNat) ↔ x = y := by
  constructor
  · intro h
    have := toNat_of x hx.1 hx.2
    have := toNat_of y hy.1 hy.2
    rw [h] at *
    omega
  · intro h; rw [h]
theorem str_inj (bs cs : List Int) (hb : Bs bs) (hc : Bs cs) (h : (strOfNums bs).toList = (strOfNums cs).toList) : bs = cs := by
  rw [str_toList, str_toList] at h
  induction bs generalizing cs with
  | nil => cases cs with
    | nil => rfl
    | cons c cs => simp at h
  | cons b bs ih => cases cs with
    | nil => simp at h
    | cons c cs =>
      simp only [List.map_cons, List.cons.injEq] at h
      rw [(of_eq b c (hb b (by simp)) (hc c (by simp))).1 h.1, ih cs (fun x hx => hb x (by simp [hx])) (fun x hx => hc x (by simp [hx])) h.2]
theorem str_beq (bs cs : List Int) (hb : Bs bs) (hc : Bs cs) : ((strOfNums bs).toList == (strOfNums cs).toList) = decide (bs = cs) := by
  rw [Bool.eq_iff_iff]
  simp only [beq_iff_eq, decide_eq_true_eq]
  exact ⟨str_inj bs cs hb hc, fun h => by rw [h]⟩
end Go.Proofs.YtillhpgdlmeajaaGreatDoor

/-
  Chapter 9 as plain functions: which names and manifests may be, a manifest as bytes, bytes as a manifest; that what is written is read, that what is read is written so, that what is cut off or has more behind it is none.
-/
namespace Go.Proofs.YtillhpgdlmeajaaGreatDoor
open Go.RowKit
def lowP (ns : List Int) : Bool := ns.all fun b => decide (97 ≤ b) && decide (b ≤ 122)
def nameP (ns : List Int) : Bool := decide (1 ≤ ns.length) && decide (ns.length ≤ 20) && lowP ns
def encM (m : Mf) : List Int := [77] ++ (be2 (nums m.s).length ++ nums m.s) ++ be4 m.v ++ m.f ++ (be2 m.n.length ++ m.n)
def d4 (B : List Int) := tk (d3 B).2.1 (d3 B).2.2 32
theorem nameP_len {ns : List Int} (h : nameP ns = true) : 1 ≤ ns.length ∧ ns.length ≤ 20 := by
  unfold nameP at h
  simp only [Bool.and_eq_true, decide_eq_true_eq] at h
  exact h.1
theorem be2_val (n : Nat) (h : n ≤ 65535) : val (be2 n) = n := by
  simp only [val, be2, List.foldl_cons, List.foldl_nil]
  omega
/-- what stands ahead is read. -/
theorem tk_front (X Y : List Int) (n : Nat) (h : X.length = n) : tk false (X ++ Y) n = (X, false, Y) := by
  rw [tk_ok false _ n (by rw [List.length_append]; omega)]
  subst h
  simp
theorem tkb_front (X Y : List Int) (most : Nat) (h : X.length ≤ most) (hm : most ≤ 65535) : tkb false ((be2 X.length ++ X) ++ Y) most = (X, false, Y) := by
  unfold tkb
  have e := tk_front (be2 X.length) (X ++ Y) 2 rfl
  rw [show ((2 : Nat) : Int) = 2 from rfl] at e
  rw [List.append_assoc, e]
  simp only
  rw [be2_val _ (by omega), if_neg (by omega)]
  exact tk_front X Y _ rfl
theorem encM_len (m : Mf) : (encM m).length = 9 + (nums m.s).length + m.f.length + m.n.length := by
  unfold encM be2 be4
  simp only [List.length_append, List.length_cons, List.length_nil]
  omega
theorem encM_bs (m : Mf) (h : m.ok) : Bs (encM m) := by
  unfold encM
  exact ((((Bs.append (fun b hb => by simp at hb; omega) ((be2_bs _).append (nums_bs _))).append (be4_bs _)).append h.f).append ((be2_bs _).append h.n))
end Go.Proofs.YtillhpgdlmeajaaGreatDoor

/-
  Chapter 15 as plain functions: items each once, their numbers, a batch as a record, what a journal's records hold.
-/
namespace Go.Proofs.YtillhpgdlmeajaaGreatDoor
open Go.RowKit
open Go.Proofs
theorem allU_nil (l : List (List Int)) : allU l [] = l := rfl
theorem itsU_bat (l : List (List Int)) (h : ∀ x ∈ l, x.length ≤ 65535) : itsU l.length (l.map itmU).flatten = some l := by
  induction l with
  | nil => rfl
  | cons x l ih =>
    have e := tkb_front x ((l.map itmU).flatten) 65535 (h x (by simp)) (by omega)
    have e2 : (((x :: l).map itmU).flatten) = (be2 x.length ++ x) ++ (l.map itmU).flatten := rfl
    rw [e2]
    show itsU (l.length + 1) _ = _
    unfold itsU
    rw [show ((65535 : Nat) : Int) = 65535 from rfl] at e
    rw [e, if_neg (by simp)]
    simp only [ih (fun y hy => h y (by simp [hy])), Option.map_some]
theorem unlU_bat {l : List (List Int)} (h : ∀ x ∈ l, x.length ≤ 65535) (h0 : l ≠ []) (hl : l.length ≤ 4294967295) : unlU (batU l) = some l := by
  have e1 : (batU l).take 4 = bq l.length := by unfold batU; rw [List.take_left' (bq_len _)]
  have e2 : (batU l).drop 4 = (l.map itmU).flatten := by unfold batU; rw [List.drop_left' (bq_len _)]
  have e3 : (batU l).length = 4 + ((l.map itmU).flatten).length := by unfold batU; rw [List.length_append, bq_len]
  have e4 : val (bq (l.length : Int)) = l.length := val_bq (by omega) (by omega)
  have h1 : 0 < l.length := List.length_pos_iff.2 h0
  unfold unlU
  rw [if_neg (by omega), e1, e2, e4, if_neg (by simp; omega)]
  exact itsU_bat l h
theorem gatU_add {rs l xs : List (List Int)} (h : gatU [] rs = some l) (hn : (l ++ xs).Nodup) (h0 : xs ≠ []) (hs : ∀ x ∈ xs, x.length ≤ 65535) (hl : xs.length ≤ 4294967295) : gatU [] (rs ++ [batU xs]) = some (l ++ xs) := by
  rw [gatU_snoc, h]
  simp only [Option.bind_some, gatU]
  rw [unlU_bat hs h0 hl]
  simp only []
  rw [if_pos hn]
end Go.Proofs.YtillhpgdlmeajaaGreatDoor

/-
  The contracts of package disk's small functions: count, told, keep, New, Size, Synced, Down, Arm, Grow, Bytes.
-/
namespace Go.Proofs.YtillhpgdlmeajaaGreatDoor
open Go.RowKit
open Go.Proofs
theorem Dk.Fit.arms {d : Dk} (h : d.Fit) (n : Int) (hl : -9223372036854775808 ≤ n) (hh : n ≤ 9223372036854775807) : (d.armed n).Fit := by
  unfold Dk.armed
  split
  · exact h
  · rename_i hd
    exact ⟨⟨h.ok.syn, h.ok.fits, h.ok.lim⟩, hl, hh, fun e => absurd e hd, h.bytes⟩
set_option maxHeartbeats 1000000 in
theorem arm_any (p : Nat) (v : Value) (d : Dk) (n : Int) (base : Nat) (w : World) (h : DskP w base p v d) (hh : n ≤ 9223372036854775807) :
    Calls Tryz.prog 31 #[.pointer (some ⟨p, 0, none⟩), .int .i64 n] w fun e w' => e = .returned (.tuple #[]) ∧ DskP w' base p v (d.armed (max n 0)) ∧ DSt p w v w' v := by
  have hc4 := h.here.c4
  have hc3 := h.here.c3
  have f3 := h.here.f 3
  have hft := h.fit.arms (max n 0) (by omega) (by omega)
  cases hd : d.down
  · rw [hd] at hc4
    obtain ⟨m, hm⟩ : ∃ m, m = max n 0 := ⟨_, rfl⟩
    have FIN : Hid (DskP (w.setCell ⟨p, 3, none⟩ (.int .i64 m)) base p v (d.armed m)) := by
      have e : d.armed m = { d with arm := m } := by unfold Dk.armed; rw [hd]; rfl
      rw [← hm, e] at hft
      rw [e]
      exact h.poke (kp_set w p 3 _) (h.here.s3 _) rfl hft
    by_cases h0 : n < 0
    · have hm0 : m = 0 := by omega
      rw [← hm]
      rw [hm0] at FIN ⊢
      clear h hd hft hm hm0
      go_enter Tryz.func31, Tryz.ntmps31
      go_wp2_with fail
      go_end0
      exact ⟨rfl, FIN.out, DSt.one v (kp_set _ _ _ _)⟩
    · have hm0 : m = n := by omega
      have h0' : 0 ≤ n := by omega
      rw [← hm]
      rw [hm0] at FIN ⊢
      clear h hd hft hm hm0
      go_enter Tryz.func31, Tryz.ntmps31
      go_wp2_with fail
      go_end0
      exact ⟨rfl, FIN.out, DSt.one v (kp_set _ _ _ _)⟩
  · rw [hd] at hc4
    have FIN : Hid (DskP w base p v (d.armed (max n 0))) := by rw [Dk.armed_down hd]; exact h
    clear h hd hft
    go_enter Tryz.func31, Tryz.ntmps31
    go_wp2_with fail
    go_end0
    exact ⟨rfl, FIN.out, DSt.refl _ _ _⟩
end Go.Proofs.YtillhpgdlmeajaaGreatDoor

/-
  The contracts of package disk: Bytes, keep, Append, Sync, Cut, Crash.
-/
namespace Go.Proofs.YtillhpgdlmeajaaGreatDoor
open Go.RowKit
open Go.Proofs
theorem keep_at (p : Nat) (ao : Option Addr) (m c : Nat) (d : Dk) (n : Nat) (base : Nat) (w : World) (h : DskP w base p (.slice ao m c) d) (hn : n ≤ d.bs.length) (x : Int) (hx : x = (n : Int)) :
    Calls Tryz.prog 79 #[.pointer (some ⟨p, 0, none⟩), .int .i64 x] w fun e w' => e = .returned (.tuple #[]) ∧ DskP w' base p (.slice ao n c) { d with bs := d.bs.take n, syn := n } ∧ DSt p w (.slice ao m c) w' (.slice ao n c) := by
  subst hx
  exact keep_any p ao m c d n base w h hn
theorem Dk.crash_kept {d : Dk} (h : d.Ok) (keep : Int) : d.crash keep = { d with bs := d.bs.take (d.left keep), syn := d.left keep, arm := 0, down := false } := by
  have := Dk.left_le h keep
  unfold Dk.crash
  rw [show min (d.left keep) d.bs.length = d.left keep from by omega]
theorem Dk.Fit.crashed {d : Dk} (h : d.Fit) (keep : Int) : (d.crash keep).Fit :=
  ⟨Dk.crash_ok h.ok keep, by simp [Dk.crash], by simp [Dk.crash], fun _ => rfl, fun b hb => h.bytes b (List.mem_of_mem_take hb)⟩
set_option maxHeartbeats 2000000 in
theorem dcrash_any (p : Nat) (v : Value) (d : Dk) (keep : Int) (base : Nat) (w : World) (h : DskP w base p v d) :
    Calls Tryz.prog 34 #[.pointer (some ⟨p, 0, none⟩), .int .i64 keep] w fun e w' => e = .returned (.tuple #[]) ∧ ∃ v', DskP w' base p v' (d.crash keep) ∧ DSt p w v w' v' := by
  have hc0 := h.here.c0
  have hc1 := h.here.c1
  have ok1 := h.fit.ok.syn
  have ok2 := h.fit.ok.fits
  have ok3 := h.fit.ok.lim
  have hcr := Dk.crash_kept h.fit.ok keep
  have hle := Dk.left_le h.fit.ok keep
  obtain ⟨av, cv, ev⟩ := h.shape
  obtain ⟨k, hk⟩ : ∃ k, k = d.bs.length := ⟨_, rfl⟩
  obtain ⟨s, hs⟩ : ∃ s, s = d.syn := ⟨_, rfl⟩
  rw [← hk] at ev ok1 ok2
  rw [← hs] at hc1 ok1
  subst ev
  have hk2 : (k : Int) ≤ 1048576 := by omega
  have hsk : (s : Int) ≤ (k : Int) := by omega
  obtain ⟨j, hj⟩ : ∃ j, j = d.left keep := ⟨_, rfl⟩
  have hjv : (j : Int) = s + min (max keep 0) ((k : Int) - s) := by
    rw [hj]; unfold Dk.left; rw [← hk, ← hs]; omega
  rw [← hj] at hcr hle
  have HK := hide (fun w' (h' : DskP w' base p (.slice av k cv) d) (x : Int) (hx : x = (j : Int)) => keep_at p av k cv d j base w' h' hle x hx)
  have HF := hide (h.fit.crashed keep)
  have HCR := hide hcr
  have HD := hide (h.keptN (kp_drew w))
  have y1 := HD.out.here.c1
  rw [← hs] at y1
  have T1 : Hid (DSt p w (.slice av k cv) w.drew (.slice av k cv)) := DSt.mid _ (kp_drew w)
  clear h hcr hj hk hs hle ok1 ok2 ok3
  have h3 : keep < 0 ∨ (¬ keep < 0 ∧ keep ≤ (k : Int) - s) ∨ (¬ keep < 0 ∧ ¬ keep ≤ (k : Int) - s) := by omega
  rcases h3 with h3 | ⟨h3, h4⟩ | ⟨h3, h4⟩
  all_goals
    go_enter Tryz.func34, Tryz.ntmps34
    go_wp2_with fail
    refine region_read Tryz.mixed (by kernel_rfl) ?_
    repeat (first | go_big_quiet_skip | (go_big_quiet_want; go_big_quiet_op; go_big_quiet_on))
    refine wpQuiet_nil ?_
    generalize w.drew = w1 at *
    go_wp2_with (first
      | (go_at_call 79; go_loud (refine (HK.out w1 HD.out _ (by first | omega | (unfold wrap64; omega))).mono ?_); rintro e w2 ⟨rfl, D2, T2⟩; clear HK; have g2 := D2.here; unfold Fv at g2; have HD2 := hide D2; have HT2 := hide T2; clear D2 T2)
      | (refine wpList_store_flat rfl 135 (.tmp 29) (.tmp 27) rfl p 3 rfl _ _ [.int .i64 0, .bool false] g2 rfl (by simp) (by kernel_rfl) (by simp [Value.oneCell']) #[.slice av j cv, .int .i64 j, .int .i64 d.lim, .int .i64 0, .bool false] (by simp [putAll]) ?_; intro w3 g3 k3))
    go_end0
    rw [HCR.out]
    have hf := HF.out
    rw [HCR.out] at hf
    exact ⟨rfl, _, HD2.out.poke k3 g3 rfl hf, (T1.out.trans HT2.out).trans (DSt.one _ k3)⟩
end Go.Proofs.YtillhpgdlmeajaaGreatDoor

/-
  A new disk and its steps, as the law package takes them; Cut of the law package by its value; known.
-/
namespace Go.Proofs.YtillhpgdlmeajaaGreatDoor
open Go.RowKit
open Go.Proofs
namespace Dk
theorem armed_arm {d : Dk} (h0 : 0 ≤ d.arm) (n : Int) : 0 ≤ (d.armed (max n 0)).arm := by
  unfold armed
  split
  · exact h0
  · show 0 ≤ max n 0; omega
end Dk
section
variable {w0 w w' : World} {p : Nat} {v v' : Value} {d d' : Dk}
theorem nw_arm (h : Nw w0 w p v d) (n : Int) (hh : n ≤ 9223372036854775807) (he : d.armed (max n 0) = d') : Calls Tryz.prog 31 #[.pointer (some ⟨p, 0, none⟩), .int .i64 n] w fun e w' => e = .returned (.tuple #[]) ∧ Nw w0 w' p v d' ∧ DSt p w v w' v := by
  refine (arm_any p v d n w0.heap.size w h.dk hh).mono ?_
  rintro e w' ⟨rfl, D, T⟩
  have ha := Dk.armed_arm h.arm n
  rw [he] at D ha
  exact ⟨rfl, h.step D T ha, T⟩
theorem nw_crash (h : Nw w0 w p v d) (n : Int) (he : d.crash n = d') : Calls Tryz.prog 34 #[.pointer (some ⟨p, 0, none⟩), .int .i64 n] w fun e w' => e = .returned (.tuple #[]) ∧ ∃ v', Nw w0 w' p v' d' ∧ DSt p w v w' v' := by
  refine (dcrash_any p v d n w0.heap.size w h.dk).mono ?_
  rintro e w' ⟨rfl, v', D, T⟩
  rw [he] at D
  exact ⟨rfl, v', h.step D T (by rw [← he]; exact Int.le_refl 0), T⟩
end
end Go.Proofs.YtillhpgdlmeajaaGreatDoor

/-
  Manifests (api.Manifest) as values and in memory: loaded, stored, handed back.
-/
namespace Go.Proofs.YtillhpgdlmeajaaGreatDoor
open Go.RowKit
open Go.Proofs
theorem Tryz.manSize : (Tryz.prog.info? 160).map (·.size) = some 4 := by kernel_rfl
section
variable {w : World} {g : Nat} {x y z u : Value} {fr : Nat × Nat}
theorem cell_man {t : TypeId} (hg : w.heap[g]? = some (.cells #[x, y, z, u] t fr)) : w.cell? ⟨g, 0, none⟩ = some x ∧ w.cell? ⟨g, 1, none⟩ = some y ∧ w.cell? ⟨g, 2, none⟩ = some z ∧ w.cell? ⟨g, 3, none⟩ = some u := by
  refine ⟨?_, ?_, ?_, ?_⟩ <;> rw [cell_of_row w g _ _ _ _ hg] <;> rfl
theorem results_man1 {fn : Func} {p : Tmp} (h : fn.results = #[.cell p 160]) (tmps : Array Value) (hp : tmps.getD p undef = .pointer (some ⟨g, 0, none⟩)) (hg : w.heap[g]? = some (.cells #[x, y, z, u] 160 fr)) : (results fn tmps).run Tryz.prog w = .ok (.agg #[x, y, z, u]) w :=
  results_cell_row h tmps w g 160 #[x, y, z, u] fr _ hp hg Tryz.underlying160 rfl Tryz.manSize
theorem kp_mcells (w : World) (g : Nat) : ∀ (l : List Value) (o : Nat) (w1 : World), Kp [g] w w1 → Kp [g] w (w1.setCells g o l)
  | [], _, _, h => h
  | x :: l, o, w1, h => kp_mcells w g l (o + 1) _ (h.setCell (p := ⟨g, o, none⟩) (.inl (by simp)) x)
theorem wpList_store_man {ops : Array Oper} {rest : List Oper} {o : Oper} {a : Act} {Q : Exit → Act → World → Prop} (hgd : o.guard = none) (p r : Operand) (ho : o.op = .store 160 p r) (g : Nat) (hp : a.eval p = .pointer (some ⟨g, 0, none⟩)) (x0 y0 z0 u0 x y z u : Value)
    (hg : w.heap[g]? = some (.cells #[x0, y0, z0, u0] 160 (0, 0))) (hu : a.eval r = .agg #[x, y, z, u]) (h1 : x.oneCell' = true ∧ y.oneCell' = true ∧ z.oneCell' = true ∧ u.oneCell' = true)
    (h : ∀ w', w'.heap[g]? = some (.cells #[x, y, z, u] 160 (0, 0)) → Kp [g] w w' → wpList Tryz.prog ops Q rest (a.put o.dst undef) w') : wpList Tryz.prog ops Q (o :: rest) a w := by
  refine wpList_store_mid hgd 160 p r ho g 0 #[x, y, z, u] hp hu ?_ (by simpa using Tryz.manSize) (all_oneCell_toArray (by simp [h1])) ?_
  · intro j hj
    simp only [List.size_toArray, List.length_cons, List.length_nil] at hj
    rw [Nat.zero_add, cell_of_row w g j _ _ _ hg]
    refine ⟨?_, frozen_of_row w g j _ _ hg⟩
    rcases (by omega : j = 0 ∨ j = 1 ∨ j = 2 ∨ j = 3) with rfl | rfl | rfl | rfl <;> rfl
  · refine h _ ?_ (kp_mcells w g _ 0 w (Kp.refl _ _))
    simp only [World.setCells]
    have e1 := heap_setCell_same w g 0 _ _ x hg
    have e2 := heap_setCell_same (w.setCell ⟨g, 0, none⟩ x) g 1 _ _ y e1
    have e3 := heap_setCell_same ((w.setCell ⟨g, 0, none⟩ x).setCell ⟨g, 1, none⟩ y) g 2 _ _ z e2
    have e4 := heap_setCell_same (((w.setCell ⟨g, 0, none⟩ x).setCell ⟨g, 1, none⟩ y).setCell ⟨g, 2, none⟩ z) g 3 _ _ u e3
    simpa using e4
end
/-- The value is the manifest m. -/
def MvT (m : Mf) : Tell := fun v w => MV w v m
theorem stable_mv (m : Mf) : Tell.stable (MvT m) := fun _ _ _ k h => h.kept k
section
variable {o : Oper} {a : Act} {w : World} {R : Tell} {g : Nat} {x y z u : Value} {fr : Nat × Nat}
theorem man_fld (g j : Nat) (hj : j < 4) (w : World) : (Instr.fieldAt 160 (.pointer (some ⟨g, 0, none⟩)) j).run Tryz.prog w = .ok (.pointer (some ⟨g, j, none⟩)) w := by
  rcases (by omega : j = 0 ∨ j = 1 ∨ j = 2 ∨ j = 3) with rfl | rfl | rfl | rfl <;> simp [go_sem]
theorem grown_mfld (p : Operand) (j : Nat) (hj : j < 4) (ho : o.op = .fieldAddr 160 p j) (hp : a.eval p = .pointer (some ⟨g, 0, none⟩)) : grown Tryz.prog w (Is (.pointer (some ⟨g, j, none⟩))) ((execOp a.eval o).run Tryz.prog w) := by
  refine grown_run ?_ (Kp.refl _ _) rfl
  unfold execOp
  simp only [ho, hp, Sem.run_bind, man_fld g j hj w, Result.andThen_ok, Sem.run_pure]
theorem grown_lds (p : Operand) (ho : o.op = .load 9 p) (j : Nat) (S : ByteArray) (hp : a.eval p = .pointer (some ⟨g, j, none⟩)) (hc : w.cell? ⟨g, j, none⟩ = some (.string S)) : grown Tryz.prog w (Is (.string S)) ((execOp a.eval o).run Tryz.prog w) := by
  refine grown_run (v := .string S) ?_ (Kp.refl _ _) rfl
  obtain ⟨ρ, hρ, _⟩ := eval_is a
  rw [hρ] at hp ⊢
  unfold execOp
  simp only [ho]
  simp [go_sem, hp, hc]
theorem grown_ldu (p : Operand) (ho : o.op = .load 103 p) (j : Nat) (i : Int) (hp : a.eval p = .pointer (some ⟨g, j, none⟩)) (hc : w.cell? ⟨g, j, none⟩ = some (.int .u32 i)) : grown Tryz.prog w (Is (.int .u32 i)) ((execOp a.eval o).run Tryz.prog w) := by
  refine grown_run (v := .int .u32 i) ?_ (Kp.refl _ _) rfl
  obtain ⟨ρ, hρ, _⟩ := eval_is a
  rw [hρ] at hp ⊢
  unfold execOp
  simp only [ho]
  simp [go_sem, hp, hc]
end
theorem man_no {S : ByteArray} {i : Int} {v u : Value} (hv : ∀ y, v ≠ .int .u8 y) (hu : ∀ y, u ≠ .int .u8 y) : ∀ x ∈ (#[Value.string S, .int .u32 i, v, u]).toList, ∀ y, x ≠ .int .u8 y := by
  intro x hx y
  rcases (by simpa using hx : x = .string S ∨ x = .int .u32 i ∨ x = v ∨ x = u) with rfl | rfl | rfl | rfl
  · simp
  · simp
  · exact hv y
  · exact hu y
theorem noBy_man {w : World} {g : Nat} {S : ByteArray} {i : Int} {a1 a2 : Option Addr} {n1 c1 n2 c2 : Nat} {t : TypeId} {fr : Nat × Nat} (hg : w.heap[g]? = some (.cells #[.string S, .int .u32 i, .slice a1 n1 c1, .slice a2 n2 c2] t fr)) : NoBy w [g] := by
  intro x hx
  obtain rfl : x = g := by simpa using hx
  exact ⟨_, _, _, hg, man_no (by simp) (by simp)⟩
end Go.Proofs.YtillhpgdlmeajaaGreatDoor

/-
  The contracts of the law package's helpers Hash and Manifest.
-/
namespace Go.Proofs.YtillhpgdlmeajaaGreatDoor
open Go.RowKit
open Go.Proofs
def nm0 : ByteArray := ⟨#[112, 117, 109, 112]⟩
def nm1 : ByteArray := ⟨#[118, 97, 108, 118, 101]⟩
def nm2 : ByteArray := ⟨#[97]⟩
def nm3 : ByteArray := ⟨#[103, 97, 117, 103, 101, 111, 102, 116, 104, 101, 108, 111, 110, 103, 101, 115, 116, 110, 97, 109]⟩
/-- one of the names. -/
def nmK (k : Nat) : ByteArray := if k = 0 then nm0 else if k = 1 then nm1 else if k = 2 then nm2 else nm3
def hashK (n : Int) : List Int := sha [98, wiP n 0 100000 % 256]
def mkM (a v f : Int) : Mf := ⟨nmK (wiP a 0 1000 % 4).toNat, 1 + wiP v 0 100000 % 9, hashK (f.tmod 4), [f % 256]⟩
theorem hashK_len (n : Int) : (hashK n).length = 32 := sha_len _
theorem hashK_bs (n : Int) : Bs (hashK n) := sha_bs _
theorem nm_name (k : Nat) : nameP (nums (nmK k)) = true := by
  unfold nmK
  split
  · decide +kernel
  · split
    · decide +kernel
    · split <;> decide +kernel
theorem nmK_size (k : Nat) : 1 ≤ (nmK k).size ∧ (nmK k).size ≤ 20 := by have := nameP_len (nm_name k); rwa [nums_len] at this
theorem mkM_ver (a v f : Int) : 1 ≤ (mkM a v f).v ∧ (mkM a v f).v ≤ 9 := by
  have h := wiP_ge v 0 100000 (by omega)
  show 1 ≤ 1 + wiP v 0 100000 % 9 ∧ 1 + wiP v 0 100000 % 9 ≤ 9
  omega
theorem mkM_ok (a v f : Int) : (mkM a v f).ok := by
  have h := mkM_ver a v f
  refine ⟨by omega, by omega, hashK_bs _, fun b hb => ?_⟩
  have : b = f % 256 := by simpa [mkM] using hb
  omega
theorem mkM_size (a v f : Int) : (mkM a v f).s.size ≤ 20 := (nmK_size _).2
theorem wrap_u8M (f : Int) : IntKind.u8.wrap f = f % 256 := by simp [IntKind.wrap, IntKind.signed, IntKind.bits]
theorem wrap_u32 {x : Int} (h0 : 0 ≤ x) (h1 : x ≤ 4294967295) : IntKind.u32.wrap x = x := by simp [IntKind.wrap, IntKind.signed, IntKind.bits]; omega
set_option maxRecDepth 100000 in
set_option maxHeartbeats 1000000 in
theorem khash_any (n : Int) (w : World) :
    Calls Tryz.prog 138 #[.int .i64 n] w fun e w' => ∃ ao m c, e = .returned (.slice ao m c) ∧ Row w' w.heap.size (.slice ao m c) (hashK n) ∧ Kp [] w w' := by
  have HW := hide (within_wi n 0 100000 w (by omega) (by omega) (by omega))
  obtain ⟨x, hx⟩ : ∃ x, x = wiP n 0 100000 := ⟨_, rfl⟩
  have hu := wrap_u8M x
  rw [← hx] at HW
  have HX := hide hx
  clear hx
  go_enter Tryz.func138, Tryz.ntmps138
  go_wp2_with fail
  refine (unhide HW).mono ?_
  rintro ee w1 ⟨rfl, hw⟩
  subst w1
  clear HW
  go_wp2_with fail
  obtain ⟨ob, hob⟩ : ∃ o : Obj, o = (.cells #[.int .u8 (x % 256)] 5) := ⟨_, rfl⟩
  have hP : Sl (w.alloc ob) (.slice (some ⟨w.heap.size, 0, none⟩) 1 1) [x % 256] := by
    rw [hob]; exact Sl.block (cs := [x % 256]) (t := 5) (fr := (0, 0)) (heap_alloc_new w _) (by simp [maxLen])
  have hPB : Bs [x % 256] := by
    intro b hb
    obtain rfl : b = x % 256 := by simpa using hb
    omega
  have Ka := (Kp.refl [] w).alloc ob
  have HL := lists1 hP hPB
  rw [show (w.alloc ob).heap.size = w.heap.size + 1 by simp] at HL
  have HK := hide (Ka.alloc (.cells #[.slice (some ⟨w.heap.size, 0, none⟩) 1 1] 22))
  rw [← hob]
  refine (reftagged_any 98 _ _ _ rfl _ HL (by omega) (by omega) (by simp) (by simp)).mono ?_
  rintro ee w2 ⟨ao2, m2, c2, rfl, R2, K2⟩
  have hr : sha (98 :: cat [(Value.slice (some ⟨w.heap.size, 0, none⟩) 1 1, [x % 256])]) = hashK n := by unfold hashK; rw [← unhide HX]; rfl
  rw [hr] at R2
  have HR2 := hide (row_new R2 (unhide HK))
  have HK2 := hide ((unhide HK).trans K2)
  clear HL HK hob R2 K2 Ka hP hPB hr hu
  go_wp2_with fail
  go_ret
  exact ⟨ao2, m2, c2, rfl, unhide HR2, unhide HK2⟩
/-- The value is the list of the four names. -/
def Str4 : Tell := fun v w => ∃ g, v = .slice (some ⟨g, 0, none⟩) 4 4 ∧ ∀ j, j < 4 → w.cell? ⟨g, j, none⟩ = some (.string (nmK j))
theorem stable_str4 : Tell.stable Str4 := fun _ _ _ k ⟨g, e, h⟩ => ⟨g, e, fun j hj => k.cell (h j hj) (by simp)⟩
/-- The value points to this string. -/
def PtS (S : ByteArray) : Tell := fun v w => ∃ g j, v = .pointer (some ⟨g, j, none⟩) ∧ w.cell? ⟨g, j, none⟩ = some (.string S)
theorem stable_pts (S : ByteArray) : Tell.stable (PtS S) := fun _ _ _ k ⟨g, j, e, h⟩ => ⟨g, j, e, k.cell h (by simp)⟩
section
variable {o : Oper} {a : Act} {w : World}
theorem grown_nm3 (ho : o.op = .slice 9 (.const (.string ⟨#[103, 97, 117, 103, 101, 111, 102, 116, 104, 101, 108, 111, 110, 103, 101, 115, 116, 110, 97, 109, 101]⟩)) none (some (.const (.int .i64 20))) none) : grown Tryz.prog w (Is (.string nm3)) ((execOp a.eval o).run Tryz.prog w) := by
  refine grown_run (v := .string nm3) ?_ (Kp.refl _ _) rfl
  obtain ⟨ρ, hρ, hc, _⟩ := eval_is a
  rw [hρ]
  unfold execOp
  simp only [ho]
  simp [go_sem, hc]
  decide +kernel
theorem grown_str4 (x : Operand) (ho : o.op = .buildSlice 109 4 #[(0, .const (.string nm0)), (1, .const (.string nm1)), (2, .const (.string nm2)), (3, x)]) (h : a.eval x = .string nm3) : grown Tryz.prog w Str4 ((execOp a.eval o).run Tryz.prog w) := by
  have G := heap_alloc_new w (.cells #[.string nm0, .string nm1, .string nm2, .string nm3] 9)
  refine grown_run (v := .slice (some ⟨w.heap.size, 0, none⟩) 4 4) (w' := w.alloc (.cells #[.string nm0, .string nm1, .string nm2, .string nm3] 9)) ?_ ((Kp.refl _ _).alloc _) ⟨_, rfl, fun j hj => ?_⟩
  · obtain ⟨ρ, hρ, hc, _⟩ := eval_is a
    rw [hρ] at h ⊢
    unfold execOp
    simp only [ho]
    simp [go_sem, hc, h]
  · rw [cell_of_row _ _ j _ _ _ G]
    rcases (by omega : j = 0 ∨ j = 1 ∨ j = 2 ∨ j = 3) with rfl | rfl | rfl | rfl <;> rfl
theorem grown_pts (s i : Operand) (k : Nat) (hk : k < 4) (ho : o.op = .indexAddr 109 s i) (h : Str4 (a.eval s) w) (hi : a.eval i = .int .i64 (k : Nat)) : grown Tryz.prog w (PtS (nmK k)) ((execOp a.eval o).run Tryz.prog w) := by
  obtain ⟨g, e, hc⟩ := h
  have hi2 : (k : Int) < 4 := by omega
  refine grown_run (v := .pointer (some ⟨g, k, none⟩)) ?_ (Kp.refl _ _) ⟨g, k, rfl, hc k hk⟩
  obtain ⟨ρ, hρ, _⟩ := eval_is a
  rw [hρ] at e hi ⊢
  unfold execOp
  simp only [ho]
  simp [go_sem, e, hi, hi2]
theorem grown_ldS (p : Operand) (S : ByteArray) (ho : o.op = .load 9 p) (h : PtS S (a.eval p) w) : grown Tryz.prog w (Is (.string S)) ((execOp a.eval o).run Tryz.prog w) := by
  obtain ⟨g, j, e, hc⟩ := h
  exact grown_lds p ho j S e hc
theorem grown_byte1 (x : Operand) (b : Int) (ho : o.op = .buildSlice 22 1 #[(0, x)]) (h : a.eval x = .int .u8 b) : grown Tryz.prog w (SlT [b]) ((execOp a.eval o).run Tryz.prog w) := by
  refine grown_run (v := .slice (some ⟨w.heap.size, 0, none⟩) 1 1) (w' := w.alloc (.cells #[.int .u8 b] 5)) ?_ ((Kp.refl _ _).alloc _) (Sl.block (cs := [b]) (t := 5) (fr := (0, 0)) (heap_alloc_new w _) (by simp [maxLen]))
  obtain ⟨ρ, hρ, _⟩ := eval_is a
  rw [hρ] at h ⊢
  unfold execOp
  simp only [ho]
  simp [go_sem, h]
theorem grown_man (x0 x1 x2 x3 : Operand) (ho : o.op = .build 160 #[(0, x0), (1, x1), (2, x2), (3, x3)]) (m : Mf) (h0 : a.eval x0 = .string m.s) (h1 : a.eval x1 = .int .u32 m.v) (h2 : Sl w (a.eval x2) m.f) (h3 : Sl w (a.eval x3) m.n) (hok : m.ok) : grown Tryz.prog w (MvT m) ((execOp a.eval o).run Tryz.prog w) := by
  obtain ⟨a2, c2, e2, r2⟩ := h2
  obtain ⟨a3, c3, e3, r3⟩ := h3
  refine grown_run (v := .agg #[.string m.s, .int .u32 m.v, .slice a2 m.f.length c2, .slice a3 m.n.length c3]) ?_ (Kp.refl _ _) ⟨a2, _, c2, a3, _, c3, rfl, ⟨a2, c2, rfl, r2⟩, ⟨a3, c3, rfl, r3⟩, hok⟩
  obtain ⟨ρ, hρ, _⟩ := eval_is a
  rw [hρ] at h0 h1 e2 e3 ⊢
  unfold execOp
  simp only [ho]
  simp [go_sem, h0, h1, e2, e3]
end
set_option maxRecDepth 100000 in
set_option maxHeartbeats 2000000 in
theorem kman_any (ia v f : Int) (w : World) :
    Calls Tryz.prog 105 #[.int .i64 ia, .int .i64 v, .int .i64 f] w fun e w' => ∃ x, e = .returned x ∧ MV w' x (mkM ia v f) ∧ Kp [] w w' := by
  have ha := wiP_ge ia 0 1000 (by omega)
  have hv := wiP_ge v 0 100000 (by omega)
  obtain ⟨k, hk⟩ : ∃ k : Nat, k = (wiP ia 0 1000 % 4).toNat := ⟨_, rfl⟩
  obtain ⟨r, hr⟩ : ∃ r, r = wiP v 0 100000 % 9 := ⟨_, rfl⟩
  have HKR : Hid ((wiP ia 0 1000).tmod 4 = (k : Int)) := hide (by rw [Int.tmod_eq_emod_of_nonneg ha.1]; omega)
  have HRR : Hid ((wiP v 0 100000).tmod 9 = r) := hide (by rw [Int.tmod_eq_emod_of_nonneg hv.1]; omega)
  have HK4 : Hid (k < 4) := hide (by omega)
  have HR9 : Hid (0 ≤ r ∧ r < 9) := hide (by omega)
  have HNM : Hid ((mkM ia v f).s = nmK k) := hide (by rw [hk]; rfl)
  have HV : Hid (1 + r = (mkM ia v f).v) := hide (by rw [hr]; rfl)
  have HZ := hide ((Kp.refl [] w).alloc (.cells #[.string ⟨#[]⟩, .int .u32 0, .slice none 0 0, .slice none 0 0] 160))
  have G0 := heap_alloc_new w (.cells #[.string ⟨#[]⟩, .int .u32 0, .slice none 0 0, .slice none 0 0] 160)
  have HG0 := hide G0
  clear ha hv hk hr G0
  go_enter Tryz.func105, Tryz.ntmps105
  go_wp2_with fail
  obtain ⟨g0, hg0⟩ : ∃ g, g = w.heap.size := ⟨_, rfl⟩
  obtain ⟨w0, hw0⟩ : ∃ w0, w0 = w.alloc (.cells #[.string ⟨#[]⟩, .int .u32 0, .slice none 0 0, .slice none 0 0] 160) := ⟨_, rfl⟩
  rw [← hw0] at HZ HG0 ⊢
  rw [← hg0] at HG0 ⊢
  have HGW := hide hg0
  clear hg0 hw0
  refine region_grow_tail 19 Tryz.mixed [Is (.string nm3), Str4, Is (.int .i64 ia), Is (.int .i64 (wiP ia 0 1000)), Is (.int .i64 k), PtS (nmK k), Is (.string (nmK k)), Is (.int .i64 v), Is (.int .i64 (wiP v 0 100000)), Is (.int .i64 r), Is (.int .i64 (1 + r)), Is (.int .u32 (1 + r)), Is (.int .i64 f), Is (.int .i64 (f.tmod 4)), SlT (hashK (f.tmod 4)), Is (.int .i64 f), Is (.int .u8 (f % 256)), SlT ([f % 256]), MvT (mkM ia v f)] [[], [(7, some 0)], [(0, none)], [(9, some 2)], [(10, some 3)], [(8, some 1), (11, some 4)], [(12, some 5)], [(1, none)], [(14, some 7)], [(15, some 8)], [(16, some 9)], [(17, some 10)], [(2, none)], [(19, some 12)], [(20, some 13)], [(2, none)], [(22, some 15)], [(23, some 16)], [(13, some 6), (18, some 11), (21, some 14), (24, some 17)]] (by kernel_rfl) ?_ ?_ ?_
  all_goals try simp only [List.take_succ_cons, List.take_zero, List.drop_succ_cons, List.drop_zero]
  · simp only [List.mem_cons, List.not_mem_nil, or_false]
    intro R hR
    rcases hR with rfl | rfl | rfl | rfl | rfl | rfl | rfl | rfl | rfl | rfl | rfl | rfl | rfl | rfl | rfl | rfl | rfl | rfl | rfl <;> first | exact stable_is _ | exact stable_str4 | exact stable_pts _ | exact stable_sl _ | exact stable_mv _
  · refine steps_cons (fun a w hk hn => ?_) ?_
    · clear hn
      refine wants_plain rfl ?_
      exact grown_nm3 rfl
    refine steps_cons (fun a w hk hn => ?_) ?_
    · have h7 : a.eval (.tmp 7) = .string nm3 := hn.1
      clear hn
      refine wants_plain rfl ?_
      exact grown_str4 (.tmp 7) rfl h7
    refine steps_cons (fun a w hk hn => ?_) ?_
    · have h0 : a.eval (.tmp 0) = .int .i64 ia := hn.1
      clear hn
      refine wants_plain rfl ?_
      exact grown_move (.tmp 0) rfl h0
    refine steps_cons (fun a w hk hn => ?_) ?_
    · have h9 : a.eval (.tmp 9) = .int .i64 ia := hn.1
      clear hn
      refine wants_plain rfl ?_
      refine grown_call (f := 20) rfl Tryz.func20 (by kernel_rfl) (by kernel_rfl) ?_
      simp only [List.map_toArray, List.map_cons, List.map_nil, h9]
      refine (within_wi ia 0 1000 w (by omega) (by omega) (by omega)).mono ?_
      rintro e w' ⟨rfl, rfl⟩
      exact ⟨_, rfl, Kp.refl _ _, rfl⟩
    refine steps_cons (fun a w hk hn => ?_) ?_
    · have h10 : a.eval (.tmp 10) = .int .i64 (wiP ia 0 1000) := hn.1
      clear hn
      refine wants_plain rfl ?_
      refine grown_run (v := .int .i64 k) ?_ (Kp.refl _ _) rfl
      obtain ⟨ρ, hρ, hc, hf, hg⟩ := eval_is a
      rw [hρ] at h10 ⊢
      simp [go_sem, hc, h10]
      exact unhide HKR
    refine steps_cons (fun a w hk hn => ?_) ?_
    · have h8 : (Str4) (a.eval (.tmp 8)) w := hn.1
      have h11 : a.eval (.tmp 11) = .int .i64 k := hn.2.1
      clear hn
      refine wants_plain rfl ?_
      exact grown_pts (.tmp 8) (.tmp 11) k (unhide HK4) rfl h8 h11
    refine steps_cons (fun a w hk hn => ?_) ?_
    · have h12 : (PtS (nmK k)) (a.eval (.tmp 12)) w := hn.1
      clear hn
      refine wants_plain rfl ?_
      exact grown_ldS (.tmp 12) _ rfl h12
    refine steps_cons (fun a w hk hn => ?_) ?_
    · have h1 : a.eval (.tmp 1) = .int .i64 v := hn.1
      clear hn
      refine wants_plain rfl ?_
      exact grown_move (.tmp 1) rfl h1
    refine steps_cons (fun a w hk hn => ?_) ?_
    · have h14 : a.eval (.tmp 14) = .int .i64 v := hn.1
      clear hn
      refine wants_plain rfl ?_
      refine grown_call (f := 20) rfl Tryz.func20 (by kernel_rfl) (by kernel_rfl) ?_
      simp only [List.map_toArray, List.map_cons, List.map_nil, h14]
      refine (within_wi v 0 100000 w (by omega) (by omega) (by omega)).mono ?_
      rintro e w' ⟨rfl, rfl⟩
      exact ⟨_, rfl, Kp.refl _ _, rfl⟩
    refine steps_cons (fun a w hk hn => ?_) ?_
    · have h15 : a.eval (.tmp 15) = .int .i64 (wiP v 0 100000) := hn.1
      clear hn
      refine wants_plain rfl ?_
      refine grown_run (v := .int .i64 r) ?_ (Kp.refl _ _) rfl
      obtain ⟨ρ, hρ, hc, hf, hg⟩ := eval_is a
      rw [hρ] at h15 ⊢
      simp [go_sem, hc, h15]
      exact unhide HRR
    refine steps_cons (fun a w hk hn => ?_) ?_
    · have h16 : a.eval (.tmp 16) = .int .i64 r := hn.1
      clear hn
      refine wants_plain rfl ?_
      refine grown_run (v := .int .i64 (1 + r)) ?_ (Kp.refl _ _) rfl
      have hr9 := unhide HR9
      obtain ⟨ρ, hρ, hc, hf, hg⟩ := eval_is a
      rw [hρ] at h16 ⊢
      simp [go_sem, hc, h16]
      exact wrap_at rfl (by omega) (by omega)
    refine steps_cons (fun a w hk hn => ?_) ?_
    · have h17 : a.eval (.tmp 17) = .int .i64 (1 + r) := hn.1
      clear hn
      refine wants_plain rfl ?_
      refine grown_run (v := .int .u32 (1 + r)) ?_ (Kp.refl _ _) rfl
      have hr9 := unhide HR9
      obtain ⟨ρ, hρ, hc, hf, hg⟩ := eval_is a
      rw [hρ] at h17 ⊢
      simp [go_sem, h17]
      exact wrap_u32 (by omega) (by omega)
    refine steps_cons (fun a w hk hn => ?_) ?_
    · have h2 : a.eval (.tmp 2) = .int .i64 f := hn.1
      clear hn
      refine wants_plain rfl ?_
      exact grown_move (.tmp 2) rfl h2
    refine steps_cons (fun a w hk hn => ?_) ?_
    · have h19 : a.eval (.tmp 19) = .int .i64 f := hn.1
      clear hn
      refine wants_plain rfl ?_
      refine grown_run (v := .int .i64 (f.tmod 4)) ?_ (Kp.refl _ _) rfl
      obtain ⟨ρ, hρ, hc, hf, hg⟩ := eval_is a
      rw [hρ] at h19 ⊢
      simp [go_sem, hc, h19]
    refine steps_cons (fun a w hk hn => ?_) ?_
    · have h20 : a.eval (.tmp 20) = .int .i64 (f.tmod 4) := hn.1
      clear hn
      refine wants_plain rfl ?_
      refine grown_call (f := 138) rfl Tryz.func138 (by kernel_rfl) (by kernel_rfl) ?_
      simp only [List.map_toArray, List.map_cons, List.map_nil, h20]
      refine (khash_any (f.tmod 4) w).mono ?_
      rintro e w' ⟨ao, m, c, rfl, R, K⟩
      exact ⟨_, rfl, K, R.sl⟩
    refine steps_cons (fun a w hk hn => ?_) ?_
    · have h2 : a.eval (.tmp 2) = .int .i64 f := hn.1
      clear hn
      refine wants_plain rfl ?_
      exact grown_move (.tmp 2) rfl h2
    refine steps_cons (fun a w hk hn => ?_) ?_
    · have h22 : a.eval (.tmp 22) = .int .i64 f := hn.1
      clear hn
      refine wants_plain rfl ?_
      refine grown_run (v := .int .u8 (f % 256)) ?_ (Kp.refl _ _) rfl
      obtain ⟨ρ, hρ, hc, hf, hg⟩ := eval_is a
      rw [hρ] at h22 ⊢
      simp [go_sem, h22]
      exact wrap_u8M f
    refine steps_cons (fun a w hk hn => ?_) ?_
    · have h23 : a.eval (.tmp 23) = .int .u8 (f % 256) := hn.1
      clear hn
      refine wants_plain rfl ?_
      exact grown_byte1 (.tmp 23) _ rfl h23
    refine steps_cons (fun a w hk hn => ?_) ?_
    · have h13 : a.eval (.tmp 13) = .string (nmK k) := hn.1
      have h18 : a.eval (.tmp 18) = .int .u32 (1 + r) := hn.2.1
      have h21 : Sl w (a.eval (.tmp 21)) (hashK (f.tmod 4)) := hn.2.2.1
      have h24 : Sl w (a.eval (.tmp 24)) ([f % 256]) := hn.2.2.2.1
      clear hn
      refine wants_plain rfl ?_
      exact grown_man (.tmp 13) (.tmp 18) (.tmp 21) (.tmp 24) rfl (mkM ia v f) (by rw [h13]; exact congrArg Value.string (unhide HNM).symm) (by rw [h18]; exact congrArg (fun t => Value.int .u32 t) (unhide HV)) h21 h24 (mkM_ok ia v f)
    exact trivial
  intro W1 hkW1
  rintro _ rfl
  intro v8 h8
  rintro _ rfl
  rintro _ rfl
  rintro _ rfl
  intro v12 h12
  rintro _ rfl
  rintro _ rfl
  rintro _ rfl
  rintro _ rfl
  rintro _ rfl
  rintro _ rfl
  rintro _ rfl
  rintro _ rfl
  intro v21 h21
  rintro _ rfl
  rintro _ rfl
  intro v24 h24
  intro v25 h25
  refine fin_nil ?_
  simp only [Act.put, List.set_cons_zero, List.set_cons_succ, List.setIfInBounds_toArray]
  have K1 := (kp_drew w0).trans hkW1
  have G1 := K1.heap (unhide HG0) (by simp)
  obtain ⟨af, nf, cf, an, nn, cn, e25, hF, hN, hok⟩ := h25
  subst e25
  go_wp2_with (refine wpList_store_man rfl (.tmp 6) (.tmp 25) rfl g0 rfl _ _ _ _ _ _ _ _ G1 rfl ⟨rfl, rfl, rfl, rfl⟩ ?_; intro wa Ga Ka)
  refine bodyPost_ret (results_man1 rfl _ rfl Ga) rfl ?_
  have N1 := noBy_man G1
  exact ⟨_, rfl, ⟨af, nf, cf, an, nn, cn, rfl, hF.offBy N1 Ka, hN.offBy N1 Ka, hok⟩, (((unhide HZ).trans K1)).then Ka (fun i hi => .inr (by have := unhide HGW; simp at hi; omega))⟩
end Go.Proofs.YtillhpgdlmeajaaGreatDoor
