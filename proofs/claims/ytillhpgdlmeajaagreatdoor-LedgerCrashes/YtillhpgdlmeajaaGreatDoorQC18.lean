/-
  The contract of the program's partsOf, for whatever chooses the sides; Public and Sign.
-/
import Derived.Shelf.Abstract
import Derived.Test.YtillhpgdlmeajaaGreatDoorQC16
namespace Go.Proofs.YtillhpgdlmeajaaGreatDoor
open Go.RowKit
open Go.Proofs
theorem tell_enters (b : Bool) : Enters Tryz.prog (if b then 183 else 179) := by
  cases b
  · exact enters_of Tryz.func179 (by kernel_rfl) rfl
  · exact enters_of Tryz.func183 (by kernel_rfl) rfl
theorem tell_any (b : Bool) (vb : Value) (bs : List Int) (key bit side : Int) (r : List Int) (hr : r = if b then secP bs key bit side else shnP bs key bit side) (w : World) (hS : Sl w vb bs) (hB : Bs bs) (hl : bs.length ≤ 1000) (hG : Gl w) :
    Calls Tryz.prog (if b then 183 else 179) #[vb, .int .i64 key, .int .i64 bit, .int .i64 side] w fun e w' => ∃ ao m c, e = .returned (.slice ao m c) ∧ Row w' w.heap.size (.slice ao m c) r ∧ Kp [] w w' := by
  cases b
  · exact shown_any vb bs key bit side r hr w hS hB hl hG
  · exact secret_any vb bs key bit side r hr w hS hB hl hG
theorem Tryz.infoT : ∃ i, Tryz.prog.info? 214 = some i ∧ i.size = 1 := by
  have h : (Tryz.prog.info? 214).map (·.size) = some 1 := by kernel_rfl
  exact Option.map_eq_some_iff.1 h
theorem index0 (x y : Value) (w : World) : (Instr.index 216 (.agg #[x, y]) (.int .i64 0)).run Tryz.prog w = .ok x w := by
  obtain ⟨i, hi, hs⟩ := Tryz.infoT
  simp [Instr.index, asIntOf, Sem.run_bind, run_underlying Tryz.underlying216 w, sizeOf, typeInfo, hi, hs, part]
theorem index1 (x y : Value) (w : World) : (Instr.index 216 (.agg #[x, y]) (.int .i64 1)).run Tryz.prog w = .ok y w := by
  obtain ⟨i, hi, hs⟩ := Tryz.infoT
  simp [Instr.index, asIntOf, Sem.run_bind, run_underlying Tryz.underlying216 w, sizeOf, typeInfo, hi, hs, part]
theorem ptP_at (bs : List Int) (key : Int) (c : Nat → Nat → Bool) (k s : Nat) (hs : s < 2) : ptP bs key c (2 * k + s) = if c k s then secP bs key (k : Nat) (s : Nat) else shnP bs key (k : Nat) (s : Nat) := by
  unfold ptP
  rw [show (2 * k + s) / 2 = k by omega, show (2 * k + s) % 2 = s by omega]
set_option maxRecDepth 100000 in
set_option maxHeartbeats 2000000 in
theorem partsOf_any (vb : Value) (bs : List Int) (key : Int) (c : Nat → Nat → Bool) (fc : FuncId) (cap : Array Value) (hen : Enters Tryz.prog fc) (w : World) (hS : Sl w vb bs) (hB : Bs bs) (hl : bs.length ≤ 1000) (hG : Gl w)
    (hch : ∀ j, j < 32 → ∀ w', Kp [] w w' → Calls Tryz.prog fc (#[.int .i64 (j : Nat)] ++ cap) w' fun e w'' => e = .returned (two c j) ∧ Kp [] w' w'') :
    Calls Tryz.prog 169 #[vb, .int .i64 key, .func (.func fc) #[] cap] w fun e w' => ∃ ao m cc, e = .returned (.slice ao m cc) ∧ Acc w (ptsP bs key c 64) (.slice ao m cc) w' := by
  obtain ⟨i0, hi0, hz0, hz1, hz2⟩ := info_parts Tryz.infoSl
  have HS := hide hS
  have HG := hide hG
  have HCH := hide hch
  have HB := hide hB
  have hen2 : ∀ (args : Array Value) (w : World), (callFunc fc args).run Tryz.prog w = .ok (.enter fc args) w := hen
  obtain ⟨ab, cb, hvb, _⟩ := hS
  obtain ⟨nb, hnb⟩ : ∃ n, n = bs.length := ⟨_, rfl⟩
  rw [← hnb] at hvb
  subst hvb
  clear hG hch hB hen hnb
  go_enter Tryz.func169, Tryz.ntmps169
  go_wp2_with (at_make; refine wpList_make_own _ rfl _ _ 33 rfl w.heap.size 22 i0 (.slice none 0 0) 1 Tryz.underlying33 hi0 hz0 hz1 .i64 .i64 _ 64 rfl rfl (by omega) (by rw [hz2]; omega) (by unfold maxLen; omega) (Nat.le_refl _) ?_; intro w1 o1 g1; have K1 : Kp [] w w1 := (Kp.refl [] w).grown g1 (by intro k hk; cases hk); have R1 : RowV w1 w.heap.size _ [] := o1)
  have A1 : Hid (Acc w (ptsP bs key c 0) (.slice (some ⟨w.heap.size, 0, none⟩) 0 64) w1) := ⟨[], ⟨R1, fun x hx => by cases hx⟩, rfl, K1⟩
  clear o1 g1 R1 K1
  go_loopw [7, 12] (fun v i wr => ∃ (k m cc : Nat) (ao : Option Addr), k ≤ 32 ∧ v = .slice ao m cc ∧ i = .int .i64 k ∧ Acc w (ptsP bs key c (2 * k)) v wr) (fun _ i _ => 32 - (intOf i).toNat)
  case atStart => exact ⟨0, 0, 64, some ⟨w.heap.size, 0, none⟩, by omega, rfl, rfl, unhide A1⟩
  case round =>
    obtain ⟨k, m, cc, ao, hk, rfl, rfl, Ar⟩ := hrel
    clear A1
    have HA := hide Ar
    clear Ar
    by_cases hlt : k < 32
    · have hlt2 : (k : Int) < 32 := by omega
      go_wp2_with fail
      refine (unhide HCH k hlt wr (unhide HA).kp).mono ?_
      rintro ee w2 ⟨rfl, K2⟩
      have HA2 := hide ((unhide HA).mid K2)
      clear HA K2
      obtain ⟨f0, e0⟩ : ∃ f0, f0 = if c k 0 then 183 else 179 := ⟨_, rfl⟩
      obtain ⟨f1, e1⟩ : ∃ f1, f1 = if c k 1 then 183 else 179 := ⟨_, rfl⟩
      have hT : two c k = .agg #[.func (.func f0) #[] #[], .func (.func f1) #[] #[]] := by unfold two tl; rw [e0, e1]
      rw [hT]
      have hen0 : ∀ (args : Array Value) (w : World), (callFunc f0 args).run Tryz.prog w = .ok (.enter f0 args) w := by rw [e0]; exact tell_enters _
      have hen1 : ∀ (args : Array Value) (w : World), (callFunc f1 args).run Tryz.prog w = .ok (.enter f1 args) w := by rw [e1]; exact tell_enters _
      have HF0 := hide e0
      have HF1 := hide e1
      clear hT e0 e1
      obtain ⟨wo, hwo⟩ : ∃ wo, wo = wr := ⟨_, rfl⟩
      subst hwo
      go_wp2_with fail
      go_loopw [7, 18] (fun v i wi => ∃ (s m cc : Nat) (ao : Option Addr), s ≤ 2 ∧ v = .slice ao m cc ∧ i = .int .i64 s ∧ Acc w (ptsP bs key c (2 * k + s)) v wi) (fun _ i _ => 2 - (intOf i).toNat)
      case atStart => exact ⟨0, m, cc, ao, by omega, rfl, rfl, unhide HA2⟩
      case round =>
        clear HA2
        obtain ⟨s, m2, cc2, ao2, hs, rfl, rfl, Ai⟩ := hrel
        have HI := hide Ai
        clear Ai
        obtain ⟨wi, hwi⟩ : ∃ wi, wi = wr := ⟨_, rfl⟩
        subst hwi
        rcases (by omega : s = 0 ∨ s = 1 ∨ s = 2) with rfl | rfl | rfl
        · have hix := index0 (.func (.func f0) #[] #[]) (.func (.func f1) #[] #[]) wi
          have hr0 := ptP_at bs key c k 0 (by omega)
          obtain ⟨r, hr⟩ : ∃ r, r = ptP bs key c (2 * k + 0) := ⟨_, rfl⟩
          have HRB : Hid (Bs r) := by rw [hr]; exact ptP_bs _ _ _ _
          have HE : Hid (ptsP bs key c (2 * k + 0 + 1) = ptsP bs key c (2 * k + 0) ++ [r]) := by rw [hr]; exact ptsP_succ _ _ _ _
          have HLN : Hid ((ptsP bs key c (2 * k + 0)).length ≤ 1000000) := by rw [ptsP_len]; show 2 * k + 0 ≤ 1000000; omega
          rw [← hr] at hr0
          have HR0 := hide hr0
          have hC := tell_any (c k 0) (.slice ab nb cb) bs key k 0 r (unhide HR0) wi ((unhide HS).kept (unhide HI).kp (by simp)) (unhide HB) hl ((unhide HG).kept (unhide HI).kp (by simp))
          rw [← unhide HF0] at hC
          have HC := hide hC
          clear hr hr0 hC
          go_wp2_with fail
          refine (unhide HC).mono ?_
          rintro ee w4 ⟨a4, m4, c4, rfl, R4, K4⟩
          have HR4 := hide R4
          have HK4 := hide K4
          clear R4 K4 HC
          go_wp2_with (at_builtin; refine wpList_acc rfl (.tmp 22) (.tmp 29) rfl _ _ rfl (unhide HI) (unhide HLN) _ r (unhide HK4) (unhide HR4) (unhide HRB) rfl ?_; intro ao5 m5 c5 w5 A5)
          go_roundw
          case rel => exact ⟨0 + 1, m5, c5, ao5, by omega, rfl, by go_num, by have e := unhide HE; rw [← e] at A5; exact A5⟩
          case measure => simp [intOf]
        · have hix := index1 (.func (.func f0) #[] #[]) (.func (.func f1) #[] #[]) wi
          have hr0 := ptP_at bs key c k 1 (by omega)
          obtain ⟨r, hr⟩ : ∃ r, r = ptP bs key c (2 * k + 1) := ⟨_, rfl⟩
          have HRB : Hid (Bs r) := by rw [hr]; exact ptP_bs _ _ _ _
          have HE : Hid (ptsP bs key c (2 * k + 1 + 1) = ptsP bs key c (2 * k + 1) ++ [r]) := by rw [hr]; exact ptsP_succ _ _ _ _
          have HLN : Hid ((ptsP bs key c (2 * k + 1)).length ≤ 1000000) := by rw [ptsP_len]; show 2 * k + 1 ≤ 1000000; omega
          rw [← hr] at hr0
          have HR0 := hide hr0
          have hC := tell_any (c k 1) (.slice ab nb cb) bs key k 1 r (unhide HR0) wi ((unhide HS).kept (unhide HI).kp (by simp)) (unhide HB) hl ((unhide HG).kept (unhide HI).kp (by simp))
          rw [← unhide HF1] at hC
          have HC := hide hC
          clear hr hr0 hC
          go_wp2_with fail
          refine (unhide HC).mono ?_
          rintro ee w4 ⟨a4, m4, c4, rfl, R4, K4⟩
          have HR4 := hide R4
          have HK4 := hide K4
          clear R4 K4 HC
          go_wp2_with (at_builtin; refine wpList_acc rfl (.tmp 22) (.tmp 29) rfl _ _ rfl (unhide HI) (unhide HLN) _ r (unhide HK4) (unhide HR4) (unhide HRB) rfl ?_; intro ao5 m5 c5 w5 A5)
          go_roundw
          case rel => exact ⟨1 + 1, m5, c5, ao5, by omega, rfl, by go_num, by have e := unhide HE; rw [← e] at A5; exact A5⟩
          case measure => simp [intOf]
        · go_wp2_with fail
          go_roundw
          case rel => exact ⟨k + 1, m2, cc2, ao2, by omega, rfl, by go_num, unhide HI⟩
          case measure => simp [intOf]; omega
    · obtain rfl : k = 32 := by omega
      go_wp2_with fail
      go_ret
      exact ⟨ao, m, cc, rfl, unhide HA⟩
end Go.Proofs.YtillhpgdlmeajaaGreatDoor

/-
  The contracts of the program's Public and Sign.
-/
namespace Go.Proofs.YtillhpgdlmeajaaGreatDoor
open Go.RowKit
open Go.Proofs
theorem ptsP_small (bs : List Int) (key : Int) (c : Nat → Nat → Bool) (n : Nat) : ∀ x ∈ ptsP bs key c n, x.length ≤ 1000000 := by
  intro x hx
  unfold ptsP at hx
  obtain ⟨i, _, rfl⟩ := List.mem_map.1 hx
  rw [ptP_len]; omega
set_option maxRecDepth 100000 in
set_option maxHeartbeats 1000000 in
theorem public_any (vb : Value) (bs : List Int) (key : Int) (r : List Int) (hr : r = pubP bs key) (w : World) (hS : Sl w vb bs) (hB : Bs bs) (hl : bs.length ≤ 1000) (hG : Gl w) :
    Calls Tryz.prog 151 #[vb, .int .i64 key] w fun e w' => ∃ ao m c, e = .returned (.slice ao m c) ∧ Row w' w.heap.size (.slice ao m c) r ∧ Kp [] w w' := by
  have HC := hide (partsOf_any vb bs key noneC 170 #[] (enters_of Tryz.func170 (by kernel_rfl) rfl) w hS hB hl hG (fun j _ w' _ => bothShown_any (j : Nat) w'))
  have HG := hide hG
  have HR := hide hr
  obtain ⟨ab, cb, hvb, _⟩ := hS
  obtain ⟨nb, hnb⟩ : ∃ n, n = bs.length := ⟨_, rfl⟩
  rw [← hnb] at hvb
  subst hvb
  clear hG hB hr hnb
  go_enter Tryz.func151, Tryz.ntmps151
  go_wp2_with fail
  refine (unhide HC).mono ?_
  rintro ee w2 ⟨a2, m2, c2, rfl, A2⟩
  obtain ⟨l, hL, hl2⟩ := A2.lists (by rw [ptsP_len]; omega)
  have HK2 := hide A2.kp
  have HP := hide (publicOf_any _ l r (by rw [unhide HR, cat_map hl2]; rfl) w2 hL (by rw [← List.length_map (f := (·.2)), hl2, ptsP_len]; omega) (small_of_map hl2 (ptsP_small _ _ _ _)) ((unhide HG).kept (unhide HK2) (by simp)))
  clear HC A2 hL hl2
  go_wp2_with fail
  refine (unhide HP).mono ?_
  rintro ee w3 ⟨a3, m3, c3, rfl, R3, K3⟩
  have HR3 := hide (row_new R3 (unhide HK2))
  have HK3 := hide ((unhide HK2).trans K3)
  clear HP HK2 R3 K3
  go_wp2_with fail
  go_ret
  exact ⟨a3, m3, c3, rfl, unhide HR3, unhide HK3⟩
set_option maxRecDepth 100000 in
set_option maxHeartbeats 1000000 in
theorem sign_any (vb : Value) (bs : List Int) (key : Int) (vm : Value) (ms : List Int) (d : Int) (hd : d = digP ms) (w : World) (hS : Sl w vb bs) (hB : Bs bs) (hl : bs.length ≤ 1000) (hM : Sl w vm ms) (hMB : Bs ms) (hml : ms.length ≤ 1000) (hG : Gl w) :
    Calls Tryz.prog 165 #[vb, .int .i64 key, vm] w fun e w' => ∃ ao m c, e = .returned (.slice ao m c) ∧ Acc w (sgnP bs key d) (.slice ao m c) w' := by
  have h0 : 0 ≤ d := by rw [hd]; exact (digP_bd ms).1
  have HD := hide (digest_any vm ms d hd w hM hMB (by omega) hG)
  have HG := hide hG
  have HS := hide hS
  have HB := hide hB
  obtain ⟨ab, cb, hvb, _⟩ := hS
  obtain ⟨nb, hnb⟩ : ∃ n, n = bs.length := ⟨_, rfl⟩
  rw [← hnb] at hvb
  subst hvb
  obtain ⟨am, cm, hvm, _⟩ := hM
  obtain ⟨nm, hnm⟩ : ∃ n, n = ms.length := ⟨_, rfl⟩
  rw [← hnm] at hvm
  subst hvm
  clear hG hB hnb hnm hMB hd
  go_enter Tryz.func165, Tryz.ntmps165
  go_wp2_with fail
  refine (unhide HD).mono ?_
  rintro ee w2 ⟨rfl, K2⟩
  have HK2 := hide K2
  clear HD K2
  go_wp2_with fail
  have K3 := (Kp.refl [] w2).alloc (.cells #[.int .u32 d] 103)
  refine (partsOf_any _ bs key (digC d) 177 #[.pointer (some ⟨w2.heap.size, 0, none⟩)] (enters_of Tryz.func177 (by kernel_rfl) rfl) _ (((unhide HS).kept (unhide HK2) (by simp)).kept K3 (by simp)) (unhide HB) hl (((unhide HG).kept (unhide HK2) (by simp)).kept K3 (by simp)) (fun j hj w' hk => sign1_any d j w2.heap.size w' h0 hj (hk.cell (by rw [cell_of_row _ _ 0 _ _ _ (heap_alloc_new w2 _)]; rfl) (by simp)))).mono ?_
  rintro ee w4 ⟨a4, m4, c4, rfl, A4⟩
  have HA := hide (A4.after ((unhide HK2).trans K3))
  clear A4 K3 HK2
  go_wp2_with fail
  go_ret
  exact ⟨a4, m4, c4, rfl, unhide HA⟩
end Go.Proofs.YtillhpgdlmeajaaGreatDoor

/-
  Regions that draw their order, whose operations only make memory, and mark what they made: of each operation a predicate tells what it yields, and stays true as long as cells stay; one look at each operation serves every order.
-/
namespace Go.Proofs.YtillhpgdlmeajaaGreatDoor
open Go.RowKit
/-- w' has all cells that w has. -/
structure Kc (w w' : World) : Prop where
  size : w.heap.size ≤ w'.heap.size
  cell : ∀ a v, w.cell? a = some v → w'.cell? a = some v
theorem Kc.refl (w : World) : Kc w w := ⟨Nat.le_refl _, fun _ _ h => h⟩
theorem Kp.kc {w w' : World} (h : Kp [] w w') : Kc w w' := ⟨h.size, fun _ _ hc => h.cell hc (by simp)⟩
theorem Sl.kc {w w' : World} {v : Value} {bs : List Int} (h : Sl w v bs) (k : Kc w w') : Sl w' v bs := by
  obtain ⟨ao, c, rfl, h1, h2, h3, h4⟩ := h
  exact ⟨ao, c, rfl, h1, h2, h3, fun a ha j u hu => k.cell _ _ (h4 a ha j u hu)⟩
theorem Lists.kc {w w' : World} {v : Value} {l : List (Value × List Int)} (h : Lists w v l) (k : Kc w w') : Lists w' v l := by
  obtain ⟨ao, c, rfl, h1, h2⟩ := h
  refine ⟨ao, c, rfl, h1, fun i hi => ?_⟩
  obtain ⟨b, off, e, h3, h4, h5⟩ := h2 i hi
  exact ⟨b, off, e, k.cell _ _ h3, h4.kc k, h5⟩
def grownC (P : Program) (w0 w : World) (R : Tell) : Result Next → Prop
  | .ok (.value v) w' => (Kc w w' ∧ Kp [] w0 w') ∧ R v w'
  | .ok .skip w' => (Kc w w' ∧ Kp [] w0 w') ∧ R undef w'
  | .ok (.enter f args) w' => Calls P f args w' fun e w'' => ∃ v, e = .returned v ∧ (Kc w w'' ∧ Kp [] w0 w'') ∧ R v w''
  | _ => False
/-- What one operation must do. -/
def wantsC (P : Program) (ops : Array Oper) (o : Oper) (a : Act) (w0 w : World) (R : Tell) : Prop :=
  if Region.wanted o (yielded ops a.tmps) then grownC P w0 w R ((execOp a.eval o).run P w) else R undef w
def StepsC (P : Program) (ops : Array Oper) (a0 : Act) (w0 : World) (Rs : List Tell) : List Oper → List (List (Tmp × Option Nat)) → List Tell → Prop
  | o :: l, ks :: kss, R :: rs => (∀ a w, Kp [] w0 w → Knows a0 Rs a w ks → wantsC P ops o a w0 w R) ∧ StepsC P ops a0 w0 Rs l kss rs
  | [], [], [] => True
  | _, _, _ => False
section
variable {P : Program} {l : List Oper} {Q : Exit → Act → World → Prop} {a0 : Act} {w0 : World} {Rs : List Tell} {kss : List (List (Tmp × Option Nat))} {n i : Nat} {listed : Array Bool} {a : Act} {w w' : World} {o : Oper} {R : Tell} {v : Value}
theorem StepsC.at (ops : Array Oper) : ∀ {l : List Oper} {kss : List (List (Tmp × Option Nat))} {rs : List Tell}, StepsC P ops a0 w0 Rs l kss rs → l.length = rs.length ∧ l.length = kss.length ∧ ∀ (i : Nat) o ks R, l[i]? = some o → kss[i]? = some ks → rs[i]? = some R → ∀ a w, Kp [] w0 w → Knows a0 Rs a w ks → wantsC P ops o a w0 w R
  | [], [], [], _ => ⟨rfl, rfl, fun i o ks R h => by simp at h⟩
  | o :: l, ks :: kss, R :: rs, h => by
    obtain ⟨h1, h2, h3⟩ := StepsC.at ops h.2
    refine ⟨by simp [h1], by simp [h2], fun i o' ks' R' ho hk hR => ?_⟩
    cases i with
    | zero =>
      simp at ho hk hR
      subst ho; subst hk; subst hR
      exact h.1
    | succ i => exact h3 i o' ks' R' (by simpa using ho) (by simpa using hk) (by simpa using hR)
  | [], [], _ :: _, h => h.elim
  | [], _ :: _, [], h => h.elim
  | [], _ :: _, _ :: _, h => h.elim
  | _ :: _, [], [], h => h.elim
  | _ :: _, [], _ :: _, h => h.elim
  | _ :: _, _ :: _, [], h => h.elim
end
end Go.Proofs.YtillhpgdlmeajaaGreatDoor

/-
  The law's helpers: on, opens, known.
-/
namespace Go.Proofs.YtillhpgdlmeajaaGreatDoor
open Go.ChangeShapes Go.WideShapes Go.ChangeAt Go.RowKit
open Go.Proofs
open Go.Deep
set_option linter.unusedVariables false
/-- Open, by the bytes. -/
theorem open_at {w0 w : World} {p : Nat} {v : Value} {d : Dk} (h : Nw w0 w p v d) (hd : d.down = false) (ha : d.arm ≤ 0) (b : List Int) (hb : d.bs = b) :
    Calls Tryz.prog 42 #[.pointer (some ⟨p, 0, none⟩)] w fun e w' =>
      ((opnP b).2.2 = true ∧ ∃ j v' ao m c l, e = .returned (.tuple #[.pointer (some ⟨j, 0, none⟩), .slice ao m c, .int .i64 0]) ∧ Jn w0 w' p v' d.opn j (opnP b).1.length ∧ w.heap.size ≤ j ∧ DSt p w v w' v' ∧ Pj w' w.heap.size (.slice ao m c) l p j v' ∧ l.map (·.2) = (opnP b).1 ∧ m = (opnP b).1.length) ∨
      ((opnP b).2.2 = false ∧ e = .returned (.tuple #[.pointer none, .slice none 0 0, .int .i64 14]) ∧ Nw w0 w' p v d ∧ Kp [] w w') := by
  subst hb
  exact open_any h hd ha
/-- a disk with these bytes, synced. -/
def dkOn (b : List Int) : Dk := ⟨b, b.length, 1048576, 0, false⟩
theorem open_ok {w0 w : World} {p : Nat} {v : Value} {d d' : Dk} (h : Nw w0 w p v d) (hd : d.down = false) (ha : d.arm ≤ 0) {b : List Int} (hb : d.bs = b) {rs : List (List Int)} {at_ : Nat} (ho : opnP b = (rs, at_, true)) (hd' : d.opn = d') :
    Calls Tryz.prog 42 #[.pointer (some ⟨p, 0, none⟩)] w fun e w' =>
      ∃ j v' ao c l, e = .returned (.tuple #[.pointer (some ⟨j, 0, none⟩), .slice ao rs.length c, .int .i64 0]) ∧ Jn w0 w' p v' d' j rs.length ∧ w.heap.size ≤ j ∧ DSt p w v w' v' ∧ Pj w' w.heap.size (.slice ao rs.length c) l p j v' ∧ l.map (·.2) = rs := by
  refine (open_at h hd ha b hb).mono ?_
  rw [ho, hd']
  rintro e w' (⟨-, j, v', ao, m, c, l, rfl, h1, h2, h3, h4, h5, rfl⟩ | ⟨hf, -⟩)
  · exact ⟨j, v', ao, c, l, rfl, h1, h2, h3, h4, h5⟩
  · cases hf
end Go.Proofs.YtillhpgdlmeajaaGreatDoor

/-
  Few of the law package, plainly; what the laws of the journal share.
-/
namespace Go.Proofs.YtillhpgdlmeajaaGreatDoor
open Go.RowKit
open Go.Proofs
theorem Lists.at {w : World} {v : Value} {l : List (Value × List Int)} (h : Lists w v l) (x : Value × List Int) (hx : x ∈ l) : Sl w x.1 x.2 ∧ Bs x.2 := by
  obtain ⟨_, _, _, _, hc⟩ := h
  obtain ⟨i, hi, rfl⟩ := List.getElem_of_mem hx
  obtain ⟨_, _, _, _, h1, h2⟩ := hc i hi
  exact ⟨h1, h2⟩
end Go.Proofs.YtillhpgdlmeajaaGreatDoor

/-
  Arguments of the laws of the journal: slices of truths, slices of asks.
-/
namespace Go.Proofs.YtillhpgdlmeajaaGreatDoor
open Go.RowKit
open Go.Proofs
open Go.Deep Go.ChangeShapes Go.WideShapes
namespace Dk
theorem add_on (b x : List Int) (h : b.length + x.length ≤ 1048576) : (dkOn b).add x = (true, dkOn (b ++ x)) := by
  have h1 : (dkOn b).app x = (true, ⟨b ++ x, b.length, 1048576, 0, false⟩) := app_plain (d := dkOn b) rfl (Int.le_refl 0) x (by show ((b.length + x.length : Nat) : Int) ≤ 1048576; omega)
  unfold add
  rw [h1, if_pos rfl]
  exact sync_plain (d := ⟨b ++ x, b.length, 1048576, 0, false⟩) rfl (Int.le_refl 0)
theorem opn_all (ls : List (List Int)) (h : ∀ r ∈ ls, r.length ≤ 65535) : (dkOn (layP ls)).opn = dkOn (layP ls) := by
  unfold opn
  have e : (dkOn (layP ls)).bs = layP ls := rfl
  rw [e, opnP_all ls h, if_neg (by show ¬ (layP ls).length < (layP ls).length; omega)]
end Dk
def Bools (w : World) (v : Value) (l : List Bool) : Prop :=
  ∃ ao c, v = .slice ao l.length c ∧ l.length ≤ 9223372036854775807 ∧ ∀ i (h : i < l.length), ∃ b off, ao = some ⟨b, off, none⟩ ∧ w.cell? ⟨b, off + i, none⟩ = some (.bool l[i])
theorem Bools.kept {w w' : World} {v : Value} {l : List Bool} (h : Bools w v l) (k : Kp [] w w') : Bools w' v l := by
  obtain ⟨ao, c, rfl, h1, h2⟩ := h
  refine ⟨ao, c, rfl, h1, fun i hi => ?_⟩
  obtain ⟨b, off, e, h3⟩ := h2 i hi
  exact ⟨b, off, e, k.cell h3 (by simp)⟩
/-- one ask as data. -/
structure AskJ where
  kind : Int
  v : Value
  bs : List Int
def AskJAt (w : World) (b o : Nat) (x : AskJ) : Prop :=
  w.rangeAt b o [.int .i64 x.kind, x.v] ∧ Sl w x.v x.bs ∧ Bs x.bs
def AskJs (w : World) (v : Value) (l : List AskJ) : Prop :=
  ∃ ao c, v = .slice ao l.length c ∧ l.length ≤ 9223372036854775807 ∧ ∀ i (h : i < l.length), ∃ b off, ao = some ⟨b, off, none⟩ ∧ AskJAt w b (off + i * 2) l[i]
theorem AskJAt.kept {w w' : World} {b o : Nat} {x : AskJ} (h : AskJAt w b o x) (k : Kp [] w w') : AskJAt w' b o x :=
  ⟨fun j u hu => k.cell (h.1 j u hu) (by simp), h.2.1.kept k (by simp), h.2.2⟩
theorem AskJs.kept {w w' : World} {v : Value} {l : List AskJ} (h : AskJs w v l) (k : Kp [] w w') : AskJs w' v l := by
  obtain ⟨ao, c, rfl, h1, h2⟩ := h
  refine ⟨ao, c, rfl, h1, fun i hi => ?_⟩
  obtain ⟨b, off, e, h3⟩ := h2 i hi
  exact ⟨b, off, e, h3.kept k⟩
section
variable {H : Type} {enc : TypeId × Value → H} {w : World}
end
end Go.Proofs.YtillhpgdlmeajaaGreatDoor

/-
  Lists gathered behind one another; records cut off by a crash.
-/
namespace Go.Proofs.YtillhpgdlmeajaaGreatDoor
open Go.RowKit
open Go.Proofs
theorem RowV.room {w : World} {base m c : Nat} {ao : Option Addr} {xs : List Value} (h : RowV w base (.slice ao m c) xs) : m ≤ c ∧ m = xs.length := by
  have hm := h.len
  rcases h.2 with ⟨h', h0⟩ | ⟨g, cap, cur, h', hb, hg, hc, -⟩
  · injection h' with h1 h2 h3
    exact ⟨by omega, hm⟩
  · injection h' with h1 h2 h3
    exact ⟨by omega, hm⟩
end Go.Proofs.YtillhpgdlmeajaaGreatDoor

/-
  Chapter 14 as plain functions: the records of the first keys.
-/
namespace Go.Proofs.YtillhpgdlmeajaaGreatDoor
/-- the records of the first n keys. -/
def keyL (n : Nat) : List (List Int) := (List.range n).map (fun (i : Nat) => [(i : Int)])
theorem keyL_len (n : Nat) : (keyL n).length = n := by simp [keyL]
theorem keyL_succ (n : Nat) : keyL (n + 1) = keyL n ++ [[(n : Int)]] := by simp [keyL, List.range_succ]
theorem keyL_get {n i : Nat} (h : i < n) : (keyL n)[i]'(by rw [keyL_len]; exact h) = [(i : Int)] := by simp [keyL]
theorem keyL_short (n : Nat) : ∀ r ∈ keyL n, r.length ≤ 65535 := fun r hr => by
  obtain ⟨i, -, rfl⟩ := List.mem_map.1 hr
  simp
/-- their bytes. -/
def klay (n : Nat) : List Int := layP (keyL n)
theorem klay_succ (n : Nat) : klay (n + 1) = klay n ++ recP [(n : Int)] := by unfold klay; rw [keyL_succ, layP_snoc]
theorem klay_len (n : Nat) : (klay n).length = 9 * n := by
  induction n with
  | zero => rfl
  | succ n ih => rw [klay_succ, List.length_append, ih, recP_len]; simp; omega
theorem klay_opn (n : Nat) : opnP (klay n) = (keyL n, 9 * n, true) := by
  have := opnP_all (keyL n) (keyL_short n)
  rw [← klay_len n]
  exact this
theorem klay_dk (n : Nat) : (dkOn (klay n)).opn = dkOn (klay n) := Dk.opn_all (keyL n) (keyL_short n)
/-- are these the records of the first keys. -/
def inOrd (rs : List (List Int)) : Bool := decide (rs.length ≤ 16) && decide (rs = keyL rs.length)
theorem inOrd_key {n : Nat} (h : n ≤ 16) : inOrd (keyL n) = true := by simp [inOrd, keyL_len, h]
theorem inOrd_eq {rs : List (List Int)} (h : inOrd rs = true) : rs.length ≤ 16 ∧ rs = keyL rs.length := by simpa [inOrd] using h
/-- up to place i they are. -/
def ordTo (rs : List (List Int)) (i : Nat) : Prop := rs.take i = keyL i
theorem ordTo_zero (rs : List (List Int)) : ordTo rs 0 := by simp [ordTo, keyL]
theorem ordTo_succ {rs : List (List Int)} {i : Nat} (h : ordTo rs i) (hi : i < rs.length) (e : rs[i] = [(i : Int)]) : ordTo rs (i + 1) := by
  unfold ordTo at h ⊢
  rw [List.take_succ_eq_append_getElem hi, h, e, keyL_succ]
theorem ordTo_all {rs : List (List Int)} (h : ordTo rs rs.length) (h16 : rs.length ≤ 16) : inOrd rs = true := by
  unfold ordTo at h
  rw [List.take_length] at h
  simp only [inOrd, Bool.and_eq_true, decide_eq_true_eq]
  exact ⟨h16, h⟩
theorem inOrd_not {rs : List (List Int)} {i : Nat} (hi : i < rs.length) (e : rs[i] ≠ [(i : Int)]) : inOrd rs = false := by
  cases h : inOrd rs with
  | false => rfl
  | true =>
    obtain ⟨-, h2⟩ := inOrd_eq h
    have h3 : rs[i]? = (keyL rs.length)[i]? := by rw [← h2]
    rw [List.getElem?_eq_getElem hi, List.getElem?_eq_getElem (by rw [keyL_len]; exact hi), keyL_get hi] at h3
    exact absurd (Option.some.inj h3) e
namespace Dk
end Dk
theorem kadd_on {n : Nat} (h : n < 16) : (dkOn (klay n)).add (recP [(n : Int)]) = (true, dkOn (klay (n + 1))) := by
  rw [klay_succ]
  exact Dk.add_on _ _ (by rw [klay_len, recP_len]; simp; omega)
end Go.Proofs.YtillhpgdlmeajaaGreatDoor

/-
  Package keys: a box in memory; Open, Take, Next, Left.
-/
namespace Go.Proofs.YtillhpgdlmeajaaGreatDoor
open Go.RowKit
open Go.Proofs
set_option linter.unusedVariables false
/-- the box at q: its journal at j, the next key. -/
def Kb (w : World) (q j : Nat) (n : Int) : Prop := w.heap[q]? = some (.cells #[.pointer (some ⟨j, 0, none⟩), .int .i64 n] 144 (0, 0))
theorem Kb.kept {w w' : World} {q j : Nat} {n : Int} {S : List Nat} (h : Kb w q j n) (k : Kp S w w') (hq : q ∉ S) : Kb w' q j n := k.heap h hq
theorem Kb.lt {w : World} {q j : Nat} {n : Int} (h : Kb w q j n) : q < w.heap.size := (Array.getElem?_eq_some_iff.1 h).1
theorem Kb.off {w : World} {q j : Nat} {n : Int} {base p' : Nat} {v : Value} {d : Dk} (h : Kb w q j n) (D : DskP w base p' v d) : q ∉ dfp p' v := fun hm => by
  rcases mem_dfp.1 hm with rfl | hm
  · have h2 := D.here
    unfold Fv at h2
    unfold Kb at h
    rw [h2] at h
    injection h with h
    injection h with h3
    have := congrArg Array.size h3
    simp at this
  · obtain ⟨c, hc⟩ := row_typ D.row hm
    unfold Kb at h
    rw [hc] at h
    injection h with h
    injection h with _ h3
    cases h3
theorem Kb.offJ {w : World} {q j j' p : Nat} {n m : Int} (h : Kb w q j n) (g : Jr w j' p m) : q ≠ j' := fun e => by
  subst e
  unfold Kb at h
  unfold Jr at g
  rw [g] at h
  injection h with h
  injection h with _ h3
  cases h3
theorem Kb.c0 {w : World} {q j : Nat} {n : Int} (h : Kb w q j n) : w.cell? ⟨q, 0, none⟩ = some (.pointer (some ⟨j, 0, none⟩)) := by rw [cell_of_row w q 0 _ _ _ h]; rfl
theorem Kb.c1 {w : World} {q j : Nat} {n : Int} (h : Kb w q j n) : w.cell? ⟨q, 1, none⟩ = some (.int .i64 n) := by rw [cell_of_row w q 1 _ _ _ h]; rfl
theorem Kb.f {w : World} {q j : Nat} {n : Int} (h : Kb w q j n) (i : Nat) : w.frozen? ⟨q, i, none⟩ = false := by
  unfold World.frozen?
  unfold Kb at h
  simp [h]
theorem Kb.s1 {w : World} {q j : Nat} {n : Int} (h : Kb w q j n) (m : Int) : Kb (w.setCell ⟨q, 1, none⟩ (.int .i64 m)) q j m := by
  have := set_at h 1 (.int .i64 m)
  simpa [Kb] using this
/-- a disk made since w0. -/
def Nx (w0 w : World) (p : Nat) (d : Dk) : Prop := ∃ v, Nw w0 w p v d
/-- A box on its disk, both made since w0: the next key n; of its journal's count no more than k. -/
def Bx (w0 w : World) (p : Nat) (d : Dk) (q n k : Nat) : Prop := ∃ v j m, m ≤ k ∧ Jn w0 w p v d j m ∧ Kb w q j n ∧ w0.heap.size ≤ q
section
variable {w0 w w' : World} {p q n k : Nat} {d d' : Dk}
theorem Nx.kp (h : Nx w0 w p d) : Kp [] w0 w := by obtain ⟨v, h⟩ := h; exact h.kp
theorem Nx.on (h : Nx w0 w p d) (g : Kp [] w w') : Nx w0 w' p d := by obtain ⟨v, h⟩ := h; exact ⟨v, h.on g⟩
theorem Bx.nx (h : Bx w0 w p d q n k) : Nx w0 w p d := by obtain ⟨v, j, m, -, h, -⟩ := h; exact ⟨v, h.nw⟩
theorem Bx.kp (h : Bx w0 w p d q n k) : Kp [] w0 w := h.nx.kp
theorem Bx.on (h : Bx w0 w p d q n k) (g : Kp [] w w') : Bx w0 w' p d q n k := by
  obtain ⟨v, j, m, h1, h2, h3, h4⟩ := h
  exact ⟨v, j, m, h1, h2.on g, h3.kept g (by simp), h4⟩
theorem Bx.more {k' : Nat} (h : Bx w0 w p d q n k) (hk : k ≤ k') : Bx w0 w p d q n k' := by
  obtain ⟨v, j, m, h1, h2⟩ := h
  exact ⟨v, j, m, by omega, h2⟩
/-- the disk takes a step beside the box. -/
theorem Bx.disk {v v' : Value} (h : ∃ j m, m ≤ k ∧ Jn w0 w p v d j m ∧ Kb w q j n ∧ w0.heap.size ≤ q) (g : Nw w0 w' p v' d') (t : DSt p w v w' v') : Bx w0 w' p d' q n k := by
  obtain ⟨j, m, h1, h2, h3, h4⟩ := h
  exact ⟨v', j, m, h1, h2.disk g t, h3.kept t.1 (h3.off h2.nw.dk), h4⟩
theorem left_keys (h : Bx w0 w p d q n k) (hn : n ≤ 16) (x : Int) (hx : x = 16 - (n : Int)) : Calls Tryz.prog 80 #[.pointer (some ⟨q, 0, none⟩)] w fun e w' => e = .returned (.int .i64 x) ∧ w' = w := by
  obtain ⟨v, j, m, -, -, h, -⟩ := h
  have hc := h.c1
  clear h
  have hn' : (n : Int) ≤ 16 := by omega
  go_enter Tryz.func80, Tryz.ntmps80
  go_wp2_with fail
  go_ret
  subst hx
  exact ⟨rfl, rfl⟩
end
end Go.Proofs.YtillhpgdlmeajaaGreatDoor

/-
  Package keys: inOrder, Open.
-/
namespace Go.Proofs.YtillhpgdlmeajaaGreatDoor
open Go.RowKit
open Go.Proofs
set_option linter.unusedVariables false
theorem ordTo_snoc {rs : List (List Int)} {i : Nat} (h : ordTo rs i) (e : rs[i]? = some [(i : Int)]) : ordTo rs (i + 1) := by
  obtain ⟨hi, e⟩ := List.getElem?_eq_some_iff.1 e
  exact ordTo_succ h hi e
theorem inOrd_no {rs : List (List Int)} {i : Nat} {x : List Int} (e : rs[i]? = some x) (hx : x ≠ [(i : Int)]) : inOrd rs = false := by
  obtain ⟨hi, e⟩ := List.getElem?_eq_some_iff.1 e
  exact inOrd_not hi (by rw [e]; exact hx)
set_option maxRecDepth 100000 in
set_option maxHeartbeats 2000000 in
theorem inOrder_any (vl : Value) (l : List (Value × List Int)) (w : World) (hL : Lists w vl l) (rs : List (List Int)) (hrs : l.map (·.2) = rs) (h16 : l.length ≤ 16) :
    Calls Tryz.prog 85 #[vl] w fun e w' => e = .returned (.bool (inOrd rs)) ∧ Kp [] w w' := by
  obtain ⟨al, cl, rfl, -, hcell⟩ := hL
  have HC := hide hcell
  have hn16 : (l.length : Int) ≤ 16 := by omega
  have hn16' : ¬ (16 : Int) < (l.length : Int) := by omega
  have hlr : l.length = rs.length := by rw [← hrs]; simp
  have hget : Hid (∀ i (h : i < l.length), rs[i]? = some l[i].2) := fun i h => by
    subst hrs
    simp [List.getElem?_eq_getElem h]
  have HLR := hide hlr
  clear hcell hrs
  obtain ⟨n, hn⟩ : ∃ n, n = l.length := ⟨_, rfl⟩
  rw [← hn] at hn16 hn16' ⊢
  have HN := hide hn
  clear hn hlr
  go_enter Tryz.func85, Tryz.ntmps85
  go_wp2_with fail
  go_loopw [10] (fun i wr => ∃ k : Nat, k ≤ n ∧ i = .int .i64 k ∧ ordTo rs k ∧ Kp [] w wr) (fun i _ => n - (intOf i).toNat)
  case atStart => exact ⟨0, by omega, rfl, ordTo_zero _, Kp.refl _ _⟩
  case round =>
    obtain ⟨k, hk, rfl, hO, K⟩ := hrel
    have HO := hide hO
    have HK := hide K
    clear hO
    by_cases hlt : k < n
    · have hlt' : (k : Int) < (n : Int) := by omega
      have hkl : k < l.length := by have := HN.out; omega
      obtain ⟨b, off, rfl, hc, hS, hB⟩ := HC.out k hkl
      have hcw := K.cell hc (by simp)
      have hSw := hS.kept K (by simp)
      have hrk : rs[k]? = some l[k].2 := hget.out k hkl
      obtain ⟨x, hx⟩ : ∃ x, x = l[k] := ⟨_, rfl⟩
      rw [← hx] at hcw hSw hrk hB
      obtain ⟨x1, x2⟩ := x
      simp only at hcw hSw hrk hB
      have HRk := hide hrk
      clear hc hS hx K hrk
      obtain ⟨ax, cx, rfl, hcx, -, hax, hcl⟩ := hSw
      by_cases h1 : x2.length = 1
      · obtain ⟨u, rfl⟩ : ∃ u, x2 = [u] := by
          cases x2 with
          | nil => simp at h1
          | cons u t =>
            cases t with
            | nil => exact ⟨u, rfl⟩
            | cons y t => simp at h1
        have hu : 0 ≤ u ∧ u ≤ 255 := hB u (by simp)
        obtain ⟨ad, rfl⟩ : ∃ a, ax = some a := by
          cases ax with
          | none => have := hax rfl; simp at hcx; omega
          | some a => exact ⟨a, rfl⟩
        have hc0 := hcl ad rfl 0 (.int .u8 u) rfl
        rw [Addr.add_zero'] at hc0
        have h64 : IntKind.i64.wrap u = u := by simp [IntKind.wrap, IntKind.signed, IntKind.bits]; omega
        clear hcl hax hB h1 hcx
        simp only [List.length_cons, List.length_nil, Nat.zero_add] at hcw
        by_cases he : u = k
        · subst he
          have HO2 := hide (ordTo_snoc HO.out HRk.out)
          go_wp2_with fail
          go_roundw
          case rel => exact ⟨k + 1, by omega, by go_num, HO2.out, HK.out⟩
          case measure => simp [intOf]; omega
        · have he' : (u == (k : Int)) = false := by simpa using he
          have HF := hide (inOrd_no HRk.out (fun e => by
            injection e with e1
            exact he e1))
          clear HRk
          go_wp2_with fail
          go_ret
          rw [HF.out]
          exact ⟨rfl, HK.out⟩
      · have h1' : ¬ (x2.length : Int) = 1 := by omega
        have h1'' : ((x2.length : Int) == 1) = false := by simpa using h1'
        obtain ⟨nx, hnx⟩ : ∃ n, n = x2.length := ⟨_, rfl⟩
        rw [← hnx] at hcw h1' h1''
        have HF := hide (inOrd_no HRk.out (fun e => h1 (by rw [e]; rfl)))
        clear hcl hcx hax hB h1 hnx HRk
        go_wp2_with fail
        go_ret
        rw [HF.out]
        exact ⟨rfl, HK.out⟩
    · obtain rfl : k = n := by omega
      clear K
      go_wp2_with fail
      go_ret
      have h1 := HO.out
      rw [HN.out, HLR.out] at h1
      rw [ordTo_all h1 (by have := HN.out; have := HLR.out; omega)]
      exact ⟨rfl, HK.out⟩
end Go.Proofs.YtillhpgdlmeajaaGreatDoor

/-
  Disks, journals and boxes with the blocks that they lie in.
-/
namespace Go.Proofs.YtillhpgdlmeajaaGreatDoor
open Go.RowKit
open Go.Proofs
set_option linter.unusedVariables false
/-- a disk in the blocks F. -/
def Dx (w0 w : World) (p : Nat) (d : Dk) (F : Nat → Prop) : Prop := ∃ v, Nw w0 w p v d ∧ ∀ i ∈ dfp p v, F i
/-- a journal on its disk, both in F. -/
def Jx (w0 w : World) (p : Nat) (d : Dk) (j k : Nat) (F : Nat → Prop) : Prop := ∃ v m, m ≤ k ∧ Jn w0 w p v d j m ∧ F j ∧ ∀ i ∈ dfp p v, F i
/-- a box on its disk, all in F. -/
def Bf (w0 w : World) (p : Nat) (d : Dk) (q n k : Nat) (F : Nat → Prop) : Prop := ∃ v j m, m ≤ k ∧ Jn w0 w p v d j m ∧ Kb w q j n ∧ w0.heap.size ≤ q ∧ F q ∧ F j ∧ ∀ i ∈ dfp p v, F i
section
variable {w0 w w' : World} {p q j n k : Nat} {d d' : Dk} {F : Nat → Prop} {v : Value}
theorem Nw.kept {S : List Nat} (h : Nw w0 w p v d) (t : Kp S w w') (k0 : Kp [] w0 w') (hS : ∀ i ∈ dfp p v, i ∉ S) : Nw w0 w' p v d := ⟨h.dk.kept t hS, h.new, k0, h.arm⟩
theorem Jn.kept {S : List Nat} (h : Jn w0 w p v d j n) (t : Kp S w w') (k0 : Kp [] w0 w') (hS : ∀ i ∈ dfp p v, i ∉ S) (hj : j ∉ S) : Jn w0 w' p v d j n := ⟨h.nw.kept t k0 hS, h.jr.kept t hj, h.new⟩
theorem Dx.kept {S : List Nat} (h : Dx w0 w p d F) (t : Kp S w w') (k0 : Kp [] w0 w') (hS : ∀ i ∈ S, ¬ F i) : Dx w0 w' p d F := by
  obtain ⟨v, h1, h2⟩ := h
  exact ⟨v, h1.kept t k0 (fun i hi hm => hS i hm (h2 i hi)), h2⟩
theorem Jx.kept {S : List Nat} (h : Jx w0 w p d j k F) (t : Kp S w w') (k0 : Kp [] w0 w') (hS : ∀ i ∈ S, ¬ F i) : Jx w0 w' p d j k F := by
  obtain ⟨v, m, h1, h2, h3, h4⟩ := h
  exact ⟨v, m, h1, h2.kept t k0 (fun i hi hm => hS i hm (h4 i hi)) (fun hm => hS _ hm h3), h3, h4⟩
theorem Bf.kept {S : List Nat} (h : Bf w0 w p d q n k F) (t : Kp S w w') (k0 : Kp [] w0 w') (hS : ∀ i ∈ S, ¬ F i) : Bf w0 w' p d q n k F := by
  obtain ⟨v, j, m, h1, h2, h3, h4, h5, h6, h7⟩ := h
  exact ⟨v, j, m, h1, h2.kept t k0 (fun i hi hm => hS i hm (h7 i hi)) (fun hm => hS _ hm h6), h3.kept t (fun hm => hS _ hm h5), h4, h5, h6, h7⟩
theorem Bf.bx (h : Bf w0 w p d q n k F) : Bx w0 w p d q n k := by
  obtain ⟨v, j, m, h1, h2, h3, h4, -⟩ := h
  exact ⟨v, j, m, h1, h2, h3, h4⟩
theorem Dx.upd (h : Dx w0 w p d F) {F' : Nat → Prop} (hF : ∀ i, F i → F' i) : Dx w0 w p d F' := by
  obtain ⟨v, h1, h2⟩ := h
  exact ⟨v, h1, fun i hi => hF i (h2 i hi)⟩
theorem Jx.upd (h : Jx w0 w p d j k F) {F' : Nat → Prop} (hF : ∀ i, F i → F' i) : Jx w0 w p d j k F' := by
  obtain ⟨v, m, h1, h2, h3, h4⟩ := h
  exact ⟨v, m, h1, h2, hF _ h3, fun i hi => hF i (h4 i hi)⟩
theorem Bf.upd (h : Bf w0 w p d q n k F) {F' : Nat → Prop} (hF : ∀ i, F i → F' i) : Bf w0 w p d q n k F' := by
  obtain ⟨v, j, m, h1, h2, h3, h4, h5, h6, h7⟩ := h
  exact ⟨v, j, m, h1, h2, h3, h4, hF _ h5, hF _ h6, fun i hi => hF i (h7 i hi)⟩
/-- where a disk lies behind a step. -/
def grF (F : Nat → Prop) (v' : Value) : Nat → Prop := fun i => F i ∨ v'.ownBlock = some i
theorem DSt.stp {v' : Value} (t : DSt p w v w' v') (hF : ∀ i ∈ dfp p v, F i) (hlt : ∀ i, v'.ownBlock = some i → i < w'.heap.size) : Stp F w w' (grF F v') := by
  refine ⟨⟨dfp p v, hF, t.1⟩, fun i hi => ?_⟩
  rcases hi with hi | hi
  · exact .inl hi
  · rcases t.2 i hi with h1 | h1
    · exact .inl (hF i (mem_dfp.2 (.inr h1)))
    · exact .inr ⟨h1, hlt i hi⟩
theorem JSt.stp {v' : Value} (t : JSt p j w v w' v') (hF : ∀ i ∈ dfp p v, F i) (hj : F j) (hlt : ∀ i, v'.ownBlock = some i → i < w'.heap.size) : Stp F w w' (grF F v') := by
  refine ⟨⟨j :: dfp p v, fun i hi => ?_, t.1⟩, fun i hi => ?_⟩
  · rcases List.mem_cons.1 hi with rfl | hi
    · exact hj
    · exact hF i hi
  · rcases hi with hi | hi
    · exact .inl hi
    · rcases t.2 i hi with h1 | h1
      · exact .inl (hF i (mem_dfp.2 (.inr h1)))
      · exact .inr ⟨h1, hlt i hi⟩
theorem grF_fp {v' : Value} (hp : F p) : ∀ i ∈ dfp p v', grF F v' i := fun i hi => by
  rcases mem_dfp.1 hi with rfl | hi
  · exact .inl hp
  · exact .inr hi
theorem Nw.rlt (h : Nw w0 w p v d) : ∀ i, v.ownBlock = some i → i < w.heap.size := fun i hi => h.dk.row.lt hi
/-- the journal's Add. -/
theorem jx_add {vb : Value} {b : List Int} (h : Jx w0 w p d j k F) (hS : Sl w vb b) (hB : Bs b) (hl : b.length ≤ 65535) (hk : k ≤ 1000) (er : Bool) (he : d.add (recP b) = (er, d')) (en : Int) (hen : en = if er then 0 else 13) :
    Calls Tryz.prog 44 #[.pointer (some ⟨j, 0, none⟩), vb] w fun e w' => e = .returned (.int .i64 en) ∧ ∃ F', Jx w0 w' p d' j (k + 1) F' ∧ Stp F w w' F' := by
  obtain ⟨v, m, h1, h2, h3, h4⟩ := h
  refine (jadd_any h2 hS hB hl (by omega) er he en hen _ rfl).mono ?_
  rintro e w' ⟨rfl, v', J, T⟩
  refine ⟨rfl, grF F v', ⟨v', _, ?_, J, .inl h3, grF_fp (h4 p (mem_dfp.2 (.inl rfl)))⟩, T.stp h4 h3 J.nw.rlt⟩
  split <;> omega
set_option maxRecDepth 100000 in
set_option maxHeartbeats 2000000 in
theorem bf_take (h : Bf w0 w p d q n k F) (hn : n < 16) (hk : k ≤ 1000) (er : Bool) (he : d.add (recP [(n : Int)]) = (er, d')) (x en : Int) (hx : x = if er then (n : Int) else 0) (hen : en = if er then 0 else 13) (n' : Nat) (hn' : n' = if er then n + 1 else n) :
    Calls Tryz.prog 115 #[.pointer (some ⟨q, 0, none⟩)] w fun e w' => e = .returned (.tuple #[.int .i64 x, .int .i64 en]) ∧ ∃ F', Bf w0 w' p d' q n' (k + 1) F' ∧ Stp F w w' F' := by
  obtain ⟨v, j, m, hm, hJ, hB, hq, hFq, hFj, hFv⟩ := h
  have hc0 := hB.c0
  have hc1 := hB.c1
  have hne : ¬ (n : Int) = 16 := by omega
  have hne' : ((n : Int) == 16) = false := by simpa using hne
  have h8 : IntKind.u8.wrap (n : Int) = n := by simp [IntKind.wrap, IntKind.signed, IntKind.bits]; omega
  have ka : Kp [] w (w.alloc (.cells #[.int .u8 (n : Int)] 5 (0, 0))) := (Kp.refl [] w).alloc _
  obtain ⟨m', hm'⟩ : ∃ m', m' = if (d.app (recP [(n : Int)])).1 then m + 1 else m := ⟨_, rfl⟩
  have HAd := hide (jadd_any (hJ.on ka) (lit_sl w [(n : Int)] 1 (0, 0) rfl (by omega)) (fun b hb => by simp at hb; omega) (by simp) (by omega) er he en hen m' hm')
  have hmk : m' ≤ k + 1 := by rw [hm']; split <;> omega
  have HJ := hide (hJ.on ka)
  have HB := hide (hB.kept ka (by simp))
  have HQ := hide hq
  have HMk := hide hmk
  have HX := hide hx
  have HN := hide hn'
  have HE := hide hen
  have HFq := hide hFq
  have HFj := hide hFj
  have HFv := hide hFv
  have HKa := hide ka
  clear hJ hB hq hmk hx hn' hen hm' hm he ka hFq hFj hFv
  go_enter Tryz.func115, Tryz.ntmps115
  go_wp2_with fail
  refine HAd.out.mono ?_
  rintro ee w2 ⟨rfl, v2, J2, T2⟩
  have B2 := HB.out.kept T2.1 (fun hm => by
    rcases List.mem_cons.1 hm with e | hm
    · exact HB.out.offJ HJ.out.jr e
    · exact HB.out.off HJ.out.nw.dk hm)
  have HJ2 := hide J2
  have HB2 := hide B2
  have HT2 : Hid (Stp F w w2 (grF F v2)) := (Stp.mid HKa.out).trans (T2.stp HFv.out HFj.out J2.nw.rlt)
  cases er
  · obtain rfl : en = 13 := by rw [HE.out]; rfl
    have hx0 : x = 0 := by rw [HX.out]; rfl
    have hn0 : n' = n := by rw [HN.out]; rfl
    subst hx0 hn0
    clear J2 T2 B2 HAd hc0 hc1
    go_wp2_with fail
    go_ret2
    exact ⟨rfl, grF F v2, ⟨v2, j, m', HMk.out, HJ2.out, HB2.out, HQ.out, .inl HFq.out, .inl HFj.out, grF_fp (HFv.out p (mem_dfp.2 (.inl rfl)))⟩, HT2.out⟩
  · obtain rfl : en = 0 := by rw [HE.out]; rfl
    have hx0 : x = n := by rw [HX.out]; rfl
    have hn0 : n' = n + 1 := by rw [HN.out]; rfl
    subst hx0 hn0
    have hc1 := B2.c1
    have hf1 := B2.f 1
    clear J2 T2 B2 HAd hc0
    have hw : IntKind.i64.wrap ((n : Int) + 1) = (n : Int) + 1 := by simp [IntKind.wrap, IntKind.signed, IntKind.bits]; omega
    go_wp2_with fail
    go_ret2
    have ks : Kp [q] w2 (w2.setCell ⟨q, 1, none⟩ (.int .i64 ((n : Int) + 1))) := kp_set w2 q 1 _
    refine ⟨rfl, grF F v2, ⟨v2, j, m', HMk.out, ⟨⟨HJ2.out.nw.dk.kept ks (fun i hi hm => ?_), HJ2.out.nw.new, HJ2.out.nw.kp.then ks (fun i hi => .inr ?_), HJ2.out.nw.arm⟩, HJ2.out.jr.kept ks ?_, HJ2.out.new⟩, ?_, HQ.out, .inl HFq.out, .inl HFj.out, grF_fp (HFv.out p (mem_dfp.2 (.inl rfl)))⟩, HT2.out.trans ⟨⟨[q], ?_, ks⟩, fun i hi => .inl hi⟩⟩
    · simp at hm; subst hm; exact HB2.out.off HJ2.out.nw.dk hi
    · simp at hi; subst hi; exact HQ.out
    · simp only [List.mem_cons, List.not_mem_nil, or_false]; exact fun e => HB2.out.offJ HJ2.out.jr e.symm
    · have := HB2.out.s1 ((n : Int) + 1)
      simpa using this
    · intro i hi; simp at hi; subst hi; exact .inl HFq.out
/-- keys.Open of the first keys' records. -/
theorem bf_open {at_ : Nat} (h : Dx w0 w p d F) (hd : d.down = false) (ha : d.arm ≤ 0) {b : List Int} (hb : d.bs = b) (hn : n ≤ 16) (ho : opnP b = (keyL n, at_, true)) (hd' : d.opn = d') :
    Calls Tryz.prog 41 #[.pointer (some ⟨p, 0, none⟩)] w fun e w' => ∃ q, e = .returned (.tuple #[.pointer (some ⟨q, 0, none⟩), .int .i64 0]) ∧ ∃ F', Bf w0 w' p d' q n n F' ∧ Stp F w w' F' := by
  obtain ⟨v, hN, hF⟩ := h
  have HO := hide (open_at hN hd ha b hb)
  have HF := hide hF
  have HD := hide hd'
  have HOp := hide ho
  have HN := hide hn
  clear hN hd ha hb hF hd' ho hn
  go_enter Tryz.func41, Tryz.ntmps41
  go_wp2_with fail
  refine HO.out.mono ?_
  rw [HOp.out, HD.out]
  rintro ee w1 (⟨ht, j, v1, al, m, cl, l, rfl, J1, hj1, T1, P1, hl1, hm1⟩ | ⟨hf, -⟩)
  · have HJ1 := hide J1
    rw [keyL_len] at hm1
    subst hm1
    have HL1 := hide hl1
    have hml : m = l.length := by have := congrArg List.length hl1; simpa [keyL_len] using this.symm
    have HI := hide (inOrder_any _ l w1 (P1.parts.lists (by have := HN.out; omega)) _ hl1 (by have := HN.out; omega))
    have HT1 : Hid (Stp F w w1 (grF F v1)) := T1.stp HF.out J1.nw.rlt
    have HJL := hide hj1
    have hio : inOrd (keyL m) = true := inOrd_key HN.out
    rw [hio] at HI
    clear J1 ht hl1 P1 HO hml T1 hj1 hio
    go_wp2_with fail
    refine HI.out.mono ?_
    rintro ee w2 ⟨rfl, K2⟩
    have HK2 := hide K2
    have HJ2 := hide (HJ1.out.on K2)
    clear HI K2
    go_wp2_with fail
    go_ret2
    have ka : Kp [] w2 (w2.alloc (.cells #[.pointer (some ⟨j, 0, none⟩), .int .i64 m] 144)) := (Kp.refl [] w2).alloc _
    have hsz := HT1.out.size
    have hs2 := HK2.out.size
    have hjl := HJL.out
    have hjl2 := HJ2.out.jr.lt
    refine ⟨w2.heap.size, rfl, fun i => grF F v1 i ∨ i = j ∨ i = w2.heap.size, ⟨v1, j, m, by omega, ?_, heap_alloc_new w2 _, HJ2.out.nw.kp.size, .inr (.inr rfl), .inr (.inl rfl), fun i hi => .inl (grF_fp (HF.out p (mem_dfp.2 (.inl rfl))) i hi)⟩, ?_⟩
    · have := HJ2.out.on ka
      rwa [keyL_len] at this
    · obtain ⟨⟨S, hS, kS⟩, h2⟩ := HT1.out.trans (Stp.mid (HK2.out.trans ka))
      refine ⟨⟨S, hS, kS⟩, fun i hi => ?_⟩
      rcases hi with hi | rfl | rfl
      · exact h2 i hi
      · exact .inr ⟨hjl, by simp; omega⟩
      · exact .inr ⟨by omega, by simp⟩
  · cases hf
end
end Go.Proofs.YtillhpgdlmeajaaGreatDoor

/-
  Signatures in memory; the contracts of package sign's small functions: isSeed, isKey, areHashes, Right.
-/
namespace Go.Proofs.YtillhpgdlmeajaaGreatDoor
open Go.RowKit
/-- v is a signature: its number, its parts, its path. -/
def SigV (w : World) (v : Value) (i : Int) (ps qs : List (List Int)) : Prop :=
  ∃ vp vq lp lq, v = .agg #[.int .i64 i, vp, vq] ∧ Lists w vp lp ∧ lp.map (·.2) = ps ∧ Lists w vq lq ∧ lq.map (·.2) = qs
theorem SigV.kept {w w' : World} {v : Value} {i : Int} {ps qs : List (List Int)} (h : SigV w v i ps qs) (k : Kp [] w w') : SigV w' v i ps qs := by
  obtain ⟨vp, vq, lp, lq, e, h1, h2, h3, h4⟩ := h
  exact ⟨vp, vq, lp, lq, e, h1.kept k, h2, h3.kept k, h4⟩
theorem SigV.bs {w : World} {v : Value} {i : Int} {ps qs : List (List Int)} (h : SigV w v i ps qs) : (∀ x ∈ ps, Bs x) ∧ ∀ x ∈ qs, Bs x := by
  obtain ⟨vp, vq, lp, lq, e, h1, rfl, h3, rfl⟩ := h
  refine ⟨fun x hx => ?_, fun x hx => ?_⟩
  · obtain ⟨y, hy, rfl⟩ := List.mem_map.1 hx; exact h1.bs y hy
  · obtain ⟨y, hy, rfl⟩ := List.mem_map.1 hx; exact h3.bs y hy
theorem isSeed_any (vb : Value) (bs : List Int) (w : World) (hS : Sl w vb bs) (hl : bs.length = 32) :
    Calls Tryz.prog 121 #[vb] w fun e w' => e = .returned (.bool true) ∧ w' = w := by
  obtain ⟨ab, cb, rfl, _⟩ := hS
  rw [hl]
  go_enter Tryz.func121, Tryz.ntmps121
  go_wp2_with fail
  go_ret
  exact ⟨rfl, rfl⟩
theorem isKey_any (i : Int) (b : Bool) (hb : b = decide (0 ≤ i ∧ i < 16)) (w : World) :
    Calls Tryz.prog 164 #[.int .i64 i] w fun e w' => e = .returned (.bool b) ∧ w' = w := by
  by_cases h1 : 0 ≤ i
  · by_cases h2 : i < 16
    · obtain rfl : b = true := by rw [hb]; exact decide_eq_true ⟨h1, h2⟩
      clear hb
      go_enter Tryz.func164, Tryz.ntmps164
      go_wp2_with fail
      go_ret
      exact ⟨rfl, rfl⟩
    · obtain rfl : b = false := by rw [hb]; exact decide_eq_false (fun h => h2 h.2)
      clear hb
      go_enter Tryz.func164, Tryz.ntmps164
      go_wp2_with fail
      go_ret
      exact ⟨rfl, rfl⟩
  · obtain rfl : b = false := by rw [hb]; exact decide_eq_false (fun h => h1 h.1)
    clear hb
    go_enter Tryz.func164, Tryz.ntmps164
    go_wp2_with fail
    go_ret
    exact ⟨rfl, rfl⟩
end Go.Proofs.YtillhpgdlmeajaaGreatDoor

/-
  The contract of package sign's Right.
-/
namespace Go.Proofs.YtillhpgdlmeajaaGreatDoor
open Go.RowKit
theorem Lists.shape {w : World} {v : Value} {l : List (Value × List Int)} (h : Lists w v l) : ∃ ao c, v = .slice ao l.length c := by obtain ⟨ao, c, e, _⟩ := h; exact ⟨ao, c, e⟩
/-- a signature's own shape. -/
theorem SigV.shape {w : World} {v : Value} {i : Int} {ps qs : List (List Int)} (h : SigV w v i ps qs) : ∃ ap np cp aq nq cq lp lq, v = .agg #[.int .i64 i, .slice ap np cp, .slice aq nq cq] ∧ Lists w (.slice ap np cp) lp ∧ lp.map (·.2) = ps ∧ Lists w (.slice aq nq cq) lq ∧ lq.map (·.2) = qs ∧ np = ps.length ∧ nq = qs.length := by
  obtain ⟨vp, vq, lp, lq, e, h1, h2, h3, h4⟩ := h
  obtain ⟨ap, cp, e1⟩ := h1.shape
  obtain ⟨aq, cq, e2⟩ := h3.shape
  subst e1
  subst e2
  exact ⟨ap, _, cp, aq, _, cq, lp, lq, e, h1, h2, h3, h4, by rw [← h2]; simp, by rw [← h4]; simp⟩
end Go.Proofs.YtillhpgdlmeajaaGreatDoor

/-
  The contracts of package sign's nodes: nodeAbove, leaves, above.
-/
namespace Go.Proofs.YtillhpgdlmeajaaGreatDoor
open Go.RowKit
open Go.Proofs
set_option maxRecDepth 100000 in
set_option maxHeartbeats 1000000 in
theorem node_any (va vb : Value) (xs bs : List Int) (r : List Int) (hr : r = nodeP xs bs) (w : World) (hA : Sl w va xs) (hAB : Bs xs) (hB : Sl w vb bs) (hBB : Bs bs) (hal : xs.length ≤ 1000) (hbl : bs.length ≤ 1000) (hG : Gl w) :
    Calls Tryz.prog 152 #[va, vb] w fun e w' => ∃ ao m c, e = .returned (.slice ao m c) ∧ Row w' w.heap.size (.slice ao m c) r ∧ Kp [] w w' := by
  have HG := hide hG
  have HR := hide hr
  have HL := lists2 hA hAB hB hBB
  obtain ⟨aa, ca, hva, _⟩ := hA
  obtain ⟨ab, cb, hvb, _⟩ := hB
  obtain ⟨na, hna⟩ : ∃ n, n = xs.length := ⟨_, rfl⟩
  obtain ⟨nb, hnb⟩ : ∃ n, n = bs.length := ⟨_, rfl⟩
  rw [← hna] at hva
  rw [← hnb] at hvb
  subst hva
  subst hvb
  have HL2 := hide HL
  have HK := hide ((Kp.refl [] w).alloc (.cells #[.slice aa na ca, .slice ab nb cb] 22))
  clear HL hG hr hna hnb
  go_enter Tryz.func152, Tryz.ntmps152
  go_wp2_with fail
  refine (tagged_any 14 _ _ r (by rw [unhide HR, cat2]; rfl) _ (unhide HL2) (by omega) (by omega) (by simp) (by simp; omega) ((unhide HG).kept (unhide HK) (by simp))).mono ?_
  rintro ee w2 ⟨a2, m2, c2, rfl, R2, K2⟩
  have HR2 := hide (row_new R2 (unhide HK))
  have HK2 := hide ((unhide HK).trans K2)
  clear R2 K2 HL2 HK HR
  go_wp2_with fail
  go_ret
  exact ⟨a2, m2, c2, rfl, unhide HR2, unhide HK2⟩
set_option maxRecDepth 100000 in
set_option maxHeartbeats 1000000 in
theorem leaves_any (vb : Value) (bs : List Int) (w : World) (hS : Sl w vb bs) (hB : Bs bs) (hl : bs.length ≤ 1000) (hG : Gl w) :
    Calls Tryz.prog 122 #[vb] w fun e w' => ∃ ao m c, e = .returned (.slice ao m c) ∧ Acc w (lvsP bs 16) (.slice ao m c) w' := by
  obtain ⟨i0, hi0, hz0, hz1, hz2⟩ := info_parts Tryz.infoSl
  have HS := hide hS
  have HG := hide hG
  have HB := hide hB
  obtain ⟨ab, cb, hvb, _⟩ := hS
  obtain ⟨nb, hnb⟩ : ∃ n, n = bs.length := ⟨_, rfl⟩
  rw [← hnb] at hvb
  subst hvb
  clear hG hB hnb
  go_enter Tryz.func122, Tryz.ntmps122
  go_wp2_with (at_make; refine wpList_make_own _ rfl _ _ 33 rfl w.heap.size 22 i0 (.slice none 0 0) 1 Tryz.underlying33 hi0 hz0 hz1 .i64 .i64 _ 16 rfl rfl (by omega) (by rw [hz2]; omega) (by unfold maxLen; omega) (Nat.le_refl _) ?_; intro w1 o1 g1; have K1 : Kp [] w w1 := (Kp.refl [] w).grown g1 (by intro k hk; cases hk); have R1 : RowV w1 w.heap.size _ [] := o1)
  have A1 : Hid (Acc w (lvsP bs 0) (.slice (some ⟨w.heap.size, 0, none⟩) 0 16) w1) := ⟨[], ⟨R1, fun x hx => by cases hx⟩, rfl, K1⟩
  clear o1 g1 R1 K1
  go_loopw [3, 6] (fun v i wr => ∃ (k m cc : Nat) (ao : Option Addr), k ≤ 16 ∧ v = .slice ao m cc ∧ i = .int .i64 k ∧ Acc w (lvsP bs k) v wr) (fun _ i _ => 16 - (intOf i).toNat)
  case atStart => exact ⟨0, 0, 16, some ⟨w.heap.size, 0, none⟩, by omega, rfl, rfl, unhide A1⟩
  case round =>
    obtain ⟨k, m, cc, ao, hk, rfl, rfl, Ar⟩ := hrel
    clear A1
    have HA := hide Ar
    clear Ar
    by_cases hlt : k < 16
    · have hlt2 : (k : Int) < 16 := by omega
      obtain ⟨r, hr⟩ : ∃ r, r = pubP bs (k : Nat) := ⟨_, rfl⟩
      have HRB : Hid (Bs r) := by rw [hr]; exact pubP_bs _ _
      have HE : Hid (lvsP bs (k + 1) = lvsP bs k ++ [r]) := by rw [hr]; exact lvsP_succ _ _
      have HLN : Hid ((lvsP bs k).length ≤ 1000000) := by rw [lvsP_len]; show k ≤ 1000000; omega
      have HC := hide (public_any (.slice ab nb cb) bs (k : Nat) r hr wr ((unhide HS).kept (unhide HA).kp (by simp)) (unhide HB) hl ((unhide HG).kept (unhide HA).kp (by simp)))
      clear hr
      go_wp2_with fail
      refine (unhide HC).mono ?_
      rintro ee w4 ⟨a4, m4, c4, rfl, R4, K4⟩
      have HR4 := hide R4
      have HK4 := hide K4
      clear R4 K4 HC
      go_wp2_with (at_builtin; refine wpList_acc rfl (.tmp 9) (.tmp 13) rfl _ _ rfl (unhide HA) (unhide HLN) _ r (unhide HK4) (unhide HR4) (unhide HRB) rfl ?_; intro ao5 m5 c5 w5 A5)
      go_roundw
      case rel => exact ⟨k + 1, m5, c5, ao5, by omega, rfl, by go_num, by have e := unhide HE; rw [← e] at A5; exact A5⟩
      case measure => simp [intOf]; omega
    · obtain rfl : k = 16 := by omega
      go_wp2_with fail
      go_ret
      exact ⟨ao, m, cc, rfl, unhide HA⟩
/-- The value is a slice of one slice, which is a row that is new since. -/
def One (base : Nat) (r : List Int) : Tell := fun v w => ∃ g vx, v = .slice (some ⟨g, 0, none⟩) 1 1 ∧ w.cell? ⟨g, 0, none⟩ = some vx ∧ Row w base vx r
theorem stable_one (base : Nat) (r : List Int) : Tell.stable (One base r) := fun _ _ _ k ⟨g, vx, h1, h2, h3⟩ => ⟨g, vx, h1, k.cell h2 (by simp), h3.kept k (by simp)⟩
/-- The value is a row that is new since. -/
def RowT (base : Nat) (r : List Int) : Tell := fun v w => Row w base v r
theorem stable_row (base : Nat) (r : List Int) : Tell.stable (RowT base r) := fun _ _ _ k h => h.kept k (by simp)
theorem grown_one {o : Oper} {a : Act} {w : World} (x : Operand) (ho : o.op = .buildSlice 33 1 #[(0, x)]) (base : Nat) (r : List Int) (h : Row w base (a.eval x) r) : grown Tryz.prog w (One base r) ((execOp a.eval o).run Tryz.prog w) := by
  obtain ⟨ao, c, e⟩ := h.shape
  refine grown_run (v := .slice (some ⟨w.heap.size, 0, none⟩) 1 1) (w' := w.alloc (.cells #[a.eval x] 22)) ?_ ((Kp.refl _ _).alloc _) ⟨w.heap.size, _, rfl, cell_of_one (heap_alloc_new w _), h.kept ((Kp.refl [] w).alloc _) (by simp)⟩
  obtain ⟨ρ, hρ, hc, hf, hg⟩ := eval_is a
  rw [hρ] at e ⊢
  unfold execOp
  simp only [ho]
  simp [go_sem, e]
/-- one more slice behind them, as it lies in a block of its own. -/
theorem wpList_accg {w wr w3 : World} {ops : Array Oper} {rest : List Oper} {o : Oper} {a : Act} {Q : Exit → Act → World → Prop} (hgd : o.guard = none) (s x : Operand)
    (ho : o.op = .call { callee := .builtin .append, args := #[s, x], argTypes := #[33, 33] }) (v : Value) (ls : List (List Int)) (hs : a.eval s = v) (hA : Acc w ls v wr) (hl : ls.length ≤ 1000000)
    (bs : List Int) (k : Kp [] wr w3) (vx : Value) (hx : a.eval x = vx) (h1 : One wr.heap.size bs vx w3) (hb : Bs bs)
    (h : ∀ ao m c w', Acc w (ls ++ [bs]) (.slice ao m c) w' → wpList Tryz.prog ops Q rest (a.put o.dst (.slice ao m c)) w') : wpList Tryz.prog ops Q (o :: rest) a w3 := by
  obtain ⟨l, hP, hl2, hK⟩ := hA
  obtain ⟨g, vy, hv, hc, hr⟩ := h1
  have hP2 := hP.kept k
  obtain ⟨ax, cx, hvx⟩ := hr.shape
  refine wpList_append_rowv hgd s x ho w.heap.size v (l.map (·.1)) hs hP2.1 ⟨g, 0, none⟩ 1 [vy] (by rw [hx, hv]; rfl) ?_ ?_ ?_ ?_ ?_
  · intro j u hu
    have hj : j = 0 := by have := (List.getElem?_eq_some_iff.1 hu).1; simpa using this
    subst hj
    simp at hu
    subst hu
    exact hc
  · simp [hvx, Value.oneCell']
  · have : l.length = ls.length := by rw [← hl2]; simp
    simp; omega
  · have := hK.size
    have := k.size
    omega
  · intro ao m c w' r st
    refine h ao m c w' ⟨l ++ [(vy, bs)], hP.snoc (x := (vy, bs)) k hr hb (Kp.refl _ _) r st hK.size, by simp [hl2], ?_⟩
    exact (hK.trans k).then st.1 (fun i hi => .inr (hP.1.own i (by simpa using hi)))
theorem abv_take (ls : List (List Int)) (k : Nat) (h : k < ls.length / 2) : (abvP ls).take (k + 1) = (abvP ls).take k ++ [nodeP (ls.getD (2 * k) []) (ls.getD (2 * k + 1) [])] := by
  rw [List.take_succ_eq_append_getElem (by rw [abvP_len]; exact h)]
  simp [abvP]
theorem lists_at {w : World} {ao : Option Addr} {n c : Nat} {l : List (Value × List Int)} {ls : List (List Int)} (hL : Lists w (.slice ao n c) l) (he : l.map (·.2) = ls) (i : Nat) (hi : i < ls.length) :
    ∃ b off ax nx cx, ao = some ⟨b, off, none⟩ ∧ w.cell? ⟨b, off + i, none⟩ = some (.slice ax nx cx) ∧ Sl w (.slice ax nx cx) (ls.getD i []) ∧ Bs (ls.getD i []) := by
  subst he
  obtain ⟨ao', c', e, _, h2⟩ := hL
  have hi2 : i < l.length := by simpa using hi
  obtain ⟨b, off, e2, h3, h4, h5⟩ := h2 i hi2
  injection e with e0
  subst e0
  have hg : (l.map (·.2)).getD i [] = l[i].2 := by simp [List.getD, hi2]
  rw [hg]
  obtain ⟨ax, cx, e4, _⟩ := id h4
  rw [e4] at h3 h4
  exact ⟨b, off, ax, _, cx, e2, h3, h4, h5⟩
set_option maxRecDepth 100000 in
set_option maxHeartbeats 4000000 in
theorem above_any (vl : Value) (l : List (Value × List Int)) (ls : List (List Int)) (hls : l.map (·.2) = ls) (hm : ∀ x ∈ ls, x.length ≤ 1000) (w : World) (hL : Lists w vl l) (hn : ls.length ≤ 100) (he : ls.length % 2 = 0) (hG : Gl w) :
    Calls Tryz.prog 123 #[vl] w fun e w' => ∃ ao m c, e = .returned (.slice ao m c) ∧ Acc w (abvP ls) (.slice ao m c) w' := by
  obtain ⟨i0, hi0, hz0, hz1, hz2⟩ := info_parts Tryz.infoSl
  have HG := hide hG
  have HL := hide hL
  have HLS := hide hls
  have HM := hide hm
  have hlen : l.length = ls.length := by rw [← hls]; simp
  obtain ⟨al, cl, hvl, _⟩ := hL
  rw [hlen] at hvl
  subst hvl
  obtain ⟨N, hN⟩ : ∃ N, N = ls.length := ⟨_, rfl⟩
  have HN := hide hN
  rw [← hN] at hn he HL ⊢
  obtain ⟨M, hM⟩ : ∃ M, M = N / 2 := ⟨_, rfl⟩
  have hNM : N = 2 * M := by omega
  have hq : Int.tdiv (N : Int) 2 = (M : Int) := by rw [Int.tdiv_eq_ediv_of_nonneg (by omega)]; omega
  have hq2 : (N : Int) / 2 = (M : Int) := by omega
  have hM100 : (M : Int) ≤ 100 := by omega
  have hNi : (N : Int) ≤ 100 := by omega
  have HNM := hide hNM
  clear hG hlen hls hm hN hM hNM
  go_enter Tryz.func123, Tryz.ntmps123
  go_wp2_with (at_make; refine wpList_make_own _ rfl _ _ 33 rfl w.heap.size 22 i0 (.slice none 0 0) 1 Tryz.underlying33 hi0 hz0 hz1 .i64 .i64 _ M rfl rfl (by omega) (by rw [hz2]; omega) (by unfold maxLen; omega) (Nat.le_refl _) ?_; intro w1 o1 g1; have K1 : Kp [] w w1 := (Kp.refl [] w).grown g1 (by intro k hk; cases hk); have R1 : RowV w1 w.heap.size _ [] := o1)
  have A1 : Hid (Acc w ((abvP ls).take 0) (.slice (some ⟨w.heap.size, 0, none⟩) 0 M) w1) := ⟨[], ⟨R1, fun x hx => by cases hx⟩, rfl, K1⟩
  clear o1 g1 R1 K1
  go_loopw [3, 4] (fun v i wr => ∃ (k m cc : Nat) (ao : Option Addr), k ≤ M ∧ v = .slice ao m cc ∧ i = .int .i64 ((2 * k : Nat) : Int) ∧ Acc w ((abvP ls).take k) v wr) (fun _ i _ => 2 * M - (intOf i).toNat)
  case atStart => exact ⟨0, 0, M, some ⟨w.heap.size, 0, none⟩, by omega, rfl, rfl, unhide A1⟩
  case round =>
    obtain ⟨k, m, cc, ao, hk, rfl, rfl, Ar⟩ := hrel
    clear A1
    have HA := hide Ar
    clear Ar
    obtain ⟨j, hj⟩ : ∃ j, j = 2 * k := ⟨_, rfl⟩
    rw [← hj]
    by_cases hlt : k < M
    · have hlt2 : (j : Int) < (N : Int) := by have := unhide HNM; omega
      have hlt3 : (j : Int) + 1 < (N : Int) := by have := unhide HNM; omega
      have hwr : IntKind.i64.wrap ((j : Int) + 1) = (j : Int) + 1 := wrap_at rfl (by omega) (by omega)
      obtain ⟨b, off, ax, nx, cx, rfl, hcx, hSx, hBx⟩ := lists_at (unhide HL) (unhide HLS) j (by have := unhide HN; have := unhide HNM; omega)
      obtain ⟨b', off', ay, ny, cy, e, hcy, hSy, hBy⟩ := lists_at (unhide HL) (unhide HLS) (j + 1) (by have := unhide HN; have := unhide HNM; omega)
      injection e with e
      injection e with e1 e2
      subst e1
      subst e2
      have hxl : (ls.getD j []).length ≤ 1000 := unhide HM _ (getD_mem (by have := unhide HN; have := unhide HNM; omega))
      have hyl : (ls.getD (j + 1) []).length ≤ 1000 := unhide HM _ (getD_mem (by have := unhide HN; have := unhide HNM; omega))
      obtain ⟨r, hr⟩ : ∃ r, r = nodeP (ls.getD j []) (ls.getD (j + 1) []) := ⟨_, rfl⟩
      have HRB : Hid (Bs r) := by rw [hr]; exact nodeP_bs _ _
      have HE : Hid ((abvP ls).take (k + 1) = (abvP ls).take k ++ [r]) := by rw [hr, hj]; exact abv_take ls k (by have := unhide HN; have := unhide HNM; omega)
      have HLN : Hid (((abvP ls).take k).length ≤ 1000000) := by rw [List.length_take]; show min k _ ≤ 1000000; omega
      obtain ⟨X, hX⟩ : ∃ X, X = ls.getD j [] := ⟨_, rfl⟩
      obtain ⟨Y, hY⟩ : ∃ Y, Y = ls.getD (j + 1) [] := ⟨_, rfl⟩
      rw [← hX] at hSx hBx hxl hr
      rw [← hY] at hSy hBy hyl hr
      have HKr := hide (unhide HA).kp
      have CX : ∀ w', Kp [] wr.drew w' → w'.cell? ⟨b, off + j, none⟩ = some (.slice ax nx cx) := fun w' k' => (((unhide HKr).trans (kp_drew wr)).trans k').cell hcx (by simp)
      have CY : ∀ w', Kp [] wr.drew w' → w'.cell? ⟨b, off + (j + 1), none⟩ = some (.slice ay ny cy) := fun w' k' => (((unhide HKr).trans (kp_drew wr)).trans k').cell hcy (by simp)
      have SX : ∀ w', Kp [] wr.drew w' → Sl w' (.slice ax nx cx) X := fun w' k' => hSx.kept (((unhide HKr).trans (kp_drew wr)).trans k') (by simp)
      have SY : ∀ w', Kp [] wr.drew w' → Sl w' (.slice ay ny cy) Y := fun w' k' => hSy.kept (((unhide HKr).trans (kp_drew wr)).trans k') (by simp)
      have GL : ∀ w', Kp [] wr.drew w' → Gl w' := fun w' k' => (unhide HG).kept (((unhide HKr).trans (kp_drew wr)).trans k') (by simp)
      have BS : ∀ w', Kp [] wr.drew w' → wr.heap.size ≤ w'.heap.size := fun w' k' => k'.size
      have HCX := hide CX
      have HCY := hide CY
      have HSX := hide SX
      have HSY := hide SY
      have HGL := hide GL
      have HR := hide hr
      have HBX := hide hBx
      have HBY := hide hBy
      clear hX hY hcx hcy hSx hSy hBx hBy hr CX CY SX SY GL BS
      have hjj : (j : Int) = 2 * (k : Int) := by omega
      have HJ := hide hjj
      have HJN := hide hj
      clear hjj hj
      go_wp2_with fail
      refine region_grow_tail 12 Tryz.mixed [Is (.slice ao m cc), Is (.slice (some ⟨b, off, none⟩) N cl), Is (.int .i64 j), Is (.pointer (some ⟨b, off + j, none⟩)), Is (.slice ax nx cx), Is (.slice (some ⟨b, off, none⟩) N cl), Is (.int .i64 j), Is (.int .i64 (j + 1)), Is (.pointer (some ⟨b, off + (j + 1), none⟩)), Is (.slice ay ny cy), RowT wr.heap.size r, One wr.heap.size r] [[(3, none)], [(0, none)], [(4, none)], [(16, some 1), (17, some 2)], [(18, some 3)], [(0, none)], [(4, none)], [(21, some 6)], [(20, some 5), (22, some 7)], [(23, some 8)], [(19, some 4), (24, some 9)], [(25, some 10)]] (by kernel_rfl) ?_ ?_ ?_
      all_goals try simp only [List.take_succ_cons, List.take_zero, List.drop_succ_cons, List.drop_zero]
      · simp only [List.mem_cons, List.not_mem_nil, or_false]
        intro R hR
        rcases hR with rfl | rfl | rfl | rfl | rfl | rfl | rfl | rfl | rfl | rfl | rfl | rfl <;> first | exact stable_is _ | exact stable_row _ _ | exact stable_one _ _
      · refine steps_cons (fun a w hk hn => ?_) ?_
        · have h3 : a.eval (.tmp 3) = .slice ao m cc := hn.1
          clear hn
          refine wants_plain rfl ?_
          exact grown_move (.tmp 3) rfl h3
        refine steps_cons (fun a w hk hn => ?_) ?_
        · have h0 : a.eval (.tmp 0) = .slice (some ⟨b, off, none⟩) N cl := hn.1
          clear hn
          refine wants_plain rfl ?_
          exact grown_move (.tmp 0) rfl h0
        refine steps_cons (fun a w hk hn => ?_) ?_
        · have h4 : a.eval (.tmp 4) = .int .i64 j := hn.1
          clear hn
          refine wants_plain rfl ?_
          exact grown_move (.tmp 4) rfl h4
        refine steps_cons (fun a w hk hn => ?_) ?_
        · have h16 : a.eval (.tmp 16) = .slice (some ⟨b, off, none⟩) N cl := hn.1
          have h17 : a.eval (.tmp 17) = .int .i64 j := hn.2.1
          clear hn
          refine wants_plain rfl ?_
          refine grown_run (v := .pointer (some ⟨b, off + j, none⟩)) ?_ (Kp.refl _ _) rfl
          obtain ⟨ρ, hρ, hc, hf, hg⟩ := eval_is a
          rw [hρ] at h16 h17 ⊢
          simp [go_sem, h16, h17, hlt2]
        refine steps_cons (fun a w hk hn => ?_) ?_
        · have h18 : a.eval (.tmp 18) = .pointer (some ⟨b, off + j, none⟩) := hn.1
          clear hn
          refine wants_plain rfl ?_
          refine grown_run (v := .slice ax nx cx) ?_ (Kp.refl _ _) rfl
          have hcell := unhide HCX w hk
          obtain ⟨ρ, hρ, hc, hf, hg⟩ := eval_is a
          rw [hρ] at h18 ⊢
          simp [go_sem, h18, hcell]
        refine steps_cons (fun a w hk hn => ?_) ?_
        · have h0 : a.eval (.tmp 0) = .slice (some ⟨b, off, none⟩) N cl := hn.1
          clear hn
          refine wants_plain rfl ?_
          exact grown_move (.tmp 0) rfl h0
        refine steps_cons (fun a w hk hn => ?_) ?_
        · have h4 : a.eval (.tmp 4) = .int .i64 j := hn.1
          clear hn
          refine wants_plain rfl ?_
          exact grown_move (.tmp 4) rfl h4
        refine steps_cons (fun a w hk hn => ?_) ?_
        · have h21 : a.eval (.tmp 21) = .int .i64 j := hn.1
          clear hn
          refine wants_plain rfl ?_
          refine grown_run (v := .int .i64 (j + 1)) ?_ (Kp.refl _ _) rfl
          obtain ⟨ρ, hρ, hc, hf, hg⟩ := eval_is a
          rw [hρ] at h21 ⊢
          simp [go_sem, hc, h21, hwr]
        refine steps_cons (fun a w hk hn => ?_) ?_
        · have h20 : a.eval (.tmp 20) = .slice (some ⟨b, off, none⟩) N cl := hn.1
          have h22 : a.eval (.tmp 22) = .int .i64 (j + 1) := hn.2.1
          clear hn
          refine wants_plain rfl ?_
          refine grown_run (v := .pointer (some ⟨b, off + (j + 1), none⟩)) ?_ (Kp.refl _ _) rfl
          obtain ⟨ρ, hρ, hc, hf, hg⟩ := eval_is a
          rw [hρ] at h20 h22 ⊢
          simp [go_sem, h20, h22, hlt3]
          intro h; omega
        refine steps_cons (fun a w hk hn => ?_) ?_
        · have h23 : a.eval (.tmp 23) = .pointer (some ⟨b, off + (j + 1), none⟩) := hn.1
          clear hn
          refine wants_plain rfl ?_
          refine grown_run (v := .slice ay ny cy) ?_ (Kp.refl _ _) rfl
          have hcell := unhide HCY w hk
          obtain ⟨ρ, hρ, hc, hf, hg⟩ := eval_is a
          rw [hρ] at h23 ⊢
          simp [go_sem, h23, hcell]
        refine steps_cons (fun a w hk hn => ?_) ?_
        · have h19 : a.eval (.tmp 19) = .slice ax nx cx := hn.1
          have h24 : a.eval (.tmp 24) = .slice ay ny cy := hn.2.1
          clear hn
          refine wants_plain rfl ?_
          refine grown_call (f := 152) rfl Tryz.func152 (by kernel_rfl) (by kernel_rfl) ?_
          simp only [List.map_toArray, List.map_cons, List.map_nil, h19, h24]
          refine (node_any _ _ X Y r (unhide HR) w (unhide HSX w hk) (unhide HBX) (unhide HSY w hk) (unhide HBY) hxl hyl (unhide HGL w hk)).mono ?_
          rintro e w' ⟨ao, m, c, rfl, R, K⟩
          exact ⟨_, rfl, K, owns_rebase R (fun i hi => Nat.le_trans hk.size (R.own i hi))⟩
        refine steps_cons (fun a w hk hn => ?_) ?_
        · have h25 : (RowT wr.heap.size r) (a.eval (.tmp 25)) w := hn.1
          clear hn
          refine wants_plain rfl ?_
          exact grown_one (.tmp 25) rfl wr.heap.size r h25
        exact trivial
      intro W1 hkW1
      rintro _ rfl
      rintro _ rfl
      rintro _ rfl
      rintro _ rfl
      rintro _ rfl
      rintro _ rfl
      rintro _ rfl
      rintro _ rfl
      rintro _ rfl
      rintro _ rfl
      intro v25 h25
      intro v26 h26
      refine fin_nil ?_
      simp only [Act.put, List.set_cons_zero, List.set_cons_succ, List.setIfInBounds_toArray]
      go_wp2_with (at_builtin; refine wpList_accg rfl (.tmp 15) (.tmp 26) rfl _ _ rfl (unhide HA) (unhide HLN) r ((kp_drew wr).trans hkW1) v26 rfl h26 (unhide HRB) ?_; intro ao5 m5 c5 w5 A5)
      go_roundw
      case rel => exact ⟨k + 1, m5, c5, ao5, by omega, rfl, by have := unhide HJ; go_num, by have e := unhide HE; rw [← e] at A5; exact A5⟩
      case measure => simp [intOf]; have := unhide HJN; omega
    · obtain rfl : k = M := by omega
      have hlt2 : ¬ (j : Int) < (N : Int) := by have := unhide HNM; omega
      have HT : Hid ((abvP ls).take k = abvP ls) := List.take_of_length_le (by rw [abvP_len]; have := unhide HN; have := unhide HNM; omega)
      clear hj
      go_wp2_with fail
      go_ret
      exact ⟨ao, m, cc, rfl, by have := unhide HA; rw [unhide HT] at this; exact this⟩
end Go.Proofs.YtillhpgdlmeajaaGreatDoor

/-
  The contracts of package sign's pathOf, ledUp and Public.
-/
namespace Go.Proofs.YtillhpgdlmeajaaGreatDoor
open Go.RowKit
open Go.Proofs
/-- rows of slices that are gathered, while blocks in S may change: the slices lie in blocks of which F holds. -/
def AccS (S : List Nat) (F : Nat → Prop) (w : World) (ls : List (List Int)) (v : Value) (wr : World) : Prop := ∃ l, RowS wr w.heap.size v l ∧ l.map (·.2) = ls ∧ Kp S w wr ∧ ∀ x ∈ l, ∀ q, x.1.ownBlock = some q → F q
theorem AccS.mid {S : List Nat} {F : Nat → Prop} {w wr w2 : World} {ls : List (List Int)} {v : Value} (h : AccS S F w ls v wr) (k : Kp [] wr w2) : AccS S F w ls v w2 := by
  obtain ⟨l, h1, h2, h3, h4⟩ := h
  exact ⟨l, h1.kept k, h2, h3.trans (k.mono (by simp)), h4⟩
theorem AccS.kp {S : List Nat} {F : Nat → Prop} {w wr : World} {ls : List (List Int)} {v : Value} (h : AccS S F w ls v wr) : Kp S w wr := by obtain ⟨_, _, _, h3, _⟩ := h; exact h3
theorem AccS.lt {S : List Nat} {F : Nat → Prop} {w wr : World} {ls : List (List Int)} {v : Value} (h : AccS S F w ls v wr) : ∀ q, v.ownBlock = some q → q < wr.heap.size := by obtain ⟨_, h1, _, _⟩ := h; exact fun q hq => h1.1.lt hq
theorem AccS.lists {S : List Nat} {F : Nat → Prop} {w wr : World} {ls : List (List Int)} {v : Value} (h : AccS S F w ls v wr) (hl : ls.length ≤ 1000) : ∃ l, Lists wr v l ∧ l.map (·.2) = ls ∧ (∀ q, v.ownBlock = some q → w.heap.size ≤ q) ∧ ∀ x ∈ l, ∀ q, x.1.ownBlock = some q → F q := by
  obtain ⟨l, h1, h2, _, h4⟩ := h
  exact ⟨l, h1.lists (by rw [← List.length_map (f := (·.2)), h2]; exact hl), h2, h1.1.own, h4⟩
theorem Sl.lt {w : World} {v : Value} {bs : List Int} (h : Sl w v bs) (hb : bs ≠ []) : ∀ q, v.ownBlock = some q → q < w.heap.size := by
  obtain ⟨ao, c, rfl, h1, h2, h3, h4⟩ := h
  intro q hq
  cases ao with
  | none => cases hq
  | some a =>
    have hp : 0 < bs.length := List.length_pos_iff.2 hb
    have hc := h4 a rfl 0 (.int .u8 bs[0]) (by simp [List.getElem?_eq_getElem hp])
    have := World.block_lt_of_cell? _ _ hc
    rw [add_block] at this
    have e : a.block = q := by simpa [Value.ownBlock] using hq
    omega
theorem RowS.snoc {w3 w4 : World} {base : Nat} {v v' vx : Value} {bs : List Int} {l : List (Value × List Int)} (h : RowS w3 base v l) (hx : Sl w3 vx bs) (hB : Bs bs) (ha : ∀ q, vx.ownBlock = some q → v.ownBlock = some q → bs = [])
    (r : RowV w4 base v' (l.map (·.1) ++ [vx])) (s : RStep w3 v w4 v') : RowS w4 base v' (l ++ [(vx, bs)]) := by
  have one : ∀ (x : Value) (cs : List Int), Sl w3 x cs → (∀ q, x.ownBlock = some q → v.ownBlock = some q → cs = []) → Sl w4 x cs ∧ ∀ q, x.ownBlock = some q → v'.ownBlock = some q → cs = [] := by
    intro x cs hS hA
    refine ⟨hS.apart s.1 (fun q hq hm => hA q hq (by simpa using hm)), fun q hq hv => ?_⟩
    by_cases hc : cs = []
    · exact hc
    · rcases s.2 q hv with h1 | h1
      · exact hA q hq h1
      · have := hS.lt hc q hq; omega
  refine ⟨by rw [List.map_append]; exact r, fun y hy => ?_⟩
  rcases List.mem_append.1 hy with hy | hy
  · obtain ⟨h1, h2, h3⟩ := h.2 y hy
    exact ⟨(one y.1 y.2 h1 h3).1, h2, (one y.1 y.2 h1 h3).2⟩
  · obtain rfl : y = (vx, bs) := by simpa using hy
    exact ⟨(one vx bs hx ha).1, hB, (one vx bs hx ha).2⟩
/-- one more slice, that lies wherever it lies, behind them. -/
theorem wpList_accs {S : List Nat} {F : Nat → Prop} {w wr : World} {ops : Array Oper} {rest : List Oper} {o : Oper} {a : Act} {Q : Exit → Act → World → Prop} (hgd : o.guard = none) (s x : Operand)
    (ho : o.op = .call { callee := .builtin .append, args := #[s, x], argTypes := #[33, 33] }) (v : Value) (ls : List (List Int)) (hs : a.eval s = v) (hA : AccS S F w ls v wr) (hl : ls.length ≤ 1000000)
    (vx : Value) (bs : List Int) (hS : Sl wr vx bs) (hB : Bs bs) (hap : ∀ q, vx.ownBlock = some q → v.ownBlock = some q → bs = []) (hF : ∀ q, vx.ownBlock = some q → F q) (hx : a.eval x = .slice (some ⟨wr.heap.size, 0, none⟩) 1 1)
    (h : ∀ ao m c w', AccS S F w (ls ++ [bs]) (.slice ao m c) w' → RStep wr v w' (.slice ao m c) → wpList Tryz.prog ops Q rest (a.put o.dst (.slice ao m c)) w') : wpList Tryz.prog ops Q (o :: rest) a (wr.alloc (.cells #[vx] 22)) := by
  obtain ⟨l, hP, hl2, hK, hF4⟩ := hA
  have Ka := (Kp.refl [] wr).alloc (.cells #[vx] 22)
  have hP2 := hP.kept Ka
  obtain ⟨ax, cx, hvx, _⟩ := id hS
  refine wpList_append_rowv hgd s x ho w.heap.size v (l.map (·.1)) hs hP2.1 ⟨wr.heap.size, 0, none⟩ 1 [vx] hx ?_ ?_ ?_ ?_ ?_
  · intro j u hu
    exact World.news_of_block (heap_alloc_new wr _) j u (by simpa using hu)
  · simp [hvx, Value.oneCell']
  · have : l.length = ls.length := by rw [← hl2]; simp
    simp; omega
  · have := hK.size
    simp; omega
  · intro ao m c w' r st
    refine h ao m c w' ⟨l ++ [(vx, bs)], hP2.snoc (hS.kept Ka (by simp)) hB hap r st, by simp [hl2], ?_, fun y hy => ?_⟩ (st.after Ka)
    · exact (hK.trans (Ka.mono (by simp))).then st.1 (fun i hi => .inr (hP.1.own i (by simpa using hi)))
    · rcases List.mem_append.1 hy with hy | hy
      · exact hF4 y hy
      · obtain rfl : y = (vx, bs) := by simpa using hy
        exact hF
theorem Lists.off {w w' : World} {v : Value} {l : List (Value × List Int)} {S : List Nat} (h : Lists w v l) (k : Kp S w w') (hv : ∀ q, v.ownBlock = some q → q ∉ S) (hy : ∀ y ∈ l, ∀ q, y.1.ownBlock = some q → q ∉ S) : Lists w' v l := by
  obtain ⟨ao, c, rfl, h1, h2⟩ := h
  refine ⟨ao, c, rfl, h1, fun i hi => ?_⟩
  obtain ⟨b, off, e, h3, h4, h5⟩ := h2 i hi
  subst e
  exact ⟨b, off, rfl, k.cell h3 (hv b rfl), h4.kept k (hy _ (List.getElem_mem hi)), h5⟩
/-- a level of nodes that lies apart from pv. -/
def LvA (F : Nat → Prop) (w : World) (v : Value) (ls : List (List Int)) (pv : Value) : Prop :=
  ∃ l, Lists w v l ∧ l.map (·.2) = ls ∧ (∀ q, v.ownBlock = some q → q < w.heap.size ∧ pv.ownBlock ≠ some q) ∧ ∀ y ∈ l, ∀ q, y.1.ownBlock = some q → (q < w.heap.size ∧ pv.ownBlock ≠ some q) ∧ F q
theorem LvA.of_acc {F : Nat → Prop} {w1 w2 : World} {v pv : Value} {ls : List (List Int)} (h : Acc w1 ls v w2) (hl : ls.length ≤ 1000) (hp : ∀ q, pv.ownBlock = some q → q < w1.heap.size) (hF : ∀ q, w1.heap.size ≤ q → F q) : LvA F w2 v ls pv := by
  obtain ⟨l, h1, h2, h3⟩ := h
  refine ⟨l, h1.lists (by rw [← List.length_map (f := (·.2)), h2]; exact hl), h2, fun q hq => ⟨h1.1.lt hq, fun e => ?_⟩, fun y hy q hq => ⟨⟨(h1.2 y hy).1.lt hq, fun e => ?_⟩, hF q ((h1.2 y hy).1.own q hq)⟩⟩
  · have := h1.1.own q hq; have := hp q e; omega
  · have := (h1.2 y hy).1.own q hq; have := hp q e; omega
theorem LvA.step {F : Nat → Prop} {w w' : World} {v pv pv' : Value} {ls : List (List Int)} (h : LvA F w v ls pv) (s : RStep w pv w' pv') : LvA F w' v ls pv' := by
  obtain ⟨l, h1, h2, h3, h4⟩ := h
  have key : ∀ q, q < w.heap.size ∧ pv.ownBlock ≠ some q → q < w'.heap.size ∧ pv'.ownBlock ≠ some q := fun q ⟨a, b⟩ => ⟨Nat.lt_of_lt_of_le a s.1.size, fun e => by
    rcases s.2 q e with h5 | h5
    · exact b h5
    · omega⟩
  exact ⟨l, h1.off s.1 (fun q hq hm => (h3 q hq).2 (by simpa using hm)) (fun y hy q hq hm => (h4 y hy q hq).1.2 (by simpa using hm)), h2, fun q hq => key q (h3 q hq), fun y hy q hq => ⟨key q (h4 y hy q hq).1, (h4 y hy q hq).2⟩⟩
theorem LvA.at {F : Nat → Prop} {w : World} {ao : Option Addr} {n c : Nat} {pv : Value} {ls : List (List Int)} (h : LvA F w (.slice ao n c) ls pv) (i : Nat) (hi : i < ls.length) :
    ∃ b off ax nx cx, ao = some ⟨b, off, none⟩ ∧ w.cell? ⟨b, off + i, none⟩ = some (.slice ax nx cx) ∧ Sl w (.slice ax nx cx) (ls.getD i []) ∧ Bs (ls.getD i []) ∧ n = ls.length ∧ ∀ q, (Value.slice ax nx cx).ownBlock = some q → pv.ownBlock ≠ some q ∧ F q := by
  obtain ⟨l, hL, he, _, h4⟩ := h
  subst he
  obtain ⟨ao', c', e, _, h2⟩ := hL
  have hi2 : i < l.length := by simpa using hi
  obtain ⟨b, off, e2, h3, h5, h6⟩ := h2 i hi2
  injection e with e0 e1
  subst e0
  have hg : (l.map (·.2)).getD i [] = l[i].2 := by simp [List.getD, hi2]
  rw [hg]
  have h7 := h4 l[i] (List.getElem_mem hi2)
  obtain ⟨ax, cx, e4, _⟩ := id h5
  rw [e4] at h3 h5 h7
  exact ⟨b, off, ax, _, cx, e2, h3, h5, h6, by simp [e1], fun q hq => ⟨(h7 q hq).1.2, (h7 q hq).2⟩⟩
theorem sib_xor (x : Nat) (h : x < 16) : bits .xor .i64 (x : Int) 1 = (sibP x : Int) := by
  have h2 : ∀ m ∈ List.range 16, bits .xor .i64 (m : Int) 1 = (sibP m : Int) := by decide +kernel
  exact h2 x (by simpa using h)
theorem lv_even (bs : List Int) (k : Nat) (h : k < 4) : (lvP bs k).length % 2 = 0 := by
  rw [lvP_len]
  rcases (by omega : k = 0 ∨ k = 1 ∨ k = 2 ∨ k = 3) with rfl | rfl | rfl | rfl <;> decide
theorem lv_le (bs : List Int) (k : Nat) : (lvP bs k).length ≤ 16 := by rw [lvP_len]; exact Nat.div_le_self _ _
set_option maxRecDepth 100000 in
set_option maxHeartbeats 2000000 in
theorem pathOf_any (vb : Value) (bs : List Int) (i : Nat) (w : World) (hS : Sl w vb bs) (hB : Bs bs) (hl : bs.length ≤ 1000) (hi : i < 16) (hG : Gl w) :
    Calls Tryz.prog 166 #[vb, .int .i64 i] w fun e w' => ∃ ao m c, e = .returned (.slice ao m c) ∧ AccS [] (w.heap.size ≤ ·) w (pthP bs i 4) (.slice ao m c) w' := by
  obtain ⟨i0, hi0, hz0, hz1, hz2⟩ := info_parts Tryz.infoSl
  have HS := hide hS
  have HG := hide hG
  have HB := hide hB
  obtain ⟨ab, cb, hvb, _⟩ := hS
  obtain ⟨nb, hnb⟩ : ∃ n, n = bs.length := ⟨_, rfl⟩
  rw [← hnb] at hvb
  subst hvb
  clear hG hB hnb
  go_enter Tryz.func166, Tryz.ntmps166
  go_wp2_with (at_make; refine wpList_make_own _ rfl _ _ 33 rfl w.heap.size 22 i0 (.slice none 0 0) 1 Tryz.underlying33 hi0 hz0 hz1 .i64 .i64 _ 4 rfl rfl (by omega) (by rw [hz2]; omega) (by unfold maxLen; omega) (Nat.le_refl _) ?_; intro w1 o1 g1; have K1 : Kp [] w w1 := (Kp.refl [] w).grown g1 (by intro k hk; cases hk); have R1 : RowV w1 w.heap.size _ [] := o1)
  have A1 : Hid (AccS [] (w.heap.size ≤ ·) w (pthP bs i 0) (.slice (some ⟨w.heap.size, 0, none⟩) 0 4) w1) := ⟨[], ⟨R1, fun x hx => by cases hx⟩, rfl, K1, fun x hx => by cases hx⟩
  have HC := hide (leaves_any (.slice ab nb cb) bs w1 ((unhide HS).kept K1 (by simp)) (unhide HB) hl ((unhide HG).kept K1 (by simp)))
  clear o1 g1 R1 K1
  refine (unhide HC).mono ?_
  rintro ee w2 ⟨a2, m2, c2, rfl, A2⟩
  have V2 : Hid (LvA (w.heap.size ≤ ·) w2 (.slice a2 m2 c2) (lvP bs 0) (.slice (some ⟨w.heap.size, 0, none⟩) 0 4)) := LvA.of_acc A2 (by have := lv_le bs 0; omega) (unhide A1).lt (fun q hq => Nat.le_trans (unhide A1).kp.size hq)
  have A3 := hide ((unhide A1).mid A2.kp)
  clear HC A1 A2
  go_wp2_with fail
  go_loopw [5, 6, 1, 10] (fun v lv x j wr => ∃ (k m cc m2 c2 : Nat) (ao a2 : Option Addr), k ≤ 4 ∧ v = .slice ao m cc ∧ lv = .slice a2 m2 c2 ∧ x = .int .i64 ((i / 2 ^ k : Nat) : Int) ∧ j = .int .i64 k ∧ AccS [] (w.heap.size ≤ ·) w (pthP bs i k) v wr ∧ LvA (w.heap.size ≤ ·) wr lv (lvP bs k) v) (fun _ _ _ j _ => 4 - (intOf j).toNat)
  case atStart => exact ⟨0, 0, 4, m2, c2, some ⟨w.heap.size, 0, none⟩, a2, by omega, rfl, rfl, by simp, rfl, unhide A3, unhide V2⟩
  case round =>
    clear A3 V2
    obtain ⟨k, m, cc, m3, c3, ao, a3, hk, rfl, rfl, rfl, rfl, Ar, Vr⟩ := hrel
    have HA := hide Ar
    have HV := hide Vr
    clear Ar Vr
    by_cases hlt : k < 4
    · have hlt2 : (k : Int) < 4 := by omega
      have hx16 : i / 2 ^ k < 16 := Nat.lt_of_le_of_lt (Nat.div_le_self _ _) hi
      have hsl : sibP (i / 2 ^ k) < (lvP bs k).length := by rw [lvP_len]; exact sib_lv hi hlt
      have hxor := sib_xor _ hx16
      have hE := pthP_succ bs i k
      obtain ⟨b, off, ax, nx, cx, rfl, hc, hSx, hBx, hm3, hap⟩ := (unhide HV).at _ hsl
      have hev := lv_even bs k hlt
      have hle := lv_le bs k
      have hq : Int.tdiv ((i / 2 ^ k : Nat) : Int) 2 = ((i / 2 ^ (k + 1) : Nat) : Int) := by rw [Int.tdiv_eq_ediv_of_nonneg (Int.natCast_nonneg _), Nat.pow_succ, ← Nat.div_div_eq_div_mul]; omega
      have hq2 : ((i / 2 ^ k : Nat) : Int) / 2 = ((i / 2 ^ (k + 1) : Nat) : Int) := by rw [Nat.pow_succ, ← Nat.div_div_eq_div_mul]; omega
      rw [← hm3] at hsl
      obtain ⟨x, hx⟩ : ∃ x, x = i / 2 ^ k := ⟨_, rfl⟩
      obtain ⟨y, hy⟩ : ∃ y, y = i / 2 ^ (k + 1) := ⟨_, rfl⟩
      obtain ⟨s, hs⟩ : ∃ s, s = sibP x := ⟨_, rfl⟩
      rw [← hx] at hxor hsl hE hc hSx hBx hq hq2 hx16 ⊢
      rw [← hs] at hxor hsl hE hc hSx hBx
      rw [← hy] at hq hq2
      have hsi : (s : Int) < (m3 : Int) := by omega
      obtain ⟨X, hX⟩ : ∃ X, X = (lvP bs k).getD s [] := ⟨_, rfl⟩
      rw [← hX] at hE hSx hBx
      have HE := hide hE
      have HSx := hide hSx
      have HBx := hide hBx
      have HAP := hide hap
      have HY := hide hy
      have HEV := hide hev
      have HLE := hide hle
      have HM3 := hide hm3
      have HLN : Hid ((pthP bs i k).length ≤ 1000000) := by rw [pthP_len]; show k ≤ 1000000; omega
      clear hE hSx hBx hap hy hx hs hX hev hle hm3
      go_wp2_with (at_builtin; refine wpList_accs rfl (.tmp 12) (.tmp 18) rfl _ _ rfl (unhide HA) (unhide HLN) _ X (unhide HSx) (unhide HBx) (fun q h1 h2 => absurd h2 (unhide HAP q h1).1) (fun q h1 => (unhide HAP q h1).2) rfl ?_; intro ao5 m5 c5 w5 A5 S5)
      have HA5 := hide A5
      have HV5 := hide ((unhide HV).step S5)
      clear A5 S5 HV HA HSx HAP
      have HAB : Hid (∃ l, Lists w5 (.slice (some ⟨b, off, none⟩) m3 c3) l ∧ l.map (·.2) = lvP bs k) := by obtain ⟨l, h1, h2, _⟩ := unhide HV5; exact ⟨l, h1, h2⟩
      obtain ⟨ll, hll, hle⟩ := unhide HAB
      have HC := hide (above_any (.slice (some ⟨b, off, none⟩) m3 c3) ll (lvP bs k) hle (fun x hx => by rw [(lvP_all bs k x hx).1]; omega) w5 hll (by have := unhide HLE; omega) (unhide HEV) ((unhide HG).kept (unhide HA5).kp (by simp)))
      clear hll hle HAB
      refine (unhide HC).mono ?_
      rintro ee w6 ⟨a6, m6, c6, rfl, A6⟩
      have HV6 : Hid (LvA (w.heap.size ≤ ·) w6 (.slice a6 m6 c6) (lvP bs (k + 1)) (.slice ao5 m5 c5)) := LvA.of_acc A6 (by have := lv_le bs (k + 1); omega) (unhide HA5).lt (fun q hq => Nat.le_trans (unhide HA5).kp.size hq)
      have HA6 := hide ((unhide HA5).mid A6.kp)
      clear HC A6 HA5 HV5
      go_wp2_with fail
      go_roundw
      case rel => exact ⟨k + 1, m5, c5, m6, c6, ao5, a6, by omega, rfl, rfl, by rw [← unhide HY], by go_num, by have e := unhide HE; rw [← e] at HA6; exact unhide HA6, unhide HV6⟩
      case measure => simp [intOf]; omega
    · obtain rfl : k = 4 := by omega
      clear HV
      go_wp2_with fail
      go_ret
      exact ⟨ao, m, cc, rfl, unhide HA⟩
end Go.Proofs.YtillhpgdlmeajaaGreatDoor

/-
  Signatures that stay as they are, whatever becomes of the blocks below.
-/
namespace Go.Proofs.YtillhpgdlmeajaaGreatDoor
open Go.RowKit
/-- a signature that stays so, whatever becomes of the blocks below b. -/
def SigA (b : Nat) (w : World) (v : Value) (i : Int) (ps qs : List (List Int)) : Prop := ∀ (S : List Nat) (w2 : World), (∀ q ∈ S, q < b) → Kp S w w2 → SigV w2 v i ps qs
theorem SigA.v {b : Nat} {w : World} {v : Value} {i : Int} {ps qs : List (List Int)} (h : SigA b w v i ps qs) : SigV w v i ps qs := h [] w (by simp) (Kp.refl _ _)
theorem SigA.kept {b : Nat} {w w' : World} {v : Value} {i : Int} {ps qs : List (List Int)} {S : List Nat} (h : SigA b w v i ps qs) (hS : ∀ q ∈ S, q < b) (k : Kp S w w') : SigA b w' v i ps qs := fun S2 w2 h2 k2 =>
  h (S ++ S2) w2 (fun q hq => (List.mem_append.1 hq).elim (hS q) (h2 q)) ((k.mono (by simp; intro x hx; exact .inl hx)).trans (k2.mono (by simp; intro x hx; exact .inr hx)))
end Go.Proofs.YtillhpgdlmeajaaGreatDoor

/-
  The contracts of package sign's Sign and Verify.
-/
namespace Go.Proofs.YtillhpgdlmeajaaGreatDoor
open Go.RowKit
open Go.Proofs
theorem Tryz.sigSize : (Tryz.prog.info? 70).map (·.size) = some 3 := by kernel_rfl
theorem load_sig (w : World) (g : Nat) (x y z : Value) (fr : Nat × Nat) (hg : w.heap[g]? = some (.cells #[x, y, z] 70 fr)) : (loadVar 70 ⟨g, 0, none⟩).run Tryz.prog w = .ok (.agg #[x, y, z]) w :=
  run_loadVar_row w g 70 70 #[x, y, z] fr _ hg Tryz.underlying70 rfl Tryz.sigSize
theorem results_sig {fn : Func} {p u : Tmp} (h : fn.results = #[.cell p 70, .tmp u]) (tmps : Array Value) (w : World) (g : Nat) (x y z : Value) (fr : Nat × Nat)
    (hp : tmps.getD p undef = .pointer (some ⟨g, 0, none⟩)) (hg : w.heap[g]? = some (.cells #[x, y, z] 70 fr)) : (results fn tmps).run Tryz.prog w = .ok (.tuple #[.agg #[x, y, z], tmps.getD u undef]) w := by
  rw [results_cell_tmp h, hp]
  simp [asAddr, Result.andThen, load_sig w g x y z fr hg]
/-- a signature that is stored whole. -/
theorem wpList_store_sig {w : World} {ops : Array Oper} {rest : List Oper} {o : Oper} {a : Act} {Q : Exit → Act → World → Prop} (hgd : o.guard = none) (p u : Operand) (ho : o.op = .store 70 p u) (g : Nat) (hp : a.eval p = .pointer (some ⟨g, 0, none⟩)) (x0 y0 z0 x y z : Value)
    (hg : w.heap[g]? = some (.cells #[x0, y0, z0] 70 (0, 0))) (hu : a.eval u = .agg #[x, y, z]) (h1 : x.oneCell' = true ∧ y.oneCell' = true ∧ z.oneCell' = true)
    (h : ∀ w', w'.heap[g]? = some (.cells #[x, y, z] 70 (0, 0)) → Kp [g] w w' → wpList Tryz.prog ops Q rest (a.put o.dst undef) w') : wpList Tryz.prog ops Q (o :: rest) a w := by
  refine wpList_store_mid hgd 70 p u ho g 0 #[x, y, z] hp hu ?_ (by simpa using Tryz.sigSize) (all_oneCell_toArray (by simp [h1])) ?_
  · intro j hj
    simp only [List.size_toArray, List.length_cons, List.length_nil] at hj
    rw [Nat.zero_add, cell_of_row w g j _ _ _ hg]
    refine ⟨?_, frozen_of_row w g j _ _ hg⟩
    rcases (by omega : j = 0 ∨ j = 1 ∨ j = 2) with rfl | rfl | rfl <;> rfl
  · refine h _ ?_ (kp_setCells w g _ 0 w (Kp.refl _ _))
    simp only [World.setCells]
    have e1 := heap_setCell_same w g 0 _ _ x hg
    have e2 := heap_setCell_same (w.setCell ⟨g, 0, none⟩ x) g 1 _ _ y e1
    have e3 := heap_setCell_same ((w.setCell ⟨g, 0, none⟩ x).setCell ⟨g, 1, none⟩ y) g 2 _ _ z e2
    simpa using e3
set_option maxRecDepth 100000 in
set_option maxHeartbeats 2000000 in
theorem ssign_anyA (vb : Value) (bs : List Int) (i : Nat) (vm : Value) (ms : List Int) (d : Int) (hd : d = digP ms) (w : World) (hS : Sl w vb bs) (hB : Bs bs) (hl : bs.length = 32) (hi : i < 16) (hM : Sl w vm ms) (hMB : Bs ms) (hml : ms.length ≤ 1000) (hG : Gl w) :
    Calls Tryz.prog 147 #[vb, .int .i64 i, vm] w fun e w' => ∃ v, e = .returned (.tuple #[v, .int .i64 0]) ∧ SigA w.heap.size w' v i (sgnP bs i d) (pthP bs i 4) ∧ Kp [] w w' := by
  have HS := hide hS
  have HG := hide hG
  have HB := hide hB
  have HM := hide hM
  have HMB := hide hMB
  have HD := hide hd
  obtain ⟨ob, hob⟩ : ∃ o : Obj, o = (.cells #[.int .i64 0, .slice none 0 0, .slice none 0 0] 70) := ⟨_, rfl⟩
  have K1 : Kp [] w (w.alloc ob) := (Kp.refl [] w).alloc ob
  have HI := hide (isSeed_any vb bs (w.alloc ob) (hS.kept K1 (by simp)) hl)
  have HK := hide (isKey_any i true (by simp; omega) (w.alloc ob))
  have HC := hide (sign_any vb bs i vm ms d hd (w.alloc ob) (hS.kept K1 (by simp)) hB (by omega) (hM.kept K1 (by simp)) hMB hml (hG.kept K1 (by simp)))
  rw [hob] at K1 HI HK HC
  have HK1 := hide K1
  obtain ⟨ab, cb, hvb, _⟩ := hS
  obtain ⟨nb, hnb⟩ : ∃ n, n = bs.length := ⟨_, rfl⟩
  rw [← hnb] at hvb
  subst hvb
  obtain ⟨am, cm, hvm, _⟩ := hM
  obtain ⟨nm, hnm⟩ : ∃ n, n = ms.length := ⟨_, rfl⟩
  rw [← hnm] at hvm
  subst hvm
  clear hG hB hnb hnm hMB hd hob K1
  go_enter Tryz.func147, Tryz.ntmps147
  go_wp2_with fail
  refine (unhide HI).mono ?_
  rintro ee w1 ⟨rfl, hw⟩
  subst w1
  go_wp2_with fail
  refine (unhide HK).mono ?_
  rintro ee w1 ⟨rfl, hw⟩
  subst w1
  go_wp2_with fail
  refine (unhide HC).mono ?_
  rintro ee w2 ⟨a2, m2, c2, rfl, A2⟩
  have HA2 := hide (A2.after (unhide HK1))
  have HL2 : Hid (∃ l, Lists w2 (.slice a2 m2 c2) l ∧ l.map (·.2) = sgnP bs i d ∧ (∀ q, (Value.slice a2 m2 c2).ownBlock = some q → w.heap.size < q) ∧ ∀ x ∈ l, ∀ q, x.1.ownBlock = some q → w.heap.size < q) := by
    obtain ⟨l, h1, h2, _⟩ := A2
    have hz : ∀ o : Obj, (w.alloc o).heap.size = w.heap.size + 1 := fun o => by simp
    refine ⟨l, h1.lists (by rw [← List.length_map (f := (·.2)), h2, sgnP, ptsP_len]; omega), h2, fun q hq => ?_, fun x hx q hq => ?_⟩
    · have := h1.1.own q hq; rw [hz] at this; omega
    · have := (h1.2 x hx).1.own q hq; rw [hz] at this; omega
  have HG2 : Hid (w2.heap[w.heap.size]? = some (.cells #[.int .i64 0, .slice none 0 0, .slice none 0 0] 70)) := A2.kp.heap (heap_alloc_new w _) (by simp)
  have HP := hide (pathOf_any (.slice ab nb cb) bs i w2 ((unhide HS).kept (unhide HA2).kp (by simp)) (unhide HB) (by omega) hi ((unhide HG).kept (unhide HA2).kp (by simp)))
  clear HI HK HC A2 HK1
  go_wp2_with fail
  refine (unhide HP).mono ?_
  rintro ee w3 ⟨a3, m3, c3, rfl, A3⟩
  have HA3 := hide A3
  have HG3 : w3.heap[w.heap.size]? = some (.cells #[.int .i64 0, .slice none 0 0, .slice none 0 0] 70) := A3.kp.heap (unhide HG2) (by simp)
  have HG2' := unhide HG2
  clear HP A3 HG2
  go_wp2_with (refine wpList_store_sig rfl (.tmp 6) (.tmp 24) rfl w.heap.size rfl _ _ _ _ _ _ HG3 rfl ⟨rfl, rfl, rfl⟩ ?_; intro w4 G4 K4)
  have HK4 : Hid (Kp [] w w4) := (((unhide HA2).kp).trans (unhide HA3).kp).then K4 (by simp)
  have hlt : w.heap.size < w3.heap.size := (Array.getElem?_eq_some_iff.1 HG3).1
  have hsz2 : w.heap.size < w2.heap.size := (Array.getElem?_eq_some_iff.1 HG2').1
  have HV : Hid (SigA w.heap.size w4 (.agg #[.int .i64 i, .slice a2 m2 c2, .slice a3 m3 c3]) i (sgnP bs i d) (pthP bs i 4)) := by
    intro S5 w5 hS5 k5
    have K5 : Kp (w.heap.size :: S5) w3 w5 := (K4.mono (by simp)).trans (k5.mono (by simp; intro x hx; exact .inr hx))
    have hn : ∀ q ∈ w.heap.size :: S5, q ≤ w.heap.size := fun q hq => by rcases List.mem_cons.1 hq with e | e; exact Nat.le_of_eq e; exact Nat.le_of_lt (hS5 q e)
    obtain ⟨lp, h1, h2, h3, h4⟩ := unhide HL2
    obtain ⟨lq, g1, g2, g3, g4⟩ := (unhide HA3).lists (by rw [pthP_len]; omega)
    refine ⟨_, _, lp, lq, rfl, (h1.kept (unhide HA3).kp).off K5 (fun q hq hm => by have := h3 q hq; have := hn q hm; omega) (fun y hy q hq hm => by have := h4 y hy q hq; have := hn q hm; omega), h2, g1.off K5 (fun q hq hm => ?_) (fun y hy q hq hm => ?_), g2⟩
    · have := g3 q hq; have := hn q hm; omega
    · have := g4 y hy q hq; have := hn q hm; omega
  refine bodyPost_ret (results_sig rfl _ _ w.heap.size _ _ _ (0, 0) rfl G4) rfl ?_
  exact ⟨_, rfl, unhide HV, unhide HK4⟩
end Go.Proofs.YtillhpgdlmeajaaGreatDoor

/-
  The contracts of package sign's readHashes and Decode.
-/
namespace Go.Proofs.YtillhpgdlmeajaaGreatDoor
open Go.RowKit
open Go.Proofs
/-- a block that is no part of it changes. -/
theorem AccS.off {S : List Nat} {F : Nat → Prop} {w wr w2 : World} {ls : List (List Int)} {v : Value} {q : Nat} (h : AccS S F w ls v wr) (k : Kp [q] wr w2) (hq : q ∈ S) (hF : ∀ i, F i → i ≠ q) (hlt : q < w.heap.size) : AccS S F w ls v w2 := by
  obtain ⟨l, ⟨h1, h1'⟩, h2, h3, h4⟩ := h
  refine ⟨l, ⟨h1.kept k (fun i hi => ?_), fun x hx => ⟨(h1' x hx).1.kept k (fun i hi => by simpa using hF i (h4 x hx i hi)), (h1' x hx).2⟩⟩, h2, h3.trans (k.mono (by simpa using hq)), h4⟩
  have := h1.own i hi
  simp; omega
theorem Lists.old {w w' : World} {v : Value} {l : List (Value × List Int)} {S : List Nat} (h : Lists w v l) (k : Kp S w w') (hS : ∀ q ∈ S, w.heap.size ≤ q) : Lists w' v l := by
  obtain ⟨ao, c, rfl, h1, h2⟩ := h
  refine ⟨ao, c, rfl, h1, fun i hi => ?_⟩
  obtain ⟨b, off, e, h3, h4, h5⟩ := h2 i hi
  subst e
  have hb := World.block_lt_of_cell? _ _ h3
  exact ⟨b, off, rfl, k.cell h3 (fun hm => by have := hS _ hm; simp at this hb; omega), h4.old k (fun i _ hlt hm => by have := hS _ hm; omega), h5⟩
theorem SigV.old {w w' : World} {v : Value} {i : Int} {ps qs : List (List Int)} {S : List Nat} (h : SigV w v i ps qs) (k : Kp S w w') (hS : ∀ q ∈ S, w.heap.size ≤ q) : SigV w' v i ps qs := by
  obtain ⟨vp, vq, lp, lq, e, h1, h2, h3, h4⟩ := h
  exact ⟨vp, vq, lp, lq, e, h1.old k hS, h2, h3.old k hS, h4⟩
end Go.Proofs.YtillhpgdlmeajaaGreatDoor

/-
  Chapter 10 as plain functions: checkpoints that are right, their bodies, what is laid down of signed ones, what is read.
-/
namespace Go.Proofs.YtillhpgdlmeajaaGreatDoor
open Go.RowKit
open Go.Proofs
/-- a signed checkpoint: its size, its root, its signature's number, parts and path. -/
structure Sg where
  n : Int
  r : List Int
  i : Int
  ps : List (List Int)
  qs : List (List Int)
/-- what is signed with a seed's key. -/
def sgnC (seed : List Int) (i : Nat) (n : Int) (r : List Int) : Sg := ⟨n, r, i, sgnP seed i (digP (bodC n r)), pthP seed i 4⟩
theorem letC_len : letC.length = 16 := rfl
theorem letC_bs : Bs letC := by
  intro b hb
  simp only [letC, List.mem_cons, List.not_mem_nil, or_false] at hb
  omega
theorem bodC_yes {n : Int} {r : List Int} (h : rgtC n r = true) : bodC n r = letC ++ (be4 n ++ r) := by unfold bodC; rw [if_pos h]
theorem bodC_no {n : Int} {r : List Int} (h : rgtC n r = false) : bodC n r = [] := by unfold bodC; rw [h]; rfl
theorem bodC_len {n : Int} {r : List Int} (h : rgtC n r = true) : (bodC n r).length = 52 := by
  rw [bodC_yes h]
  have := ((rgtC_iff n r).1 h).2
  simp only [List.length_append, letC_len, be4_len, this]
theorem bodC_le (n : Int) (r : List Int) : (bodC n r).length ≤ 52 := by
  cases h : rgtC n r with
  | true => rw [bodC_len h]; omega
  | false => rw [bodC_no h]; simp
theorem bodC_bs (n : Int) (r : List Int) (h : Bs r) : Bs (bodC n r) := by
  cases h' : rgtC n r with
  | true => rw [bodC_yes h']; exact letC_bs.append ((be4_bs n).append h)
  | false => rw [bodC_no h']; intro b hb; cases hb
/-- the number, the root and the signature's bytes, as a reader gives them. -/
def g1 (s : Bool × List Int) : List Int × Bool × List Int := tk s.1 s.2 4
def g2 (s : Bool × List Int) : List Int × Bool × List Int := tk (g1 s).2.1 (g1 s).2.2 32
def g3 (s : Bool × List Int) : List Int × Bool × List Int := tk (g2 s).2.1 (g2 s).2.2 2180
end Go.Proofs.YtillhpgdlmeajaaGreatDoor

/-
  The contracts of package check's write and Body.
-/
namespace Go.Proofs.YtillhpgdlmeajaaGreatDoor
open Go.RowKit
open Go.Proofs
set_option maxRecDepth 100000 in
set_option maxHeartbeats 1000000 in
theorem ckwrite_any (p : Nat) (v : Value) (bs : List Int) (vc : Value) (n : Int) (r : List Int) (w : World) (hw : Wr w p v bs) (hC : CkV w vc n r) (hk : ∀ w1, Kp (p :: v.ownBlock.toList) w w1 → CkV w1 vc n r) (hr : rgtC n r = true) (hb : bs.length ≤ 1000000) :
    Calls Tryz.prog 167 #[.pointer (some ⟨p, 0, none⟩), vc] w fun e w' => e = .returned (.tuple #[]) ∧ ∃ v', Wr w' p v' (bs ++ (be4 n ++ r)) ∧ Step p w v w' v' := by
  obtain ⟨a, m, c, rfl, -, -⟩ := hC
  obtain ⟨⟨h0, h1⟩, hl⟩ := (rgtC_iff n r).1 hr
  obtain ⟨w1, hw1⟩ : ∃ w1, w1 = w.alloc (.cells #[.int .i64 n, .slice a m c] 68) := ⟨_, rfl⟩
  have K1 : Kp [] w w1 := by rw [hw1]; exact (Kp.refl [] w).alloc _
  have G1 : w1.heap[w.heap.size]? = some (.cells #[.int .i64 n, .slice a m c] 68 (0, 0)) := by rw [hw1]; exact heap_alloc_new w _
  have HN := hide (num_any p n v bs w1 (hw.kept K1 (by simp) (by simp)) (by omega))
  have hwrap : IntKind.u32.wrap n = n := by simp [IntKind.wrap, IntKind.signed, IntKind.bits]; omega
  have HP := hide hw.lt
  have HV := hide hw.vlt
  have HK := hide hk
  have HK1 := hide K1
  have HG1 := hide G1
  have HW1 := hide hw1
  have HL := hide hl
  have HBL := hide hb
  clear hw1 K1 G1 hw hk hr hl hb
  go_enter Tryz.func167, Tryz.ntmps167
  go_wp2_with fail
  rw [← unhide HW1]
  refine (unhide HN).mono ?_
  rintro ee w2 ⟨rfl, v2, W2, S2⟩
  have hni : w.heap.size ∉ p :: v.ownBlock.toList := by
    intro hm
    simp only [List.mem_cons, Option.mem_toList] at hm
    rcases hm with e | e
    · have := unhide HP; omega
    · have := unhide HV _ e; omega
  have G2 := S2.1.heap (unhide HG1) hni
  have e1 : w2.cell? ⟨w.heap.size, 1, none⟩ = some (.slice a m c) := by rw [cell_of_row w2 w.heap.size 1 _ _ _ G2]; rfl
  have K2 : Kp (p :: v.ownBlock.toList) w w2 := ((unhide HK1).mono (by simp)).trans S2.1
  have HR := hide (raw_any p v2 _ (.slice a m c) r w2 W2 (unhide HK w2 K2).sl (by have := unhide HL; have := unhide HBL; rw [List.length_append, be_length]; omega))
  have HS2 : Hid (Step p w v w2 v2) := ⟨K2, fun k hk => (S2.2 k hk).elim .inl (fun h => .inr (Nat.le_trans (unhide HK1).size h))⟩
  clear HN W2 S2 hni G2 K2
  go_wp2_with fail
  refine (unhide HR).mono ?_
  rintro ee w3 ⟨rfl, v3, W3, S3⟩
  have HW3 := hide W3
  have HS3 := hide S3
  clear W3 S3 HR
  go_wp2_with fail
  go_end0
  refine ⟨rfl, v3, ?_, (unhide HS2).trans (unhide HS3)⟩
  have := unhide HW3
  rw [be_4, List.append_assoc] at this
  exact this
set_option maxRecDepth 100000 in
set_option maxHeartbeats 1000000 in
theorem ckbody_any (vc : Value) (n : Int) (r B : List Int) (hB : B = bodC n r) (w : World) (hC : CkV w vc n r) :
    Calls Tryz.prog 148 #[vc] w fun e w' => ∃ ao m c, e = .returned (.slice ao m c) ∧ Sl w' (.slice ao m c) B ∧ Kp [] w w' := by
  have HC := hide hC
  obtain ⟨a, m, c, rfl, -, -⟩ := hC
  obtain ⟨w1, hw1⟩ : ∃ w1, w1 = w.alloc (.cells #[.int .i64 n, .slice a m c] 68) := ⟨_, rfl⟩
  have K1 : Kp [] w w1 := by rw [hw1]; exact (Kp.refl [] w).alloc _
  have G1 : w1.heap[w.heap.size]? = some (.cells #[.int .i64 n, .slice a m c] 68 (0, 0)) := by rw [hw1]; exact heap_alloc_new w _
  obtain ⟨b, hb⟩ : ∃ b, b = rgtC n r := ⟨_, rfl⟩
  have hl1 := load_whole (T := 68) G1 Tryz.underlying68 rfl Tryz.chkSize
  have HR := hide (ckright_any _ n r b hb w1 ((unhide HC).kept K1))
  rw [hw1] at hl1
  have HK1 := hide K1
  have HG1 := hide G1
  have HW1 := hide hw1
  have HBB := hide hB
  have Hb := hide hb
  clear hw1 K1 G1 hB hb
  cases b
  · go_enter Tryz.func148, Tryz.ntmps148
    go_wp2_with fail
    rw [← unhide HW1]
    refine (unhide HR).mono ?_
    rintro ee w2 ⟨rfl, K2⟩
    have HK2 := hide ((unhide HK1).trans K2)
    clear K2 HR hl1
    go_wp2_with fail
    go_ret
    exact ⟨none, 0, 0, rfl, by rw [unhide HBB, bodC_no (unhide Hb).symm]; exact Sl.nil _, unhide HK2⟩
  · go_enter Tryz.func148, Tryz.ntmps148
    go_wp2_with fail
    rw [← unhide HW1]
    refine (unhide HR).mono ?_
    rintro ee w2 ⟨rfl, K2⟩
    have HK2 := hide ((unhide HK1).trans K2)
    have HG2 := hide (K2.heap (unhide HG1) (by simp))
    clear K2 HR hl1
    go_wp2_with fail
    refine (new_abs w2).mono ?_
    rintro ee w3 ⟨p, rfl, W3, hp3, K3⟩
    obtain ⟨ol, hol⟩ : ∃ o : Array Value, o = #[.int .u8 98, .int .u8 114, .int .u8 111, .int .u8 97, .int .u8 100, .int .u8 115, .int .u8 104, .int .u8 101, .int .u8 101, .int .u8 116, .int .u8 32, .int .u8 99, .int .u8 104, .int .u8 101, .int .u8 99, .int .u8 107] := ⟨_, rfl⟩
    obtain ⟨w4, hw4⟩ : ∃ w4, w4 = w3.alloc (.cells ol 5 (16, 17)) := ⟨_, rfl⟩
    have K4 : Kp [] w3 w4 := by rw [hw4]; exact (Kp.refl [] w3).alloc _
    have S4 : Sl w4 (.slice (some ⟨w3.heap.size, 0, none⟩) 16 16) letC := by
      rw [hw4, hol]
      exact Sl.block (cs := letC) (t := 5) (fr := (16, 17)) (heap_alloc_new w3 _) (by simp [maxLen, letC])
    have HRw := hide (raw_any p _ [] (.slice (some ⟨w3.heap.size, 0, none⟩) 16 16) letC w4 (W3.kept K4 (by simp) (by simp)) S4 (by simp [letC]))
    have HW3 : Hid (Wn w2 w4 p (.slice none 0 0) []) := Wn.kept ⟨W3, K3, hp3, fun k hk => by cases hk⟩ K4
    rw [hol] at hw4
    have HW4 := hide hw4
    have kc := Lib.run_convert_bytes_const (P := Tryz.prog) w3 22 5 #[.int .u8 98, .int .u8 114, .int .u8 111, .int .u8 97, .int .u8 100, .int .u8 115, .int .u8 104, .int .u8 101, .int .u8 101, .int .u8 116, .int .u8 32, .int .u8 99, .int .u8 104, .int .u8 101, .int .u8 99, .int .u8 107] 16 16 Tryz.underlying22 Tryz.underlying5
    simp only [List.size_toArray, List.length_cons, List.length_nil, Nat.zero_add, Nat.reduceAdd] at kc
    clear W3 K3 hp3 hol K4 S4 hw4
    go_wp2_with fail
    rw [← unhide HW4]
    refine (unhide HRw).mono ?_
    rintro ee w5 ⟨rfl, v5, W5, S5⟩
    have HW5 := hide ((unhide HW3).step W5 S5)
    rw [List.nil_append] at HW5
    have G5 := (unhide HW5).2.1.heap (unhide HG2) (by simp)
    have e0 : w5.cell? ⟨w.heap.size, 0, none⟩ = some (.int .i64 n) := by rw [cell_of_row w5 w.heap.size 0 _ _ _ G5]; rfl
    have e1 : w5.cell? ⟨w.heap.size, 1, none⟩ = some (.slice a m c) := by rw [cell_of_row w5 w.heap.size 1 _ _ _ G5]; rfl
    have C5 := ((unhide HC).kept (unhide HK2)).kept (unhide HW5).2.1
    have HWr := hide (ckwrite_any p v5 letC _ n r w5 (unhide HW5).1 C5 (fun w' k' => ((unhide HC).kept (unhide HK2)).kept ((unhide HW5).kp k')) (unhide Hb).symm (by simp [letC]))
    clear W5 S5 HRw HW4 kc C5 G5
    go_wp2_with fail
    refine (unhide HWr).mono ?_
    rintro ee w6 ⟨rfl, v6, W6, S6⟩
    have HW6 := hide ((unhide HW5).step W6 S6)
    rw [← bodC_yes (unhide Hb).symm, ← unhide HBB] at HW6
    have HD := hide (done_any p v6 _ w6 (unhide HW6).1 (by rw [unhide HBB]; have := bodC_le n r; omega))
    obtain ⟨mB, hmB⟩ : ∃ k, k = B.length := ⟨_, rfl⟩
    rw [← hmB] at HD
    clear W6 S6 HWr e0 e1 hmB
    go_wp2_with fail
    refine (unhide HD).mono ?_
    rintro ee w7 ⟨a7, c7, rfl, R7, K7⟩
    have HS7 := hide (Sl.of_owns R7)
    have HK7 := hide (((unhide HK2).trans (unhide HW6).2.1).trans K7)
    clear R7 K7 HD
    go_wp2_with fail
    go_ret
    exact ⟨a7, mB, c7, rfl, unhide HS7, unhide HK7⟩
end Go.Proofs.YtillhpgdlmeajaaGreatDoor

/-
  The reference's owners: their contracts New, Public, Sign.
-/
namespace Go.Proofs.YtillhpgdlmeajaaGreatDoor
open Go.RowKit
open Go.Proofs
/-- a row of the call's own of slices of slices. -/
def RowL (w : World) (base : Nat) (v : Value) (xs : List Value) : Prop := w.ownsRow base 33 1 v xs.length xs
theorem RowL.shape {w : World} {base : Nat} {v : Value} {xs : List Value} (h : RowL w base v xs) : ∃ ao c, v = .slice ao xs.length c := owns_shape h
theorem RowL.own {w : World} {base : Nat} {v : Value} {xs : List Value} (h : RowL w base v xs) : ∀ k, v.ownBlock = some k → base ≤ k ∧ k < w.heap.size := by
  intro k hk
  rcases h.2 with ⟨rfl, _⟩ | ⟨g, cap, cur, rfl, hb, hg, _⟩
  · cases hk
  · cases hk; exact ⟨hb, (Array.getElem?_eq_some_iff.1 hg).1⟩
theorem RowL.kept {w w' : World} {base : Nat} {v : Value} {xs : List Value} {S : List Nat} (h : RowL w base v xs) (k : Kp S w w') (hv : ∀ i, v.ownBlock = some i → i ∉ S) : RowL w' base v xs := k.owns h hv
theorem RowL.at {w : World} {base : Nat} {v : Value} {xs : List Value} (h : RowL w base v xs) (h0 : 0 < xs.length) : ∃ g c, v = .slice (some ⟨g, 0, none⟩) xs.length c ∧ ∀ i (hi : i < xs.length), w.cell? ⟨g, i, none⟩ = some xs[i] := by
  rcases h.2 with ⟨h', h1⟩ | ⟨g, cap, cur, h', hb, hg, _⟩
  · omega
  · subst h'
    have h1 : w.ownsRow base 33 1 (.slice (some ⟨g, 0, none⟩) xs.length cap) xs.length xs := h
    exact ⟨g, cap, rfl, fun i hi => by rw [h1.cellAt i (by omega)]; simp [List.getElem?_eq_getElem hi]⟩
/-- a level of nodes that lies apart from the block g and from pv. -/
def Lo (g : Nat) (pv : Value) (w : World) (x : Value) (ls : List (List Int)) : Prop :=
  ∃ ao n c l, x = .slice ao n c ∧ Lists w x l ∧ l.map (·.2) = ls ∧ ∀ q, (x.ownBlock = some q ∨ ∃ y ∈ l, y.1.ownBlock = some q) → q < w.heap.size ∧ g < q ∧ pv.ownBlock ≠ some q
theorem Lo.kept {g : Nat} {pv x : Value} {w w' : World} {ls : List (List Int)} (h : Lo g pv w x ls) (k : Kp [] w w') : Lo g pv w' x ls := by
  obtain ⟨ao, n, c, l, e, h1, h2, h3⟩ := h
  exact ⟨ao, n, c, l, e, h1.kept k, h2, fun q hq => ⟨Nat.lt_of_lt_of_le (h3 q hq).1 k.size, (h3 q hq).2⟩⟩
theorem Lo.step {g : Nat} {pv pv' x : Value} {w w' : World} {ls : List (List Int)} (h : Lo g pv w x ls) (s : RStep w pv w' pv') : Lo g pv' w' x ls := by
  obtain ⟨ao, n, c, l, e, h1, h2, h3⟩ := h
  refine ⟨ao, n, c, l, e, h1.off s.1 (fun q hq hm => (h3 q (.inl hq)).2.2 (by simpa using hm)) (fun y hy q hq hm => (h3 q (.inr ⟨y, hy, hq⟩)).2.2 (by simpa using hm)), h2, fun q hq => ⟨Nat.lt_of_lt_of_le (h3 q hq).1 s.1.size, (h3 q hq).2.1, fun e' => ?_⟩⟩
  rcases s.2 q e' with h5 | h5
  · exact (h3 q hq).2.2 h5
  · have := (h3 q hq).1; omega
theorem Lo.store {g : Nat} {pv x : Value} {w w' : World} {ls : List (List Int)} (h : Lo g pv w x ls) (k : Kp [g] w w') : Lo g pv w' x ls := by
  obtain ⟨ao, n, c, l, e, h1, h2, h3⟩ := h
  exact ⟨ao, n, c, l, e, h1.off k (fun q hq hm => by have := (h3 q (.inl hq)).2.1; simp at hm; omega) (fun y hy q hq hm => by have := (h3 q (.inr ⟨y, hy, hq⟩)).2.1; simp at hm; omega), h2, fun q hq => ⟨Nat.lt_of_lt_of_le (h3 q hq).1 k.size, (h3 q hq).2⟩⟩
theorem Lo.of_acc {g : Nat} {pv : Value} {w1 w2 : World} {ao : Option Addr} {n c : Nat} {ls : List (List Int)} (h : Acc w1 ls (.slice ao n c) w2) (hl : ls.length ≤ 1000) (hg : g < w1.heap.size) (hp : ∀ q, pv.ownBlock = some q → q < w1.heap.size) : Lo g pv w2 (.slice ao n c) ls := by
  obtain ⟨l, h1, h2, h3⟩ := h
  refine ⟨ao, n, c, l, rfl, h1.lists (by rw [← List.length_map (f := (·.2)), h2]; exact hl), h2, fun q hq => ?_⟩
  have hq2 : w1.heap.size ≤ q ∧ q < w2.heap.size := by
    rcases hq with hq | ⟨y, hy, hq⟩
    · exact ⟨h1.1.own q hq, h1.1.lt hq⟩
    · exact ⟨(h1.2 y hy).1.own q hq, (h1.2 y hy).1.lt hq⟩
  exact ⟨hq2.2, by omega, fun e => by have := hp q e; omega⟩
theorem Lo.lists {g : Nat} {pv x : Value} {w : World} {ls : List (List Int)} (h : Lo g pv w x ls) : ∃ l, Lists w x l ∧ l.map (·.2) = ls := by
  obtain ⟨_, _, _, l, _, h1, h2, _⟩ := h
  exact ⟨l, h1, h2⟩
/-- an owner at block g, its seed's slice, its first n levels. -/
def OwS (sa : Option Addr) (sn sc : Nat) (w : World) (base g : Nat) (bs : List Int) (n : Nat) : Prop :=
  ∃ lv xs, w.heap[g]? = some (.cells #[.slice sa sn sc, lv] 186 (0, 0)) ∧ (Sl w (.slice sa sn sc) bs ∧ ∀ q, (Value.slice sa sn sc).ownBlock = some q → q ≠ g ∧ lv.ownBlock ≠ some q) ∧ RowL w base lv xs ∧ g < base ∧ xs.length = n ∧ ∀ h (hh : h < xs.length), Lo g lv w xs[h] (lvP bs h)
theorem OwS.kept {sa : Option Addr} {sn sc : Nat} {w w' : World} {base g n : Nat} {bs : List Int} (h : OwS sa sn sc w base g bs n) (k : Kp [] w w') : OwS sa sn sc w' base g bs n := by
  obtain ⟨lv, xs, h1, h2, h3, h4, h5, h6⟩ := h
  exact ⟨lv, xs, k.heap h1 (by simp), ⟨h2.1.kept k (by simp), h2.2⟩, h3.kept k (by simp), h4, h5, fun h hh => (h6 h hh).kept k⟩
/-- an owner at block g, its first n levels. -/
def Ow (w : World) (base g : Nat) (bs : List Int) (n : Nat) : Prop := ∃ sa sn sc, OwS sa sn sc w base g bs n
theorem Ow.kept {w w' : World} {base g n : Nat} {bs : List Int} (h : Ow w base g bs n) (k : Kp [] w w') : Ow w' base g bs n := by
  obtain ⟨sa, sn, sc, h1⟩ := h
  exact ⟨sa, sn, sc, h1.kept k⟩
/-- it stays, whatever becomes of older blocks. -/
theorem OwS.apart {sa : Option Addr} {sn sc : Nat} {w w' : World} {base g n b : Nat} {bs : List Int} {S : List Nat} (h : OwS sa sn sc w base g bs n) (hg : b ≤ g) (hs : ∀ q, (Value.slice sa sn sc).ownBlock = some q → b ≤ q) (hS : ∀ q ∈ S, q < b) (k : Kp S w w') : OwS sa sn sc w' base g bs n := by
  obtain ⟨lv, xs, h1, h2, h3, h4, h5, h6⟩ := h
  refine ⟨lv, xs, k.heap h1 (fun hm => by have := hS g hm; omega), ⟨h2.1.kept k (fun q hq hm => by have := hS q hm; have := hs q hq; omega), h2.2⟩, h3.kept k (fun q hq hm => by have := hS q hm; have := (h3.own q hq).1; omega), h4, h5, fun h hh => ?_⟩
  obtain ⟨ao, n', c, l, e, k1, k2, k3⟩ := h6 h hh
  exact ⟨ao, n', c, l, e, k1.off k (fun q hq hm => by have := hS q hm; have := (k3 q (.inl hq)).2.1; omega) (fun y hy q hq hm => by have := hS q hm; have := (k3 q (.inr ⟨y, hy, hq⟩)).2.1; omega), k2, fun q hq => ⟨Nat.lt_of_lt_of_le (k3 q hq).1 k.size, (k3 q hq).2⟩⟩
end Go.Proofs.YtillhpgdlmeajaaGreatDoor

/-
  The contracts of the reference's owner's Public, and of its Right.
-/
namespace Go.Proofs.YtillhpgdlmeajaaGreatDoor
open Go.RowKit
open Go.Proofs
theorem Ow.open {w : World} {base g : Nat} {bs : List Int} (h : Ow w base g bs 5) : ∃ sa sn sc gl c, w.cell? ⟨g, 0, none⟩ = some (.slice sa sn sc) ∧ w.cell? ⟨g, 1, none⟩ = some (.slice (some ⟨gl, 0, none⟩) 5 c) ∧ Sl w (.slice sa sn sc) bs ∧ (∀ h, h < 5 → ∃ al nl cl l, w.cell? ⟨gl, h, none⟩ = some (.slice al nl cl) ∧ Lists w (.slice al nl cl) l ∧ l.map (·.2) = lvP bs h) := by
  obtain ⟨sa, sn, sc, lv, xs, h1, h2, h3, _, h5, h6⟩ := h
  obtain ⟨gl, c, e, hc⟩ := h3.at (by omega)
  rw [h5] at e
  subst e
  refine ⟨sa, sn, sc, gl, c, by rw [cell_of_row w g 0 _ _ _ h1]; rfl, by rw [cell_of_row w g 1 _ _ _ h1]; rfl, h2.1, fun h hh => ?_⟩
  have hx := hc h (by omega)
  obtain ⟨ao, n, c', l, e, k1, k2, _⟩ := h6 h (by omega)
  rw [e] at hx k1
  exact ⟨ao, n, c', l, hx, k1, k2⟩
theorem Ow.openA {w : World} {base g : Nat} {bs : List Int} (h : Ow w base g bs 5) : ∃ sa sn sc gl c, w.cell? ⟨g, 0, none⟩ = some (.slice sa sn sc) ∧ w.cell? ⟨g, 1, none⟩ = some (.slice (some ⟨gl, 0, none⟩) 5 c) ∧ Sl w (.slice sa sn sc) bs ∧ (∀ h, h < 5 → ∃ al nl cl l, w.cell? ⟨gl, h, none⟩ = some (.slice al nl cl) ∧ Lists w (.slice al nl cl) l ∧ l.map (·.2) = lvP bs h ∧ ∀ y ∈ l, ∀ q, y.1.ownBlock = some q → g < q) := by
  obtain ⟨sa, sn, sc, lv, xs, h1, h2, h3, _, h5, h6⟩ := h
  obtain ⟨gl, c, e, hc⟩ := h3.at (by omega)
  rw [h5] at e
  subst e
  refine ⟨sa, sn, sc, gl, c, by rw [cell_of_row w g 0 _ _ _ h1]; rfl, by rw [cell_of_row w g 1 _ _ _ h1]; rfl, h2.1, fun h hh => ?_⟩
  have hx := hc h (by omega)
  obtain ⟨ao, n, c', l, e, k1, k2, k3⟩ := h6 h (by omega)
  rw [e] at hx k1
  exact ⟨ao, n, c', l, hx, k1, k2, fun y hy q hq => (k3 q (.inr ⟨y, hy, hq⟩)).2.1⟩
theorem lists_atA {w : World} {ao : Option Addr} {n c : Nat} {l : List (Value × List Int)} {ls : List (List Int)} (hL : Lists w (.slice ao n c) l) (he : l.map (·.2) = ls) (i : Nat) (hi : i < ls.length) :
    ∃ b off ax nx cx, ao = some ⟨b, off, none⟩ ∧ w.cell? ⟨b, off + i, none⟩ = some (.slice ax nx cx) ∧ Sl w (.slice ax nx cx) (ls.getD i []) ∧ Bs (ls.getD i []) ∧ ∃ y ∈ l, y.1 = .slice ax nx cx := by
  subst he
  obtain ⟨ao', c', e, _, h2⟩ := hL
  have hi2 : i < l.length := by simpa using hi
  obtain ⟨b, off, e2, h3, h4, h5⟩ := h2 i hi2
  injection e with e0
  subst e0
  have hg : (l.map (·.2)).getD i [] = l[i].2 := by simp [List.getD, hi2]
  rw [hg]
  obtain ⟨ax, cx, e4, _⟩ := id h4
  have e5 : ∃ y ∈ l, y.1 = .slice ax l[i].2.length cx := ⟨l[i], List.getElem_mem hi2, e4⟩
  rw [e4] at h3 h4
  exact ⟨b, off, ax, _, cx, e2, h3, h4, h5, e5⟩
end Go.Proofs.YtillhpgdlmeajaaGreatDoor

/-
  The contract of the reference's owner's Sign.
-/
namespace Go.Proofs.YtillhpgdlmeajaaGreatDoor
open Go.RowKit
open Go.Proofs
theorem Ow.lv {w : World} {base g : Nat} {bs : List Int} (hO : Ow w base g bs 5) : ∃ sa sn sc gl c, w.cell? ⟨g, 0, none⟩ = some (.slice sa sn sc) ∧ w.cell? ⟨g, 1, none⟩ = some (.slice (some ⟨gl, 0, none⟩) 5 c) ∧ Sl w (.slice sa sn sc) bs ∧ ∀ h, h < 5 → ∀ j, j < (lvP bs h).length → ∃ b off nl cl ax nx cx, w.cell? ⟨gl, h, none⟩ = some (.slice (some ⟨b, off, none⟩) nl cl) ∧ nl = (lvP bs h).length ∧ w.cell? ⟨b, off + j, none⟩ = some (.slice ax nx cx) ∧ Sl w (.slice ax nx cx) ((lvP bs h).getD j []) ∧ Bs ((lvP bs h).getD j []) ∧ ∀ q, (Value.slice ax nx cx).ownBlock = some q → g < q ∧ q < w.heap.size := by
  obtain ⟨sa, sn, sc, gl, c, h0, h1, h2, h3⟩ := hO.openA
  refine ⟨sa, sn, sc, gl, c, h0, h1, h2, fun h hh j hj => ?_⟩
  obtain ⟨al, nl, cl, l, k1, k2, k3, k4⟩ := h3 h hh
  obtain ⟨b, off, ay, ny, cy, rfl, hc, hS, hB, y, hy, ey⟩ := lists_atA k2 k3 j hj
  have hn : nl = (lvP bs h).length := by
    obtain ⟨ao', c', e, _⟩ := k2
    injection e with _ e2
    rw [e2, ← List.length_map (f := (·.2)), k3]
  refine ⟨b, off, nl, cl, ay, ny, cy, k1, hn, hc, hS, hB, fun q hq => ⟨k4 y hy q (by rw [ey]; exact hq), hS.lt (fun e => ?_) q hq⟩⟩
  have := (lvP_all bs h _ (getD_mem hj)).1
  rw [e] at this
  cases this
end Go.Proofs.YtillhpgdlmeajaaGreatDoor

/-
  Checkpoints (api.Checkpoint) and signed ones (api.Signed) as values and in memory.
-/
namespace Go.Proofs.YtillhpgdlmeajaaGreatDoor
open Go.RowKit
open Go.Proofs
theorem Tryz.sgdSize : (Tryz.prog.info? 72).map (·.size) = some 5 := by kernel_rfl
/-- v is the signed checkpoint s. -/
def SgV (w : World) (v : Value) (s : Sg) : Prop := ∃ a m c vp vq, v = .agg #[.int .i64 s.n, .slice a m c, .int .i64 s.i, vp, vq] ∧ (Sl w (.slice a m c) s.r ∧ Bs s.r) ∧ SigV w (.agg #[.int .i64 s.i, vp, vq]) s.i s.ps s.qs
theorem SgV.kept {w w' : World} {v : Value} {s : Sg} (h : SgV w v s) (k : Kp [] w w') : SgV w' v s := by
  obtain ⟨a, m, c, vp, vq, e, h1, h2⟩ := h
  exact ⟨a, m, c, vp, vq, e, ⟨h1.1.kept k (by simp), h1.2⟩, h2.kept k⟩
theorem SgV.shape {w : World} {v : Value} {s : Sg} (h : SgV w v s) : ∃ a m c ap np cp aq nq cq, v = .agg #[.int .i64 s.n, .slice a m c, .int .i64 s.i, .slice ap np cp, .slice aq nq cq] ∧ (Sl w (.slice a m c) s.r ∧ Bs s.r) ∧ SigV w (.agg #[.int .i64 s.i, .slice ap np cp, .slice aq nq cq]) s.i s.ps s.qs := by
  obtain ⟨a, m, c, vp, vq, e, h1, h2⟩ := h
  obtain ⟨ap, np, cp, aq, nq, cq, lp, lq, e2, _⟩ := h2.shape
  simp only [Value.agg.injEq, Array.mk.injEq, List.cons.injEq, and_true, true_and] at e2
  obtain ⟨rfl, rfl⟩ := e2
  exact ⟨a, m, c, ap, np, cp, aq, nq, cq, e, h1, h2⟩
def sgd0 : Value := .agg #[.int .i64 0, .slice none 0 0, .int .i64 0, .slice none 0 0, .slice none 0 0]
theorem SgV.bs {w : World} {v : Value} {s : Sg} (h : SgV w v s) : Bs s.r ∧ (∀ x ∈ s.ps, Bs x) ∧ ∀ x ∈ s.qs, Bs x := by
  obtain ⟨a, m, c, vp, vq, e, h1, h2⟩ := h
  exact ⟨h1.2, h2.bs⟩
/-- a signed checkpoint that stays so, whatever becomes of the blocks below b. -/
def SgA (b : Nat) (w : World) (v : Value) (s : Sg) : Prop := ∀ (S : List Nat) (w2 : World), (∀ q ∈ S, q < b) → Kp S w w2 → SgV w2 v s
theorem SgA.v {b : Nat} {w : World} {v : Value} {s : Sg} (h : SgA b w v s) : SgV w v s := h [] w (by simp) (Kp.refl _ _)
theorem SgA.kept {b : Nat} {w w' : World} {v : Value} {s : Sg} {S : List Nat} (h : SgA b w v s) (hS : ∀ q ∈ S, q < b) (k : Kp S w w') : SgA b w' v s := fun S2 w2 h2 k2 =>
  h (S ++ S2) w2 (fun q hq => (List.mem_append.1 hq).elim (hS q) (h2 q)) ((k.mono (by simp; intro x hx; exact .inl hx)).trans (k2.mono (by simp; intro x hx; exact .inr hx)))
theorem SgA.low {b c : Nat} {w : World} {v : Value} {s : Sg} (h : SgA b w v s) (hc : c ≤ b) : SgA c w v s := fun S w2 h2 k2 => h S w2 (fun q hq => Nat.lt_of_lt_of_le (h2 q hq) hc) k2
end Go.Proofs.YtillhpgdlmeajaaGreatDoor

/-
  The contract of package check's Sign.
-/
namespace Go.Proofs.YtillhpgdlmeajaaGreatDoor
open Go.RowKit
open Go.Proofs
/-- a checkpoint whose root lies from B on. -/
def CkO (B : Nat) (n : Int) (r : List Int) : Tell := fun v w => ∃ a m c, v = .agg #[.int .i64 n, .slice a m c] ∧ Sl w (.slice a m c) r ∧ ∀ k, (Value.slice a m c).ownBlock = some k → B ≤ k
theorem stable_cko (B : Nat) (n : Int) (r : List Int) : Tell.stable (CkO B n r) := fun _ _ _ k ⟨a, m, c, e, h1, h2⟩ => ⟨a, m, c, e, h1.kept k (by simp), h2⟩
def SgO (B : Nat) (n : Int) (r : List Int) (x y z : Value) : Tell := fun v w => ∃ a m c, v = .agg #[.int .i64 n, .slice a m c, x, y, z] ∧ Sl w (.slice a m c) r ∧ ∀ k, (Value.slice a m c).ownBlock = some k → B ≤ k
theorem stable_sgo (B : Nat) (n : Int) (r : List Int) (x y z : Value) : Tell.stable (SgO B n r x y z) := fun _ _ _ k ⟨a, m, c, e, h1, h2⟩ => ⟨a, m, c, e, h1.kept k (by simp), h2⟩
theorem grown_bsgo {o : Oper} {a : Act} {w : World} {B : Nat} {n : Int} {r : List Int} {i : Int} {ap aq : Option Addr} {np cp nq cq : Nat} (x0 x1 : Operand) (ho : o.op = .build 72 #[(0, x0), (1, x1)]) (h0 : CkO B n r (a.eval x0) w) (h1 : a.eval x1 = .agg #[.int .i64 i, .slice ap np cp, .slice aq nq cq]) :
    grown Tryz.prog w (SgO B n r (.int .i64 i) (.slice ap np cp) (.slice aq nq cq)) ((execOp a.eval o).run Tryz.prog w) := by
  obtain ⟨ar, mr, cr, e, h2, h3⟩ := h0
  refine grown_run (v := .agg #[.int .i64 n, .slice ar mr cr, .int .i64 i, .slice ap np cp, .slice aq nq cq]) ?_ (Kp.refl _ _) ⟨ar, mr, cr, rfl, h2, h3⟩
  obtain ⟨ρ, hρ, _⟩ := eval_is a
  rw [hρ] at e h1 ⊢
  unfold execOp
  simp only [ho]
  simp [go_sem, e, h1]
set_option maxRecDepth 100000 in
set_option maxHeartbeats 4000000 in
theorem cksign_okA (vb : Value) (bs : List Int) (i : Nat) (vc : Value) (n : Int) (r : List Int) (w : World) (hS : Sl w vb bs) (hB : Bs bs) (hl : bs.length = 32) (hi : i < 16) (hC : CkV w vc n r) (hr : rgtC n r = true) (hG : Gl w) :
    Calls Tryz.prog 116 #[vb, .int .i64 i, vc] w fun e w' => ∃ v, e = .returned (.tuple #[v, .int .i64 0]) ∧ SgA w.heap.size w' v (sgnC bs i n r) ∧ Kp [] w w' := by
  have HB := hide hB
  have HLB := hide hl
  have HI := hide hi
  have HG := hide hG
  clear hB hl hi hG
  obtain ⟨ar, mr, cr, rfl, hSr, hBr⟩ := id hC
  have HS := hide hS
  obtain ⟨ab, cb, hvb, -⟩ := hS
  obtain ⟨nb, hnb⟩ : ∃ k, k = bs.length := ⟨_, rfl⟩
  rw [← hnb] at hvb
  subst hvb
  obtain ⟨w2, hw2⟩ : ∃ w2, w2 = (w.alloc (.cells #[.int .i64 n, .slice ar mr cr] 68)).alloc (.cells #[.int .i64 0, .slice none 0 0, .int .i64 0, .slice none 0 0, .slice none 0 0] 72) := ⟨_, rfl⟩
  obtain ⟨g1, hg1⟩ : ∃ g, g = w.heap.size := ⟨_, rfl⟩
  obtain ⟨g2, hg2⟩ : ∃ g, g = w.heap.size + 1 := ⟨_, rfl⟩
  have K2 : Kp [] w w2 := by rw [hw2]; exact ((Kp.refl [] w).alloc _).alloc _
  have G1 : w2.heap[g1]? = some (.cells #[.int .i64 n, .slice ar mr cr] 68 (0, 0)) := by rw [hw2, hg1]; exact heap_alloc2_old w _ _
  have G2 : w2.heap[g2]? = some (.cells #[.int .i64 0, .slice none 0 0, .int .i64 0, .slice none 0 0, .slice none 0 0] 72 (0, 0)) := by rw [hw2, hg2]; exact heap_alloc2_new w _ _
  have c0 : ((w.alloc (.cells #[.int .i64 n, .slice ar mr cr] 68)).alloc (.cells #[.int .i64 0, .slice none 0 0, .int .i64 0, .slice none 0 0, .slice none 0 0] 72)).cell? ⟨w.heap.size, 0, none⟩ = some (.int .i64 n) := by rw [← hw2, ← hg1, cell_of_row w2 g1 0 _ _ _ G1]; rfl
  have c1 : ((w.alloc (.cells #[.int .i64 n, .slice ar mr cr] 68)).alloc (.cells #[.int .i64 0, .slice none 0 0, .int .i64 0, .slice none 0 0, .slice none 0 0] 72)).cell? ⟨w.heap.size, 1, none⟩ = some (.slice ar mr cr) := by rw [← hw2, ← hg1, cell_of_row w2 g1 1 _ _ _ G1]; rfl
  have HCK0 : Hid (∀ w', Kp [] w w' → CkV w' (.agg #[.int .i64 n, .slice ar mr cr]) n r) := fun w' k' => hC.kept k'
  have HK2 := hide K2
  have HG1 := hide G1
  have HG2 := hide G2
  have HW2 := hide hw2
  have H1 := hide hg1
  have H2 := hide hg2
  have HBr := hide hBr
  have HR := hide (ckright_any _ n r true hr.symm w2 (hC.kept K2))
  have Hr := hide hr
  clear hSr hBr hC K2 G1 G2 hw2 hg1 hg2 hr hnb
  go_enter Tryz.func116, Tryz.ntmps116
  go_wp2_with fail
  rw [← unhide HW2, ← unhide H2, ← unhide H1]
  refine (unhide HR).mono ?_
  rintro ee w3 ⟨rfl, K3⟩
  have HK3 := hide ((unhide HK2).trans K3)
  have HG13 := hide (K3.heap (unhide HG1) (by simp))
  have G23 := K3.heap (unhide HG2) (by simp)
  clear HR c0 c1 HW2
  have d0 : w3.cell? ⟨g1, 0, none⟩ = some (.int .i64 n) := by rw [cell_of_row w3 g1 0 _ _ _ (unhide HG13)]; rfl
  have d1 : w3.cell? ⟨g1, 1, none⟩ = some (.slice ar mr cr) := by rw [cell_of_row w3 g1 1 _ _ _ (unhide HG13)]; rfl
  obtain ⟨B, hBo⟩ : ∃ B, B = bodC n r := ⟨_, rfl⟩
  have HBO := hide (ckbody_any _ n r B hBo w3 (unhide HCK0 w3 (unhide HK3)))
  have HBB := hide hBo
  have HG23 := hide G23
  clear K3 HK2 G23 hBo
  go_wp2_with fail
  refine (unhide HBO).mono ?_
  rintro ee w4 ⟨a4, m4, c4, rfl, S4, K4⟩
  have HK4 := hide ((unhide HK3).trans K4)
  have HG24 := hide (K4.heap (unhide HG23) (by simp))
  have HG14 := hide (K4.heap (unhide HG13) (by simp))
  have HSg := hide (ssign_anyA (.slice ab nb cb) bs i (.slice a4 m4 c4) B (digP B) rfl w4 ((unhide HS).kept (unhide HK4) (by simp)) (unhide HB) (unhide HLB) (unhide HI) S4 (by rw [unhide HBB]; exact bodC_bs n r (unhide HBr)) (by rw [unhide HBB]; have := bodC_le n r; omega) ((unhide HG).kept (unhide HK4) (by simp)))
  have hlt4 : g2 < w4.heap.size := lt_of_block (unhide HG24)
  clear HBO d0 d1 S4 K4 HG23 HG13 HK3
  go_wp2_with fail
  refine (unhide HSg).mono ?_
  rintro ee w5 ⟨v5, rfl, V5, K5⟩
  obtain ⟨ap, np, cp, aq, nq, cq, lp, lq, rfl, -⟩ := V5.v.shape
  have HV5 := hide V5
  have HK5 := hide ((unhide HK4).trans K5)
  have HKS := hide K5
  have HG25 := hide (K5.heap (unhide HG24) (by simp))
  have HG15 := hide (K5.heap (unhide HG14) (by simp))
  have Ga := heap_alloc_new w5 (.cells #[.int .i64 0, .slice none 0 0, .slice none 0 0] 70)
  have HKa : Hid (Kp [] w5 (w5.alloc (.cells #[.int .i64 0, .slice none 0 0, .slice none 0 0] 70))) := (Kp.refl [] w5).alloc _
  clear HSg K5 V5 HG24 HG14
  go_wp2_with (refine wpList_store_flat rfl 70 (.tmp 8) (.tmp 20) rfl w5.heap.size 0 rfl _ _ [.int .i64 i, .slice ap np cp, .slice aq nq cq] Ga rfl (by simp) Tryz.sigSize (by simp [Value.oneCell']) #[.int .i64 i, .slice ap np cp, .slice aq nq cq] rfl ?_; intro w6 G6 K6; refine Hid.out ?_)
  obtain ⟨g8, hg8⟩ : ∃ g, g = w5.heap.size := ⟨_, rfl⟩
  have K56 : Kp [] w5 w6 := (unhide HKa).then K6 (fun i hi => .inr (by simp at hi; omega))
  rw [← hg8] at G6 ⊢
  have hG1 := K56.heap (unhide HG15) (by simp)
  have HG26 := hide (K56.heap (unhide HG25) (by simp))
  have HV6 := hide ((unhide HV5).kept (S := []) (by simp) K56)
  have HK6 := hide ((unhide HK5).trans K56)
  have HD : Hid (∀ w', Kp [] w6.drew w' → Kp [] w6 w') := fun w' k' => (kp_drew w6).trans k'
  have HS1 : Hid (∀ w', Kp [] w6.drew w' → w'.heap[g1]? = some (.cells #[.int .i64 n, .slice ar mr cr] 68 (0, 0))) := fun w' k' => (unhide HD w' k').heap hG1 (by simp)
  have HS8 : Hid (∀ w', Kp [] w6.drew w' → w'.heap[g8]? = some (.cells #[.int .i64 i, .slice ap np cp, .slice aq nq cq] 70 (0, 0))) := fun w' k' => (unhide HD w' k').heap G6 (by simp)
  have HCK : Hid (∀ w', Kp [] w6.drew w' → CkV w' (.agg #[.int .i64 n, .slice ar mr cr]) n r) := fun w' k' => unhide HCK0 w' ((unhide HK6).trans (unhide HD w' k'))
  have HRL : Hid (r.length ≤ 1000) := hide (by have := ((rgtC_iff n r).1 (unhide Hr)).2; omega)
  have hb6 : w4.heap.size ≤ w6.heap.size := Nat.le_trans (unhide HKS).size K56.size
  clear Ga HKa G6 K6 K56 hg8 hG1 HV5 HK5 HG15 HG25
  refine hide ?_
  go_wp2_with fail
  refine region_grow_tail 4 Tryz.mixed [Is (.agg #[.int .i64 n, .slice ar mr cr]), CkO w6.drew.heap.size n r, Is (.agg #[.int .i64 i, .slice ap np cp, .slice aq nq cq]), SgO w6.drew.heap.size n r (.int .i64 i) (.slice ap np cp) (.slice aq nq cq)] [[(5, none)], [(26, some 0)], [(8, none)], [(27, some 1), (28, some 2)]] (by kernel_rfl) ?_ ?_ ?_
  all_goals try simp only [List.take_succ_cons, List.take_zero, List.drop_succ_cons, List.drop_zero]
  · simp only [List.mem_cons, List.not_mem_nil, or_false]
    intro R hR
    rcases hR with rfl | rfl | rfl | rfl <;> first | exact stable_is _ | exact stable_cko _ _ _ | exact stable_sgo _ _ _ _ _ _
  · refine steps_cons (fun a w hk hn => ?_) ?_
    · have h5 : a.eval (.tmp 5) = .pointer (some ⟨g1, 0, none⟩) := hn.1
      clear hn
      refine wants_plain rfl ?_
      exact grown_loadf 68 (.tmp 5) rfl g1 0 h5 _ _ _ _ (unhide HS1 w hk) [.int .i64 n, .slice ar mr cr] (flat_in rfl) Tryz.underlying68 rfl Tryz.chkSize rfl
    refine steps_cons (fun a w hk hn => ?_) ?_
    · have h26 : a.eval (.tmp 26) = .agg #[.int .i64 n, .slice ar mr cr] := hn.1
      clear hn
      refine wants_plain rfl ?_
      refine grown_call (f := 149) rfl Tryz.func149 (by kernel_rfl) (by kernel_rfl) ?_
      simp only [List.map_toArray, List.map_cons, List.map_nil, h26]
      refine (ckcopy_any _ n r w (unhide HCK w hk) (unhide HRL)).mono ?_
      rintro e w' ⟨a', m', c', rfl, O, K⟩
      exact ⟨_, rfl, K, ⟨a', m', c', rfl, O.1, fun k hk' => Nat.le_trans hk.size (O.2 k hk')⟩⟩
    refine steps_cons (fun a w hk hn => ?_) ?_
    · have h8 : a.eval (.tmp 8) = .pointer (some ⟨g8, 0, none⟩) := hn.1
      clear hn
      refine wants_plain rfl ?_
      exact grown_loadf 70 (.tmp 8) rfl g8 0 h8 _ _ _ _ (unhide HS8 w hk) [.int .i64 i, .slice ap np cp, .slice aq nq cq] (flat_in rfl) Tryz.underlying70 rfl Tryz.sigSize rfl
    refine steps_cons (fun a w hk hn => ?_) ?_
    · have h27 : (CkO w6.drew.heap.size n r) (a.eval (.tmp 27)) w := hn.1
      have h28 : a.eval (.tmp 28) = .agg #[.int .i64 i, .slice ap np cp, .slice aq nq cq] := hn.2.1
      clear hn
      refine wants_plain rfl ?_
      exact grown_bsgo (.tmp 27) (.tmp 28) rfl h27 h28
    exact trivial
  intro W1 hkW1
  rintro _ rfl
  intro v27 h27
  rintro _ rfl
  intro v29 h29
  refine fin_nil ?_
  simp only [Act.put, List.set_cons_zero, List.set_cons_succ, List.setIfInBounds_toArray]
  obtain ⟨a7, m7, c7, rfl, S7, O7⟩ := h29
  have K67 := unhide HD W1 hkW1
  have G27 := K67.heap (unhide HG26) (by simp)
  have hsz7 : w6.drew.heap.size = w6.heap.size := rfl
  clear h27
  go_wp2_with (refine wpList_store_flat rfl 72 (.tmp 6) (.tmp 29) rfl g2 0 rfl _ _ [.int .i64 n, .slice a7 m7 c7, .int .i64 i, .slice ap np cp, .slice aq nq cq] G27 rfl (by simp) Tryz.sgdSize (by simp [Value.oneCell']) #[.int .i64 n, .slice a7 m7 c7, .int .i64 i, .slice ap np cp, .slice aq nq cq] rfl ?_; intro w8 G8 K8)
  refine bodyPost_ret (results_flat2 rfl _ rfl G8 Tryz.underlying72 rfl Tryz.sgdSize) rfl ?_
  have hs48 : w.heap.size ≤ w4.heap.size := (unhide HK4).size
  refine ⟨_, rfl, fun SS w9 hS9 k9 => ⟨a7, m7, c7, .slice ap np cp, .slice aq nq cq, rfl, ⟨(S7.kept K8 (fun k hk => ?_)).kept k9 (fun k hk hm => ?_), unhide HBr⟩, ?_⟩, ((unhide HK6).trans K67).then K8 (fun i hi => .inr (by simp at hi; have := unhide H2; omega))⟩
  · have := O7 k hk
    simp
    omega
  · have := O7 k hk
    have := hS9 k hm
    omega
  · have := (unhide HV6).kept (S := []) (by simp) K67
    have h8 := this ([g2] ++ SS) w9 (fun q hq => by
      rcases List.mem_append.1 hq with hq | hq
      · simp at hq; omega
      · have := hS9 q hq; omega) ((K8.mono (by simp)).trans (k9.mono (by simp; intro x hx; exact .inr hx)))
    show SigV w9 _ (i : Int) (sgnP bs i (digP (bodC n r))) (pthP bs i 4)
    rw [← unhide HBB]
    exact h8
end Go.Proofs.YtillhpgdlmeajaaGreatDoor

/-
  The contract of package check's Get.
-/
namespace Go.Proofs.YtillhpgdlmeajaaGreatDoor
open Go.RowKit
open Go.Proofs
/-- While a signed checkpoint is read: the reader at q, the result's place at g0, made behind it. -/
structure GtS (w : World) (g0 q : Nat) (v0 r : Value) (s : Bool × List Int) (wr : World) : Prop where
  rd : Rd wr q r s.1 s.2
  own : ∀ k, r.ownBlock = some k → v0.ownBlock = some k
  res : wr.heap[g0]? = some (.cells #[.int .i64 0, .slice none 0 0, .int .i64 0, .slice none 0 0, .slice none 0 0] 72 (0, 0))
  kp : Kp [q] w wr
  o1 : w.heap.size = g0
  o2 : q < g0
  o3 : ∀ k, v0.ownBlock = some k → k < g0
section
variable {w w1 w' : World} {g0 q : Nat} {v0 r : Value} {s s' : Bool × List Int}
theorem GtS.call (h : GtS w g0 q v0 r s w1) (L : Left w1 q r s' w') : ∃ r', GtS w g0 q v0 r' s' w' := by
  obtain ⟨⟨r', R, O⟩, K⟩ := L
  have := h.o2
  exact ⟨r', R, fun k hk => h.own k (O k hk), K.heap h.res (by simp; omega), h.kp.trans K, h.o1, h.o2, h.o3⟩
theorem GtS.kept (h : GtS w g0 q v0 r s w1) (K : Kp [] w1 w') : GtS w g0 q v0 r s w' :=
  ⟨h.rd.kept K (by simp) (by simp), h.own, K.heap h.res (by simp), h.kp.trans (K.mono (by simp)), h.o1, h.o2, h.o3⟩
theorem GtS.left (h : GtS w g0 q v0 r s w1) (K : Kp [g0] w1 w') : Left w q v0 s w' := by
  have := h.o2
  have h1 := h.o1
  exact ⟨⟨r, h.rd.kept K (by simp; omega) (fun i hi => by have := h.o3 i (h.own i hi); simp; omega), h.own⟩, h.kp.then K (fun i hi => .inr (by simp at hi; omega))⟩
end
end Go.Proofs.YtillhpgdlmeajaaGreatDoor

/-
  The contract of the reference's Same, of signatures that are alike.
-/
namespace Go.Proofs.YtillhpgdlmeajaaGreatDoor
open Go.RowKit
open Go.Proofs
set_option maxRecDepth 100000 in
set_option maxHeartbeats 2000000 in
theorem refsame_any (v u : Value) (i : Int) (ps qs : List (List Int)) (w : World) (hV : SigV w v i ps qs) (hU : SigV w u i ps qs) :
    Calls Tryz.prog 55 #[v, u] w fun e w' => e = .returned (.bool true) ∧ Kp [] w w' := by
  obtain ⟨ap, np, cp, aq, nq, cq, lp, lq, rfl, hP, hp, hQ, hq, hnp, hnq⟩ := hV.shape
  obtain ⟨ar, nr, cr, as', ns, cs, lr, ls, rfl, hR, hr, hS, hs, hnr, hns⟩ := hU.shape
  obtain rfl : nr = np := by omega
  obtain rfl : ns = nq := by omega
  have hb1 : nr ≤ 9223372036854775807 := by obtain ⟨_, _, e, h, _⟩ := hP; injection e with _ e2; omega
  have hb2 : ns ≤ 9223372036854775807 := by obtain ⟨_, _, e, h, _⟩ := hQ; injection e with _ e2; omega
  obtain ⟨o1, ho1⟩ : ∃ o : Obj, o = (.cells #[.int .i64 i, .slice ap nr cp, .slice aq ns cq] 70) := ⟨_, rfl⟩
  obtain ⟨o2, ho2⟩ : ∃ o : Obj, o = (.cells #[.int .i64 i, .slice ar nr cr, .slice as' ns cs] 70) := ⟨_, rfl⟩
  obtain ⟨W, hW⟩ : ∃ W, W = (w.alloc o1).alloc o2 := ⟨_, rfl⟩
  have K1 : Kp [] w W := by rw [hW]; exact ((Kp.refl [] w).alloc o1).alloc o2
  have G1 : W.heap[w.heap.size]? = some o1 := by rw [hW]; exact heap_alloc2_old w o1 o2
  have G2 : W.heap[w.heap.size + 1]? = some o2 := by rw [hW]; exact heap_alloc2_new w o1 o2
  rw [ho1] at G1
  rw [ho2] at G2
  have hWE : W = (w.alloc (.cells #[.int .i64 i, .slice ap nr cp, .slice aq ns cq] 70)).alloc (.cells #[.int .i64 i, .slice ar nr cr, .slice as' ns cs] 70) := by rw [hW, ho1, ho2]
  have HWE := hide hWE
  have HG1 := hide G1
  have HG2 := hide G2
  have HK1 := hide K1
  have HP := hide (hP.kept K1)
  have HQ := hide (hQ.kept K1)
  have HR := hide (hR.kept K1)
  have HS := hide (hS.kept K1)
  have Hxp := hide hp
  have Hxq := hide hq
  have Hxr := hide hr
  have Hxs := hide hs
  have HN1 := hide hnr
  have HN2 := hide hns
  have hb1i : (nr : Int) ≤ 9223372036854775807 := by omega
  have hb2i : (ns : Int) ≤ 9223372036854775807 := by omega
  clear hP hQ hR hS hp hq hr hs hnp hnq hnr hns hV hU ho1 ho2 hW hWE K1 G1 G2
  go_enter Tryz.func55, Tryz.ntmps55
  go_wp2_with fail
  rw [← unhide HWE]
  go_loopw [5] (fun j wr => ∃ k : Nat, k ≤ nr ∧ j = .int .i64 k ∧ Kp [] W wr) (fun j _ => nr - (intOf j).toNat)
  case atStart => exact ⟨0, by omega, rfl, Kp.refl _ _⟩
  case round =>
    obtain ⟨k, hk, rfl, Kr⟩ := hrel
    have HKr := hide Kr
    have hr1 : wr.cell? ⟨w.heap.size, 1, none⟩ = some (.slice ap nr cp) := by rw [cell_of_row wr w.heap.size 1 _ _ _ (Kr.heap (unhide HG1) (by simp))]; rfl
    have hr2 : wr.cell? ⟨w.heap.size + 1, 1, none⟩ = some (.slice ar nr cr) := by rw [cell_of_row wr (w.heap.size + 1) 1 _ _ _ (Kr.heap (unhide HG2) (by simp))]; rfl
    clear Kr
    by_cases hlt : k < nr
    · have hlt2 : (k : Int) < (nr : Int) := by omega
      obtain ⟨b1, o1, ax, nx, cx, rfl, hcx, hSx, hBx⟩ := lists_at (unhide HP) (unhide Hxp) k (by have := unhide HN1; omega)
      obtain ⟨b2, o2, ay, ny, cy, rfl, hcy, hSy, hBy⟩ := lists_at (unhide HR) (unhide Hxr) k (by have := unhide HN1; omega)
      have d0 : wr.drew.cell? ⟨w.heap.size, 1, none⟩ = some (.slice (some ⟨b1, o1, none⟩) nr cp) := (kp_drew wr).cell hr1 (by simp)
      have d0' : wr.drew.cell? ⟨w.heap.size + 1, 1, none⟩ = some (.slice (some ⟨b2, o2, none⟩) nr cr) := (kp_drew wr).cell hr2 (by simp)
      have kk := (unhide HKr).trans (kp_drew wr)
      have d1 : wr.drew.cell? ⟨b1, o1 + k, none⟩ = some (.slice ax nx cx) := kk.cell hcx (by simp)
      have d2 : wr.drew.cell? ⟨b2, o2 + k, none⟩ = some (.slice ay ny cy) := kk.cell hcy (by simp)
      have v1 := (hSx.kept kk (by simp)).conv (P := Tryz.prog) 22 9 5 Tryz.underlying22 Tryz.underlying5 Tryz.underlying9
      have v2 := (hSy.kept kk (by simp)).conv (P := Tryz.prog) 22 9 5 Tryz.underlying22 Tryz.underlying5 Tryz.underlying9
      obtain ⟨S, hSS⟩ : ∃ S, S = strOfNums (ps.getD k []) := ⟨_, rfl⟩
      rw [← hSS] at v1 v2
      have HKK := hide kk
      clear hcx hcy hSx hSy hBx hBy hSS kk
      go_wp2_with fail
      refine region_read Tryz.mixed (by kernel_rfl) ?_
      repeat (first | go_big_quiet_skip | (go_big_quiet_want; go_big_quiet_op; go_big_quiet_on))
      refine wpQuiet_nil ?_
      go_wp2_with fail
      go_roundw
      case rel => exact ⟨k + 1, by omega, by go_num, unhide HKK⟩
      case measure => simp [intOf]; omega
    · obtain rfl : k = nr := by omega
      have hlt2 : ¬ (k : Int) < (k : Int) := by omega
      have HKe := hide (unhide HKr)
      go_wp2_with fail
      go_loopw [6] (fun j wr => ∃ k : Nat, k ≤ ns ∧ j = .int .i64 k ∧ Kp [] W wr) (fun j _ => ns - (intOf j).toNat)
      case atStart => exact ⟨0, by omega, rfl, unhide HKe⟩
      case round =>
        obtain ⟨k, hk, rfl, Kr⟩ := hrel
        have HKr := hide Kr
        have hr1 : wr.cell? ⟨w.heap.size, 2, none⟩ = some (.slice aq ns cq) := by rw [cell_of_row wr w.heap.size 2 _ _ _ (Kr.heap (unhide HG1) (by simp))]; rfl
        have hr2 : wr.cell? ⟨w.heap.size + 1, 2, none⟩ = some (.slice as' ns cs) := by rw [cell_of_row wr (w.heap.size + 1) 2 _ _ _ (Kr.heap (unhide HG2) (by simp))]; rfl
        clear Kr
        by_cases hlt : k < ns
        · have hlt2 : (k : Int) < (ns : Int) := by omega
          obtain ⟨b1, o1, ax, nx, cx, rfl, hcx, hSx, hBx⟩ := lists_at (unhide HQ) (unhide Hxq) k (by have := unhide HN2; omega)
          obtain ⟨b2, o2, ay, ny, cy, rfl, hcy, hSy, hBy⟩ := lists_at (unhide HS) (unhide Hxs) k (by have := unhide HN2; omega)
          have d0 : wr.drew.cell? ⟨w.heap.size, 2, none⟩ = some (.slice (some ⟨b1, o1, none⟩) ns cq) := (kp_drew wr).cell hr1 (by simp)
          have d0' : wr.drew.cell? ⟨w.heap.size + 1, 2, none⟩ = some (.slice (some ⟨b2, o2, none⟩) ns cs) := (kp_drew wr).cell hr2 (by simp)
          have kk := (unhide HKr).trans (kp_drew wr)
          have d1 : wr.drew.cell? ⟨b1, o1 + k, none⟩ = some (.slice ax nx cx) := kk.cell hcx (by simp)
          have d2 : wr.drew.cell? ⟨b2, o2 + k, none⟩ = some (.slice ay ny cy) := kk.cell hcy (by simp)
          have v1 := (hSx.kept kk (by simp)).conv (P := Tryz.prog) 22 9 5 Tryz.underlying22 Tryz.underlying5 Tryz.underlying9
          have v2 := (hSy.kept kk (by simp)).conv (P := Tryz.prog) 22 9 5 Tryz.underlying22 Tryz.underlying5 Tryz.underlying9
          obtain ⟨S, hSS⟩ : ∃ S, S = strOfNums (qs.getD k []) := ⟨_, rfl⟩
          rw [← hSS] at v1 v2
          have HKK := hide kk
          clear hcx hcy hSx hSy hBx hBy hSS kk
          go_wp2_with fail
          refine region_read Tryz.mixed (by kernel_rfl) ?_
          repeat (first | go_big_quiet_skip | (go_big_quiet_want; go_big_quiet_op; go_big_quiet_on))
          refine wpQuiet_nil ?_
          go_wp2_with fail
          go_roundw
          case rel => exact ⟨k + 1, by omega, by go_num, unhide HKK⟩
          case measure => simp [intOf]; omega
        · obtain rfl : k = ns := by omega
          have hlt2 : ¬ (k : Int) < (k : Int) := by omega
          go_wp2_with fail
          go_ret
          exact ⟨rfl, (unhide HK1).trans (unhide HKr)⟩
end Go.Proofs.YtillhpgdlmeajaaGreatDoor
