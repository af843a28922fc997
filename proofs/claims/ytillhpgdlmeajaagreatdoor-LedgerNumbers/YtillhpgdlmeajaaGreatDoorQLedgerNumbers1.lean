/-
  Lists of one and of two; rows of slices of a call's own, how they grow.
-/
import Derived.Test.YtillhpgdlmeajaaGreatDoorQB2
import Derived.Test.YtillhpgdlmeajaaGreatDoorQB1
import Derived.Test.YtillhpgdlmeajaaGreatDoorQB3
import Derived.Test.YtillhpgdlmeajaaGreatDoorQB4
import Derived.Deep.RegionHeld3
import Derived.Test.YtillhpgdlmeajaaGreatDoorQB6
import Derived.Test.YtillhpgdlmeajaaGreatDoorQB5
import Derived.Deep.LoopGhost
import Derived.ProofKit
import Derived.Test.YtillhpgdlmeajaaGreatDoorQB7
import Derived.ArgAppend
import Derived.Deep.Upon
namespace Go.Proofs.YtillhpgdlmeajaaGreatDoor
open Go.RowKit
open Go.Proofs
/-- a list that is copied whole into a new row. -/
theorem rowS_copy {w w' : World} {al : Option Addr} {cl : Nat} {ao : Option Addr} {m c : Nat} {l : List (Value × List Int)} (hL : Lists w (.slice al l.length cl) l) (hr : RowV w' w.heap.size (.slice ao m c) (l.map (·.1))) (k : Kp [] w w') : RowS w' w.heap.size (.slice ao m c) l := by
  refine ⟨hr, fun x hx => ?_⟩
  obtain ⟨i, hi, rfl⟩ := List.getElem_of_mem hx
  obtain ⟨_, _, _, _, h2⟩ := hL
  obtain ⟨_, _, _, _, hS, hB⟩ := h2 i hi
  refine ⟨hS.kept k (by simp), hB, fun j hj hv => ?_⟩
  by_cases hb : l[i].2 = []
  · exact hb
  · obtain ⟨ao', c', e, h1, _, h3, h4⟩ := hS
    cases ao' with
    | none => exact List.eq_nil_of_length_eq_zero (by have := h3 rfl; omega)
    | some a =>
      have hpos : 0 < l[i].2.length := List.length_pos_iff.2 hb
      have hc := h4 a rfl 0 (.int .u8 l[i].2[0]) (by simp [List.getElem?_eq_getElem hpos])
      have hlt := World.block_lt_of_cell? _ _ hc
      rw [add_block] at hlt
      rw [e] at hj
      have : a.block = j := by simpa [Value.ownBlock] using hj
      have := hr.own j hv
      omega
end Go.Proofs.YtillhpgdlmeajaaGreatDoor

/-
  Chapter 15 as plain functions: items each once, their numbers, a batch as a record, what a journal's records hold.
-/
namespace Go.Proofs.YtillhpgdlmeajaaGreatDoor
open Go.RowKit
open Go.Proofs
theorem allU_append (l xs ys : List (List Int)) : allU l (xs ++ ys) = allU (allU l xs) ys := by simp [allU, List.foldl_append]
end Go.Proofs.YtillhpgdlmeajaaGreatDoor

/-
  The contracts of package journal: Open, Put, Sync, Add, Count.
-/
namespace Go.Proofs.YtillhpgdlmeajaaGreatDoor
open Go.RowKit
open Go.Proofs
namespace Dk
end Dk
theorem open_nil (w : World) : Calls Tryz.prog 42 #[.pointer none] w fun e w' => e = .returned (.tuple #[.pointer none, .slice none 0 0, .int .i64 1]) ∧ w' = w := by
  go_enter Tryz.func42, Tryz.ntmps42
  go_wp2_with fail
  go_ret3
  exact ⟨rfl, rfl⟩
end Go.Proofs.YtillhpgdlmeajaaGreatDoor

/-
  The reference's Record and Open; the law's lay.
-/
namespace Go.Proofs.YtillhpgdlmeajaaGreatDoor
open Go.RowKit
open Go.Proofs
set_option maxHeartbeats 400000 in
theorem jnum_any (v : Value) (bs : List Int) (n : Int) (base : Nat) (w : World) (h : Row w base v bs) (hbase : base ≤ w.heap.size) (hb : bs.length ≤ 100000000000) :
    Calls Tryz.prog 49 #[v, .int .u32 n] w fun e w' => ∃ ao m c, e = .returned (.slice ao m c) ∧ Row w' base (.slice ao m c) (bs ++ bq n) ∧ RStep w v w' (.slice ao m c) := by
  obtain ⟨cs, hcs⟩ : ∃ cs, cs = bq n := ⟨_, rfl⟩
  have hl : cs.length = 4 := by rw [hcs]; rfl
  have hsl : Sl (w.alloc (.cells #[.int .u8 (n / 16777216 % 256), .int .u8 (n / 65536 % 256), .int .u8 (n / 256 % 256), .int .u8 (n % 256)] 5)) (.slice (some ⟨w.heap.size, 0, none⟩) 4 4) cs := by
    rw [hcs]; exact Sl.block (cs := [n / 16777216 % 256, n / 65536 % 256, n / 256 % 256, n % 256]) (t := 5) (heap_alloc_new w _) (by simp [maxLen])
  rw [← hcs]
  clear hcs
  go_enter Tryz.func49, Tryz.ntmps49
  go_wp2_with (at_builtin; refine wpList_append_row rfl _ _ rfl base v bs rfl (h.kept ((Kp.refl [] w).alloc _) (by simp)) _ cs rfl hsl (by omega) (by simp; omega) ?_; intro ao m c w1 r1 s1)
  go_ret
  exact ⟨ao, m, c, rfl, r1, s1.after ((Kp.refl [] w).alloc _)⟩
/-- a step of a row that is new since w: nothing old is changed. -/
theorem RStep.kpn {w w1 w2 : World} {v v' : Value} {bs : List Int} (s : RStep w1 v w2 v') (k : Kp [] w w1) (r : Row w1 w.heap.size v bs) : Kp [] w w2 :=
  k.then s.1 (fun i hi => .inr (r.own i (by simpa [Option.mem_toList] using hi)))
set_option maxRecDepth 100000 in
set_option maxHeartbeats 2000000 in
theorem record_any (v : Value) (r : List Int) (w : World) (hS : Sl w v r) (hl : r.length ≤ 65535) :
    Calls Tryz.prog 13 #[v] w fun e w' => ∃ ao m c, e = .returned (.slice ao m c) ∧ Row w' w.heap.size (.slice ao m c) (recP r) ∧ Kp [] w w' := by
  have HS := hide (fun w' (k : Kp [] w w') => hS.kept k (by simp))
  have HR : Hid (recP r = [] ++ bq r.length ++ bq (4294967295 - r.length) ++ r) := by unfold recP; exact hide (by simp)
  have HL := hide hl
  obtain ⟨ar, cr, rfl, -⟩ := hS
  obtain ⟨n, hn⟩ : ∃ n, n = r.length := ⟨_, rfl⟩
  have hn32 : IntKind.u32.wrap (n : Int) = n := by simp [IntKind.wrap, IntKind.signed, IntKind.bits]; omega
  have hnl : (n : Int) ≤ 65535 := by omega
  have hus := uns32
  have hx := not32 n (by omega) (by omega)
  rw [← hn] at HS HR HL ⊢
  have HN := hide hn
  clear hn hl
  have H1 := hide (jnum_any (.slice none 0 0) [] n w.heap.size w ⟨rfl, .inl ⟨rfl, rfl⟩⟩ (Nat.le_refl _) (by simp))
  have R0 : Row w w.heap.size (.slice none 0 0) [] := ⟨rfl, .inl ⟨rfl, rfl⟩⟩
  have HR0 := hide R0
  clear R0
  go_enter Tryz.func13, Tryz.ntmps13
  go_wp2_with fail
  refine H1.out.mono ?_
  rintro ee w1 ⟨a1, m1, c1, rfl, R1, S1⟩
  have HK1 := hide (S1.kpn (Kp.refl [] w) HR0.out)
  have H2 := hide (jnum_any _ _ (4294967295 - (n : Int)) w.heap.size w1 R1 HK1.out.size (by simp [bq_len]))
  have HR1 := hide R1
  clear R1 S1 H1
  go_wp2_with fail
  refine H2.out.mono ?_
  rintro ee w2 ⟨a2, m2, c2, rfl, R2, S2⟩
  have HK2 := hide (S2.kpn HK1.out HR1.out)
  have HR2 := hide R2
  have hsx := HS.out w2 HK2.out
  have hlr : r.length ≤ 65535 := by have := HN.out; have := HL.out; omega
  clear R2 S2 H2
  go_wp2_with (at_builtin; refine wpList_append_row rfl (.tmp 11) (.tmp 12) rfl w.heap.size _ _ rfl HR2.out _ r rfl hsx (by simp [bq_len]; omega) HK2.out.size ?_; intro a3 m3 c3 w3 R3 S3)
  go_ret
  rw [HR.out]
  exact ⟨a3, m3, c3, rfl, R3, S3.kpn HK2.out HR2.out⟩
end Go.Proofs.YtillhpgdlmeajaaGreatDoor

/-
  Lists gathered behind one another; records cut off by a crash.
-/
namespace Go.Proofs.YtillhpgdlmeajaaGreatDoor
open Go.RowKit
open Go.Proofs
theorem wpList_append_list {w : World} {ops : Array Oper} {rest : List Oper} {o : Oper} {a : Act} {Q : Exit → Act → World → Prop} (hgd : o.guard = none) (s x : Operand)
    (ho : o.op = .call { callee := .builtin .append, args := #[s, x], argTypes := #[33, 33] }) (base : Nat) (v : Value) (xs : List Value) (hs : a.eval s = v) (hrow : RowV w base v xs)
    (ol : Option Addr) (m oc : Nat) (la : List (Value × List Int)) (hx : a.eval x = .slice ol m oc) (hL : Lists w (.slice ol m oc) la) (hn : ol = none → oc = 0) (hb : xs.length + la.length ≤ 1000000) (hbase : base ≤ w.heap.size)
    (h : ∀ ao m c w', RowV w' base (.slice ao m c) (xs ++ la.map (·.1)) → RStep w v w' (.slice ao m c) → wpList Tryz.prog ops Q rest (a.put o.dst (.slice ao m c)) w') : wpList Tryz.prog ops Q (o :: rest) a w := by
  obtain ⟨ol', oc', e, hl1, hcell⟩ := hL
  injection e with e1 e2 e3
  subst e1 e3
  subst e2
  cases ol with
  | none =>
    have h0 : la = [] := by
      cases la with
      | nil => rfl
      | cons y t =>
        obtain ⟨b, off, e, -⟩ := hcell 0 (by simp)
        cases e
    subst h0
    have hoc := hn rfl
    subst hoc
    obtain ⟨i0, hi0, hz0, hz1, hz2⟩ := info_parts Tryz.infoSl
    have hrow0 := hrow
    obtain ⟨av, cv, rfl⟩ := hrow0.shape
    refine wpList_append_own_none hgd s x 33 ho base 22 i0 1 Tryz.underlying33 hi0 _ xs.length xs hs hrow (by simpa using hx) ?_
    exact h av _ cv w (by simpa using hrow) (RStep.refl _ _)
  | some ad =>
    refine wpList_append_rowv hgd s x ho base v xs hs hrow ad oc (la.map (·.1)) (by rw [hx]; simp) ?_ ?_ (by simp; omega) hbase h
    · intro j u hu
      have hj : j < la.length := by have := (List.getElem?_eq_some_iff.1 hu).1; simpa using this
      obtain ⟨b, off, e, hc, -⟩ := hcell j hj
      injection e with e
      subst e
      rw [Addr.add_lit, hc]
      simpa [List.getElem?_eq_getElem hj] using hu
    · intro u hu
      obtain ⟨y, hy, rfl⟩ := List.mem_map.1 hu
      obtain ⟨i, hi, rfl⟩ := List.getElem_of_mem hy
      obtain ⟨b, off, e, hc, ⟨a1, c1, e1, -⟩, -⟩ := hcell i hi
      rw [e1]; rfl
end Go.Proofs.YtillhpgdlmeajaaGreatDoor

/-
  Chapter 14 as plain functions: the records of the first keys.
-/
namespace Go.Proofs.YtillhpgdlmeajaaGreatDoor
theorem inOrd_long {rs : List (List Int)} (h : 16 < rs.length) : inOrd rs = false := by
  have : ¬ rs.length ≤ 16 := by omega
  simp [inOrd, this]
namespace Dk
end Dk
end Go.Proofs.YtillhpgdlmeajaaGreatDoor

/-
  Package keys: inOrder, Open.
-/
namespace Go.Proofs.YtillhpgdlmeajaaGreatDoor
open Go.RowKit
open Go.Proofs
set_option linter.unusedVariables false
theorem inOrder_long (ao : Option Addr) (m c : Nat) (w : World) (hm : 16 < m) : Calls Tryz.prog 85 #[.slice ao m c] w fun e w' => e = .returned (.bool false) ∧ w' = w := by
  have hm' : (16 : Int) < (m : Int) := by omega
  go_enter Tryz.func85, Tryz.ntmps85
  go_wp2_with fail
  go_ret
  exact ⟨rfl, rfl⟩
/-- Open of no disk. -/
theorem kopen_nil (w : World) : Calls Tryz.prog 41 #[.pointer none] w fun e w' => e = .returned (.tuple #[.pointer none, .int .i64 1]) ∧ w' = w := by
  have HO := hide (open_nil w)
  go_enter Tryz.func41, Tryz.ntmps41
  go_wp2_with fail
  refine HO.out.mono ?_
  rintro ee w1 ⟨rfl, hw⟩
  subst w1
  clear HO
  go_wp2_with fail
  go_ret2
  exact ⟨rfl, rfl⟩
set_option maxRecDepth 100000 in
set_option maxHeartbeats 2000000 in
/-- Open: a box behind the first keys' records, else nothing but ErrCorrupt. -/
theorem kopen_any {w0 w : World} {p : Nat} {d : Dk} (h : Nx w0 w p d) (hd : d.down = false) (ha : d.arm ≤ 0) (b : List Int) (hb : d.bs = b) (ok : Bool) (hok : ok = ((opnP b).2.2 && inOrd (opnP b).1)) :
    Calls Tryz.prog 41 #[.pointer (some ⟨p, 0, none⟩)] w fun e w' =>
      (ok = true ∧ ∃ q, e = .returned (.tuple #[.pointer (some ⟨q, 0, none⟩), .int .i64 0]) ∧ Bx w0 w' p d.opn q (opnP b).1.length (opnP b).1.length) ∨
      (ok = false ∧ e = .returned (.tuple #[.pointer none, .int .i64 14]) ∧ Kp [] w0 w') := by
  obtain ⟨v, hN⟩ := h
  have HO := hide (open_at hN hd ha b hb)
  have HOk := hide hok
  clear hN hd ha hb hok
  go_enter Tryz.func41, Tryz.ntmps41
  go_wp2_with fail
  refine HO.out.mono ?_
  rintro ee w1 (⟨ht, j, v1, al, m, cl, l, rfl, J1, -, -, P1, hl1, hm1⟩ | ⟨hf, rfl, N1, K1⟩)
  · have HJ1 := hide J1
    have HT := hide ht
    have HM := hide hm1
    have HL1 := hide hl1
    have hml : m = l.length := by rw [hm1, ← hl1]; simp
    by_cases h16 : m ≤ 16
    · have HI := hide (inOrder_any _ l w1 (P1.parts.lists (by omega)) _ hl1 (by omega))
      clear J1 ht hm1 hl1 P1 HO hml
      go_wp2_with fail
      refine HI.out.mono ?_
      rintro ee w2 ⟨rfl, K2⟩
      have HK2 := hide K2
      have HJ2 := hide (HJ1.out.on K2)
      clear HI K2
      obtain ⟨r, hr⟩ : ∃ r, r = inOrd (opnP b).1 := ⟨_, rfl⟩
      rw [← hr]
      have HR := hide hr
      clear hr
      cases r
      · go_wp2_with fail
        go_ret2
        exact .inr ⟨by rw [HOk.out, HT.out, ← HR.out]; rfl, rfl, HJ2.out.nw.kp⟩
      · go_wp2_with fail
        go_ret2
        have ka : Kp [] w2 (w2.alloc (.cells #[.pointer (some ⟨j, 0, none⟩), .int .i64 m] 144)) := (Kp.refl [] w2).alloc _
        refine .inl ⟨by rw [HOk.out, HT.out, ← HR.out]; rfl, w2.heap.size, rfl, v1, j, _, Nat.le_refl _, HJ2.out.on ka, ?_, HJ2.out.nw.kp.size⟩
        rw [← HM.out]; exact heap_alloc_new w2 _
    · have HI := hide (inOrder_long al m cl w1 (by omega))
      clear J1 ht hm1 hl1 P1 HO hml
      go_wp2_with fail
      refine HI.out.mono ?_
      rintro ee w2 ⟨rfl, hw2⟩
      subst w2
      clear HI
      go_wp2_with fail
      go_ret2
      exact .inr ⟨by rw [HOk.out, inOrd_long (by rw [← HM.out]; omega), Bool.and_false], rfl, HJ1.out.nw.kp⟩
  · have HF := hide hf
    have HN1 := hide N1
    clear hf N1 K1 HO
    go_wp2_with fail
    go_ret2
    exact .inr ⟨by rw [HOk.out, HF.out]; rfl, rfl, HN1.out.kp⟩
end Go.Proofs.YtillhpgdlmeajaaGreatDoor

/-
  Disks, journals and boxes with the blocks that they lie in.
-/
namespace Go.Proofs.YtillhpgdlmeajaaGreatDoor
open Go.RowKit
open Go.Proofs
set_option linter.unusedVariables false
section
variable {w0 w w' : World} {p q j n k : Nat} {d d' : Dk} {F : Nat → Prop} {v : Value}
theorem Bf.dx (h : Bf w0 w p d q n k F) : Dx w0 w p d F := by
  obtain ⟨v, j, m, h1, h2, h3, h4, h5, h6, h7⟩ := h
  exact ⟨v, h2.nw, h7⟩
theorem Jx.dx (h : Jx w0 w p d j k F) : Dx w0 w p d F := by
  obtain ⟨v, m, h1, h2, h3, h4⟩ := h
  exact ⟨v, h2.nw, h4⟩
end
end Go.Proofs.YtillhpgdlmeajaaGreatDoor

/-
  The contracts of package ledger: gathered, Open.
-/
namespace Go.Proofs.YtillhpgdlmeajaaGreatDoor
open Go.RowKit
open Go.Proofs
set_option linter.unusedVariables false
theorem opnP_bs {b : List Int} (hB : Bs b) : ∀ r ∈ (opnP b).1, Bs r := by
  induction hl : b.length using Nat.strongRecOn generalizing b with
  | ind n ih =>
    subst hl
    rw [opnP_eq]
    split
    · intro r hr; cases hr
    · split
      · intro r hr; cases hr
      · split
        · intro r hr; cases hr
        · intro r hr
          rcases List.mem_cons.1 hr with rfl | hr
          · exact fun x hx => hB x (List.mem_of_mem_drop (List.mem_of_mem_take hx))
          · exact ih (b.drop (8 + (num1 b).toNat)).length (by rw [List.length_drop]; omega) (fun x hx => hB x (List.mem_of_mem_drop hx)) rfl r hr
theorem opnP_len (b : List Int) : lenU (opnP b).1 ≤ b.length := by
  induction hl : b.length using Nat.strongRecOn generalizing b with
  | ind n ih =>
    subst hl
    rw [opnP_eq]
    split
    · simp [lenU]
    · split
      · simp [lenU]
      · split
        · simp [lenU]
        · have := ih (b.drop (8 + (num1 b).toNat)).length (by rw [List.length_drop]; omega) _ rfl
          rw [List.length_drop] at this
          have e : lenU (((b.drop 8).take (num1 b).toNat) :: (opnP (b.drop (8 + (num1 b).toNat))).1) = ((b.drop 8).take (num1 b).toNat).length + lenU (opnP (b.drop (8 + (num1 b).toNat))).1 := by simp [lenU]
          simp only []
          rw [e, List.length_take, List.length_drop]
          omega
theorem uopen_arg (pd pk : Value) (vs : Value) (seed : List Int) (w : World) (hS : Sl w vs seed) (hl : seed.length ≠ 32) :
    Calls Tryz.prog 10 #[pd, pk, vs] w fun e w' => e = .returned (.tuple #[.pointer none, .int .i64 1]) ∧ w' = w := by
  obtain ⟨av, cv, hvs, -⟩ := hS
  obtain ⟨nv, hnv⟩ : ∃ n, n = seed.length := ⟨_, rfl⟩
  rw [← hnv] at hvs hl
  subst hvs
  have hne : ¬ (nv : Int) = 32 := by omega
  have hne' : ((nv : Int) == 32) = false := by simpa using hne
  clear hnv
  go_enter Tryz.func10, Tryz.ntmps10
  go_wp2_with fail
  go_ret2
  exact ⟨rfl, rfl⟩
theorem uopen_nilk (pd : Value) (vs : Value) (seed : List Int) (w : World) (hS : Sl w vs seed) (hl : seed.length = 32) :
    Calls Tryz.prog 10 #[pd, .pointer none, vs] w fun e w' => e = .returned (.tuple #[.pointer none, .int .i64 1]) ∧ w' = w := by
  obtain ⟨av, cv, hvs, -⟩ := hS
  rw [hl] at hvs
  subst hvs
  have HK := hide (kopen_nil w)
  go_enter Tryz.func10, Tryz.ntmps10
  go_wp2_with fail
  refine HK.out.mono ?_
  rintro ee w1 ⟨rfl, hw⟩
  subst w1
  clear HK
  go_wp2_with fail
  go_ret2
  exact ⟨rfl, rfl⟩
section
variable {w0 w : World} {pd pk n at_ : Nat} {dd dk dk' dd' : Dk} {f : Fps}
theorem uopen_badk (pd : Value) (vs : Value) (seed : List Int) (hS : Sl w vs seed) (hl : seed.length = 32) (hK : Nx w0 w pk dk) (kd : dk.down = false) (ka : dk.arm ≤ 0) {b : List Int} (hb : dk.bs = b) (hbad : ((opnP b).2.2 && inOrd (opnP b).1) = false) :
    Calls Tryz.prog 10 #[pd, .pointer (some ⟨pk, 0, none⟩), vs] w fun e w' => e = .returned (.tuple #[.pointer none, .int .i64 14]) ∧ Kp [] w0 w' := by
  obtain ⟨av, cv, hvs, -⟩ := hS
  rw [hl] at hvs
  subst hvs
  have HK := hide (kopen_any hK kd ka b hb false hbad.symm)
  clear hK kd ka hb hbad
  go_enter Tryz.func10, Tryz.ntmps10
  go_wp2_with fail
  refine HK.out.mono ?_
  rintro ee w1 (⟨hf, -⟩ | ⟨-, rfl, K1⟩)
  · cases hf
  · have HK1 := hide K1
    clear HK K1
    go_wp2_with fail
    go_ret2
    exact ⟨rfl, HK1.out⟩
theorem uopen_nild (vs : Value) (seed : List Int) (hS : Sl w vs seed) (hl : seed.length = 32) (hK : Dx w0 w pk dk (fun _ => True)) (kd : dk.down = false) (ka : dk.arm ≤ 0) {b : List Int} (hb : dk.bs = b) (hn : n ≤ 16) (ho : opnP b = (keyL n, at_, true)) :
    Calls Tryz.prog 10 #[.pointer none, .pointer (some ⟨pk, 0, none⟩), vs] w fun e w' => e = .returned (.tuple #[.pointer none, .int .i64 1]) ∧ Kp [] w0 w' := by
  obtain ⟨av, cv, hvs, -⟩ := hS
  rw [hl] at hvs
  subst hvs
  have HK := hide (bf_open hK kd ka hb hn ho rfl)
  clear hK kd ka hb hn ho
  go_enter Tryz.func10, Tryz.ntmps10
  go_wp2_with fail
  refine HK.out.mono ?_
  rintro ee w1 ⟨q, rfl, F, B1, -⟩
  have HK1 := hide B1.bx.kp
  have HJ := hide (open_nil w1)
  clear HK B1
  go_wp2_with fail
  refine HJ.out.mono ?_
  rintro ee w2 ⟨rfl, hw⟩
  subst w2
  clear HJ
  go_wp2_with fail
  go_ret2
  exact ⟨rfl, HK1.out⟩
/-- what stands on the log's disk can't be opened. -/
theorem uopen_bad (vs : Value) (seed : List Int) (hS : Sl w vs seed) (hl : seed.length = 32) (hf : f.Ok w0 w) (hD : Dx w0 w pd dd (f 5)) (dn : dd.down = false) (da : dd.arm ≤ 0) (hK : Dx w0 w pk dk (f 6)) (kd : dk.down = false) (ka : dk.arm ≤ 0) {b : List Int} (hb : dk.bs = b) (hn : n ≤ 16) (ho : opnP b = (keyL n, at_, true)) {bd : List Int} (hbd : dd.bs = bd) (hB : Bs bd) (hlen : bd.length ≤ 100000) (hbad : ((opnP bd).2.2 && (redU (opnP bd).1).isSome) = false) :
    Calls Tryz.prog 10 #[.pointer (some ⟨pd, 0, none⟩), .pointer (some ⟨pk, 0, none⟩), vs] w fun e w' => e = .returned (.tuple #[.pointer none, .int .i64 14]) ∧ Kp [] w0 w' := by
  obtain ⟨av, cv, hvs, -⟩ := hS
  rw [hl] at hvs
  subst hvs
  have HK := hide (bf_open hK kd ka hb hn ho rfl)
  have HD := hide hD
  have HF := hide hf
  have Hdn := hide dn
  have Hda := hide da
  have Hbd := hide hbd
  have HBd := hide hB
  have HLe := hide hlen
  have HBad := hide hbad
  clear hK kd ka hb hn ho hD hf dn da hbd hB hlen hbad
  go_enter Tryz.func10, Tryz.ntmps10
  go_wp2_with fail
  refine HK.out.mono ?_
  rintro ee w1 ⟨q, rfl, F, B1, T1⟩
  have ok1 := HF.out.upd T1
  obtain ⟨T, hT, k1⟩ := T1.kp
  obtain ⟨v, N1, hv⟩ := HD.out.kept k1 ok1.kp (HF.out.apart (a := 6) (b := 5) (by decide) hT)
  have HJ := hide (open_at N1 Hdn.out Hda.out bd Hbd.out)
  clear HK B1 T1 ok1 hT k1 N1 hv
  go_wp2_with fail
  refine HJ.out.mono ?_
  rintro ee w2 (⟨ht, j, v2, al, m, cl, lv, rfl, J2, hj2, D2, P2, hl2, hm2⟩ | ⟨hf2, rfl, N2, K2⟩)
  · have hred : redU (opnP bd).1 = none := by
      have := HBad.out
      rw [ht] at this
      simpa using this
    have hml : m = lv.length := by rw [hm2, ← hl2]; simp
    have hcnt := opnP_count bd
    have HG := hide (gathered_any (.slice al m cl) lv _ hl2 w2 (lists_big P2.parts.rowS (by rw [← hml, hm2]; have := HLe.out; omega)) (opnP_bs HBd.out) (Nat.le_trans (opnP_len bd) HLe.out) (by have := HLe.out; omega) false (by rw [hred]; rfl))
    have HK2 := hide J2.nw.kp
    clear HJ ht J2 hj2 D2 P2 hl2 hm2 hred hml
    go_wp2_with fail
    refine HG.out.mono ?_
    rintro ee w3 ⟨p3, rfl, K3, -⟩
    have HK3 := hide (HK2.out.trans K3)
    clear HG K3
    go_wp2_with fail
    go_ret2
    exact ⟨rfl, HK3.out⟩
  · have HK2 := hide N2.kp
    clear HJ hf2 N2 K2
    go_wp2_with fail
    go_ret2
    exact ⟨rfl, HK2.out⟩
end
end Go.Proofs.YtillhpgdlmeajaaGreatDoor

/-
  The laws of ledger: fresh, on, Same, two new disks and a ledger on them; Add and Publish while power lasts.
-/
namespace Go.Proofs.YtillhpgdlmeajaaGreatDoor
open Go.RowKit
open Go.Proofs
set_option linter.unusedVariables false
set_option maxHeartbeats 1000000 in
theorem uon_any (vb : Value) (b : List Int) (w : World) (hS : Sl w vb b) (hB : Bs b) (hl : b.length ≤ 1048576) :
    Calls Tryz.prog 12 #[vb] w fun e w' => ∃ p v, e = .returned (.pointer (some ⟨p, 0, none⟩)) ∧ Nw w w' p v (dkOn b) := by
  have HA : Hid ((dkOn []).app b = (true, ⟨b, 0, 1048576, 0, false⟩)) := by
    have h1 := Dk.app_plain (d := dkOn []) rfl (Int.le_refl 0) b (by show ((0 + b.length : Nat) : Int) ≤ 1048576; omega)
    exact h1
  have HY : Hid ((⟨b, 0, 1048576, 0, false⟩ : Dk).sync = (true, dkOn b)) := Dk.sync_plain (d := ⟨b, 0, 1048576, 0, false⟩) rfl (Int.le_refl 0)
  have HS := hide (fun w' (k : Kp [] w w') => hS.kept k (by simp))
  have HB := hide hB
  have HF := hide (fresh_any w)
  obtain ⟨ab, cb, hvb, -⟩ := hS
  obtain ⟨nb, hnb⟩ : ∃ n, n = b.length := ⟨_, rfl⟩
  rw [← hnb] at hvb
  subst hvb
  clear hB hl hnb
  go_enter Tryz.func12, Tryz.ntmps12
  go_wp2_with fail
  refine HF.out.mono ?_
  rintro ee w1 ⟨p, rfl, N1⟩
  have HN1 := hide N1
  have HAp := hide (nw_append N1 (HS.out w1 N1.kp) HB.out true HA.out 0 rfl)
  clear HF N1
  go_wp2_with fail
  refine HAp.out.mono ?_
  rintro ee w2 ⟨rfl, v2, N2, -⟩
  have HSy := hide (nw_sync N2 true HY.out 0 rfl)
  clear HAp N2
  go_wp2_with fail
  refine HSy.out.mono ?_
  rintro ee w3 ⟨rfl, N3, -⟩
  have HN3 := hide N3
  clear HSy N3
  go_wp2_with fail
  go_ret
  exact ⟨p, v2, rfl, HN3.out⟩
section
variable {w0 w : World} {l pd pk : Nat} {S : LS} {f : Fps}
end
end Go.Proofs.YtillhpgdlmeajaaGreatDoor

/-
  The contract of the ledger's Add where there would be too many leaves.
-/
namespace Go.Proofs.YtillhpgdlmeajaaGreatDoor
open Go.RowKit
open Go.Proofs
set_option linter.unusedVariables false
section
variable {w0 w : World} {l pd pk : Nat} {S : LS} {f : Fps}
/-- there would be too many leaves. -/
theorem uadd_over (h : Lg w0 w l pd pk S f) (vi : Value) (li : List (Value × List Int)) (xs : List (List Int)) (hxs : li.map (·.2) = xs) (hL : Lists w vi li) (hl : ∀ x ∈ xs, x.length ≤ 65535) (hn : xs.length ≤ 1000) (h257 : 256 < (allU S.its xs).length) :
    Calls Tryz.prog 15 #[.pointer (some ⟨l, 0, none⟩), vi] w fun e w' => e = .returned (.tuple #[.slice none 0 0, .int .i64 3]) ∧ Kp [] w w' := by
  have HNu := hide (numbered_any h vi li xs hxs hL hl hn)
  have HH := hide h
  have hll := allU_len S.its xs
  obtain ⟨fr, hfr⟩ : ∃ fr, fr = newU S.its xs := ⟨_, rfl⟩
  rw [← hfr] at HNu hll
  obtain ⟨a, ha⟩ : ∃ a, a = S.its.length := ⟨_, rfl⟩
  obtain ⟨b, hb⟩ : ∃ b, b = fr.length := ⟨_, rfl⟩
  have hfew := h.few
  have hb1 : b ≤ 1000 := by rw [hb, hfr]; have := newU_le S.its xs; omega
  rw [← ha] at hfew
  have hab2 : (256 : Int) < (a : Int) + (b : Int) := by omega
  have hab3 : decide ((256 : Int) < (a : Int) + (b : Int)) = true := decide_eq_true hab2
  have hw : IntKind.i64.wrap ((a : Int) + (b : Int)) = (a : Int) + (b : Int) := by simp [IntKind.wrap, IntKind.signed, IntKind.bits]; omega
  have HA := hide ha
  have HBB := hide hb
  clear h hL hl hn hxs ha hb hfr hll h257
  go_enter Tryz.func15, Tryz.ntmps15
  go_wp2_with fail
  refine HNu.out.mono ?_
  rintro ee w1 ⟨ao, m, c, s2, rfl, R1, K1, F, Sh1, hF⟩
  have HR1 := hide R1
  have HK1 := hide K1
  have HSh := hide Sh1
  have HZ := hide (usize_any (HH.out.on K1) a (by rw [HA.out]))
  clear R1 K1 Sh1 hF HNu
  go_wp2_with fail
  refine HZ.out.mono ?_
  rintro ee w2 ⟨rfl, hw2⟩
  subst w2
  have HZ2 := hide (ssize_any HSh.out b (by rw [HBB.out]))
  clear HZ
  go_wp2_with fail
  refine HZ2.out.mono ?_
  rintro ee w2 ⟨rfl, hw2⟩
  subst w2
  clear HZ2
  go_wp2_with fail
  go_ret2
  exact ⟨rfl, HK1.out⟩
end
end Go.Proofs.YtillhpgdlmeajaaGreatDoor

/-
  The closed lists of LedgerNumbers: what can't be opened; as many items as there may be.
-/
namespace Go.Proofs.YtillhpgdlmeajaaGreatDoor
open Go.RowKit
open Go.Proofs
set_option linter.unusedVariables false
theorem badD : ((opnP (recP [0, 0, 0, 0])).2.2 && (redU (opnP (recP [0, 0, 0, 0])).1).isSome) = false := by decide +kernel
theorem badE : ((opnP (recP (batU [[1], [1]]))).2.2 && (redU (opnP (recP (batU [[1], [1]]))).1).isSome) = false := by decide +kernel
theorem badF : ((opnP (recP (batU [[1]]) ++ recP (batU [[2], [1]]))).2.2 && (redU (opnP (recP (batU [[1]]) ++ recP (batU [[2], [1]]))).1).isSome) = false := by decide +kernel
theorem badG : ((opnP (recP (batU [[1]] ++ [0]))).2.2 && (redU (opnP (recP (batU [[1]] ++ [0]))).1).isSome) = false := by decide +kernel
theorem badH : ((opnP [1, 2, 3, 4, 5, 6, 7, 8]).2.2 && inOrd (opnP [1, 2, 3, 4, 5, 6, 7, 8]).1) = false := by decide +kernel
theorem bs1 (x : Int) (h : 0 ≤ x ∧ x ≤ 255) : Bs [x] := fun b hb => by simp at hb; omega
/-- the first k of many items. -/
def manyL (k : Nat) : List (List Int) := (List.range k).map fun (n : Nat) => [(n : Int), ((n / 16 : Nat) : Int)]
theorem manyL_len (k : Nat) : (manyL k).length = k := by simp [manyL]
theorem manyL_succ (k : Nat) : manyL (k + 1) = manyL k ++ [[(k : Int), ((k / 16 : Nat) : Int)]] := by simp [manyL, List.range_succ]
theorem manyL_mem {k : Nat} {x : List Int} (h : x ∈ manyL k) : ∃ n, n < k ∧ x = [(n : Int), ((n / 16 : Nat) : Int)] := by
  obtain ⟨n, hn, e⟩ := List.mem_map.1 h
  exact ⟨n, by simpa using hn, e.symm⟩
theorem manyL_two {k : Nat} {x : List Int} (h : x ∈ manyL k) : x.length = 2 := by obtain ⟨n, _, rfl⟩ := manyL_mem h; rfl
theorem manyL_nodup (k : Nat) : (manyL k).Nodup := by
  induction k with
  | zero => simp [manyL]
  | succ k ih =>
    rw [manyL_succ, List.nodup_append]
    refine ⟨ih, by simp, fun a ha b hb e => ?_⟩
    obtain ⟨n, hn, rfl⟩ := manyL_mem ha
    simp at hb
    rw [hb] at e
    simp at e
    omega
theorem manyL_take {k n : Nat} (h : n ≤ k) : (manyL k).take n = manyL n := by simp [manyL, ← List.map_take, List.take_range, Nat.min_eq_left h]
theorem manyL_part {k : Nat} (n : Nat) (h : n ≤ k) : manyL k = manyL n ++ (manyL k).drop n := by
  conv => lhs; rw [← List.take_append_drop n (manyL k), manyL_take h]
theorem allU_fresh {l xs : List (List Int)} (h : (l ++ xs).Nodup) : allU l xs = l ++ xs := by
  induction xs generalizing l with
  | nil => simp [allU]
  | cons x xs ih =>
    have hx : x ∉ l := fun hm => (List.nodup_append.1 h).2.2 x hm x (by simp) rfl
    rw [allU_cons, insU_new hx, ih (by simpa using h)]
    simp
theorem allU_old {l xs : List (List Int)} (h : ∀ x ∈ xs, x ∈ l) : allU l xs = l := by
  induction xs generalizing l with
  | nil => rfl
  | cons x xs ih => rw [allU_cons, insU_old (h x (by simp)), ih (fun y hy => h y (by simp [hy]))]
/-- the bytes of "one more". -/
def oneM : List Int := [111, 110, 101, 32, 109, 111, 114, 101]
theorem oneM_not (k : Nat) : oneM ∉ manyL k := fun h => by have := manyL_two h; simp [oneM] at this
theorem all200 : allU [] ((manyL 256).take 200) = manyL 200 := by
  rw [manyL_take (by omega), allU_fresh (by simpa using manyL_nodup 200), List.nil_append]
theorem all257 : (allU (manyL 200) ((manyL 256).drop 100 ++ [oneM])).length = 257 := by
  have e : (manyL 256).drop 100 = (manyL 200).drop 100 ++ (manyL 256).drop 200 := by
    have h1 := manyL_part (k := 256) 200 (by omega)
    conv => lhs; rw [h1]
    rw [List.drop_append, manyL_len]
    rfl
  have h2 := manyL_part (k := 256) 200 (by omega)
  rw [allU_snoc, e, allU_append, allU_old (fun x hx => List.mem_of_mem_drop hx), allU_fresh (by rw [← h2]; exact manyL_nodup _), ← h2, insU_new (oneM_not _), List.length_append, manyL_len]
  rfl
theorem all256 : allU (manyL 200) (manyL 256) = manyL 256 := by
  have h2 := manyL_part (k := 256) 200 (by omega)
  conv => lhs; rw [h2]
  rw [allU_append, allU_old (fun x hx => hx), allU_fresh (by rw [← h2]; exact manyL_nodup _), ← h2]
theorem all1 {x : List Int} (h : x.length ≠ 2) : (allU (manyL 256) [x]).length = 257 := by
  have : x ∉ manyL 256 := fun hm => h (manyL_two hm)
  show (insU (manyL 256) x).length = 257
  rw [insU_new this, List.length_append, manyL_len]
  rfl
theorem lists_11 (w : World) (x y : Int) (hx : 0 ≤ x ∧ x ≤ 255) (hy : 0 ≤ y ∧ y ≤ 255) : Lists (((w.alloc (.cells #[.int .u8 x] 5)).alloc (.cells #[.int .u8 y] 5)).alloc (.cells #[.slice (some ⟨w.heap.size, 0, none⟩) 1 1, .slice (some ⟨w.heap.size + 1, 0, none⟩) 1 1] 22)) (.slice (some ⟨w.heap.size + 2, 0, none⟩) 2 2) [(.slice (some ⟨w.heap.size, 0, none⟩) 1 1, [x]), (.slice (some ⟨w.heap.size + 1, 0, none⟩) 1 1, [y])] := by
  have h1 := (lit_sl w [x] 1 (0, 0) rfl (by omega)).kept ((Kp.refl [] (w.alloc (.cells #[.int .u8 x] 5))).alloc (.cells #[.int .u8 y] 5)) (by simp)
  have h2 := lit_sl (w.alloc (.cells #[.int .u8 x] 5)) [y] 1 (0, 0) rfl (by omega)
  have e1 : (w.alloc (.cells #[.int .u8 x] 5)).heap.size = w.heap.size + 1 := by simp
  have e2 : ((w.alloc (.cells #[.int .u8 x] 5)).alloc (.cells #[.int .u8 y] 5)).heap.size = w.heap.size + 2 := by simp
  rw [e1] at h2
  have := lists2 h1 (bs1 x hx) h2 (bs1 y hy)
  rw [e2] at this
  exact this
theorem lists_1 (w : World) (x : Int) (hx : 0 ≤ x ∧ x ≤ 255) : Lists ((w.alloc (.cells #[.int .u8 x] 5)).alloc (.cells #[.slice (some ⟨w.heap.size, 0, none⟩) 1 1] 22)) (.slice (some ⟨w.heap.size + 1, 0, none⟩) 1 1) [(.slice (some ⟨w.heap.size, 0, none⟩) 1 1, [x])] := by
  have h1 : Sl (w.alloc (.cells #[.int .u8 x] 5)) (.slice (some ⟨w.heap.size, 0, none⟩) 1 1) [x] := lit_sl w [x] 1 (0, 0) rfl (by omega)
  have e1 : (w.alloc (.cells #[.int .u8 x] 5)).heap.size = w.heap.size + 1 := by simp
  have := lists1 h1 (bs1 x hx)
  rw [e1] at this
  exact this
end Go.Proofs.YtillhpgdlmeajaaGreatDoor

/-
  The contracts of the reference's Num and Bytes (numbers and texts behind what there is).
-/
namespace Go.Proofs.YtillhpgdlmeajaaGreatDoor
open Go.RowKit
open Go.Proofs
set_option maxHeartbeats 400000 in
theorem refbytes_any (v : Value) (bs : List Int) (vx : Value) (cs : List Int) (base : Nat) (w : World) (h : Row w base v bs) (hbase : base ≤ w.heap.size) (hb : bs.length + cs.length ≤ 100000000000) (hS : Sl w vx cs) (hk : ∀ w1, Kp v.ownBlock.toList w w1 → Sl w1 vx cs) :
    Calls Tryz.prog 50 #[v, vx] w fun e w' => ∃ ao m c, e = .returned (.slice ao m c) ∧ Row w' base (.slice ao m c) (bs ++ be2 cs.length ++ cs) ∧ RStep w v w' (.slice ao m c) := by
  obtain ⟨ax, cx, rfl, hx1, hx2, hx3, _⟩ := hS
  have HK := hide hk
  clear hk
  obtain ⟨ds, hds⟩ : ∃ ds, ds = be2 cs.length := ⟨_, rfl⟩
  have hl : ds.length = 2 := by rw [hds]; rfl
  have hsl : Sl (w.alloc (.cells #[.int .u8 ((cs.length : Int) / 256 % 256), .int .u8 ((cs.length : Int) % 256)] 5)) (.slice (some ⟨w.heap.size, 0, none⟩) 2 2) ds := by
    rw [hds]; exact Sl.block (cs := [(cs.length : Int) / 256 % 256, (cs.length : Int) % 256]) (t := 5) (heap_alloc_new w _) (by simp [maxLen])
  rw [← hds]
  clear hds
  go_enter Tryz.func50, Tryz.ntmps50
  go_wp2_with (first | (at_builtin; refine wpList_append_row rfl (.tmp 5) (.tmp 13) rfl base v bs rfl (h.kept ((Kp.refl [] w).alloc _) (by simp)) _ ds rfl hsl (by omega) (by simp; omega) ?_; intro ao m c w1 r1 s1; have s1' := s1.after ((Kp.refl [] w).alloc _); have hsx := unhide HK _ s1'.1) | (at_builtin; refine wpList_append_row rfl (.tmp 14) (.tmp 15) rfl base _ _ rfl r1 _ cs rfl hsx (by rw [List.length_append]; omega) (by have := s1'.1.size; omega) ?_; intro ao2 m2 c2 w2 r2 s2))
  go_ret
  exact ⟨ao2, m2, c2, rfl, r2, s1'.trans s2⟩
end Go.Proofs.YtillhpgdlmeajaaGreatDoor

/-
  The laws of ledger: the reference's Batch, items.
-/
namespace Go.Proofs.YtillhpgdlmeajaaGreatDoor
open Go.RowKit
open Go.Proofs
set_option linter.unusedVariables false
theorem RowsQ.off {w w' : World} {base : Nat} {v : Value} {l : List (Value × List Int)} {S : List Nat} (h : RowsQ w base v l) (k : Kp S w w') (hS : ∀ i ∈ S, i < base ∨ w.heap.size ≤ i) : RowsQ w' base v l :=
  h.kept (k.less (T := S.filter (fun i => decide (i < base))) (fun i hi hl => List.mem_filter.2 ⟨hi, decide_eq_true ((hS i hi).resolve_right (by omega))⟩)) (fun i hi => of_decide_eq_true (List.mem_filter.1 hi).2)
theorem RowsQ.lists {w : World} {base : Nat} {v : Value} {l : List (Value × List Int)} (h : RowsQ w base v l) (hl : l.length ≤ 1000000) : Lists w v l := lists_big h.1 hl
theorem RowsQ.rebase {w : World} {base b : Nat} {v : Value} {l : List (Value × List Int)} (h : RowsQ w base v l) (hb : b ≤ base) : RowsQ w b v l :=
  ⟨⟨owns_rebase h.1.1 (fun i hi => Nat.le_trans hb (h.1.1.own i hi)), h.1.2⟩, fun x hx i hi => Nat.le_trans hb (h.2 x hx i hi)⟩
theorem rowsQ_nil (w : World) (base : Nat) : RowsQ w base (.slice none 0 0) [] := ⟨⟨World.ownsRow_nil _ _ _ _, by simp⟩, by simp⟩
set_option maxRecDepth 100000 in
set_option maxHeartbeats 4000000 in
theorem ubatch_any (v : Value) (l : List (Value × List Int)) (w : World) (hL : Lists w v l) (hs : ∀ x ∈ l, x.2.length ≤ 65535) (hn : l.length ≤ 1000) :
    Calls Tryz.prog 14 #[v] w fun e w' => ∃ ao m c, e = .returned (.slice ao m c) ∧ Row w' w.heap.size (.slice ao m c) (batU (l.map (·.2))) ∧ Kp [] w w' := by
  obtain ⟨al, cl, rfl, -, hcell⟩ := hL
  have HC := hide hcell
  have HS := hide hs
  obtain ⟨N, hN⟩ : ∃ N, N = l.length := ⟨_, rfl⟩
  have hn32 : IntKind.u32.wrap (N : Int) = N := by simp [IntKind.wrap, IntKind.signed, IntKind.bits]; omega
  rw [← hN] at hn ⊢
  have HN := hide hN
  have HNum := hide (jnum_any (.slice none 0 0) [] (N : Int) w.heap.size w (World.ownsRow_nil _ _ _ _) (Nat.le_refl _) (by simp))
  clear hcell hs hN
  go_enter Tryz.func14, Tryz.ntmps14
  go_wp2_with fail
  refine HNum.out.mono ?_
  rintro ee w1 ⟨a1, m1, c1, rfl, R1, S1⟩
  rw [List.nil_append] at R1
  have HR1 := hide R1
  have HK1 : Hid (Kp [] w w1) := S1.1.mono (by simp [Value.ownBlock])
  clear HNum R1 S1
  go_wp2_with fail
  go_loopw [3, 4] (fun o i wr => ∃ k : Nat, k ≤ N ∧ i = .int .i64 k ∧ ∃ ao m c, o = .slice ao m c ∧ Row wr w.heap.size o (bq N ++ (((l.take k).map (·.2)).map itmU).flatten) ∧ Kp [] w wr) (fun _ i _ => N - (intOf i).toNat)
  case atStart => exact ⟨0, by omega, rfl, a1, m1, c1, rfl, by simpa using HR1.out, HK1.out⟩
  case round =>
    obtain ⟨k, hk, rfl, ao, m, c, rfl, R, K⟩ := hrel
    have HR := hide R
    have HK := hide K
    clear HR1 HK1
    by_cases hlt : k < N
    · have hlt' : (k : Int) < (N : Int) := by omega
      have hkl : k < l.length := by have := HN.out; omega
      obtain ⟨b, off, rfl, hc, hS, hB⟩ := HC.out k hkl
      have hcw := K.cell hc (by simp)
      have hlen := HS.out l[k] (List.getElem_mem hkl)
      have he : (((l.take (k + 1)).map (·.2)).map itmU).flatten = (((l.take k).map (·.2)).map itmU).flatten ++ itmU l[k].2 := by
        rw [List.take_succ_eq_append_getElem hkl, List.map_append, List.map_append]; simp
      have hll : ((((l.take k).map (·.2)).map itmU).flatten).length ≤ 100000000 := by
        have h1 := flatU_len ((l.take k).map (·.2)) 65535 (fun r hr => by
          obtain ⟨x, hx, rfl⟩ := List.mem_map.1 hr
          exact HS.out x (List.mem_of_mem_take hx))
        rw [List.length_map, List.length_take] at h1
        have : min k l.length * (2 + 65535) ≤ 1000 * (2 + 65535) := Nat.mul_le_mul_right _ (by omega)
        omega
      obtain ⟨x, hx⟩ : ∃ x, x = l[k] := ⟨_, rfl⟩
      rw [← hx] at hc hS hB hcw hlen he
      have hown := fun i hi => R.own i hi
      have HBy := hide (refbytes_any (.slice ao m c) _ x.1 x.2 w.heap.size wr R K.size (by rw [List.length_append, bq_len]; omega) (hS.kept K (by simp)) (fun w1 k1 => hS.kept (K.then k1 (fun i hi => .inr (hown i (by simpa [Option.mem_toList] using hi)))) (by simp)))
      obtain ⟨ax, cx, hxs, -⟩ := id hS
      obtain ⟨nx, hnx⟩ : ∃ n, n = x.2.length := ⟨_, rfl⟩
      rw [← hnx] at hxs
      rw [hxs] at hcw HBy
      have HE := hide he
      clear hc hS hB he hx hlen R K hxs hnx hll hown
      go_wp2_with fail
      refine HBy.out.mono ?_
      rintro ee w2 ⟨a2, m2, c2, rfl, R2, S2⟩
      have HR2 := hide R2
      have HK2 := hide (S2.kpn HK.out HR.out)
      clear HBy R2 S2 hcw
      go_wp2_with fail
      go_roundw
      case rel => exact ⟨k + 1, by omega, by go_num, a2, m2, c2, rfl, by have := HR2.out; rw [HE.out]; show Row w2 w.heap.size (.slice a2 m2 c2) (bq N ++ ((((l.take k).map (·.2)).map itmU).flatten ++ (be2 x.2.length ++ x.2))); simpa only [List.append_assoc] using this, HK2.out⟩
      case measure => simp [intOf]; omega
    · have hkn : k = N := by omega
      have hnlt : ¬ (k : Int) < (N : Int) := by omega
      have HRn : Hid (Row wr w.heap.size (.slice ao m c) (batU (l.map (·.2)))) := by
        have := HR.out
        rw [List.take_of_length_le (by have := HN.out; omega)] at this
        unfold batU
        rw [List.length_map, ← HN.out]
        exact this
      clear R K hkn HR
      go_wp2_with fail
      go_ret
      exact ⟨ao, m, c, rfl, HRn.out, HK.out⟩
end Go.Proofs.YtillhpgdlmeajaaGreatDoor

/-
  Arguments of the laws of ledger: slices of slices of numbers; rows of slices that lie aside.
-/
namespace Go.Proofs.YtillhpgdlmeajaaGreatDoor
open Go.RowKit
open Go.Proofs
open Go.Deep Go.ChangeShapes Go.WideShapes
set_option linter.unusedVariables false
section
variable {H : Type} {enc : TypeId × Value → H} {w : World}
end
theorem RowsQ.aside {w w' : World} {base : Nat} {v : Value} {l : List (Value × List Int)} {S : List Nat} (h : RowsQ w base v l) (k : Kp S w w') (h1 : ∀ i, v.ownBlock = some i → i ∉ S) (h2 : ∀ x ∈ l, ∀ i, x.1.ownBlock = some i → i ∉ S) : RowsQ w' base v l :=
  ⟨⟨h.1.1.kept k h1, fun x hx => ⟨(h.1.2 x hx).1.kept k (h2 x hx), (h.1.2 x hx).2⟩⟩, h.2⟩
theorem RowV.at {w : World} {base m c : Nat} {ao : Option Addr} {l : List Value} (h : RowV w base (.slice ao m c) l) (i : Nat) (hi : i < l.length) : ∃ g, ao = some ⟨g, 0, none⟩ ∧ w.cell? ⟨g, i, none⟩ = some l[i] := by
  rcases h.2 with ⟨e, h0⟩ | ⟨g, cap, cur, e, _⟩
  · omega
  · injection e with e1 e2 e3
    subst e1
    have := h.cells (g := g) rfl i l[i] (by simp [List.getElem?_eq_getElem hi])
    exact ⟨g, rfl, by simpa [Addr.add_lit] using this⟩
/-- a row of slices that lies beside the blocks F. -/
structure Al (w0 w : World) (F : Nat → Prop) (v : Value) (la : List (Value × List Int)) : Prop where
  row : RowsQ w w0.heap.size v la
  own : ∀ k, v.ownBlock = some k → k < w.heap.size ∧ ¬ F k
  its : ∀ x ∈ la, ∀ k, x.1.ownBlock = some k → k < w.heap.size ∧ ¬ F k
section
variable {w0 w w' : World} {F F' : Nat → Prop} {v v' : Value} {la : List (Value × List Int)}
theorem al_nil (w0 w : World) (F : Nat → Prop) : Al w0 w F (.slice none 0 0) [] := ⟨rowsQ_nil _ _, (fun k hk => by cases hk), (fun x hx => by cases hx)⟩
theorem Al.step (h : Al w0 w F v la) (t : Stp F w w' F') : Al w0 w' F' v la := by
  obtain ⟨S, hS, k⟩ := t.kp
  exact ⟨h.row.aside k (fun i hi hm => (h.own i hi).2 (hS i hm)) (fun x hx i hi hm => (h.its x hx i hi).2 (hS i hm)), fun i hi => ⟨Nat.lt_of_lt_of_le (h.own i hi).1 k.size, t.off (h.own i hi).1 (h.own i hi).2⟩, fun x hx i hi => ⟨Nat.lt_of_lt_of_le (h.its x hx i hi).1 k.size, t.off (h.its x hx i hi).1 (h.its x hx i hi).2⟩⟩
theorem Al.on (h : Al w0 w F v la) (k : Kp [] w w') : Al w0 w' F v la := h.step (Stp.mid k)
/-- one more. -/
theorem Al.put {x : Value × List Int} (h : Al w0 w F v la) (hF : ∀ i, F i → i < w.heap.size) (r : RowsQ w' w0.heap.size v' (la ++ [x])) (s : RStep w v w' v') (hx : ∀ k, x.1.ownBlock = some k → k < w.heap.size ∧ ¬ F k) : Al w0 w' F v' (la ++ [x]) := by
  have hs := s.1.size
  refine ⟨r, fun k hk => ⟨r.1.1.lt hk, ?_⟩, fun y hy k hk => ?_⟩
  · rcases s.2 k hk with h1 | h1
    · exact (h.own k h1).2
    · exact fun e => by have := hF k e; omega
  · rcases List.mem_append.1 hy with hy | hy
    · exact ⟨by have := (h.its y hy k hk).1; omega, (h.its y hy k hk).2⟩
    · obtain rfl : y = x := by simpa using hy
      exact ⟨by have := (hx k hk).1; omega, (hx k hk).2⟩
end
/-- a row of slices whose blocks lie between lo and hi. -/
structure Xs (w : World) (lo hi : Nat) (v : Value) (l : List (Value × List Int)) : Prop where
  row : RowsQ w lo v l
  own : ∀ k, v.ownBlock = some k → k < hi
  its : ∀ x ∈ l, ∀ k, x.1.ownBlock = some k → k < hi
theorem Xs.kept {w w' : World} {lo hi : Nat} {v : Value} {l : List (Value × List Int)} {S : List Nat} (h : Xs w lo hi v l) (k : Kp S w w') (hS : ∀ i ∈ S, i < lo ∨ hi ≤ i) : Xs w' lo hi v l :=
  ⟨h.row.aside k (fun i e hm => by have := h.own i e; have := h.row.1.1.own i e; have := hS i hm; omega) (fun x hx i e hm => by have := h.its x hx i e; have := h.row.2 x hx i e; have := hS i hm; omega), h.own, h.its⟩
/-- append of a slice that lies anywhere else. -/
theorem wpList_rowsR {base : Nat} {w2 : World} {ops : Array Oper} {rest : List Oper} {o : Oper} {a : Act} {Q : Exit → Act → World → Prop} (hgd : o.guard = none) (s x : Operand)
    (ho : o.op = .call { callee := .builtin .append, args := #[s, x], argTypes := #[33, 33] }) (v : Value) (l : List (Value × List Int)) (hs : a.eval s = v) (hP : RowsQ w2 base v l) (hbase : base ≤ w2.heap.size) (hl : l.length ≤ 1000000)
    (vx : Value) (bs : List Int) (hr : Sl w2 vx bs) (hap : ∀ i, vx.ownBlock = some i → v.ownBlock ≠ some i) (hnb : ∀ i, vx.ownBlock = some i → base ≤ i) (hb : Bs bs) (hx : a.eval x = .slice (some ⟨w2.heap.size, 0, none⟩) 1 1)
    (h : ∀ ao m c w', m = l.length + 1 → RowsQ w' base (.slice ao m c) (l ++ [(vx, bs)]) → RStep w2 v w' (.slice ao m c) → wpList Tryz.prog ops Q rest (a.put o.dst (.slice ao m c)) w') : wpList Tryz.prog ops Q (o :: rest) a (w2.alloc (.cells #[vx] 22)) := by
  have k2 : Kp [] w2 (w2.alloc (.cells #[vx] 22)) := (Kp.refl [] w2).alloc _
  have hP2 := hP.1.kept k2
  obtain ⟨ax, cx, hvx, -⟩ := id hr
  refine wpList_append_rowv hgd s x ho base v (l.map (·.1)) hs hP2.1 ⟨w2.heap.size, 0, none⟩ 1 [vx] hx ?_ ?_ ?_ ?_ ?_
  · intro j u hu
    exact World.news_of_block (heap_alloc_new w2 _) j u (by simpa using hu)
  · simp [hvx, Value.oneCell']
  · simp; omega
  · simp; omega
  · intro ao m c w' r st
    have hml := r.len
    refine h ao m c w' (by rw [hml]; simp) ⟨hP2.snocJ (x := (vx, bs)) (hr.kept k2 (by simp)) hb (fun i h1 h2 => absurd h2 (hap i h1)) r st, fun y hy => ?_⟩ ⟨(k2.mono (by simp)).trans st.1, fun k hk => (st.2 k hk).imp id (fun h => Nat.le_trans k2.size h)⟩
    · rcases List.mem_append.1 hy with hy | hy
      · exact hP.2 y hy
      · obtain rfl : y = (vx, bs) := by simpa using hy
        exact hnb
end Go.Proofs.YtillhpgdlmeajaaGreatDoor

/-
  A ledger's disks, asked while it is open; two disks whatever they are.
-/
namespace Go.Proofs.YtillhpgdlmeajaaGreatDoor
open Go.RowKit
open Go.Proofs
set_option linter.unusedVariables false
section
variable {w0 w : World} {l pd pk : Nat} {S : LS} {f : Fps}
/-- both disks, when the ledger is left. -/
structure Ds (w0 w : World) (pd pk : Nat) (dd dk : Dk) (f : Fps) : Prop where
  ok : f.Ok w0 w
  d : Dx w0 w pd dd (f 5)
  k : Dx w0 w pk dk (f 6)
theorem Lg.ds (h : Lg w0 w l pd pk S f) : Ds w0 w pd pk S.dd S.dk f := by
  obtain ⟨j, s, q, vs, pv, hx⟩ := h
  exact ⟨hx.ok, hx.jx.dx, hx.bf.dx⟩
theorem Ds.on {w' : World} {dd dk : Dk} (h : Ds w0 w pd pk dd dk f) (k : Kp [] w w') : Ds w0 w' pd pk dd dk f := ⟨h.ok.on k, h.d.kept k (h.ok.kp.trans k) (by simp), h.k.kept k (h.ok.kp.trans k) (by simp)⟩
end
theorem RowI.at {w : World} {base m c : Nat} {ao : Option Addr} {l : List Int} (h : RowI w base (.slice ao m c) l) (i : Nat) (hi : i < l.length) : ∃ g, ao = some ⟨g, 0, none⟩ ∧ w.cell? ⟨g, i, none⟩ = some (.int .i64 l[i]) := by
  rcases h.2 with ⟨e, h0⟩ | ⟨g, cap, cur, e, _⟩
  · omega
  · injection e with e1 e2 e3
    subst e1
    have := h.cells (g := g) rfl i (.int .i64 l[i]) (by simp [List.getElem?_eq_getElem hi])
    exact ⟨g, rfl, by simpa [Addr.add_lit] using this⟩
end Go.Proofs.YtillhpgdlmeajaaGreatDoor

/-
  The contract of the law package's known.
-/
namespace Go.Proofs.YtillhpgdlmeajaaGreatDoor
open Go.RowKit
open Go.Proofs
theorem made_zeros (n : Nat) : (madeCells (Value.int .u8 0).cells (n * 1)).toList = (List.replicate n (0 : Int)).map (Value.int .u8) := by
  have := toList_madeCells_one (.int .u8 0) (n * 1)
  rw [Nat.mul_one] at this ⊢
  simpa [Value.cells] using this
end Go.Proofs.YtillhpgdlmeajaaGreatDoor
