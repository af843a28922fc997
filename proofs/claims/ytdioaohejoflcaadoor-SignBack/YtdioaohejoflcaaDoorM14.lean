/-
  The contract of the program's partsOf, for whatever chooses the sides; Public and Sign.
-/
import Derived.Test.YtdioaohejoflcaaDoorM11
import Derived.Test.YtdioaohejoflcaaDoorM13
import Derived.Shelf.Abstract
import Derived.Test.YtdioaohejoflcaaDoorM10
import Derived.Test.YtdioaohejoflcaaDoorM7
import Derived.Test.YtdioaohejoflcaaDoorM9
import Derived.Test.YtdioaohejoflcaaDoorM3
import Derived.Laws.ResultCell
import Derived.Laws.Rows
namespace Go.Proofs.YtdioaohejoflcaaDoor
open Go.RowKit
open Go.Proofs

theorem Row.lt {w : World} {base k : Nat} {v : Value} {bs : List Int} (h : Row w base v bs) (hk : v.ownBlock = some k) : k < w.heap.size := by
  rcases h.2 with ⟨rfl, _⟩ | ⟨g, cap, cur, rfl, hb, hg, _⟩
  · cases hk
  · cases hk; exact (Array.getElem?_eq_some_iff.1 hg).1
theorem RowV.lt {w : World} {base k : Nat} {v : Value} {xs : List Value} (h : RowV w base v xs) (hk : v.ownBlock = some k) : k < w.heap.size := by
  rcases h.2 with ⟨rfl, _⟩ | ⟨g, cap, cur, rfl, hb, hg, _⟩
  · cases hk
  · cases hk; exact (Array.getElem?_eq_some_iff.1 hg).1

/-- v is a row of slices, all of the call's own, each apart from it. -/
def Parts (w : World) (base : Nat) (v : Value) (l : List (Value × List Int)) : Prop :=
  RowV w base v (l.map (·.1)) ∧ ∀ x ∈ l, Row w base x.1 x.2 ∧ Bs x.2 ∧ ∀ k, x.1.ownBlock = some k → v.ownBlock ≠ some k
theorem Parts.kept {w w' : World} {base : Nat} {v : Value} {l : List (Value × List Int)} (h : Parts w base v l) (k : Kp [] w w') : Parts w' base v l :=
  ⟨h.1.kept k (by simp), fun x hx => ⟨(h.2 x hx).1.kept k (by simp), (h.2 x hx).2⟩⟩
theorem Parts.lists {w : World} {base : Nat} {v : Value} {l : List (Value × List Int)} (h : Parts w base v l) (hl : l.length ≤ 1000) : Lists w v l :=
  lists_of_rowv h.1 hl (fun x hx => ⟨(h.2 x hx).1.sl, (h.2 x hx).2.1⟩)
theorem Parts.rebase {w w0 w' : World} {v : Value} {l : List (Value × List Int)} (h : Parts w' w0.heap.size v l) (k : Kp [] w w0) : Parts w' w.heap.size v l :=
  ⟨owns_rebase h.1 (fun i hi => Nat.le_trans k.size (h.1.own i hi)), fun x hx => ⟨row_new (h.2 x hx).1 k, (h.2 x hx).2⟩⟩
theorem Parts.snoc {wr w2 w3 w4 : World} {base : Nat} {v v' : Value} {l : List (Value × List Int)} {x : Value × List Int} (h : Parts wr base v l) (k : Kp [] wr w2) (hx : Row w2 wr.heap.size x.1 x.2) (hb : Bs x.2) (k3 : Kp [] w2 w3)
    (r : RowV w4 base v' (l.map (·.1) ++ [x.1])) (s : RStep w3 v w4 v') (hbase : base ≤ wr.heap.size) : Parts w4 base v' (l ++ [x]) := by
  refine ⟨by rw [List.map_append]; exact r, fun y hy => ?_⟩
  rcases List.mem_append.1 hy with hy | hy
  · obtain ⟨h1, h2, h3⟩ := h.2 y hy
    refine ⟨((h1.kept k (by simp)).kept k3 (by simp)).kept s.1 (fun i hi hm => h3 i hi (by simpa using hm)), h2, fun i hi hv => ?_⟩
    rcases s.2 i hv with h4 | h4
    · exact h3 i hi h4
    · have := h1.lt hi
      have := k.size
      have := k3.size
      omega
  · obtain rfl : y = x := by simpa using hy
    have hlt : ∀ i, y.1.ownBlock = some i → i < w3.heap.size := fun i hi => by have := hx.lt hi; have := k3.size; omega
    have hne : ∀ i, y.1.ownBlock = some i → v.ownBlock ≠ some i := fun i hi hv => by have := h.1.lt hv; have := hx.own i hi; omega
    refine ⟨owns_rebase ((hx.kept k3 (by simp)).kept s.1 (fun i hi hm => hne i hi (by simpa using hm))) (fun i hi => Nat.le_trans hbase (hx.own i hi)), hb, fun i hi hv => ?_⟩
    rcases s.2 i hv with h4 | h4
    · exact hne i hi h4
    · have := hlt i hi; omega
/-- what is gathered so far. -/
def Acc (w : World) (ls : List (List Int)) (v : Value) (wr : World) : Prop := ∃ l, Parts wr w.heap.size v l ∧ l.map (·.2) = ls ∧ Kp [] w wr
theorem Acc.mid {w wr w2 : World} {ls : List (List Int)} {v : Value} (h : Acc w ls v wr) (k : Kp [] wr w2) : Acc w ls v w2 := by
  obtain ⟨l, h1, h2, h3⟩ := h
  exact ⟨l, h1.kept k, h2, h3.trans k⟩
theorem Acc.kp {w wr : World} {ls : List (List Int)} {v : Value} (h : Acc w ls v wr) : Kp [] w wr := by obtain ⟨_, _, _, h3⟩ := h; exact h3
theorem Acc.cap {w wr : World} {ls : List (List Int)} {ao : Option Addr} {m c : Nat} (h : Acc w ls (.slice ao m c) wr) : m = ls.length := by
  obtain ⟨l, h1, h2, _⟩ := h
  have := h1.1.len
  rw [this, ← h2]; simp
/-- one more slice behind them. -/
theorem wpList_acc {w wr w2 : World} {ops : Array Oper} {rest : List Oper} {o : Oper} {a : Act} {Q : Exit → Act → World → Prop} (hgd : o.guard = none) (s x : Operand)
    (ho : o.op = .call { callee := .builtin .append, args := #[s, x], argTypes := #[31, 31] }) (v : Value) (ls : List (List Int)) (hs : a.eval s = v) (hA : Acc w ls v wr) (hl : ls.length ≤ 1000000)
    (vx : Value) (bs : List Int) (k : Kp [] wr w2) (hr : Row w2 wr.heap.size vx bs) (hb : Bs bs) (hx : a.eval x = .slice (some ⟨w2.heap.size, 0, none⟩) 1 1)
    (h : ∀ ao m c w', Acc w (ls ++ [bs]) (.slice ao m c) w' → wpList Tryd.prog ops Q rest (a.put o.dst (.slice ao m c)) w') : wpList Tryd.prog ops Q (o :: rest) a (w2.alloc (.cells #[vx] 24)) := by
  obtain ⟨l, hP, hl2, hK⟩ := hA
  have hP2 := hP.kept (k.trans ((Kp.refl [] w2).alloc (.cells #[vx] 24)))
  obtain ⟨ax, cx, hvx⟩ := hr.shape
  refine wpList_append_rowv hgd s x ho w.heap.size v (l.map (·.1)) hs hP2.1 ⟨w2.heap.size, 0, none⟩ 1 [vx] hx ?_ ?_ ?_ ?_ ?_
  · intro j u hu
    exact World.news_of_block (heap_alloc_new w2 _) j u (by simpa using hu)
  · simp [hvx, Value.oneCell']
  · have : l.length = ls.length := by rw [← hl2]; simp
    simp; omega
  · have := hK.size
    have := k.size
    simp; omega
  · intro ao m c w' r st
    refine h ao m c w' ⟨l ++ [(vx, bs)], hP.snoc (x := (vx, bs)) k hr hb ((Kp.refl [] w2).alloc _) r st hK.size, by simp [hl2], ?_⟩
    exact (hK.trans (k.trans ((Kp.refl [] w2).alloc _))).then st.1 (fun i hi => .inr (hP.1.own i (by simpa using hi)))

theorem tell_enters (b : Bool) : Enters Tryd.prog (if b then 80 else 83) := by
  cases b
  · exact enters_of Tryd.func83 (by kernel_rfl) rfl
  · exact enters_of Tryd.func80 (by kernel_rfl) rfl
theorem tell_any (b : Bool) (vb : Value) (bs : List Int) (key bit side : Int) (r : List Int) (hr : r = if b then secP bs key bit side else shnP bs key bit side) (w : World) (hS : Sl w vb bs) (hB : Bs bs) (hl : bs.length ≤ 1000) (hG : Gl w) :
    Calls Tryd.prog (if b then 80 else 83) #[vb, .int .i64 key, .int .i64 bit, .int .i64 side] w fun e w' => ∃ ao m c, e = .returned (.slice ao m c) ∧ Row w' w.heap.size (.slice ao m c) r ∧ Kp [] w w' := by
  cases b
  · exact shown_any vb bs key bit side r hr w hS hB hl hG
  · exact secret_any vb bs key bit side r hr w hS hB hl hG

theorem Tryd.infoT : ∃ i, Tryd.prog.info? 86 = some i ∧ i.size = 1 := by
  have h : (Tryd.prog.info? 86).map (·.size) = some 1 := by kernel_rfl
  exact Option.map_eq_some_iff.1 h
theorem index0 (x y : Value) (w : World) : (Instr.index 88 (.agg #[x, y]) (.int .i64 0)).run Tryd.prog w = .ok x w := by
  obtain ⟨i, hi, hs⟩ := Tryd.infoT
  simp [Instr.index, asIntOf, Sem.run_bind, run_underlying Tryd.underlying88 w, sizeOf, typeInfo, hi, hs, part]
theorem index1 (x y : Value) (w : World) : (Instr.index 88 (.agg #[x, y]) (.int .i64 1)).run Tryd.prog w = .ok y w := by
  obtain ⟨i, hi, hs⟩ := Tryd.infoT
  simp [Instr.index, asIntOf, Sem.run_bind, run_underlying Tryd.underlying88 w, sizeOf, typeInfo, hi, hs, part]
theorem ptP_at (bs : List Int) (key : Int) (c : Nat → Nat → Bool) (k s : Nat) (hs : s < 2) : ptP bs key c (2 * k + s) = if c k s then secP bs key (k : Nat) (s : Nat) else shnP bs key (k : Nat) (s : Nat) := by
  unfold ptP
  rw [show (2 * k + s) / 2 = k by omega, show (2 * k + s) % 2 = s by omega]

set_option maxRecDepth 100000 in
set_option maxHeartbeats 2000000 in
theorem partsOf_any (vb : Value) (bs : List Int) (key : Int) (c : Nat → Nat → Bool) (fc : FuncId) (cap : Array Value) (hen : Enters Tryd.prog fc) (w : World) (hS : Sl w vb bs) (hB : Bs bs) (hl : bs.length ≤ 1000) (hG : Gl w)
    (hch : ∀ j, j < 32 → ∀ w', Kp [] w w' → Calls Tryd.prog fc (#[.int .i64 (j : Nat)] ++ cap) w' fun e w'' => e = .returned (two c j) ∧ Kp [] w' w'') :
    Calls Tryd.prog 59 #[vb, .int .i64 key, .func (.func fc) #[] cap] w fun e w' => ∃ ao m cc, e = .returned (.slice ao m cc) ∧ Acc w (ptsP bs key c 64) (.slice ao m cc) w' := by
  obtain ⟨i0, hi0, hz0, hz1, hz2⟩ := info_parts Tryd.infoSl
  have HS := hide hS
  have HG := hide hG
  have HCH := hide hch
  have HB := hide hB
  have hen2 : ∀ (args : Array Value) (w : World), (callFunc fc args).run Tryd.prog w = .ok (.enter fc args) w := hen
  obtain ⟨ab, cb, hvb, _⟩ := hS
  obtain ⟨nb, hnb⟩ : ∃ n, n = bs.length := ⟨_, rfl⟩
  rw [← hnb] at hvb
  subst hvb
  clear hG hch hB hen hnb
  go_enter Tryd.func59, Tryd.ntmps59
  go_wp2_with (at_make; refine wpList_make_own _ rfl _ _ 31 rfl w.heap.size 24 i0 (.slice none 0 0) 1 Tryd.underlying31 hi0 hz0 hz1 .i64 .i64 _ 64 rfl rfl (by omega) (by rw [hz2]; omega) (by unfold maxLen; omega) (Nat.le_refl _) ?_; intro w1 o1 g1; have K1 : Kp [] w w1 := (Kp.refl [] w).grown g1 (by intro k hk; cases hk); have R1 : RowV w1 w.heap.size _ [] := o1)
  have A1 : Hid (Acc w (ptsP bs key c 0) (.slice (some ⟨w.heap.size, 0, none⟩) 0 64) w1) := ⟨[], ⟨R1, fun x hx => by cases hx⟩, rfl, K1⟩
  clear o1 g1 R1 K1
  go_loopw [7, 12] (fun v i wr => ∃ (k m cc : Nat) (ao : Option Addr), k ≤ 32 ∧ v = .slice ao m cc ∧ i = .int .i64 k ∧ Acc w (ptsP bs key c (2 * k)) v wr) (fun _ i _ => 32 - (intOf i).toNat)
  case atStart => exact ⟨0, 0, 64, some ⟨w.heap.size, 0, none⟩, by omega, rfl, rfl, unhide A1⟩
  case round =>
    obtain ⟨k, m, cc, ao, hk, rfl, rfl, Ar⟩ := hrel
    clear A1
    have HA := hide Ar
    clear Ar
    by_cases hlt : k < 32
    · have hlt2 : (k : Int) < 32 := by omega
      go_wp2_with fail
      refine (unhide HCH k hlt wr (unhide HA).kp).mono ?_
      rintro ee w2 ⟨rfl, K2⟩
      have HA2 := hide ((unhide HA).mid K2)
      clear HA K2
      obtain ⟨f0, e0⟩ : ∃ f0, f0 = if c k 0 then 80 else 83 := ⟨_, rfl⟩
      obtain ⟨f1, e1⟩ : ∃ f1, f1 = if c k 1 then 80 else 83 := ⟨_, rfl⟩
      have hT : two c k = .agg #[.func (.func f0) #[] #[], .func (.func f1) #[] #[]] := by unfold two tl; rw [e0, e1]
      rw [hT]
      have hen0 : ∀ (args : Array Value) (w : World), (callFunc f0 args).run Tryd.prog w = .ok (.enter f0 args) w := by rw [e0]; exact tell_enters _
      have hen1 : ∀ (args : Array Value) (w : World), (callFunc f1 args).run Tryd.prog w = .ok (.enter f1 args) w := by rw [e1]; exact tell_enters _
      have HF0 := hide e0
      have HF1 := hide e1
      clear hT e0 e1
      obtain ⟨wo, hwo⟩ : ∃ wo, wo = wr := ⟨_, rfl⟩
      subst hwo
      go_wp2_with fail
      go_loopw [7, 18] (fun v i wi => ∃ (s m cc : Nat) (ao : Option Addr), s ≤ 2 ∧ v = .slice ao m cc ∧ i = .int .i64 s ∧ Acc w (ptsP bs key c (2 * k + s)) v wi) (fun _ i _ => 2 - (intOf i).toNat)
      case atStart => exact ⟨0, m, cc, ao, by omega, rfl, rfl, unhide HA2⟩
      case round =>
        clear HA2
        obtain ⟨s, m2, cc2, ao2, hs, rfl, rfl, Ai⟩ := hrel
        have HI := hide Ai
        clear Ai
        obtain ⟨wi, hwi⟩ : ∃ wi, wi = wr := ⟨_, rfl⟩
        subst hwi
        rcases (by omega : s = 0 ∨ s = 1 ∨ s = 2) with rfl | rfl | rfl
        · have hix := index0 (.func (.func f0) #[] #[]) (.func (.func f1) #[] #[]) wi
          have hr0 := ptP_at bs key c k 0 (by omega)
          obtain ⟨r, hr⟩ : ∃ r, r = ptP bs key c (2 * k + 0) := ⟨_, rfl⟩
          have HRB : Hid (Bs r) := by rw [hr]; exact ptP_bs _ _ _ _
          have HE : Hid (ptsP bs key c (2 * k + 0 + 1) = ptsP bs key c (2 * k + 0) ++ [r]) := by rw [hr]; exact ptsP_succ _ _ _ _
          have HLN : Hid ((ptsP bs key c (2 * k + 0)).length ≤ 1000000) := by rw [ptsP_len]; show 2 * k + 0 ≤ 1000000; omega
          rw [← hr] at hr0
          have HR0 := hide hr0
          have hC := tell_any (c k 0) (.slice ab nb cb) bs key k 0 r (unhide HR0) wi ((unhide HS).kept (unhide HI).kp (by simp)) (unhide HB) hl ((unhide HG).kept (unhide HI).kp (by simp))
          rw [← unhide HF0] at hC
          have HC := hide hC
          clear hr hr0 hC
          go_wp2_with fail
          refine (unhide HC).mono ?_
          rintro ee w4 ⟨a4, m4, c4, rfl, R4, K4⟩
          have HR4 := hide R4
          have HK4 := hide K4
          clear R4 K4 HC
          go_wp2_with (at_builtin; refine wpList_acc rfl (.tmp 22) (.tmp 29) rfl _ _ rfl (unhide HI) (unhide HLN) _ r (unhide HK4) (unhide HR4) (unhide HRB) rfl ?_; intro ao5 m5 c5 w5 A5)
          go_roundw
          case rel => exact ⟨0 + 1, m5, c5, ao5, by omega, rfl, by go_num, by have e := unhide HE; rw [← e] at A5; exact A5⟩
          case measure => simp [intOf]
        · have hix := index1 (.func (.func f0) #[] #[]) (.func (.func f1) #[] #[]) wi
          have hr0 := ptP_at bs key c k 1 (by omega)
          obtain ⟨r, hr⟩ : ∃ r, r = ptP bs key c (2 * k + 1) := ⟨_, rfl⟩
          have HRB : Hid (Bs r) := by rw [hr]; exact ptP_bs _ _ _ _
          have HE : Hid (ptsP bs key c (2 * k + 1 + 1) = ptsP bs key c (2 * k + 1) ++ [r]) := by rw [hr]; exact ptsP_succ _ _ _ _
          have HLN : Hid ((ptsP bs key c (2 * k + 1)).length ≤ 1000000) := by rw [ptsP_len]; show 2 * k + 1 ≤ 1000000; omega
          rw [← hr] at hr0
          have HR0 := hide hr0
          have hC := tell_any (c k 1) (.slice ab nb cb) bs key k 1 r (unhide HR0) wi ((unhide HS).kept (unhide HI).kp (by simp)) (unhide HB) hl ((unhide HG).kept (unhide HI).kp (by simp))
          rw [← unhide HF1] at hC
          have HC := hide hC
          clear hr hr0 hC
          go_wp2_with fail
          refine (unhide HC).mono ?_
          rintro ee w4 ⟨a4, m4, c4, rfl, R4, K4⟩
          have HR4 := hide R4
          have HK4 := hide K4
          clear R4 K4 HC
          go_wp2_with (at_builtin; refine wpList_acc rfl (.tmp 22) (.tmp 29) rfl _ _ rfl (unhide HI) (unhide HLN) _ r (unhide HK4) (unhide HR4) (unhide HRB) rfl ?_; intro ao5 m5 c5 w5 A5)
          go_roundw
          case rel => exact ⟨1 + 1, m5, c5, ao5, by omega, rfl, by go_num, by have e := unhide HE; rw [← e] at A5; exact A5⟩
          case measure => simp [intOf]
        · go_wp2_with fail
          go_roundw
          case rel => exact ⟨k + 1, m2, cc2, ao2, by omega, rfl, by go_num, unhide HI⟩
          case measure => simp [intOf]; omega
    · obtain rfl : k = 32 := by omega
      go_wp2_with fail
      go_ret
      exact ⟨ao, m, cc, rfl, unhide HA⟩
end Go.Proofs.YtdioaohejoflcaaDoor

/-
  The contracts of the program's Public and Sign.
-/
namespace Go.Proofs.YtdioaohejoflcaaDoor
open Go.RowKit
open Go.Proofs

theorem Acc.lists {w wr : World} {ls : List (List Int)} {v : Value} (h : Acc w ls v wr) (hl : ls.length ≤ 1000) : ∃ l, Lists wr v l ∧ l.map (·.2) = ls := by
  obtain ⟨l, h1, h2, _⟩ := h
  exact ⟨l, h1.lists (by rw [← List.length_map (f := (·.2)), h2]; exact hl), h2⟩
theorem Acc.after {w w0 wr : World} {ls : List (List Int)} {v : Value} (h : Acc w0 ls v wr) (k : Kp [] w w0) : Acc w ls v wr := by
  obtain ⟨l, h1, h2, h3⟩ := h
  exact ⟨l, h1.rebase k, h2, k.trans h3⟩
theorem cat_map {l : List (Value × List Int)} {ls : List (List Int)} (h : l.map (·.2) = ls) : cat l = ls.flatten := by unfold cat; rw [h]
theorem small_of_map {l : List (Value × List Int)} {ls : List (List Int)} (h : l.map (·.2) = ls) {n : Nat} (hn : ∀ x ∈ ls, x.length ≤ n) : ∀ x ∈ l, x.2.length ≤ n := fun x hx => hn x.2 (by rw [← h]; exact List.mem_map.2 ⟨x, hx, rfl⟩)
theorem ptsP_small (bs : List Int) (key : Int) (c : Nat → Nat → Bool) (n : Nat) : ∀ x ∈ ptsP bs key c n, x.length ≤ 1000000 := by
  intro x hx
  unfold ptsP at hx
  obtain ⟨i, _, rfl⟩ := List.mem_map.1 hx
  rw [ptP_len]; omega

set_option maxRecDepth 100000 in
set_option maxHeartbeats 1000000 in
theorem public_any (vb : Value) (bs : List Int) (key : Int) (r : List Int) (hr : r = pubP bs key) (w : World) (hS : Sl w vb bs) (hB : Bs bs) (hl : bs.length ≤ 1000) (hG : Gl w) :
    Calls Tryd.prog 56 #[vb, .int .i64 key] w fun e w' => ∃ ao m c, e = .returned (.slice ao m c) ∧ Row w' w.heap.size (.slice ao m c) r ∧ Kp [] w w' := by
  have HC := hide (partsOf_any vb bs key noneC 78 #[] (enters_of Tryd.func78 (by kernel_rfl) rfl) w hS hB hl hG (fun j _ w' _ => bothShown_any (j : Nat) w'))
  have HG := hide hG
  have HR := hide hr
  obtain ⟨ab, cb, hvb, _⟩ := hS
  obtain ⟨nb, hnb⟩ : ∃ n, n = bs.length := ⟨_, rfl⟩
  rw [← hnb] at hvb
  subst hvb
  clear hG hB hr hnb
  go_enter Tryd.func56, Tryd.ntmps56
  go_wp2_with fail
  refine (unhide HC).mono ?_
  rintro ee w2 ⟨a2, m2, c2, rfl, A2⟩
  obtain ⟨l, hL, hl2⟩ := A2.lists (by rw [ptsP_len]; omega)
  have HK2 := hide A2.kp
  have HP := hide (publicOf_any _ l r (by rw [unhide HR, cat_map hl2]; rfl) w2 hL (by rw [← List.length_map (f := (·.2)), hl2, ptsP_len]; omega) (small_of_map hl2 (ptsP_small _ _ _ _)) ((unhide HG).kept (unhide HK2) (by simp)))
  clear HC A2 hL hl2
  go_wp2_with fail
  refine (unhide HP).mono ?_
  rintro ee w3 ⟨a3, m3, c3, rfl, R3, K3⟩
  have HR3 := hide (row_new R3 (unhide HK2))
  have HK3 := hide ((unhide HK2).trans K3)
  clear HP HK2 R3 K3
  go_wp2_with fail
  go_ret
  exact ⟨a3, m3, c3, rfl, unhide HR3, unhide HK3⟩

set_option maxRecDepth 100000 in
set_option maxHeartbeats 1000000 in
theorem sign_any (vb : Value) (bs : List Int) (key : Int) (vm : Value) (ms : List Int) (d : Int) (hd : d = digP ms) (w : World) (hS : Sl w vb bs) (hB : Bs bs) (hl : bs.length ≤ 1000) (hM : Sl w vm ms) (hMB : Bs ms) (hml : ms.length ≤ 1000) (hG : Gl w) :
    Calls Tryd.prog 34 #[vb, .int .i64 key, vm] w fun e w' => ∃ ao m c, e = .returned (.slice ao m c) ∧ Acc w (sgnP bs key d) (.slice ao m c) w' := by
  have h0 : 0 ≤ d := by rw [hd]; exact (digP_bd ms).1
  have HD := hide (digest_any vm ms d hd w hM hMB (by omega) hG)
  have HG := hide hG
  have HS := hide hS
  have HB := hide hB
  obtain ⟨ab, cb, hvb, _⟩ := hS
  obtain ⟨nb, hnb⟩ : ∃ n, n = bs.length := ⟨_, rfl⟩
  rw [← hnb] at hvb
  subst hvb
  obtain ⟨am, cm, hvm, _⟩ := hM
  obtain ⟨nm, hnm⟩ : ∃ n, n = ms.length := ⟨_, rfl⟩
  rw [← hnm] at hvm
  subst hvm
  clear hG hB hnb hnm hMB hd
  go_enter Tryd.func34, Tryd.ntmps34
  go_wp2_with fail
  refine (unhide HD).mono ?_
  rintro ee w2 ⟨rfl, K2⟩
  have HK2 := hide K2
  clear HD K2
  go_wp2_with fail
  have K3 := (Kp.refl [] w2).alloc (.cells #[.int .u32 d] 70)
  refine (partsOf_any _ bs key (digC d) 60 #[.pointer (some ⟨w2.heap.size, 0, none⟩)] (enters_of Tryd.func60 (by kernel_rfl) rfl) _ (((unhide HS).kept (unhide HK2) (by simp)).kept K3 (by simp)) (unhide HB) hl (((unhide HG).kept (unhide HK2) (by simp)).kept K3 (by simp)) (fun j hj w' hk => sign1_any d j w2.heap.size w' h0 hj (hk.cell (by rw [cell_of_row _ _ 0 _ _ _ (heap_alloc_new w2 _)]; rfl) (by simp)))).mono ?_
  rintro ee w4 ⟨a4, m4, c4, rfl, A4⟩
  have HA := hide (A4.after ((unhide HK2).trans K3))
  clear A4 K3 HK2
  go_wp2_with fail
  go_ret
  exact ⟨a4, m4, c4, rfl, unhide HA⟩
end Go.Proofs.YtdioaohejoflcaaDoor

/-
  The contract of the program's areHashes; plain facts on what Root makes of parts.
-/
namespace Go.Proofs.YtdioaohejoflcaaDoor
open Go.RowKit

theorem areP_bad {ls : List (List Int)} (k : Nat) (h : k < ls.length) (hb : ls[k].length ≠ 32) : areP ls = false := by
  unfold areP
  have : ls.all (fun x => x.length == 32) = false := by
    rw [List.all_eq_false]
    exact ⟨ls[k], List.getElem_mem h, by simpa using hb⟩
  rw [this, Bool.and_false]
theorem areP_good {ls : List (List Int)} (h : ls.length = 64) (hb : ∀ i (h : i < ls.length), ls[i].length = 32) : areP ls = true := by
  unfold areP
  rw [Bool.and_eq_true]
  refine ⟨by simp [h], List.all_eq_true.2 (fun x hx => ?_)⟩
  obtain ⟨i, hi, rfl⟩ := List.getElem_of_mem hx
  simp [hb i hi]
theorem areP_len {ls : List (List Int)} (h : areP ls = true) : ls.length = 64 := by
  unfold areP at h
  simp only [Bool.and_eq_true, beq_iff_eq] at h
  exact h.1
theorem areP_at {ls : List (List Int)} (h : areP ls = true) : ∀ x ∈ ls, x.length = 32 := by
  unfold areP at h
  simp only [Bool.and_eq_true, List.all_eq_true, beq_iff_eq] at h
  exact h.2
theorem areP_short {ls : List (List Int)} (h : ls.length ≠ 64) : areP ls = false := by
  unfold areP
  simp [h]

set_option maxRecDepth 100000 in
set_option maxHeartbeats 1000000 in
theorem are_any (vl : Value) (l : List (Value × List Int)) (b : Bool) (hb : b = areP (l.map (·.2))) (w : World) (hL : Lists w vl l) :
    Calls Tryd.prog 65 #[vl] w fun e w' => e = .returned (.bool b) ∧ w' = w := by
  obtain ⟨al, cl, rfl, hll, hcell⟩ := hL
  by_cases hn : l.length = 64
  · have HN := hide hn
    have HB := hide hb
    have HC := hide hcell
    rw [hn]
    clear hcell hb hll hn
    go_enter Tryd.func65, Tryd.ntmps65
    go_wp2_with fail
    go_loopw [10] (fun i wr => ∃ k : Nat, k ≤ 64 ∧ i = .int .i64 k ∧ (∀ i (h : i < l.length), i < k → l[i].2.length = 32) ∧ wr = w) (fun i _ => 64 - (intOf i).toNat)
    case atStart => exact ⟨0, by omega, rfl, (fun i h h' => by omega), rfl⟩
    case round =>
      obtain ⟨k, hk, rfl, hgood, hw⟩ := hrel
      subst wr
      have HGood := hide hgood
      clear hgood
      by_cases hlt : k < 64
      · have hlt2 : (k : Int) < 64 := by omega
        have hkl : k < l.length := by have := unhide HN; omega
        obtain ⟨b', off, rfl, hc, hS, _⟩ := unhide HC k hkl
        obtain ⟨x, hx⟩ : ∃ x, x = l[k] := ⟨_, rfl⟩
        have HX := hide hx
        rw [← hx] at hc hS
        obtain ⟨ax, cx, hxv, _⟩ := hS
        rw [hxv] at hc
        clear hxv hx HC
        by_cases h32 : x.2.length = 32
        · rw [h32] at hc
          go_wp2_with fail
          go_roundw
          case rel =>
            refine ⟨k + 1, by omega, by go_num, fun i hi hik => ?_, by trivial⟩
            rcases Nat.lt_or_ge i k with h | h
            · exact unhide HGood i hi h
            · obtain rfl : i = k := by omega
              rw [← unhide HX]; exact h32
          case measure => simp [intOf]; omega
        · have hbad := areP_bad (ls := l.map (·.2)) k (by simpa using hkl) (by simp [← unhide HX, h32])
          have h32i : ¬ (x.2.length : Int) = 32 := by omega
          go_wp2_with fail
          go_ret
          exact ⟨by rw [unhide HB, hbad]; rfl, rfl⟩
      · obtain rfl : k = 64 := by omega
        have hgd := areP_good (ls := l.map (·.2)) (by simpa using unhide HN) (fun i hi => by
          have h1 : i < l.length := by simpa using hi
          have := unhide HGood i h1 (by have := unhide HN; omega)
          simpa using this)
        clear HC
        go_wp2_with fail
        go_ret
        exact ⟨by rw [unhide HB, hgd]; rfl, rfl⟩
  · have hbad := areP_short (ls := l.map (·.2)) (by simpa using hn)
    rw [hbad] at hb
    subst hb
    have hni : ¬ (l.length : Int) = 64 := by omega
    clear hcell
    go_enter Tryd.func65, Tryd.ntmps65
    go_wp2_with fail
    go_ret
    exact ⟨rfl, rfl⟩

/-- the parts of the first k bits as Root takes them. -/
def mixP (d : Int) (ls : List (List Int)) (k : Nat) : List (List Int) := ls.mapIdx (fun i x => if i < 2 * k then rtP d i x else x)
theorem mixP_zero (d : Int) (ls : List (List Int)) : mixP d ls 0 = ls := by
  unfold mixP
  apply List.ext_getElem
  · simp
  · intro i h1 h2; simp
theorem mixP_all (d : Int) (ls : List (List Int)) (h : ls.length = 64) : mixP d ls 32 = rtsP d ls := by
  unfold mixP rtsP
  apply List.ext_getElem
  · simp
  · intro i h1 h2
    simp only [List.getElem_mapIdx]
    rw [if_pos (by simp at h1; omega)]
theorem mixP_at (d : Int) (ls : List (List Int)) (k i : Nat) (hi : i < ls.length) (h : i < (mixP d ls k).length) : (mixP d ls k)[i] = if i < 2 * k then rtP d i ls[i] else ls[i] := by simp [mixP]
theorem mixP_succ (d : Int) (ls : List (List Int)) (k p : Nat) (hp : p = 2 * k + sdP d k) (hl : p < ls.length) : (mixP d ls k).set p (sha (11 :: ls[p])) = mixP d ls (k + 1) := by
  have hs := sdP_lt d k
  apply List.ext_getElem
  · simp [mixP]
  · intro i h1 h2
    have hi : i < ls.length := by simpa [mixP] using h2
    rw [List.getElem_set, mixP_at _ _ _ _ hi, mixP_at _ _ _ _ hi]
    by_cases hpi : p = i
    · subst hpi
      rw [if_pos rfl, if_pos (by omega)]
      unfold rtP digC
      rw [if_pos (by rw [show p / 2 = k by omega, show p % 2 = sdP d k by omega]; simp)]
    · rw [if_neg hpi]
      by_cases h3 : i < 2 * k
      · rw [if_pos h3, if_pos (by omega)]
      · rw [if_neg h3]
        by_cases h4 : i < 2 * (k + 1)
        · rw [if_pos h4]
          unfold rtP digC
          rw [if_neg (by rw [show i / 2 = k by omega]; simp; omega)]
        · rw [if_neg h4]
theorem mixP_len (d : Int) (ls : List (List Int)) (k : Nat) : (mixP d ls k).length = ls.length := by simp [mixP]
theorem rtsP_len (d : Int) (ls : List (List Int)) : (rtsP d ls).length = ls.length := by simp [rtsP]
theorem rtsP_small {d : Int} {ls : List (List Int)} (h : ∀ x ∈ ls, x.length = 32) : ∀ x ∈ rtsP d ls, x.length = 32 := by
  intro x hx
  obtain ⟨i, hi, rfl⟩ := List.getElem_of_mem hx
  simp only [rtsP, List.getElem_mapIdx]
  unfold rtP
  split
  · exact sha_len _
  · exact h _ (List.getElem_mem _)
end Go.Proofs.YtdioaohejoflcaaDoor

/-
  The contract of the program's Root.
-/
namespace Go.Proofs.YtdioaohejoflcaaDoor
open Go.RowKit

theorem Sl.apart {w w' : World} {v : Value} {bs : List Int} {S : List Nat} (h : Sl w v bs) (k : Kp S w w') (hv : ∀ i, v.ownBlock = some i → i ∈ S → bs = []) : Sl w' v bs := by
  by_cases hb : bs = []
  · subst hb
    obtain ⟨ao, c, rfl, h1, h2, h3, _⟩ := h
    exact ⟨ao, c, rfl, h1, h2, h3, fun a _ j u hu => by simp at hu⟩
  · exact h.kept k (fun i hi hm => hb (hv i hi hm))
/-- v is a row of the call's own of slices that read so; none that holds something lies in it. -/
def RowS (w : World) (base : Nat) (v : Value) (l : List (Value × List Int)) : Prop :=
  RowV w base v (l.map (·.1)) ∧ ∀ x ∈ l, Sl w x.1 x.2 ∧ Bs x.2 ∧ ∀ k, x.1.ownBlock = some k → v.ownBlock = some k → x.2 = []
theorem RowS.lists {w : World} {base : Nat} {v : Value} {l : List (Value × List Int)} (h : RowS w base v l) (hl : l.length ≤ 1000) : Lists w v l :=
  lists_of_rowv h.1 hl (fun x hx => ⟨(h.2 x hx).1, (h.2 x hx).2.1⟩)
theorem RowS.kept {w w' : World} {base : Nat} {v : Value} {l : List (Value × List Int)} (h : RowS w base v l) (k : Kp [] w w') : RowS w' base v l :=
  ⟨h.1.kept k (by simp), fun x hx => ⟨(h.2 x hx).1.kept k (by simp), (h.2 x hx).2⟩⟩
theorem Parts.rowS {w : World} {base : Nat} {v : Value} {l : List (Value × List Int)} (h : Parts w base v l) : RowS w base v l :=
  ⟨h.1, fun x hx => ⟨(h.2 x hx).1.sl, (h.2 x hx).2.1, fun k h1 h2 => absurd h2 ((h.2 x hx).2.2 k h1)⟩⟩
/-- a slice is put in at place p. -/
theorem RowS.set {w : World} {base g n c : Nat} {l : List (Value × List Int)} (h : RowS w base (.slice (some ⟨g, 0, none⟩) n c) l) (p : Nat) (x : Value × List Int) (hx : Sl w x.1 x.2) (hB : Bs x.2) (ha : x.1.ownBlock = some g → x.2 = []) :
    RowS (w.setCell ⟨g, p, none⟩ x.1) base (.slice (some ⟨g, 0, none⟩) n c) (l.set p x) := by
  have k : Kp [g] w (w.setCell ⟨g, p, none⟩ x.1) := (Kp.refl [g] w).setCell (p := ⟨g, p, none⟩) (.inl (by simp)) _
  have hn : n = l.length := by have := h.1.len; simpa using this
  refine ⟨?_, fun y hy => ?_⟩
  · have e : (l.map (·.1)).length = n := by simp [hn]
    have h1 : w.ownsRow base 24 1 (.slice (some ⟨g, 0, none⟩) n c) n (l.map (·.1)) := by have := h.1; unfold RowV at this; rw [e] at this; exact this
    have h2 := (h1.stored p x.1).1
    unfold RowV
    rw [List.map_set, List.length_set, e]
    exact h2
  · rcases List.mem_or_eq_of_mem_set hy with hy | rfl
    · obtain ⟨h1, h2, h3⟩ := h.2 y hy
      exact ⟨h1.apart k (fun i hi hm => h3 i hi (by simp at hm; subst hm; rfl)), h2, h3⟩
    · exact ⟨hx.apart k (fun i hi hm => ha (by simp at hm; subst hm; exact hi)), hB, fun i hi hv => ha (by cases hv; exact hi)⟩
theorem RowS.spot {w : World} {base n c : Nat} {ao : Option Addr} {l : List (Value × List Int)} (h : RowS w base (.slice ao n c) l) (hn : 0 < n) : ∃ g, ao = some ⟨g, 0, none⟩ ∧ base ≤ g ∧ g < w.heap.size ∧ n = l.length ∧ (∀ i, i < n → ∃ u, w.cell? ⟨g, i, none⟩ = some u) ∧ ∀ i, w.frozen? ⟨g, i, none⟩ = false := by
  have hl := h.1.len
  subst hl
  rcases h.1.2 with ⟨h', h0⟩ | ⟨g, cap, cur, h', hb, hg, _⟩
  · omega
  · have e : ao = some ⟨g, 0, none⟩ := by injection h'
    subst e
    have h1 : w.ownsRow base 24 1 (.slice (some ⟨g, 0, none⟩) (l.map (·.1)).length c) (l.map (·.1)).length (l.map (·.1)) := h.1
    refine ⟨g, rfl, hb, (Array.getElem?_eq_some_iff.1 hg).1, by simp, fun i hi => ?_, fun i => h1.frozenAt i⟩
    rw [h1.cellAt i (by omega)]
    exact ⟨_, List.getElem?_eq_getElem hi⟩
/-- a list that is copied whole into a new row. -/
theorem rowS_copy {w w' : World} {al : Option Addr} {cl : Nat} {ao : Option Addr} {m c : Nat} {l : List (Value × List Int)} (hL : Lists w (.slice al l.length cl) l) (hr : RowV w' w.heap.size (.slice ao m c) (l.map (·.1))) (k : Kp [] w w') : RowS w' w.heap.size (.slice ao m c) l := by
  refine ⟨hr, fun x hx => ?_⟩
  obtain ⟨i, hi, rfl⟩ := List.getElem_of_mem hx
  obtain ⟨_, _, _, _, h2⟩ := hL
  obtain ⟨_, _, _, _, hS, hB⟩ := h2 i hi
  refine ⟨hS.kept k (by simp), hB, fun j hj hv => ?_⟩
  by_cases hb : l[i].2 = []
  · exact hb
  · obtain ⟨ao', c', e, h1, _, h3, h4⟩ := hS
    cases ao' with
    | none => exact List.eq_nil_of_length_eq_zero (by have := h3 rfl; omega)
    | some a =>
      have hpos : 0 < l[i].2.length := List.length_pos_iff.2 hb
      have hc := h4 a rfl 0 (.int .u8 l[i].2[0]) (by simp [List.getElem?_eq_getElem hpos])
      have hlt := World.block_lt_of_cell? _ _ hc
      rw [add_block] at hlt
      rw [e] at hj
      have : a.block = j := by simpa [Value.ownBlock] using hj
      have := hr.own j hv
      omega

theorem are_cases (l : List (Value × List Int)) : (areP (l.map (·.2)) = true ∧ l.length = 64 ∧ ∀ x ∈ l, x.2.length = 32) ∨ areP (l.map (·.2)) = false := by
  cases h : areP (l.map (·.2))
  · exact .inr rfl
  · refine .inl ⟨rfl, by simpa using areP_len h, fun x hx => areP_at h x.2 (List.mem_map.2 ⟨x, hx, rfl⟩)⟩

/-- what Root answers. -/
def Rooted (b : Bool) (r : List Int) (base : Nat) (v : Value) (w : World) : Prop := if b then ∃ ao m c, v = .slice ao m c ∧ Row w base v r else v = .slice none 0 0

set_option maxRecDepth 100000 in
set_option maxHeartbeats 2000000 in
theorem root_any (vm : Value) (ms : List Int) (vl : Value) (l : List (Value × List Int)) (d : Int) (b : Bool) (r : List Int) (hd : d = digP ms) (hb : b = areP (l.map (·.2))) (hr : r = rootP d (l.map (·.2))) (w : World) (hM : Sl w vm ms) (hMB : Bs ms) (hml : ms.length ≤ 1000) (hL : Lists w vl l) (hG : Gl w) :
    Calls Tryd.prog 38 #[vm, vl] w fun e w' => ∃ v, e = .returned (.tuple #[v, .bool b]) ∧ Rooted b r w.heap.size v w' ∧ Kp [] w w' := by
  have h0 : 0 ≤ d := by rw [hd]; exact (digP_bd ms).1
  have HA := hide (are_any vl l b hb w hL)
  have HD := hide (digest_any vm ms d hd w hM hMB (by omega) hG)
  have HG := hide hG
  have HL := hide hL
  have HR := hide hr
  obtain ⟨al, cl, hvl, hll, hcell⟩ := hL
  subst hvl
  obtain ⟨am, cm, hvm, _⟩ := hM
  obtain ⟨nm, hnm⟩ : ∃ n, n = ms.length := ⟨_, rfl⟩
  rw [← hnm] at hvm
  subst hvm
  clear hG hMB hd hr hnm
  rcases are_cases l with ⟨hare, hl64, hl32⟩ | hare
  · rw [hare] at hb
    subst hb
    have HC := hide hcell
    have H64 := hide hl64
    have H32 := hide hl32
    obtain ⟨b0, o0, e0, hjunk⟩ := hcell 0 (by omega)
    clear hjunk
    subst e0
    rw [hl64] at HA ⊢
    clear hcell hare hl64 hl32
    go_enter Tryd.func38, Tryd.ntmps38
    go_wp2_with fail
    refine (unhide HA).mono ?_
    rintro ee w1 ⟨rfl, hw⟩
    subst w1
    go_wp2_with fail
    refine (unhide HD).mono ?_
    rintro ee w2 ⟨rfl, K2⟩
    have HK2 := hide K2
    clear HA HD K2
    have HAP : Hid (∀ j u, (l.map (·.1))[j]? = some u → w2.cell? ((⟨b0, o0, none⟩ : Addr).add j) = some u) := by
      intro j u hu
      have hj : j < l.length := by have := (List.getElem?_eq_some_iff.1 hu).1; simpa using this
      obtain ⟨b', o', e, hc, _⟩ := unhide HC j hj
      injection e with e
      injection e with e1 e2
      subst e1
      subst e2
      rw [Addr.add_lit, (unhide HK2).cell hc (by simp), ← hu]
      simp [List.getElem?_eq_getElem hj]
    have HON : Hid (∀ u ∈ l.map (·.1), u.oneCell' = true) := by
      intro u hu
      obtain ⟨x, hx, rfl⟩ := List.mem_map.1 hu
      obtain ⟨i, hi, rfl⟩ := List.getElem_of_mem hx
      obtain ⟨_, _, _, _, ⟨_, _, e, _⟩, _⟩ := unhide HC i hi
      rw [e]; rfl
    have HM64 : Hid ((l.map (·.1)).length = 64) := by rw [List.length_map]; exact unhide H64
    obtain ⟨ys, hys⟩ : ∃ ys, ys = l.map (·.1) := ⟨_, rfl⟩
    rw [← hys] at HAP HON HM64
    have hxs : Hid ((.slice (some ⟨b0, o0, none⟩) 64 cl : Value) = .slice (some ⟨b0, o0, none⟩) ys.length cl) := by rw [unhide HM64]; rfl
    go_wp2_with (at_builtin; refine wpList_append_rowv rfl (.const (.slice none 0 0)) (.tmp 15) rfl w2.heap.size (.slice none 0 0) [] rfl ⟨rfl, .inl ⟨rfl, rfl⟩⟩ ⟨b0, o0, none⟩ cl ys (unhide hxs) (unhide HAP) (unhide HON) (by have := unhide HM64; simp; omega) (Nat.le_refl _) ?_; intro a3 m3 c3 w3 R3 S3)
    have K3 : Kp [] w2 w3 := S3.1.mono (by simp [Value.ownBlock])
    rw [List.nil_append, hys] at R3
    have RS3 := rowS_copy ((unhide HL).kept (unhide HK2)) R3 K3
    obtain rfl : m3 = 64 := by have := RS3.1.len; rw [this, List.length_map]; exact unhide H64
    obtain ⟨g, rfl, hg1, hg2, hj0, hj1, hj2⟩ := RS3.spot (by omega)
    clear hj0 hj1 hj2
    have HRS3 := hide RS3
    have HK3 := hide ((unhide HK2).trans K3)
    have hgw : w2.heap.size ≤ g := hg1
    have HKs := hide (unhide HK2).size
    clear R3 S3 K3 RS3 HAP HON HM64 hxs hys HK2
    obtain ⟨ls, hls⟩ : ∃ ls, ls = l.map (·.2) := ⟨_, rfl⟩
    have HLS := hide hls
    rw [← hls] at HR
    have HLL : Hid (ls.length = 64) := by rw [hls, List.length_map]; exact unhide H64
    clear hls
    go_loopw [17] (fun i wr => ∃ (k : Nat) (l2 : List (Value × List Int)), k ≤ 32 ∧ i = .int .i64 k ∧ RowS wr w2.heap.size (.slice (some ⟨g, 0, none⟩) 64 c3) l2 ∧ l2.map (·.2) = mixP d ls k ∧ Kp [] w wr) (fun i _ => 32 - (intOf i).toNat)
    case atStart => exact ⟨0, l, by omega, rfl, unhide HRS3, by rw [mixP_zero]; exact (unhide HLS).symm, unhide HK3⟩
    case round =>
      obtain ⟨k, l2, hk, rfl, Rr, hmix, Kr⟩ := hrel
      clear HRS3 HK3
      have HRr := hide Rr
      have HMX := hide hmix
      have HKr := hide Kr
      clear Rr hmix Kr
      by_cases hlt : k < 32
      · have hlt2 : (k : Int) < 32 := by omega
        obtain ⟨t, ht⟩ : ∃ t, t = sdP d k := ⟨_, rfl⟩
        have htl : t < 2 := by rw [ht]; exact sdP_lt d k
        obtain ⟨p, hp⟩ : ∃ p, p = 2 * k + t := ⟨_, rfl⟩
        have hpi : 2 * (k : Int) + (t : Int) = (p : Int) := by omega
        have hp64 : (p : Int) < 64 := by omega
        have hpl : p < l.length := by have := unhide H64; omega
        have hpls : p < ls.length := by have := unhide HLL; omega
        obtain ⟨b', o', e, hc, hS, hBx⟩ := unhide HC p hpl
        injection e with e
        injection e with e1 e2
        subst e1
        subst e2
        have hx32 := unhide H32 l[p] (List.getElem_mem hpl)
        have hxls : ls[p] = l[p].2 := by
          have h1 : ls[p]? = (l.map (·.2))[p]? := by rw [unhide HLS]
          rw [List.getElem?_eq_getElem hpls, List.getElem?_map, List.getElem?_eq_getElem hpl] at h1
          exact Option.some.inj h1
        obtain ⟨x, hx⟩ : ∃ x, x = l[p] := ⟨_, rfl⟩
        rw [← hx] at hc hS hx32 hxls hBx
        have hcw := (unhide HKr).cell hc (by simp)
        have hSw := hS.kept (unhide HKr) (by simp)
        obtain ⟨q, hq⟩ : ∃ q, q = sha (11 :: x.2) := ⟨_, rfl⟩
        have HQB : Hid (Bs q) := by rw [hq]; exact sha_bs _
        have HMS : Hid ((mixP d ls k).set p q = mixP d ls (k + 1)) := by
          have := mixP_succ d ls k p (by rw [hp, ht]) hpls
          rw [hxls, ← hq] at this
          exact this
        have HSH := hide (shownOf_any x.1 x.2 q hq wr hSw hBx (by omega) ((unhide HG).kept (unhide HKr) (by simp)))
        have HSD := hide (fun w => sideOf_any d k t ht w h0 hlt)
        obtain ⟨ax, cx, hxv, hj3⟩ := hS
        clear hj3
        rw [hx32] at hxv
        rw [hxv] at hcw HSH
        clear hc hSw hq hx hx32 hxls hxv ht hp HC hBx
        go_wp2_with fail
        refine (unhide HSD _).mono ?_
        rintro ee w4 ⟨rfl, hw4⟩
        subst w4
        go_wp2_with fail
        refine (unhide HSH).mono ?_
        rintro ee w5 ⟨a5, m5, c5, rfl, R5, K5⟩
        have RS5 := (unhide HRr).kept K5
        obtain ⟨g', hg', hj0, hgs, hj1, hcs, hfs⟩ := RS5.spot (by omega)
        clear hj0 hj1
        cases hg'
        obtain ⟨u, hu⟩ := hcs p (by omega)
        have hf := hfs p
        have hglt : g < wr.heap.size := by obtain ⟨g'', hg'', _, h', _⟩ := (unhide HRr).spot (by omega); cases hg''; exact h'
        have hne : ∀ i, (Value.slice a5 m5 c5).ownBlock = some i → g ≠ i := fun i hi => by have := R5.own i hi; omega
        have HRS := hide (RS5.set p (.slice a5 m5 c5, q) R5.sl (unhide HQB) (fun h => absurd rfl (hne g h)))
        have HKN : Hid (Kp [] w (w5.setCell ⟨g, p, none⟩ (.slice a5 m5 c5))) := ((unhide HKr).trans K5).setCell (p := ⟨g, p, none⟩) (.inr (Nat.le_trans (unhide HKs) hgw)) _
        have HMN : Hid ((l2.set p (.slice a5 m5 c5, q)).map (·.2) = mixP d ls (k + 1)) := by rw [List.map_set, unhide HMX]; exact unhide HMS
        clear R5 K5 RS5 hcs hfs HSH HSD hne HMS HMX
        go_wp2_with fail
        go_roundw
        case rel => exact ⟨k + 1, _, by omega, by go_num, unhide HRS, unhide HMN, unhide HKN⟩
        case measure => simp [intOf]; omega
      · obtain rfl : k = 32 := by omega
        have hl2 : l2.length = 64 := by rw [← List.length_map (f := (·.2)), unhide HMX, mixP_len]; exact unhide HLL
        have hcat : cat l2 = (rtsP d ls).flatten := by rw [cat_map (unhide HMX), mixP_all _ _ (unhide HLL)]
        have hsm : ∀ x ∈ l2, x.2.length ≤ 1000000 := small_of_map (unhide HMX) (by
          rw [mixP_all _ _ (unhide HLL)]
          intro x hx
          have := rtsP_small (d := d) (ls := ls) (by rw [unhide HLS]; intro y hy; obtain ⟨z, hz, rfl⟩ := List.mem_map.1 hy; exact unhide H32 z hz) x hx
          omega)
        have HP := hide (publicOf_any _ l2 r (by rw [unhide HR, hcat]; rfl) wr ((unhide HRr).lists (by omega)) (by omega) hsm ((unhide HG).kept (unhide HKr) (by simp)))
        clear hcat hsm HMX HR HC
        go_wp2_with fail
        refine (unhide HP).mono ?_
        rintro ee w6 ⟨a6, m6, c6, rfl, R6, K6⟩
        have HR6 := hide (row_new R6 (unhide HKr))
        have HK6 := hide ((unhide HKr).trans K6)
        clear HP R6 K6
        go_wp2_with fail
        go_ret2
        exact ⟨_, rfl, ⟨a6, m6, c6, rfl, unhide HR6⟩, unhide HK6⟩
  · rw [hare] at hb
    subst hb
    clear hcell
    go_enter Tryd.func38, Tryd.ntmps38
    go_wp2_with fail
    refine (unhide HA).mono ?_
    rintro ee w1 ⟨rfl, hw⟩
    subst w1
    go_wp2_with fail
    go_ret2
    exact ⟨_, rfl, rfl, Kp.refl _ _⟩
end Go.Proofs.YtdioaohejoflcaaDoor

/-
  The contracts of the law package's helpers Seed and Lists, and of known.
-/
namespace Go.Proofs.YtdioaohejoflcaaDoor
open Go.RowKit
open Go.Deep

set_option maxRecDepth 100000 in
set_option maxHeartbeats 1000000 in
theorem seed_any (n : Int) (w : World) (hn : -9223372036854775808 ≤ n ∧ n ≤ 9223372036854775807) :
    Calls Tryd.prog 10 #[.int .i64 n] w fun e w' => ∃ ao m c r, e = .returned (.slice ao m c) ∧ Row w' w.heap.size (.slice ao m c) r ∧ r.length = 32 ∧ Bs r ∧ Kp [] w w' := by
  have HW := hide (within_any n 0 1000 w (by omega) (by omega) (by omega) hn)
  clear hn
  go_enter Tryd.func10, Tryd.ntmps10
  go_wp2_with fail
  refine (unhide HW).mono ?_
  rintro ee w1 ⟨x, rfl, hx0, hx1, hw⟩
  subst w1
  clear HW
  go_wp2_with fail
  obtain ⟨ob, hob⟩ : ∃ o : Obj, o = (.cells #[.int .u8 (x % 5)] 5) := ⟨_, rfl⟩
  have hP : Sl (w.alloc ob) (.slice (some ⟨w.heap.size, 0, none⟩) 1 1) [x % 5] := by
    rw [hob]; exact Sl.block (cs := [x % 5]) (t := 5) (fr := (0, 0)) (heap_alloc_new w _) (by simp [maxLen])
  have hPB : Bs [x % 5] := by
    intro b hb
    obtain rfl : b = x % 5 := by simpa using hb
    omega
  have Ka := (Kp.refl [] w).alloc ob
  have HL := lists1 hP hPB
  rw [show (w.alloc ob).heap.size = w.heap.size + 1 by simp] at HL
  have HK := hide (Ka.alloc (.cells #[.slice (some ⟨w.heap.size, 0, none⟩) 1 1] 24))
  rw [← hob]
  refine (reftagged_any 99 _ _ _ rfl _ HL (by omega) (by omega) (by simp) (by simp)).mono ?_
  rintro ee w2 ⟨ao2, m2, c2, rfl, R2, K2⟩
  obtain ⟨r, hr⟩ : ∃ r, r = sha (99 :: cat [(Value.slice (some ⟨w.heap.size, 0, none⟩) 1 1, [x % 5])]) := ⟨_, rfl⟩
  rw [← hr] at R2
  have HR2 := hide (row_new R2 (unhide HK))
  have HK2 := hide ((unhide HK).trans K2)
  have HRL : Hid (r.length = 32 ∧ Bs r) := by rw [hr]; exact ⟨sha_len _, sha_bs _⟩
  clear HL HK hob R2 K2 Ka hP hPB hr
  go_wp2_with fail
  go_ret
  exact ⟨ao2, m2, c2, r, rfl, unhide HR2, (unhide HRL).1, (unhide HRL).2, unhide HK2⟩

end Go.Proofs.YtdioaohejoflcaaDoor

/-
  The contract of the law package's known.
-/
namespace Go.Proofs.YtdioaohejoflcaaDoor
open Go.RowKit

theorem bs109 : Bs [109] := fun b hb => by
  obtain rfl : b = 109 := by simpa using hb
  omega
theorem sl109 (w : World) : Sl (w.alloc (.cells #[.int .u8 109] 5 (1, 2))) (.slice (some ⟨w.heap.size, 0, none⟩) 1 1) [109] := Sl.block (cs := [109]) (t := 5) (fr := (1, 2)) (heap_alloc_new w _) (by simp [maxLen])

end Go.Proofs.YtdioaohejoflcaaDoor

/-
  Lists of slices by their bytes, as what an operation yields.
-/
namespace Go.Proofs.YtdioaohejoflcaaDoor
open Go.RowKit
theorem wrap_at {x y : Int} (h : x = y) (h0 : -9223372036854775808 ≤ x) (h1 : x ≤ 9223372036854775807) : IntKind.i64.wrap x = y := by
  subst h
  simp [IntKind.wrap, IntKind.signed, IntKind.bits]
  omega
/-- The value is a slice of slices that reads as these bytes. -/
def LsM (ls : List (List Int)) : Tell := fun v w => ∃ l, Lists w v l ∧ l.map (·.2) = ls
theorem stable_lsm (ls : List (List Int)) : Tell.stable (LsM ls) := fun _ _ _ k ⟨l, h, e⟩ => ⟨l, h.kept k, e⟩
theorem grown_build1 {o : Oper} {a : Act} {w : World} (x : Operand) (ho : o.op = .buildSlice 31 1 #[(0, x)]) (bs : List Int) (h : Sl w (a.eval x) bs) (hB : Bs bs) : grown Tryd.prog w (LsM [bs]) ((execOp a.eval o).run Tryd.prog w) := by
  have h2 := lists1 h hB
  obtain ⟨ao, c, e, _⟩ := h
  refine grown_run (v := .slice (some ⟨w.heap.size, 0, none⟩) 1 1) (w' := w.alloc (.cells #[a.eval x] 24)) ?_ ((Kp.refl _ _).alloc _) ⟨_, h2, rfl⟩
  obtain ⟨ρ, hρ, hc, hf, hg⟩ := eval_is a
  rw [hρ] at e ⊢
  unfold execOp
  simp only [ho]
  simp [go_sem, e]
theorem reftagged_lsm {tag : Int} {v : Value} {ls : List (List Int)} {w : World} (r : List Int) (hr : r = sha (tag :: ls.flatten)) (h : LsM ls v w) (h0 : 0 ≤ tag) (h1 : tag ≤ 255) (hn : ls.length ≤ 100000) (hm : ∀ x ∈ ls, x.length ≤ 1000000) :
    Calls Tryd.prog 29 #[.int .u8 tag, v] w fun e w' => ∃ ao m c, e = .returned (.slice ao m c) ∧ Row w' w.heap.size (.slice ao m c) r ∧ Kp [] w w' := by
  obtain ⟨l, hL, he⟩ := h
  exact reftagged_any tag v l r (by rw [hr, cat_map he]) w hL h0 h1 (by rw [← List.length_map (f := (·.2)), he]; exact hn) (small_of_map he hm)
end Go.Proofs.YtdioaohejoflcaaDoor

/-
  Signatures in memory; the contracts of package sign's small functions: isSeed, isKey, areHashes, Right.
-/
namespace Go.Proofs.YtdioaohejoflcaaDoor
open Go.RowKit

/-- v is a signature: its number, its parts, its path. -/
def SigV (w : World) (v : Value) (i : Int) (ps qs : List (List Int)) : Prop :=
  ∃ vp vq lp lq, v = .agg #[.int .i64 i, vp, vq] ∧ Lists w vp lp ∧ lp.map (·.2) = ps ∧ Lists w vq lq ∧ lq.map (·.2) = qs
theorem SigV.kept {w w' : World} {v : Value} {i : Int} {ps qs : List (List Int)} (h : SigV w v i ps qs) (k : Kp [] w w') : SigV w' v i ps qs := by
  obtain ⟨vp, vq, lp, lq, e, h1, h2, h3, h4⟩ := h
  exact ⟨vp, vq, lp, lq, e, h1.kept k, h2, h3.kept k, h4⟩
theorem SigV.bs {w : World} {v : Value} {i : Int} {ps qs : List (List Int)} (h : SigV w v i ps qs) : (∀ x ∈ ps, Bs x) ∧ ∀ x ∈ qs, Bs x := by
  obtain ⟨vp, vq, lp, lq, e, h1, rfl, h3, rfl⟩ := h
  refine ⟨fun x hx => ?_, fun x hx => ?_⟩
  · obtain ⟨y, hy, rfl⟩ := List.mem_map.1 hx; exact h1.bs y hy
  · obtain ⟨y, hy, rfl⟩ := List.mem_map.1 hx; exact h3.bs y hy
/-- are these n hashes? -/
def hsP (n : Nat) (ls : List (List Int)) : Bool := ls.length == n && ls.all (fun x => x.length == 32)
theorem hsP_bad {n : Nat} {ls : List (List Int)} (k : Nat) (h : k < ls.length) (hb : ls[k].length ≠ 32) : hsP n ls = false := by
  unfold hsP
  have : ls.all (fun x => x.length == 32) = false := by
    rw [List.all_eq_false]
    exact ⟨ls[k], List.getElem_mem h, by simpa using hb⟩
  rw [this, Bool.and_false]
theorem hsP_good {n : Nat} {ls : List (List Int)} (h : ls.length = n) (hb : ∀ i (h : i < ls.length), ls[i].length = 32) : hsP n ls = true := by
  unfold hsP
  rw [Bool.and_eq_true]
  refine ⟨by simp [h], List.all_eq_true.2 (fun x hx => ?_)⟩
  obtain ⟨i, hi, rfl⟩ := List.getElem_of_mem hx
  simp [hb i hi]
theorem hsP_short {n : Nat} {ls : List (List Int)} (h : ls.length ≠ n) : hsP n ls = false := by
  unfold hsP
  simp [h]
theorem rgtP_hs (i : Int) (ps qs : List (List Int)) : rgtP i ps qs = (decide (0 ≤ i ∧ i < 16) && (hsP 64 ps && hsP 4 qs)) := rfl

theorem isSeed_any (vb : Value) (bs : List Int) (w : World) (hS : Sl w vb bs) (hl : bs.length = 32) :
    Calls Tryd.prog 30 #[vb] w fun e w' => e = .returned (.bool true) ∧ w' = w := by
  obtain ⟨ab, cb, rfl, _⟩ := hS
  rw [hl]
  go_enter Tryd.func30, Tryd.ntmps30
  go_wp2_with fail
  go_ret
  exact ⟨rfl, rfl⟩
theorem isSeed_no (vb : Value) (bs : List Int) (w : World) (hS : Sl w vb bs) (hl : bs.length ≠ 32) :
    Calls Tryd.prog 30 #[vb] w fun e w' => e = .returned (.bool false) ∧ w' = w := by
  obtain ⟨ab, cb, rfl, _⟩ := hS
  have h1 : ((bs.length : Int) == 32) = false := beq_eq_false_iff_ne.2 (by omega)
  go_enter Tryd.func30, Tryd.ntmps30
  go_wp2_with fail
  go_ret
  exact ⟨by first | rfl | simp [h1], rfl⟩
theorem isKey_any (i : Int) (b : Bool) (hb : b = decide (0 ≤ i ∧ i < 16)) (w : World) :
    Calls Tryd.prog 33 #[.int .i64 i] w fun e w' => e = .returned (.bool b) ∧ w' = w := by
  by_cases h1 : 0 ≤ i
  · by_cases h2 : i < 16
    · obtain rfl : b = true := by rw [hb]; exact decide_eq_true ⟨h1, h2⟩
      clear hb
      go_enter Tryd.func33, Tryd.ntmps33
      go_wp2_with fail
      go_ret
      exact ⟨rfl, rfl⟩
    · obtain rfl : b = false := by rw [hb]; exact decide_eq_false (fun h => h2 h.2)
      clear hb
      go_enter Tryd.func33, Tryd.ntmps33
      go_wp2_with fail
      go_ret
      exact ⟨rfl, rfl⟩
  · obtain rfl : b = false := by rw [hb]; exact decide_eq_false (fun h => h1 h.1)
    clear hb
    go_enter Tryd.func33, Tryd.ntmps33
    go_wp2_with fail
    go_ret
    exact ⟨rfl, rfl⟩

set_option maxRecDepth 100000 in
set_option maxHeartbeats 1000000 in
theorem hashes_any (vl : Value) (l : List (Value × List Int)) (n : Nat) (b : Bool) (hb : b = hsP n (l.map (·.2))) (w : World) (hL : Lists w vl l) (hnb : n ≤ 1000) :
    Calls Tryd.prog 64 #[vl, .int .i64 n] w fun e w' => e = .returned (.bool b) ∧ w' = w := by
  obtain ⟨al, cl, rfl, hll, hcell⟩ := hL
  have hnbi : (n : Int) ≤ 1000 := by omega
  by_cases hn : l.length = n
  · have HN := hide hn
    have HB := hide hb
    have HC := hide hcell
    rw [hn]
    clear hcell hb hll hn
    go_enter Tryd.func64, Tryd.ntmps64
    go_wp2_with fail
    go_loopw [13] (fun i wr => ∃ k : Nat, k ≤ n ∧ i = .int .i64 k ∧ (∀ i (h : i < l.length), i < k → l[i].2.length = 32) ∧ wr = w) (fun i _ => n - (intOf i).toNat)
    case atStart => exact ⟨0, by omega, rfl, (fun i h h' => by omega), rfl⟩
    case round =>
      obtain ⟨k, hk, rfl, hgood, hw⟩ := hrel
      subst wr
      have HGood := hide hgood
      clear hgood
      by_cases hlt : k < n
      · have hlt2 : (k : Int) < (n : Int) := by omega
        have hkl : k < l.length := by have := unhide HN; omega
        obtain ⟨b', off, rfl, hc, hS, _⟩ := unhide HC k hkl
        obtain ⟨x, hx⟩ : ∃ x, x = l[k] := ⟨_, rfl⟩
        have HX := hide hx
        rw [← hx] at hc hS
        obtain ⟨ax, cx, hxv, _⟩ := hS
        rw [hxv] at hc
        clear hxv hx HC
        by_cases h32 : x.2.length = 32
        · rw [h32] at hc
          go_wp2_with fail
          go_roundw
          case rel =>
            refine ⟨k + 1, by omega, by go_num, fun i hi hik => ?_, by trivial⟩
            rcases Nat.lt_or_ge i k with h | h
            · exact unhide HGood i hi h
            · obtain rfl : i = k := by omega
              rw [← unhide HX]; exact h32
          case measure => simp [intOf]; omega
        · have hbad := hsP_bad (n := n) (ls := l.map (·.2)) k (by simpa using hkl) (by simp [← unhide HX, h32])
          have h32i : ¬ (x.2.length : Int) = 32 := by omega
          go_wp2_with fail
          go_ret
          exact ⟨by rw [unhide HB, hbad]; rfl, rfl⟩
      · obtain rfl : k = n := by omega
        have hgd := hsP_good (n := k) (ls := l.map (·.2)) (by rw [List.length_map]; exact unhide HN) (fun i hi => by
          have hi2 : i < l.length := by simpa using hi
          simp only [List.getElem_map]
          exact unhide HGood i hi2 (by have := unhide HN; omega))
        have hlt2 : ¬ (k : Int) < (k : Int) := by omega
        clear HC
        go_wp2_with fail
        go_ret
        exact ⟨by rw [unhide HB, hgd]; rfl, rfl⟩
  · have hbad := hsP_short (n := n) (ls := l.map (·.2)) (by rw [List.length_map]; exact hn)
    have hni : ¬ (l.length : Int) = (n : Int) := by omega
    rw [hbad] at hb
    subst hb
    clear hcell hbad
    go_enter Tryd.func64, Tryd.ntmps64
    go_wp2_with fail
    go_ret
    exact ⟨rfl, rfl⟩
end Go.Proofs.YtdioaohejoflcaaDoor

/-
  The contract of package sign's Right.
-/
namespace Go.Proofs.YtdioaohejoflcaaDoor
open Go.RowKit

theorem Lists.shape {w : World} {v : Value} {l : List (Value × List Int)} (h : Lists w v l) : ∃ ao c, v = .slice ao l.length c := by obtain ⟨ao, c, e, _⟩ := h; exact ⟨ao, c, e⟩
/-- a signature's own shape. -/
theorem SigV.shape {w : World} {v : Value} {i : Int} {ps qs : List (List Int)} (h : SigV w v i ps qs) : ∃ ap np cp aq nq cq lp lq, v = .agg #[.int .i64 i, .slice ap np cp, .slice aq nq cq] ∧ Lists w (.slice ap np cp) lp ∧ lp.map (·.2) = ps ∧ Lists w (.slice aq nq cq) lq ∧ lq.map (·.2) = qs ∧ np = ps.length ∧ nq = qs.length := by
  obtain ⟨vp, vq, lp, lq, e, h1, h2, h3, h4⟩ := h
  obtain ⟨ap, cp, e1⟩ := h1.shape
  obtain ⟨aq, cq, e2⟩ := h3.shape
  subst e1
  subst e2
  exact ⟨ap, _, cp, aq, _, cq, lp, lq, e, h1, h2, h3, h4, by rw [← h2]; simp, by rw [← h4]; simp⟩

set_option maxRecDepth 100000 in
set_option maxHeartbeats 1000000 in
theorem sright_any (v : Value) (i : Int) (ps qs : List (List Int)) (b : Bool) (hb : b = rgtP i ps qs) (w : World) (hV : SigV w v i ps qs) :
    Calls Tryd.prog 37 #[v] w fun e w' => e = .returned (.bool b) ∧ Kp [] w w' := by
  obtain ⟨ap, np, cp, aq, nq, cq, lp, lq, rfl, hP, hp, hQ, hq, hnp, hnq⟩ := hV.shape
  clear hnp hnq
  obtain ⟨ob, hob⟩ : ∃ o : Obj, o = (.cells #[.int .i64 i, .slice ap np cp, .slice aq nq cq] 33) := ⟨_, rfl⟩
  have HK : Hid (Kp [] w (w.alloc ob)) := (Kp.refl [] w).alloc ob
  rw [rgtP_hs] at hb
  obtain ⟨b1, h1⟩ : ∃ b, b = decide (0 ≤ i ∧ i < 16) := ⟨_, rfl⟩
  obtain ⟨b2, h2⟩ : ∃ b, b = hsP 64 ps := ⟨_, rfl⟩
  obtain ⟨b3, h3⟩ : ∃ b, b = hsP 4 qs := ⟨_, rfl⟩
  have H1 := hide (fun w => isKey_any i b1 h1 w)
  have H2 := hide (hashes_any (.slice ap np cp) lp 64 b2 (by rw [h2, hp]) (w.alloc ob) (hP.kept (unhide HK)) (by omega))
  have H3 := hide (hashes_any (.slice aq nq cq) lq 4 b3 (by rw [h3, hq]) (w.alloc ob) (hQ.kept (unhide HK)) (by omega))
  rw [← h1, ← h2, ← h3] at hb
  rw [hob] at H2 H3 HK
  clear hV hP hQ hp hq h1 h2 h3 hob
  cases b1
  · obtain rfl : b = false := hb
    clear H2 H3
    go_enter Tryd.func37, Tryd.ntmps37
    go_wp2_with (go_at_call 33; refine (unhide H1 _).mono ?_; rintro ee w2 ⟨rfl, hw⟩; subst w2)
    go_ret
    exact ⟨rfl, unhide HK⟩
  · cases b2
    · obtain rfl : b = false := hb
      clear H3
      go_enter Tryd.func37, Tryd.ntmps37
      go_wp2_with (first
        | (go_at_call 33; refine (unhide H1 _).mono ?_; rintro ee w2 ⟨rfl, hw⟩; subst w2)
        | (go_at_call 64; refine (unhide H2).mono ?_; rintro ee w3 ⟨rfl, hw⟩; subst w3))
      go_ret
      exact ⟨rfl, unhide HK⟩
    · have hb3 : b = b3 := by simpa using hb
      clear hb
      subst hb3
      go_enter Tryd.func37, Tryd.ntmps37
      go_wp2_with (go_at_call 33; refine (unhide H1 _).mono ?_; rintro ee w2 ⟨rfl, hw⟩; subst w2)
      refine (unhide H2).mono ?_
      rintro ee w3 ⟨rfl, hw⟩
      subst w3
      go_wp2_with fail
      refine (unhide H3).mono ?_
      rintro ee w4 ⟨rfl, hw⟩
      subst w4
      go_wp2_with fail
      go_ret
      exact ⟨rfl, unhide HK⟩
end Go.Proofs.YtdioaohejoflcaaDoor

/-
  The contracts of package sign's nodes: nodeAbove, leaves, above.
-/
namespace Go.Proofs.YtdioaohejoflcaaDoor
open Go.RowKit
open Go.Proofs

set_option maxRecDepth 100000 in
set_option maxHeartbeats 1000000 in
theorem node_any (va vb : Value) (xs bs : List Int) (r : List Int) (hr : r = nodeP xs bs) (w : World) (hA : Sl w va xs) (hAB : Bs xs) (hB : Sl w vb bs) (hBB : Bs bs) (hal : xs.length ≤ 1000) (hbl : bs.length ≤ 1000) (hG : Gl w) :
    Calls Tryd.prog 57 #[va, vb] w fun e w' => ∃ ao m c, e = .returned (.slice ao m c) ∧ Row w' w.heap.size (.slice ao m c) r ∧ Kp [] w w' := by
  have HG := hide hG
  have HR := hide hr
  have HL := lists2 hA hAB hB hBB
  obtain ⟨aa, ca, hva, _⟩ := hA
  obtain ⟨ab, cb, hvb, _⟩ := hB
  obtain ⟨na, hna⟩ : ∃ n, n = xs.length := ⟨_, rfl⟩
  obtain ⟨nb, hnb⟩ : ∃ n, n = bs.length := ⟨_, rfl⟩
  rw [← hna] at hva
  rw [← hnb] at hvb
  subst hva
  subst hvb
  have HL2 := hide HL
  have HK := hide ((Kp.refl [] w).alloc (.cells #[.slice aa na ca, .slice ab nb cb] 24))
  clear HL hG hr hna hnb
  go_enter Tryd.func57, Tryd.ntmps57
  go_wp2_with fail
  refine (tagged_any 14 _ _ r (by rw [unhide HR, cat2]; rfl) _ (unhide HL2) (by omega) (by omega) (by simp) (by simp; omega) ((unhide HG).kept (unhide HK) (by simp))).mono ?_
  rintro ee w2 ⟨a2, m2, c2, rfl, R2, K2⟩
  have HR2 := hide (row_new R2 (unhide HK))
  have HK2 := hide ((unhide HK).trans K2)
  clear R2 K2 HL2 HK HR
  go_wp2_with fail
  go_ret
  exact ⟨a2, m2, c2, rfl, unhide HR2, unhide HK2⟩

set_option maxRecDepth 100000 in
set_option maxHeartbeats 1000000 in
theorem leaves_any (vb : Value) (bs : List Int) (w : World) (hS : Sl w vb bs) (hB : Bs bs) (hl : bs.length ≤ 1000) (hG : Gl w) :
    Calls Tryd.prog 31 #[vb] w fun e w' => ∃ ao m c, e = .returned (.slice ao m c) ∧ Acc w (lvsP bs 16) (.slice ao m c) w' := by
  obtain ⟨i0, hi0, hz0, hz1, hz2⟩ := info_parts Tryd.infoSl
  have HS := hide hS
  have HG := hide hG
  have HB := hide hB
  obtain ⟨ab, cb, hvb, _⟩ := hS
  obtain ⟨nb, hnb⟩ : ∃ n, n = bs.length := ⟨_, rfl⟩
  rw [← hnb] at hvb
  subst hvb
  clear hG hB hnb
  go_enter Tryd.func31, Tryd.ntmps31
  go_wp2_with (at_make; refine wpList_make_own _ rfl _ _ 31 rfl w.heap.size 24 i0 (.slice none 0 0) 1 Tryd.underlying31 hi0 hz0 hz1 .i64 .i64 _ 16 rfl rfl (by omega) (by rw [hz2]; omega) (by unfold maxLen; omega) (Nat.le_refl _) ?_; intro w1 o1 g1; have K1 : Kp [] w w1 := (Kp.refl [] w).grown g1 (by intro k hk; cases hk); have R1 : RowV w1 w.heap.size _ [] := o1)
  have A1 : Hid (Acc w (lvsP bs 0) (.slice (some ⟨w.heap.size, 0, none⟩) 0 16) w1) := ⟨[], ⟨R1, fun x hx => by cases hx⟩, rfl, K1⟩
  clear o1 g1 R1 K1
  go_loopw [3, 6] (fun v i wr => ∃ (k m cc : Nat) (ao : Option Addr), k ≤ 16 ∧ v = .slice ao m cc ∧ i = .int .i64 k ∧ Acc w (lvsP bs k) v wr) (fun _ i _ => 16 - (intOf i).toNat)
  case atStart => exact ⟨0, 0, 16, some ⟨w.heap.size, 0, none⟩, by omega, rfl, rfl, unhide A1⟩
  case round =>
    obtain ⟨k, m, cc, ao, hk, rfl, rfl, Ar⟩ := hrel
    clear A1
    have HA := hide Ar
    clear Ar
    by_cases hlt : k < 16
    · have hlt2 : (k : Int) < 16 := by omega
      obtain ⟨r, hr⟩ : ∃ r, r = pubP bs (k : Nat) := ⟨_, rfl⟩
      have HRB : Hid (Bs r) := by rw [hr]; exact pubP_bs _ _
      have HE : Hid (lvsP bs (k + 1) = lvsP bs k ++ [r]) := by rw [hr]; exact lvsP_succ _ _
      have HLN : Hid ((lvsP bs k).length ≤ 1000000) := by rw [lvsP_len]; show k ≤ 1000000; omega
      have HC := hide (public_any (.slice ab nb cb) bs (k : Nat) r hr wr ((unhide HS).kept (unhide HA).kp (by simp)) (unhide HB) hl ((unhide HG).kept (unhide HA).kp (by simp)))
      clear hr
      go_wp2_with fail
      refine (unhide HC).mono ?_
      rintro ee w4 ⟨a4, m4, c4, rfl, R4, K4⟩
      have HR4 := hide R4
      have HK4 := hide K4
      clear R4 K4 HC
      go_wp2_with (at_builtin; refine wpList_acc rfl (.tmp 9) (.tmp 13) rfl _ _ rfl (unhide HA) (unhide HLN) _ r (unhide HK4) (unhide HR4) (unhide HRB) rfl ?_; intro ao5 m5 c5 w5 A5)
      go_roundw
      case rel => exact ⟨k + 1, m5, c5, ao5, by omega, rfl, by go_num, by have e := unhide HE; rw [← e] at A5; exact A5⟩
      case measure => simp [intOf]; omega
    · obtain rfl : k = 16 := by omega
      go_wp2_with fail
      go_ret
      exact ⟨ao, m, cc, rfl, unhide HA⟩

/-- The value is a slice of one slice, which is a row that is new since. -/
def One (base : Nat) (r : List Int) : Tell := fun v w => ∃ g vx, v = .slice (some ⟨g, 0, none⟩) 1 1 ∧ w.cell? ⟨g, 0, none⟩ = some vx ∧ Row w base vx r
theorem stable_one (base : Nat) (r : List Int) : Tell.stable (One base r) := fun _ _ _ k ⟨g, vx, h1, h2, h3⟩ => ⟨g, vx, h1, k.cell h2 (by simp), h3.kept k (by simp)⟩
/-- The value is a row that is new since. -/
def RowT (base : Nat) (r : List Int) : Tell := fun v w => Row w base v r
theorem stable_row (base : Nat) (r : List Int) : Tell.stable (RowT base r) := fun _ _ _ k h => h.kept k (by simp)
theorem grown_one {o : Oper} {a : Act} {w : World} (x : Operand) (ho : o.op = .buildSlice 31 1 #[(0, x)]) (base : Nat) (r : List Int) (h : Row w base (a.eval x) r) : grown Tryd.prog w (One base r) ((execOp a.eval o).run Tryd.prog w) := by
  obtain ⟨ao, c, e⟩ := h.shape
  refine grown_run (v := .slice (some ⟨w.heap.size, 0, none⟩) 1 1) (w' := w.alloc (.cells #[a.eval x] 24)) ?_ ((Kp.refl _ _).alloc _) ⟨w.heap.size, _, rfl, cell_of_one (heap_alloc_new w _), h.kept ((Kp.refl [] w).alloc _) (by simp)⟩
  obtain ⟨ρ, hρ, hc, hf, hg⟩ := eval_is a
  rw [hρ] at e ⊢
  unfold execOp
  simp only [ho]
  simp [go_sem, e]
/-- one more slice behind them, as it lies in a block of its own. -/
theorem wpList_accg {w wr w3 : World} {ops : Array Oper} {rest : List Oper} {o : Oper} {a : Act} {Q : Exit → Act → World → Prop} (hgd : o.guard = none) (s x : Operand)
    (ho : o.op = .call { callee := .builtin .append, args := #[s, x], argTypes := #[31, 31] }) (v : Value) (ls : List (List Int)) (hs : a.eval s = v) (hA : Acc w ls v wr) (hl : ls.length ≤ 1000000)
    (bs : List Int) (k : Kp [] wr w3) (vx : Value) (hx : a.eval x = vx) (h1 : One wr.heap.size bs vx w3) (hb : Bs bs)
    (h : ∀ ao m c w', Acc w (ls ++ [bs]) (.slice ao m c) w' → wpList Tryd.prog ops Q rest (a.put o.dst (.slice ao m c)) w') : wpList Tryd.prog ops Q (o :: rest) a w3 := by
  obtain ⟨l, hP, hl2, hK⟩ := hA
  obtain ⟨g, vy, hv, hc, hr⟩ := h1
  have hP2 := hP.kept k
  obtain ⟨ax, cx, hvx⟩ := hr.shape
  refine wpList_append_rowv hgd s x ho w.heap.size v (l.map (·.1)) hs hP2.1 ⟨g, 0, none⟩ 1 [vy] (by rw [hx, hv]; rfl) ?_ ?_ ?_ ?_ ?_
  · intro j u hu
    have hj : j = 0 := by have := (List.getElem?_eq_some_iff.1 hu).1; simpa using this
    subst hj
    simp at hu
    subst hu
    exact hc
  · simp [hvx, Value.oneCell']
  · have : l.length = ls.length := by rw [← hl2]; simp
    simp; omega
  · have := hK.size
    have := k.size
    omega
  · intro ao m c w' r st
    refine h ao m c w' ⟨l ++ [(vy, bs)], hP.snoc (x := (vy, bs)) k hr hb (Kp.refl _ _) r st hK.size, by simp [hl2], ?_⟩
    exact (hK.trans k).then st.1 (fun i hi => .inr (hP.1.own i (by simpa using hi)))

theorem abv_take (ls : List (List Int)) (k : Nat) (h : k < ls.length / 2) : (abvP ls).take (k + 1) = (abvP ls).take k ++ [nodeP (ls.getD (2 * k) []) (ls.getD (2 * k + 1) [])] := by
  rw [List.take_succ_eq_append_getElem (by rw [abvP_len]; exact h)]
  simp [abvP]
theorem lists_at {w : World} {ao : Option Addr} {n c : Nat} {l : List (Value × List Int)} {ls : List (List Int)} (hL : Lists w (.slice ao n c) l) (he : l.map (·.2) = ls) (i : Nat) (hi : i < ls.length) :
    ∃ b off ax nx cx, ao = some ⟨b, off, none⟩ ∧ w.cell? ⟨b, off + i, none⟩ = some (.slice ax nx cx) ∧ Sl w (.slice ax nx cx) (ls.getD i []) ∧ Bs (ls.getD i []) := by
  subst he
  obtain ⟨ao', c', e, _, h2⟩ := hL
  have hi2 : i < l.length := by simpa using hi
  obtain ⟨b, off, e2, h3, h4, h5⟩ := h2 i hi2
  injection e with e0
  subst e0
  have hg : (l.map (·.2)).getD i [] = l[i].2 := by simp [List.getD, hi2]
  rw [hg]
  obtain ⟨ax, cx, e4, _⟩ := id h4
  rw [e4] at h3 h4
  exact ⟨b, off, ax, _, cx, e2, h3, h4, h5⟩

set_option maxRecDepth 100000 in
set_option maxHeartbeats 4000000 in
theorem above_any (vl : Value) (l : List (Value × List Int)) (ls : List (List Int)) (hls : l.map (·.2) = ls) (hm : ∀ x ∈ ls, x.length ≤ 1000) (w : World) (hL : Lists w vl l) (hn : ls.length ≤ 100) (he : ls.length % 2 = 0) (hG : Gl w) :
    Calls Tryd.prog 32 #[vl] w fun e w' => ∃ ao m c, e = .returned (.slice ao m c) ∧ Acc w (abvP ls) (.slice ao m c) w' := by
  obtain ⟨i0, hi0, hz0, hz1, hz2⟩ := info_parts Tryd.infoSl
  have HG := hide hG
  have HL := hide hL
  have HLS := hide hls
  have HM := hide hm
  have hlen : l.length = ls.length := by rw [← hls]; simp
  obtain ⟨al, cl, hvl, _⟩ := hL
  rw [hlen] at hvl
  subst hvl
  obtain ⟨N, hN⟩ : ∃ N, N = ls.length := ⟨_, rfl⟩
  have HN := hide hN
  rw [← hN] at hn he HL ⊢
  obtain ⟨M, hM⟩ : ∃ M, M = N / 2 := ⟨_, rfl⟩
  have hNM : N = 2 * M := by omega
  have hq : Int.tdiv (N : Int) 2 = (M : Int) := by rw [Int.tdiv_eq_ediv_of_nonneg (by omega)]; omega
  have hq2 : (N : Int) / 2 = (M : Int) := by omega
  have hM100 : (M : Int) ≤ 100 := by omega
  have hNi : (N : Int) ≤ 100 := by omega
  have HNM := hide hNM
  clear hG hlen hls hm hN hM hNM
  go_enter Tryd.func32, Tryd.ntmps32
  go_wp2_with (at_make; refine wpList_make_own _ rfl _ _ 31 rfl w.heap.size 24 i0 (.slice none 0 0) 1 Tryd.underlying31 hi0 hz0 hz1 .i64 .i64 _ M rfl rfl (by omega) (by rw [hz2]; omega) (by unfold maxLen; omega) (Nat.le_refl _) ?_; intro w1 o1 g1; have K1 : Kp [] w w1 := (Kp.refl [] w).grown g1 (by intro k hk; cases hk); have R1 : RowV w1 w.heap.size _ [] := o1)
  have A1 : Hid (Acc w ((abvP ls).take 0) (.slice (some ⟨w.heap.size, 0, none⟩) 0 M) w1) := ⟨[], ⟨R1, fun x hx => by cases hx⟩, rfl, K1⟩
  clear o1 g1 R1 K1
  go_loopw [3, 4] (fun v i wr => ∃ (k m cc : Nat) (ao : Option Addr), k ≤ M ∧ v = .slice ao m cc ∧ i = .int .i64 ((2 * k : Nat) : Int) ∧ Acc w ((abvP ls).take k) v wr) (fun _ i _ => 2 * M - (intOf i).toNat)
  case atStart => exact ⟨0, 0, M, some ⟨w.heap.size, 0, none⟩, by omega, rfl, rfl, unhide A1⟩
  case round =>
    obtain ⟨k, m, cc, ao, hk, rfl, rfl, Ar⟩ := hrel
    clear A1
    have HA := hide Ar
    clear Ar
    obtain ⟨j, hj⟩ : ∃ j, j = 2 * k := ⟨_, rfl⟩
    rw [← hj]
    by_cases hlt : k < M
    · have hlt2 : (j : Int) < (N : Int) := by have := unhide HNM; omega
      have hlt3 : (j : Int) + 1 < (N : Int) := by have := unhide HNM; omega
      have hwr : IntKind.i64.wrap ((j : Int) + 1) = (j : Int) + 1 := wrap_at rfl (by omega) (by omega)
      obtain ⟨b, off, ax, nx, cx, rfl, hcx, hSx, hBx⟩ := lists_at (unhide HL) (unhide HLS) j (by have := unhide HN; have := unhide HNM; omega)
      obtain ⟨b', off', ay, ny, cy, e, hcy, hSy, hBy⟩ := lists_at (unhide HL) (unhide HLS) (j + 1) (by have := unhide HN; have := unhide HNM; omega)
      injection e with e
      injection e with e1 e2
      subst e1
      subst e2
      have hxl : (ls.getD j []).length ≤ 1000 := unhide HM _ (getD_mem (by have := unhide HN; have := unhide HNM; omega))
      have hyl : (ls.getD (j + 1) []).length ≤ 1000 := unhide HM _ (getD_mem (by have := unhide HN; have := unhide HNM; omega))
      obtain ⟨r, hr⟩ : ∃ r, r = nodeP (ls.getD j []) (ls.getD (j + 1) []) := ⟨_, rfl⟩
      have HRB : Hid (Bs r) := by rw [hr]; exact nodeP_bs _ _
      have HE : Hid ((abvP ls).take (k + 1) = (abvP ls).take k ++ [r]) := by rw [hr, hj]; exact abv_take ls k (by have := unhide HN; have := unhide HNM; omega)
      have HLN : Hid (((abvP ls).take k).length ≤ 1000000) := by rw [List.length_take]; show min k _ ≤ 1000000; omega
      obtain ⟨X, hX⟩ : ∃ X, X = ls.getD j [] := ⟨_, rfl⟩
      obtain ⟨Y, hY⟩ : ∃ Y, Y = ls.getD (j + 1) [] := ⟨_, rfl⟩
      rw [← hX] at hSx hBx hxl hr
      rw [← hY] at hSy hBy hyl hr
      have HKr := hide (unhide HA).kp
      have CX : ∀ w', Kp [] wr.drew w' → w'.cell? ⟨b, off + j, none⟩ = some (.slice ax nx cx) := fun w' k' => (((unhide HKr).trans (kp_drew wr)).trans k').cell hcx (by simp)
      have CY : ∀ w', Kp [] wr.drew w' → w'.cell? ⟨b, off + (j + 1), none⟩ = some (.slice ay ny cy) := fun w' k' => (((unhide HKr).trans (kp_drew wr)).trans k').cell hcy (by simp)
      have SX : ∀ w', Kp [] wr.drew w' → Sl w' (.slice ax nx cx) X := fun w' k' => hSx.kept (((unhide HKr).trans (kp_drew wr)).trans k') (by simp)
      have SY : ∀ w', Kp [] wr.drew w' → Sl w' (.slice ay ny cy) Y := fun w' k' => hSy.kept (((unhide HKr).trans (kp_drew wr)).trans k') (by simp)
      have GL : ∀ w', Kp [] wr.drew w' → Gl w' := fun w' k' => (unhide HG).kept (((unhide HKr).trans (kp_drew wr)).trans k') (by simp)
      have BS : ∀ w', Kp [] wr.drew w' → wr.heap.size ≤ w'.heap.size := fun w' k' => k'.size
      have HCX := hide CX
      have HCY := hide CY
      have HSX := hide SX
      have HSY := hide SY
      have HGL := hide GL
      have HR := hide hr
      have HBX := hide hBx
      have HBY := hide hBy
      clear hX hY hcx hcy hSx hSy hBx hBy hr CX CY SX SY GL BS
      have hjj : (j : Int) = 2 * (k : Int) := by omega
      have HJ := hide hjj
      have HJN := hide hj
      clear hjj hj
      go_wp2_with fail
      refine region_grow_tail 12 Tryd.mixed [Is (.slice ao m cc), Is (.slice (some ⟨b, off, none⟩) N cl), Is (.int .i64 j), Is (.pointer (some ⟨b, off + j, none⟩)), Is (.slice ax nx cx), Is (.slice (some ⟨b, off, none⟩) N cl), Is (.int .i64 j), Is (.int .i64 (j + 1)), Is (.pointer (some ⟨b, off + (j + 1), none⟩)), Is (.slice ay ny cy), RowT wr.heap.size r, One wr.heap.size r] [[(3, none)], [(0, none)], [(4, none)], [(16, some 1), (17, some 2)], [(18, some 3)], [(0, none)], [(4, none)], [(21, some 6)], [(20, some 5), (22, some 7)], [(23, some 8)], [(19, some 4), (24, some 9)], [(25, some 10)]] (by kernel_rfl) ?_ ?_ ?_
      all_goals try simp only [List.take_succ_cons, List.take_zero, List.drop_succ_cons, List.drop_zero]
      · simp only [List.mem_cons, List.not_mem_nil, or_false]
        intro R hR
        rcases hR with rfl | rfl | rfl | rfl | rfl | rfl | rfl | rfl | rfl | rfl | rfl | rfl <;> first | exact stable_is _ | exact stable_row _ _ | exact stable_one _ _
      · refine steps_cons (fun a w hk hn => ?_) ?_
        · have h3 : a.eval (.tmp 3) = .slice ao m cc := hn.1
          clear hn
          refine wants_plain rfl ?_
          exact grown_move (.tmp 3) rfl h3
        refine steps_cons (fun a w hk hn => ?_) ?_
        · have h0 : a.eval (.tmp 0) = .slice (some ⟨b, off, none⟩) N cl := hn.1
          clear hn
          refine wants_plain rfl ?_
          exact grown_move (.tmp 0) rfl h0
        refine steps_cons (fun a w hk hn => ?_) ?_
        · have h4 : a.eval (.tmp 4) = .int .i64 j := hn.1
          clear hn
          refine wants_plain rfl ?_
          exact grown_move (.tmp 4) rfl h4
        refine steps_cons (fun a w hk hn => ?_) ?_
        · have h16 : a.eval (.tmp 16) = .slice (some ⟨b, off, none⟩) N cl := hn.1
          have h17 : a.eval (.tmp 17) = .int .i64 j := hn.2.1
          clear hn
          refine wants_plain rfl ?_
          refine grown_run (v := .pointer (some ⟨b, off + j, none⟩)) ?_ (Kp.refl _ _) rfl
          obtain ⟨ρ, hρ, hc, hf, hg⟩ := eval_is a
          rw [hρ] at h16 h17 ⊢
          simp [go_sem, h16, h17, hlt2]
        refine steps_cons (fun a w hk hn => ?_) ?_
        · have h18 : a.eval (.tmp 18) = .pointer (some ⟨b, off + j, none⟩) := hn.1
          clear hn
          refine wants_plain rfl ?_
          refine grown_run (v := .slice ax nx cx) ?_ (Kp.refl _ _) rfl
          have hcell := unhide HCX w hk
          obtain ⟨ρ, hρ, hc, hf, hg⟩ := eval_is a
          rw [hρ] at h18 ⊢
          simp [go_sem, h18, hcell]
        refine steps_cons (fun a w hk hn => ?_) ?_
        · have h0 : a.eval (.tmp 0) = .slice (some ⟨b, off, none⟩) N cl := hn.1
          clear hn
          refine wants_plain rfl ?_
          exact grown_move (.tmp 0) rfl h0
        refine steps_cons (fun a w hk hn => ?_) ?_
        · have h4 : a.eval (.tmp 4) = .int .i64 j := hn.1
          clear hn
          refine wants_plain rfl ?_
          exact grown_move (.tmp 4) rfl h4
        refine steps_cons (fun a w hk hn => ?_) ?_
        · have h21 : a.eval (.tmp 21) = .int .i64 j := hn.1
          clear hn
          refine wants_plain rfl ?_
          refine grown_run (v := .int .i64 (j + 1)) ?_ (Kp.refl _ _) rfl
          obtain ⟨ρ, hρ, hc, hf, hg⟩ := eval_is a
          rw [hρ] at h21 ⊢
          simp [go_sem, hc, h21, hwr]
        refine steps_cons (fun a w hk hn => ?_) ?_
        · have h20 : a.eval (.tmp 20) = .slice (some ⟨b, off, none⟩) N cl := hn.1
          have h22 : a.eval (.tmp 22) = .int .i64 (j + 1) := hn.2.1
          clear hn
          refine wants_plain rfl ?_
          refine grown_run (v := .pointer (some ⟨b, off + (j + 1), none⟩)) ?_ (Kp.refl _ _) rfl
          obtain ⟨ρ, hρ, hc, hf, hg⟩ := eval_is a
          rw [hρ] at h20 h22 ⊢
          simp [go_sem, h20, h22, hlt3]
          intro h; omega
        refine steps_cons (fun a w hk hn => ?_) ?_
        · have h23 : a.eval (.tmp 23) = .pointer (some ⟨b, off + (j + 1), none⟩) := hn.1
          clear hn
          refine wants_plain rfl ?_
          refine grown_run (v := .slice ay ny cy) ?_ (Kp.refl _ _) rfl
          have hcell := unhide HCY w hk
          obtain ⟨ρ, hρ, hc, hf, hg⟩ := eval_is a
          rw [hρ] at h23 ⊢
          simp [go_sem, h23, hcell]
        refine steps_cons (fun a w hk hn => ?_) ?_
        · have h19 : a.eval (.tmp 19) = .slice ax nx cx := hn.1
          have h24 : a.eval (.tmp 24) = .slice ay ny cy := hn.2.1
          clear hn
          refine wants_plain rfl ?_
          refine grown_call (f := 57) rfl Tryd.func57 (by kernel_rfl) (by kernel_rfl) ?_
          simp only [List.map_toArray, List.map_cons, List.map_nil, h19, h24]
          refine (node_any _ _ X Y r (unhide HR) w (unhide HSX w hk) (unhide HBX) (unhide HSY w hk) (unhide HBY) hxl hyl (unhide HGL w hk)).mono ?_
          rintro e w' ⟨ao, m, c, rfl, R, K⟩
          exact ⟨_, rfl, K, owns_rebase R (fun i hi => Nat.le_trans hk.size (R.own i hi))⟩
        refine steps_cons (fun a w hk hn => ?_) ?_
        · have h25 : (RowT wr.heap.size r) (a.eval (.tmp 25)) w := hn.1
          clear hn
          refine wants_plain rfl ?_
          exact grown_one (.tmp 25) rfl wr.heap.size r h25
        exact trivial
      intro W1 hkW1
      rintro _ rfl
      rintro _ rfl
      rintro _ rfl
      rintro _ rfl
      rintro _ rfl
      rintro _ rfl
      rintro _ rfl
      rintro _ rfl
      rintro _ rfl
      rintro _ rfl
      intro v25 h25
      intro v26 h26
      refine fin_nil ?_
      simp only [Act.put, List.set_cons_zero, List.set_cons_succ, List.setIfInBounds_toArray]
      go_wp2_with (at_builtin; refine wpList_accg rfl (.tmp 15) (.tmp 26) rfl _ _ rfl (unhide HA) (unhide HLN) r ((kp_drew wr).trans hkW1) v26 rfl h26 (unhide HRB) ?_; intro ao5 m5 c5 w5 A5)
      go_roundw
      case rel => exact ⟨k + 1, m5, c5, ao5, by omega, rfl, by have := unhide HJ; go_num, by have e := unhide HE; rw [← e] at A5; exact A5⟩
      case measure => simp [intOf]; have := unhide HJN; omega
    · obtain rfl : k = M := by omega
      have hlt2 : ¬ (j : Int) < (N : Int) := by have := unhide HNM; omega
      have HT : Hid ((abvP ls).take k = abvP ls) := List.take_of_length_le (by rw [abvP_len]; have := unhide HN; have := unhide HNM; omega)
      clear hj
      go_wp2_with fail
      go_ret
      exact ⟨ao, m, cc, rfl, by have := unhide HA; rw [unhide HT] at this; exact this⟩
end Go.Proofs.YtdioaohejoflcaaDoor

/-
  The contracts of package sign's pathOf, ledUp and Public.
-/
namespace Go.Proofs.YtdioaohejoflcaaDoor
open Go.RowKit
open Go.Proofs

/-- rows of slices that are gathered, while blocks in S may change: the slices lie in blocks of which F holds. -/
def AccS (S : List Nat) (F : Nat → Prop) (w : World) (ls : List (List Int)) (v : Value) (wr : World) : Prop := ∃ l, RowS wr w.heap.size v l ∧ l.map (·.2) = ls ∧ Kp S w wr ∧ ∀ x ∈ l, ∀ q, x.1.ownBlock = some q → F q
theorem AccS.mid {S : List Nat} {F : Nat → Prop} {w wr w2 : World} {ls : List (List Int)} {v : Value} (h : AccS S F w ls v wr) (k : Kp [] wr w2) : AccS S F w ls v w2 := by
  obtain ⟨l, h1, h2, h3, h4⟩ := h
  exact ⟨l, h1.kept k, h2, h3.trans (k.mono (by simp)), h4⟩
theorem AccS.kp {S : List Nat} {F : Nat → Prop} {w wr : World} {ls : List (List Int)} {v : Value} (h : AccS S F w ls v wr) : Kp S w wr := by obtain ⟨_, _, _, h3, _⟩ := h; exact h3
theorem AccS.lt {S : List Nat} {F : Nat → Prop} {w wr : World} {ls : List (List Int)} {v : Value} (h : AccS S F w ls v wr) : ∀ q, v.ownBlock = some q → q < wr.heap.size := by obtain ⟨_, h1, _, _⟩ := h; exact fun q hq => h1.1.lt hq
theorem AccS.lists {S : List Nat} {F : Nat → Prop} {w wr : World} {ls : List (List Int)} {v : Value} (h : AccS S F w ls v wr) (hl : ls.length ≤ 1000) : ∃ l, Lists wr v l ∧ l.map (·.2) = ls ∧ (∀ q, v.ownBlock = some q → w.heap.size ≤ q) ∧ ∀ x ∈ l, ∀ q, x.1.ownBlock = some q → F q := by
  obtain ⟨l, h1, h2, _, h4⟩ := h
  exact ⟨l, h1.lists (by rw [← List.length_map (f := (·.2)), h2]; exact hl), h2, h1.1.own, h4⟩
theorem Sl.lt {w : World} {v : Value} {bs : List Int} (h : Sl w v bs) (hb : bs ≠ []) : ∀ q, v.ownBlock = some q → q < w.heap.size := by
  obtain ⟨ao, c, rfl, h1, h2, h3, h4⟩ := h
  intro q hq
  cases ao with
  | none => cases hq
  | some a =>
    have hp : 0 < bs.length := List.length_pos_iff.2 hb
    have hc := h4 a rfl 0 (.int .u8 bs[0]) (by simp [List.getElem?_eq_getElem hp])
    have := World.block_lt_of_cell? _ _ hc
    rw [add_block] at this
    have e : a.block = q := by simpa [Value.ownBlock] using hq
    omega
theorem RowS.snoc {w3 w4 : World} {base : Nat} {v v' vx : Value} {bs : List Int} {l : List (Value × List Int)} (h : RowS w3 base v l) (hx : Sl w3 vx bs) (hB : Bs bs) (ha : ∀ q, vx.ownBlock = some q → v.ownBlock = some q → bs = [])
    (r : RowV w4 base v' (l.map (·.1) ++ [vx])) (s : RStep w3 v w4 v') : RowS w4 base v' (l ++ [(vx, bs)]) := by
  have one : ∀ (x : Value) (cs : List Int), Sl w3 x cs → (∀ q, x.ownBlock = some q → v.ownBlock = some q → cs = []) → Sl w4 x cs ∧ ∀ q, x.ownBlock = some q → v'.ownBlock = some q → cs = [] := by
    intro x cs hS hA
    refine ⟨hS.apart s.1 (fun q hq hm => hA q hq (by simpa using hm)), fun q hq hv => ?_⟩
    by_cases hc : cs = []
    · exact hc
    · rcases s.2 q hv with h1 | h1
      · exact hA q hq h1
      · have := hS.lt hc q hq; omega
  refine ⟨by rw [List.map_append]; exact r, fun y hy => ?_⟩
  rcases List.mem_append.1 hy with hy | hy
  · obtain ⟨h1, h2, h3⟩ := h.2 y hy
    exact ⟨(one y.1 y.2 h1 h3).1, h2, (one y.1 y.2 h1 h3).2⟩
  · obtain rfl : y = (vx, bs) := by simpa using hy
    exact ⟨(one vx bs hx ha).1, hB, (one vx bs hx ha).2⟩
/-- one more slice, that lies wherever it lies, behind them. -/
theorem wpList_accs {S : List Nat} {F : Nat → Prop} {w wr : World} {ops : Array Oper} {rest : List Oper} {o : Oper} {a : Act} {Q : Exit → Act → World → Prop} (hgd : o.guard = none) (s x : Operand)
    (ho : o.op = .call { callee := .builtin .append, args := #[s, x], argTypes := #[31, 31] }) (v : Value) (ls : List (List Int)) (hs : a.eval s = v) (hA : AccS S F w ls v wr) (hl : ls.length ≤ 1000000)
    (vx : Value) (bs : List Int) (hS : Sl wr vx bs) (hB : Bs bs) (hap : ∀ q, vx.ownBlock = some q → v.ownBlock = some q → bs = []) (hF : ∀ q, vx.ownBlock = some q → F q) (hx : a.eval x = .slice (some ⟨wr.heap.size, 0, none⟩) 1 1)
    (h : ∀ ao m c w', AccS S F w (ls ++ [bs]) (.slice ao m c) w' → RStep wr v w' (.slice ao m c) → wpList Tryd.prog ops Q rest (a.put o.dst (.slice ao m c)) w') : wpList Tryd.prog ops Q (o :: rest) a (wr.alloc (.cells #[vx] 24)) := by
  obtain ⟨l, hP, hl2, hK, hF4⟩ := hA
  have Ka := (Kp.refl [] wr).alloc (.cells #[vx] 24)
  have hP2 := hP.kept Ka
  obtain ⟨ax, cx, hvx, _⟩ := id hS
  refine wpList_append_rowv hgd s x ho w.heap.size v (l.map (·.1)) hs hP2.1 ⟨wr.heap.size, 0, none⟩ 1 [vx] hx ?_ ?_ ?_ ?_ ?_
  · intro j u hu
    exact World.news_of_block (heap_alloc_new wr _) j u (by simpa using hu)
  · simp [hvx, Value.oneCell']
  · have : l.length = ls.length := by rw [← hl2]; simp
    simp; omega
  · have := hK.size
    simp; omega
  · intro ao m c w' r st
    refine h ao m c w' ⟨l ++ [(vx, bs)], hP2.snoc (hS.kept Ka (by simp)) hB hap r st, by simp [hl2], ?_, fun y hy => ?_⟩ (st.after Ka)
    · exact (hK.trans (Ka.mono (by simp))).then st.1 (fun i hi => .inr (hP.1.own i (by simpa using hi)))
    · rcases List.mem_append.1 hy with hy | hy
      · exact hF4 y hy
      · obtain rfl : y = (vx, bs) := by simpa using hy
        exact hF
theorem Lists.off {w w' : World} {v : Value} {l : List (Value × List Int)} {S : List Nat} (h : Lists w v l) (k : Kp S w w') (hv : ∀ q, v.ownBlock = some q → q ∉ S) (hy : ∀ y ∈ l, ∀ q, y.1.ownBlock = some q → q ∉ S) : Lists w' v l := by
  obtain ⟨ao, c, rfl, h1, h2⟩ := h
  refine ⟨ao, c, rfl, h1, fun i hi => ?_⟩
  obtain ⟨b, off, e, h3, h4, h5⟩ := h2 i hi
  subst e
  exact ⟨b, off, rfl, k.cell h3 (hv b rfl), h4.kept k (hy _ (List.getElem_mem hi)), h5⟩
/-- a level of nodes that lies apart from pv. -/
def LvA (F : Nat → Prop) (w : World) (v : Value) (ls : List (List Int)) (pv : Value) : Prop :=
  ∃ l, Lists w v l ∧ l.map (·.2) = ls ∧ (∀ q, v.ownBlock = some q → q < w.heap.size ∧ pv.ownBlock ≠ some q) ∧ ∀ y ∈ l, ∀ q, y.1.ownBlock = some q → (q < w.heap.size ∧ pv.ownBlock ≠ some q) ∧ F q
theorem LvA.of_acc {F : Nat → Prop} {w1 w2 : World} {v pv : Value} {ls : List (List Int)} (h : Acc w1 ls v w2) (hl : ls.length ≤ 1000) (hp : ∀ q, pv.ownBlock = some q → q < w1.heap.size) (hF : ∀ q, w1.heap.size ≤ q → F q) : LvA F w2 v ls pv := by
  obtain ⟨l, h1, h2, h3⟩ := h
  refine ⟨l, h1.lists (by rw [← List.length_map (f := (·.2)), h2]; exact hl), h2, fun q hq => ⟨h1.1.lt hq, fun e => ?_⟩, fun y hy q hq => ⟨⟨(h1.2 y hy).1.lt hq, fun e => ?_⟩, hF q ((h1.2 y hy).1.own q hq)⟩⟩
  · have := h1.1.own q hq; have := hp q e; omega
  · have := (h1.2 y hy).1.own q hq; have := hp q e; omega
theorem LvA.step {F : Nat → Prop} {w w' : World} {v pv pv' : Value} {ls : List (List Int)} (h : LvA F w v ls pv) (s : RStep w pv w' pv') : LvA F w' v ls pv' := by
  obtain ⟨l, h1, h2, h3, h4⟩ := h
  have key : ∀ q, q < w.heap.size ∧ pv.ownBlock ≠ some q → q < w'.heap.size ∧ pv'.ownBlock ≠ some q := fun q ⟨a, b⟩ => ⟨Nat.lt_of_lt_of_le a s.1.size, fun e => by
    rcases s.2 q e with h5 | h5
    · exact b h5
    · omega⟩
  exact ⟨l, h1.off s.1 (fun q hq hm => (h3 q hq).2 (by simpa using hm)) (fun y hy q hq hm => (h4 y hy q hq).1.2 (by simpa using hm)), h2, fun q hq => key q (h3 q hq), fun y hy q hq => ⟨key q (h4 y hy q hq).1, (h4 y hy q hq).2⟩⟩
theorem LvA.at {F : Nat → Prop} {w : World} {ao : Option Addr} {n c : Nat} {pv : Value} {ls : List (List Int)} (h : LvA F w (.slice ao n c) ls pv) (i : Nat) (hi : i < ls.length) :
    ∃ b off ax nx cx, ao = some ⟨b, off, none⟩ ∧ w.cell? ⟨b, off + i, none⟩ = some (.slice ax nx cx) ∧ Sl w (.slice ax nx cx) (ls.getD i []) ∧ Bs (ls.getD i []) ∧ n = ls.length ∧ ∀ q, (Value.slice ax nx cx).ownBlock = some q → pv.ownBlock ≠ some q ∧ F q := by
  obtain ⟨l, hL, he, _, h4⟩ := h
  subst he
  obtain ⟨ao', c', e, _, h2⟩ := hL
  have hi2 : i < l.length := by simpa using hi
  obtain ⟨b, off, e2, h3, h5, h6⟩ := h2 i hi2
  injection e with e0 e1
  subst e0
  have hg : (l.map (·.2)).getD i [] = l[i].2 := by simp [List.getD, hi2]
  rw [hg]
  have h7 := h4 l[i] (List.getElem_mem hi2)
  obtain ⟨ax, cx, e4, _⟩ := id h5
  rw [e4] at h3 h5 h7
  exact ⟨b, off, ax, _, cx, e2, h3, h5, h6, by simp [e1], fun q hq => ⟨(h7 q hq).1.2, (h7 q hq).2⟩⟩

theorem sib_xor (x : Nat) (h : x < 16) : bits .xor .i64 (x : Int) 1 = (sibP x : Int) := by
  have h2 : ∀ m ∈ List.range 16, bits .xor .i64 (m : Int) 1 = (sibP m : Int) := by decide +kernel
  exact h2 x (by simpa using h)
theorem lv_even (bs : List Int) (k : Nat) (h : k < 4) : (lvP bs k).length % 2 = 0 := by
  rw [lvP_len]
  rcases (by omega : k = 0 ∨ k = 1 ∨ k = 2 ∨ k = 3) with rfl | rfl | rfl | rfl <;> decide
theorem lv_le (bs : List Int) (k : Nat) : (lvP bs k).length ≤ 16 := by rw [lvP_len]; exact Nat.div_le_self _ _

set_option maxRecDepth 100000 in
set_option maxHeartbeats 2000000 in
theorem pathOf_any (vb : Value) (bs : List Int) (i : Nat) (w : World) (hS : Sl w vb bs) (hB : Bs bs) (hl : bs.length ≤ 1000) (hi : i < 16) (hG : Gl w) :
    Calls Tryd.prog 35 #[vb, .int .i64 i] w fun e w' => ∃ ao m c, e = .returned (.slice ao m c) ∧ AccS [] (w.heap.size ≤ ·) w (pthP bs i 4) (.slice ao m c) w' := by
  obtain ⟨i0, hi0, hz0, hz1, hz2⟩ := info_parts Tryd.infoSl
  have HS := hide hS
  have HG := hide hG
  have HB := hide hB
  obtain ⟨ab, cb, hvb, _⟩ := hS
  obtain ⟨nb, hnb⟩ : ∃ n, n = bs.length := ⟨_, rfl⟩
  rw [← hnb] at hvb
  subst hvb
  clear hG hB hnb
  go_enter Tryd.func35, Tryd.ntmps35
  go_wp2_with (at_make; refine wpList_make_own _ rfl _ _ 31 rfl w.heap.size 24 i0 (.slice none 0 0) 1 Tryd.underlying31 hi0 hz0 hz1 .i64 .i64 _ 4 rfl rfl (by omega) (by rw [hz2]; omega) (by unfold maxLen; omega) (Nat.le_refl _) ?_; intro w1 o1 g1; have K1 : Kp [] w w1 := (Kp.refl [] w).grown g1 (by intro k hk; cases hk); have R1 : RowV w1 w.heap.size _ [] := o1)
  have A1 : Hid (AccS [] (w.heap.size ≤ ·) w (pthP bs i 0) (.slice (some ⟨w.heap.size, 0, none⟩) 0 4) w1) := ⟨[], ⟨R1, fun x hx => by cases hx⟩, rfl, K1, fun x hx => by cases hx⟩
  have HC := hide (leaves_any (.slice ab nb cb) bs w1 ((unhide HS).kept K1 (by simp)) (unhide HB) hl ((unhide HG).kept K1 (by simp)))
  clear o1 g1 R1 K1
  refine (unhide HC).mono ?_
  rintro ee w2 ⟨a2, m2, c2, rfl, A2⟩
  have V2 : Hid (LvA (w.heap.size ≤ ·) w2 (.slice a2 m2 c2) (lvP bs 0) (.slice (some ⟨w.heap.size, 0, none⟩) 0 4)) := LvA.of_acc A2 (by have := lv_le bs 0; omega) (unhide A1).lt (fun q hq => Nat.le_trans (unhide A1).kp.size hq)
  have A3 := hide ((unhide A1).mid A2.kp)
  clear HC A1 A2
  go_wp2_with fail
  go_loopw [5, 6, 1, 10] (fun v lv x j wr => ∃ (k m cc m2 c2 : Nat) (ao a2 : Option Addr), k ≤ 4 ∧ v = .slice ao m cc ∧ lv = .slice a2 m2 c2 ∧ x = .int .i64 ((i / 2 ^ k : Nat) : Int) ∧ j = .int .i64 k ∧ AccS [] (w.heap.size ≤ ·) w (pthP bs i k) v wr ∧ LvA (w.heap.size ≤ ·) wr lv (lvP bs k) v) (fun _ _ _ j _ => 4 - (intOf j).toNat)
  case atStart => exact ⟨0, 0, 4, m2, c2, some ⟨w.heap.size, 0, none⟩, a2, by omega, rfl, rfl, by simp, rfl, unhide A3, unhide V2⟩
  case round =>
    clear A3 V2
    obtain ⟨k, m, cc, m3, c3, ao, a3, hk, rfl, rfl, rfl, rfl, Ar, Vr⟩ := hrel
    have HA := hide Ar
    have HV := hide Vr
    clear Ar Vr
    by_cases hlt : k < 4
    · have hlt2 : (k : Int) < 4 := by omega
      have hx16 : i / 2 ^ k < 16 := Nat.lt_of_le_of_lt (Nat.div_le_self _ _) hi
      have hsl : sibP (i / 2 ^ k) < (lvP bs k).length := by rw [lvP_len]; exact sib_lv hi hlt
      have hxor := sib_xor _ hx16
      have hE := pthP_succ bs i k
      obtain ⟨b, off, ax, nx, cx, rfl, hc, hSx, hBx, hm3, hap⟩ := (unhide HV).at _ hsl
      have hev := lv_even bs k hlt
      have hle := lv_le bs k
      have hq : Int.tdiv ((i / 2 ^ k : Nat) : Int) 2 = ((i / 2 ^ (k + 1) : Nat) : Int) := by rw [Int.tdiv_eq_ediv_of_nonneg (Int.natCast_nonneg _), Nat.pow_succ, ← Nat.div_div_eq_div_mul]; omega
      have hq2 : ((i / 2 ^ k : Nat) : Int) / 2 = ((i / 2 ^ (k + 1) : Nat) : Int) := by rw [Nat.pow_succ, ← Nat.div_div_eq_div_mul]; omega
      rw [← hm3] at hsl
      obtain ⟨x, hx⟩ : ∃ x, x = i / 2 ^ k := ⟨_, rfl⟩
      obtain ⟨y, hy⟩ : ∃ y, y = i / 2 ^ (k + 1) := ⟨_, rfl⟩
      obtain ⟨s, hs⟩ : ∃ s, s = sibP x := ⟨_, rfl⟩
      rw [← hx] at hxor hsl hE hc hSx hBx hq hq2 hx16 ⊢
      rw [← hs] at hxor hsl hE hc hSx hBx
      rw [← hy] at hq hq2
      have hsi : (s : Int) < (m3 : Int) := by omega
      obtain ⟨X, hX⟩ : ∃ X, X = (lvP bs k).getD s [] := ⟨_, rfl⟩
      rw [← hX] at hE hSx hBx
      have HE := hide hE
      have HSx := hide hSx
      have HBx := hide hBx
      have HAP := hide hap
      have HY := hide hy
      have HEV := hide hev
      have HLE := hide hle
      have HM3 := hide hm3
      have HLN : Hid ((pthP bs i k).length ≤ 1000000) := by rw [pthP_len]; show k ≤ 1000000; omega
      clear hE hSx hBx hap hy hx hs hX hev hle hm3
      go_wp2_with (at_builtin; refine wpList_accs rfl (.tmp 12) (.tmp 18) rfl _ _ rfl (unhide HA) (unhide HLN) _ X (unhide HSx) (unhide HBx) (fun q h1 h2 => absurd h2 (unhide HAP q h1).1) (fun q h1 => (unhide HAP q h1).2) rfl ?_; intro ao5 m5 c5 w5 A5 S5)
      have HA5 := hide A5
      have HV5 := hide ((unhide HV).step S5)
      clear A5 S5 HV HA HSx HAP
      have HAB : Hid (∃ l, Lists w5 (.slice (some ⟨b, off, none⟩) m3 c3) l ∧ l.map (·.2) = lvP bs k) := by obtain ⟨l, h1, h2, _⟩ := unhide HV5; exact ⟨l, h1, h2⟩
      obtain ⟨ll, hll, hle⟩ := unhide HAB
      have HC := hide (above_any (.slice (some ⟨b, off, none⟩) m3 c3) ll (lvP bs k) hle (fun x hx => by rw [(lvP_all bs k x hx).1]; omega) w5 hll (by have := unhide HLE; omega) (unhide HEV) ((unhide HG).kept (unhide HA5).kp (by simp)))
      clear hll hle HAB
      refine (unhide HC).mono ?_
      rintro ee w6 ⟨a6, m6, c6, rfl, A6⟩
      have HV6 : Hid (LvA (w.heap.size ≤ ·) w6 (.slice a6 m6 c6) (lvP bs (k + 1)) (.slice ao5 m5 c5)) := LvA.of_acc A6 (by have := lv_le bs (k + 1); omega) (unhide HA5).lt (fun q hq => Nat.le_trans (unhide HA5).kp.size hq)
      have HA6 := hide ((unhide HA5).mid A6.kp)
      clear HC A6 HA5 HV5
      go_wp2_with fail
      go_roundw
      case rel => exact ⟨k + 1, m5, c5, m6, c6, ao5, a6, by omega, rfl, rfl, by rw [← unhide HY], by go_num, by have e := unhide HE; rw [← e] at HA6; exact unhide HA6, unhide HV6⟩
      case measure => simp [intOf]; omega
    · obtain rfl : k = 4 := by omega
      clear HV
      go_wp2_with fail
      go_ret
      exact ⟨ao, m, cc, rfl, unhide HA⟩

theorem led_take (x : List Int) (i : Nat) (ls : List (List Int)) (k : Nat) (h : k < ls.length) : ledP x i (ls.take (k + 1)) = if i / 2 ^ k % 2 = 0 then nodeP (ledP x i (ls.take k)) (ls.getD k []) else nodeP (ls.getD k []) (ledP x i (ls.take k)) := by
  rw [List.take_succ_eq_append_getElem h, ledP_snoc, List.length_take, Nat.min_eq_left (Nat.le_of_lt h)]
  simp [List.getD, h]
theorem ledP_ok (x : List Int) (i : Nat) (ls : List (List Int)) (h0 : x.length ≤ 1000) (h1 : Bs x) : (ledP x i ls).length ≤ 1000 ∧ Bs (ledP x i ls) := by
  induction ls generalizing x i with
  | nil => exact ⟨h0, h1⟩
  | cons o l ih =>
    rw [ledP]
    split
    · exact ih _ _ (by rw [nodeP_len]; omega) (nodeP_bs _ _)
    · exact ih _ _ (by rw [nodeP_len]; omega) (nodeP_bs _ _)

set_option maxRecDepth 100000 in
set_option maxHeartbeats 2000000 in
theorem ledUp_any (vx : Value) (x : List Int) (i : Nat) (vl : Value) (l : List (Value × List Int)) (ls : List (List Int)) (r : List Int) (hr : r = ledP x i ls) (hls : l.map (·.2) = ls) (w : World) (hX : Sl w vx x) (hXB : Bs x) (hxl : x.length ≤ 1000) (hi : i < 16) (hL : Lists w vl l) (hn : ls.length ≤ 1000) (hm : ∀ y ∈ ls, y.length ≤ 1000) (hG : Gl w) :
    Calls Tryd.prog 40 #[vx, .int .i64 i, vl] w fun e w' => ∃ ao m c, e = .returned (.slice ao m c) ∧ Sl w' (.slice ao m c) r ∧ Kp [] w w' := by
  have HX := hide hX
  have HG := hide hG
  have HL := hide hL
  have HLS := hide hls
  have HM := hide hm
  have HR := hide hr
  have HOK := hide (fun k => ledP_ok x i (ls.take k) hxl hXB)
  have hlen : l.length = ls.length := by rw [← hls]; simp
  obtain ⟨al, cl, hvl, _⟩ := hL
  rw [hlen] at hvl
  subst hvl
  obtain ⟨ax, cx, hvx, _⟩ := hX
  obtain ⟨nx, hnx⟩ : ∃ n, n = x.length := ⟨_, rfl⟩
  rw [← hnx] at hvx
  subst hvx
  obtain ⟨N, hN⟩ : ∃ N, N = ls.length := ⟨_, rfl⟩
  have HN := hide hN
  rw [← hN] at hn HL ⊢
  have hni : (N : Int) ≤ 1000 := by omega
  clear hG hls hm hr hlen hnx hN hXB hxl
  go_enter Tryd.func40, Tryd.ntmps40
  go_wp2_with fail
  go_loopw [7, 1, 13] (fun v x' j wr => ∃ (k m cc : Nat) (ao : Option Addr), k ≤ N ∧ v = .slice ao m cc ∧ x' = .int .i64 ((i / 2 ^ k : Nat) : Int) ∧ j = .int .i64 k ∧ Sl wr v (ledP x i (ls.take k)) ∧ Kp [] w wr) (fun _ _ j _ => N - (intOf j).toNat)
  case atStart => exact ⟨0, nx, cx, ax, by omega, rfl, by simp, rfl, unhide HX, Kp.refl _ _⟩
  case round =>
    obtain ⟨k, m, cc, ao, hk, rfl, rfl, rfl, Sr, Kr⟩ := hrel
    have HSr := hide Sr
    have HKr := hide Kr
    clear Sr Kr
    by_cases hlt : k < N
    · have hlt2 : (k : Int) < (N : Int) := by omega
      have hkl : k < ls.length := by have := unhide HN; omega
      have hx16 : i / 2 ^ k < 16 := Nat.lt_of_le_of_lt (Nat.div_le_self _ _) hi
      have hE := led_take x i ls k hkl
      obtain ⟨b, off, ay, ny, cy, rfl, hc, hSy, hBy⟩ := lists_at (unhide HL) (unhide HLS) k hkl
      have hyl : (ls.getD k []).length ≤ 1000 := unhide HM _ (getD_mem hkl)
      have hok := unhide HOK k
      have hq : Int.tdiv ((i / 2 ^ k : Nat) : Int) 2 = ((i / 2 ^ (k + 1) : Nat) : Int) := by rw [Int.tdiv_eq_ediv_of_nonneg (Int.natCast_nonneg _), Nat.pow_succ, ← Nat.div_div_eq_div_mul]; omega
      have hq2 : ((i / 2 ^ k : Nat) : Int) / 2 = ((i / 2 ^ (k + 1) : Nat) : Int) := by rw [Nat.pow_succ, ← Nat.div_div_eq_div_mul]; omega
      obtain ⟨t, ht⟩ : ∃ t, t = i / 2 ^ k % 2 := ⟨_, rfl⟩
      have ht2 : t < 2 := by omega
      have hmod : Int.tmod ((i / 2 ^ k : Nat) : Int) 2 = (t : Int) := by rw [Int.tmod_eq_emod_of_nonneg (Int.natCast_nonneg _)]; omega
      have hmod2 : ((i / 2 ^ k : Nat) : Int) % 2 = (t : Int) := by omega
      obtain ⟨z, hz⟩ : ∃ z, z = i / 2 ^ k := ⟨_, rfl⟩
      obtain ⟨z2, hz2⟩ : ∃ z, z = i / 2 ^ (k + 1) := ⟨_, rfl⟩
      rw [← ht] at hE
      rw [← hz] at hq hq2 hmod hmod2 hx16 ⊢
      rw [← hz2] at hq hq2
      obtain ⟨Y, hY⟩ : ∃ Y, Y = ls.getD k [] := ⟨_, rfl⟩
      obtain ⟨X, hX⟩ : ∃ X, X = ledP x i (ls.take k) := ⟨_, rfl⟩
      rw [← hY] at hE hSy hBy hyl
      rw [← hX] at hE hok HSr
      have hcw := (unhide HKr).cell hc (by simp)
      have HSy := hide (hSy.kept (unhide HKr) (by simp))
      have HBy := hide hBy
      have HOk := hide hok
      have HZ2 := hide hz2
      have HE := hide hE
      clear hE hSy hBy hok hz2 hY hX ht hz hc
      rcases (by omega : t = 0 ∨ t = 1) with rfl | rfl
      · rw [if_pos rfl] at HE
        obtain ⟨q, hq'⟩ : ∃ q, q = nodeP X Y := ⟨_, rfl⟩
        rw [← hq'] at HE
        have HC := hide (node_any _ _ X Y q hq' wr (unhide HSr) (unhide HOk).2 (unhide HSy) (unhide HBy) (unhide HOk).1 hyl ((unhide HG).kept (unhide HKr) (by simp)))
        clear hq'
        go_wp2_with fail
        refine (unhide HC).mono ?_
        rintro ee w2 ⟨a2, m2, c2, rfl, R2, K2⟩
        have HS2 := hide R2.sl
        have HK2 := hide ((unhide HKr).trans K2)
        clear R2 K2 HC HSr HSy HKr
        go_wp2_with fail
        go_roundw
        case rel => exact ⟨k + 1, m2, c2, a2, by omega, rfl, by rw [← unhide HZ2], by go_num, by rw [unhide HE]; exact unhide HS2, unhide HK2⟩
        case measure => simp [intOf]; omega
      · rw [if_neg (by omega)] at HE
        obtain ⟨q, hq'⟩ : ∃ q, q = nodeP Y X := ⟨_, rfl⟩
        rw [← hq'] at HE
        have HC := hide (node_any _ _ Y X q hq' wr (unhide HSy) (unhide HBy) (unhide HSr) (unhide HOk).2 hyl (unhide HOk).1 ((unhide HG).kept (unhide HKr) (by simp)))
        clear hq'
        go_wp2_with fail
        refine (unhide HC).mono ?_
        rintro ee w2 ⟨a2, m2, c2, rfl, R2, K2⟩
        have HS2 := hide R2.sl
        have HK2 := hide ((unhide HKr).trans K2)
        clear R2 K2 HC HSr HSy HKr
        go_wp2_with fail
        go_roundw
        case rel => exact ⟨k + 1, m2, c2, a2, by omega, rfl, by rw [← unhide HZ2], by go_num, by rw [unhide HE]; exact unhide HS2, unhide HK2⟩
        case measure => simp [intOf]; omega
    · obtain rfl : k = N := by omega
      have hT : ls.take k = ls := List.take_of_length_le (by have := unhide HN; omega)
      rw [hT] at HSr
      have hlt2 : ¬ (k : Int) < (k : Int) := by omega
      clear hT HOK HL
      go_wp2_with fail
      go_ret
      exact ⟨ao, m, cc, rfl, by rw [unhide HR]; exact unhide HSr, unhide HKr⟩

set_option maxRecDepth 100000 in
set_option maxHeartbeats 2000000 in
theorem spublic_any (vb : Value) (bs : List Int) (r : List Int) (hr : r = topP bs) (w : World) (hS : Sl w vb bs) (hB : Bs bs) (hl : bs.length = 32) (hG : Gl w) :
    Calls Tryd.prog 11 #[vb] w fun e w' => ∃ ao m c, e = .returned (.slice ao m c) ∧ Sl w' (.slice ao m c) r ∧ Kp [] w w' := by
  have HS := hide hS
  have HG := hide hG
  have HR := hide hr
  have HI := hide (isSeed_any vb bs w hS hl)
  have HC := hide (leaves_any vb bs w hS hB (by omega) hG)
  obtain ⟨ab, cb, hvb, _⟩ := hS
  obtain ⟨nb, hnb⟩ : ∃ n, n = bs.length := ⟨_, rfl⟩
  rw [← hnb] at hvb
  subst hvb
  clear hG hB hnb hr
  go_enter Tryd.func11, Tryd.ntmps11
  go_wp2_with fail
  refine (unhide HI).mono ?_
  rintro ee w1 ⟨rfl, hw⟩
  subst w1
  go_wp2_with fail
  refine (unhide HC).mono ?_
  rintro ee w2 ⟨a2, m2, c2, rfl, A2⟩
  have HK2 := hide A2.kp
  have HL2 : Hid (∃ l, Lists w2 (.slice a2 m2 c2) l ∧ l.map (·.2) = lvP bs 0) := A2.lists (by rw [lvsP_len]; omega)
  clear HC HI A2
  go_wp2_with fail
  go_loopw [3, 9] (fun lv j wr => ∃ (k m2 c2 : Nat) (a2 : Option Addr), k ≤ 4 ∧ lv = .slice a2 m2 c2 ∧ j = .int .i64 k ∧ (∃ l, Lists wr lv l ∧ l.map (·.2) = lvP bs k) ∧ Kp [] w wr) (fun _ j _ => 4 - (intOf j).toNat)
  case atStart => exact ⟨0, m2, c2, a2, by omega, rfl, rfl, unhide HL2, unhide HK2⟩
  case round =>
    clear HL2 HK2
    obtain ⟨k, m3, c3, a3, hk, rfl, rfl, ⟨l, hL, hle⟩, Kr⟩ := hrel
    have HKr := hide Kr
    by_cases hlt : k < 4
    · have hlt2 : (k : Int) < 4 := by omega
      have HC := hide (above_any (.slice a3 m3 c3) l (lvP bs k) hle (fun x hx => by rw [(lvP_all bs k x hx).1]; omega) wr hL (by have := lv_le bs k; omega) (lv_even bs k hlt) ((unhide HG).kept Kr (by simp)))
      clear hL hle Kr
      go_wp2_with fail
      refine (unhide HC).mono ?_
      rintro ee w6 ⟨a6, m6, c6, rfl, A6⟩
      have HL6 : Hid (∃ l, Lists w6 (.slice a6 m6 c6) l ∧ l.map (·.2) = lvP bs (k + 1)) := A6.lists (by rw [abvP_len]; have := lv_le bs k; omega)
      have HK6 := hide ((unhide HKr).trans A6.kp)
      clear A6 HC
      go_wp2_with fail
      go_roundw
      case rel => exact ⟨k + 1, m6, c6, a6, by omega, rfl, by go_num, unhide HL6, unhide HK6⟩
      case measure => simp [intOf]; omega
    · obtain rfl : k = 4 := by omega
      obtain ⟨b, off, ay, ny, cy, rfl, hc, hSy, hBy⟩ := lists_at hL hle 0 (by rw [lvP_len]; decide)
      have hm3 : m3 = 1 := by
        obtain ⟨ao', c', e, _⟩ := hL
        injection e with _ e2
        rw [e2, ← List.length_map (f := (·.2)), hle, lvP_len]
      subst hm3
      have HSy : Hid (Sl wr (.slice ay ny cy) r) := by rw [unhide HR]; exact hSy
      rw [Nat.add_zero] at hc
      clear hSy hBy hL hle Kr HR
      go_wp2_with fail
      go_ret
      exact ⟨ay, ny, cy, rfl, unhide HSy, unhide HKr⟩
end Go.Proofs.YtdioaohejoflcaaDoor

/-
  The contracts of package sign's Sign and Verify.
-/
namespace Go.Proofs.YtdioaohejoflcaaDoor
open Go.RowKit
open Go.Proofs

theorem Tryd.sigSize : (Tryd.prog.info? 33).map (·.size) = some 3 := by kernel_rfl
theorem load_sig (w : World) (g : Nat) (x y z : Value) (fr : Nat × Nat) (hg : w.heap[g]? = some (.cells #[x, y, z] 33 fr)) : (loadVar 33 ⟨g, 0, none⟩).run Tryd.prog w = .ok (.agg #[x, y, z]) w :=
  run_loadVar_row w g 33 33 #[x, y, z] fr _ hg Tryd.underlying33 rfl Tryd.sigSize
theorem results_sig {fn : Func} {p u : Tmp} (h : fn.results = #[.cell p 33, .tmp u]) (tmps : Array Value) (w : World) (g : Nat) (x y z : Value) (fr : Nat × Nat)
    (hp : tmps.getD p undef = .pointer (some ⟨g, 0, none⟩)) (hg : w.heap[g]? = some (.cells #[x, y, z] 33 fr)) : (results fn tmps).run Tryd.prog w = .ok (.tuple #[.agg #[x, y, z], tmps.getD u undef]) w := by
  rw [results_cell_tmp h, hp]
  simp [asAddr, Result.andThen, load_sig w g x y z fr hg]
theorem results_sig1 {fn : Func} {p : Tmp} (h : fn.results = #[.cell p 33]) (tmps : Array Value) (w : World) (g : Nat) (x y z : Value) (fr : Nat × Nat)
    (hp : tmps.getD p undef = .pointer (some ⟨g, 0, none⟩)) (hg : w.heap[g]? = some (.cells #[x, y, z] 33 fr)) : (results fn tmps).run Tryd.prog w = .ok (.agg #[x, y, z]) w :=
  results_cell_row h tmps w g 33 #[x, y, z] fr _ hp hg Tryd.underlying33 rfl Tryd.sigSize
/-- a signature that is stored whole. -/
theorem wpList_store_sig {w : World} {ops : Array Oper} {rest : List Oper} {o : Oper} {a : Act} {Q : Exit → Act → World → Prop} (hgd : o.guard = none) (p u : Operand) (ho : o.op = .store 33 p u) (g : Nat) (hp : a.eval p = .pointer (some ⟨g, 0, none⟩)) (x0 y0 z0 x y z : Value)
    (hg : w.heap[g]? = some (.cells #[x0, y0, z0] 33 (0, 0))) (hu : a.eval u = .agg #[x, y, z]) (h1 : x.oneCell' = true ∧ y.oneCell' = true ∧ z.oneCell' = true)
    (h : ∀ w', w'.heap[g]? = some (.cells #[x, y, z] 33 (0, 0)) → Kp [g] w w' → wpList Tryd.prog ops Q rest (a.put o.dst undef) w') : wpList Tryd.prog ops Q (o :: rest) a w := by
  refine wpList_store_mid hgd 33 p u ho g 0 #[x, y, z] hp hu ?_ (by simpa using Tryd.sigSize) (all_oneCell_toArray (by simp [h1])) ?_
  · intro j hj
    simp only [List.size_toArray, List.length_cons, List.length_nil] at hj
    rw [Nat.zero_add, cell_of_row w g j _ _ _ hg]
    refine ⟨?_, frozen_of_row w g j _ _ hg⟩
    rcases (by omega : j = 0 ∨ j = 1 ∨ j = 2) with rfl | rfl | rfl <;> rfl
  · refine h _ ?_ (kp_setCells w g _ 0 w (Kp.refl _ _))
    simp only [World.setCells]
    have e1 := heap_setCell_same w g 0 _ _ x hg
    have e2 := heap_setCell_same (w.setCell ⟨g, 0, none⟩ x) g 1 _ _ y e1
    have e3 := heap_setCell_same ((w.setCell ⟨g, 0, none⟩ x).setCell ⟨g, 1, none⟩ y) g 2 _ _ z e2
    simpa using e3

set_option maxRecDepth 100000 in
set_option maxHeartbeats 2000000 in
theorem ssign_any (vb : Value) (bs : List Int) (i : Nat) (vm : Value) (ms : List Int) (d : Int) (hd : d = digP ms) (w : World) (hS : Sl w vb bs) (hB : Bs bs) (hl : bs.length = 32) (hi : i < 16) (hM : Sl w vm ms) (hMB : Bs ms) (hml : ms.length ≤ 1000) (hG : Gl w) :
    Calls Tryd.prog 13 #[vb, .int .i64 i, vm] w fun e w' => ∃ v, e = .returned (.tuple #[v, .int .i64 0]) ∧ SigV w' v i (sgnP bs i d) (pthP bs i 4) ∧ Kp [] w w' := by
  have HS := hide hS
  have HG := hide hG
  have HB := hide hB
  have HM := hide hM
  have HMB := hide hMB
  have HD := hide hd
  obtain ⟨ob, hob⟩ : ∃ o : Obj, o = (.cells #[.int .i64 0, .slice none 0 0, .slice none 0 0] 33) := ⟨_, rfl⟩
  have K1 : Kp [] w (w.alloc ob) := (Kp.refl [] w).alloc ob
  have HI := hide (isSeed_any vb bs (w.alloc ob) (hS.kept K1 (by simp)) hl)
  have HK := hide (isKey_any i true (by simp; omega) (w.alloc ob))
  have HC := hide (sign_any vb bs i vm ms d hd (w.alloc ob) (hS.kept K1 (by simp)) hB (by omega) (hM.kept K1 (by simp)) hMB hml (hG.kept K1 (by simp)))
  rw [hob] at K1 HI HK HC
  have HK1 := hide K1
  obtain ⟨ab, cb, hvb, _⟩ := hS
  obtain ⟨nb, hnb⟩ : ∃ n, n = bs.length := ⟨_, rfl⟩
  rw [← hnb] at hvb
  subst hvb
  obtain ⟨am, cm, hvm, _⟩ := hM
  obtain ⟨nm, hnm⟩ : ∃ n, n = ms.length := ⟨_, rfl⟩
  rw [← hnm] at hvm
  subst hvm
  clear hG hB hnb hnm hMB hd hob K1
  go_enter Tryd.func13, Tryd.ntmps13
  go_wp2_with fail
  refine (unhide HI).mono ?_
  rintro ee w1 ⟨rfl, hw⟩
  subst w1
  go_wp2_with fail
  refine (unhide HK).mono ?_
  rintro ee w1 ⟨rfl, hw⟩
  subst w1
  go_wp2_with fail
  refine (unhide HC).mono ?_
  rintro ee w2 ⟨a2, m2, c2, rfl, A2⟩
  have HA2 := hide (A2.after (unhide HK1))
  have HL2 : Hid (∃ l, Lists w2 (.slice a2 m2 c2) l ∧ l.map (·.2) = sgnP bs i d ∧ (∀ q, (Value.slice a2 m2 c2).ownBlock = some q → q ≠ w.heap.size) ∧ ∀ x ∈ l, ∀ q, x.1.ownBlock = some q → q ≠ w.heap.size) := by
    obtain ⟨l, h1, h2, _⟩ := A2
    have hz : ∀ o : Obj, (w.alloc o).heap.size = w.heap.size + 1 := fun o => by simp
    refine ⟨l, h1.lists (by rw [← List.length_map (f := (·.2)), h2, sgnP, ptsP_len]; omega), h2, fun q hq => ?_, fun x hx q hq => ?_⟩
    · have := h1.1.own q hq; rw [hz] at this; omega
    · have := (h1.2 x hx).1.own q hq; rw [hz] at this; omega
  have HG2 : Hid (w2.heap[w.heap.size]? = some (.cells #[.int .i64 0, .slice none 0 0, .slice none 0 0] 33)) := A2.kp.heap (heap_alloc_new w _) (by simp)
  have HP := hide (pathOf_any (.slice ab nb cb) bs i w2 ((unhide HS).kept (unhide HA2).kp (by simp)) (unhide HB) (by omega) hi ((unhide HG).kept (unhide HA2).kp (by simp)))
  clear HI HK HC A2 HK1
  go_wp2_with fail
  refine (unhide HP).mono ?_
  rintro ee w3 ⟨a3, m3, c3, rfl, A3⟩
  have HA3 := hide A3
  have HG3 : w3.heap[w.heap.size]? = some (.cells #[.int .i64 0, .slice none 0 0, .slice none 0 0] 33) := A3.kp.heap (unhide HG2) (by simp)
  have HG2' := unhide HG2
  clear HP A3 HG2
  go_wp2_with (refine wpList_store_sig rfl (.tmp 6) (.tmp 24) rfl w.heap.size rfl _ _ _ _ _ _ HG3 rfl ⟨rfl, rfl, rfl⟩ ?_; intro w4 G4 K4)
  have HK4 : Hid (Kp [] w w4) := (((unhide HA2).kp).trans (unhide HA3).kp).then K4 (by simp)
  have hlt : w.heap.size < w3.heap.size := (Array.getElem?_eq_some_iff.1 HG3).1
  have hsz2 : w.heap.size < w2.heap.size := (Array.getElem?_eq_some_iff.1 HG2').1
  have HV : Hid (SigV w4 (.agg #[.int .i64 i, .slice a2 m2 c2, .slice a3 m3 c3]) i (sgnP bs i d) (pthP bs i 4)) := by
    obtain ⟨lp, h1, h2, h3, h4⟩ := unhide HL2
    obtain ⟨lq, g1, g2, g3, g4⟩ := (unhide HA3).lists (by rw [pthP_len]; omega)
    refine ⟨_, _, lp, lq, rfl, (h1.kept (unhide HA3).kp).off K4 (fun q hq => by simpa using h3 q hq) (fun y hy q hq => by simpa using h4 y hy q hq), h2, g1.off K4 (fun q hq => ?_) (fun y hy q hq => ?_), g2⟩
    · have := g3 q hq; simp; omega
    · have := g4 y hy q hq; simp; omega
  refine bodyPost_ret (results_sig rfl _ _ w.heap.size _ _ _ (0, 0) rfl G4) rfl ?_
  exact ⟨_, rfl, unhide HV, unhide HK4⟩

set_option maxRecDepth 100000 in
set_option maxHeartbeats 2000000 in
theorem ssign_used (vb : Value) (bs : List Int) (i : Int) (vm : Value) (w : World) (hS : Sl w vb bs) (hl : bs.length = 32) (hi : ¬ (0 ≤ i ∧ i < 16)) :
    Calls Tryd.prog 13 #[vb, .int .i64 i, vm] w fun e w' => e = .returned (.tuple #[.agg #[.int .i64 0, .slice none 0 0, .slice none 0 0], .int .i64 23]) ∧ Kp [] w w' := by
  obtain ⟨ob, hob⟩ : ∃ o : Obj, o = (.cells #[.int .i64 0, .slice none 0 0, .slice none 0 0] 33) := ⟨_, rfl⟩
  have K1 : Kp [] w (w.alloc ob) := (Kp.refl [] w).alloc ob
  have HI := hide (isSeed_any vb bs (w.alloc ob) (hS.kept K1 (by simp)) hl)
  have HK := hide (isKey_any i false (by simp only [hi, decide_false]) (w.alloc ob))
  rw [hob] at K1 HI HK
  have HK1 := hide K1
  have G1 := heap_alloc_new w (.cells #[.int .i64 0, .slice none 0 0, .slice none 0 0] 33)
  clear hob K1 hS hi
  go_enter Tryd.func13, Tryd.ntmps13
  go_wp2_with fail
  refine (unhide HI).mono ?_
  rintro ee w1 ⟨rfl, hw⟩
  subst w1
  go_wp2_with fail
  refine (unhide HK).mono ?_
  rintro ee w1 ⟨rfl, hw⟩
  subst w1
  go_wp2_with (refine wpList_store_sig rfl (.tmp 6) (.tmp 15) rfl w.heap.size rfl _ _ _ _ _ _ G1 rfl ⟨rfl, rfl, rfl⟩ ?_; intro w4 G4 K4)
  refine bodyPost_ret (results_sig rfl _ _ w.heap.size _ _ _ (0, 0) rfl G4) rfl ?_
  exact ⟨rfl, (unhide HK1).then K4 (by simp)⟩

set_option maxRecDepth 100000 in
set_option maxHeartbeats 2000000 in
theorem ssign_arg (vb : Value) (bs : List Int) (i : Int) (vm : Value) (w : World) (hS : Sl w vb bs) (hl : bs.length ≠ 32) :
    Calls Tryd.prog 13 #[vb, .int .i64 i, vm] w fun e w' => e = .returned (.tuple #[.agg #[.int .i64 0, .slice none 0 0, .slice none 0 0], .int .i64 1]) ∧ Kp [] w w' := by
  obtain ⟨ob, hob⟩ : ∃ o : Obj, o = (.cells #[.int .i64 0, .slice none 0 0, .slice none 0 0] 33) := ⟨_, rfl⟩
  have K1 : Kp [] w (w.alloc ob) := (Kp.refl [] w).alloc ob
  have HI := hide (isSeed_no vb bs (w.alloc ob) (hS.kept K1 (by simp)) hl)
  rw [hob] at K1 HI
  have HK1 := hide K1
  have G1 := heap_alloc_new w (.cells #[.int .i64 0, .slice none 0 0, .slice none 0 0] 33)
  clear hob K1 hS hl
  go_enter Tryd.func13, Tryd.ntmps13
  go_wp2_with fail
  refine (unhide HI).mono ?_
  rintro ee w1 ⟨rfl, hw⟩
  subst w1
  go_wp2_with (refine wpList_store_sig rfl (.tmp 6) (.tmp 11) rfl w.heap.size rfl _ _ _ _ _ _ G1 rfl ⟨rfl, rfl, rfl⟩ ?_; intro w4 G4 K4)
  refine bodyPost_ret (results_sig rfl _ _ w.heap.size _ _ _ (0, 0) rfl G4) rfl ?_
  exact ⟨rfl, (unhide HK1).then K4 (by simp)⟩
theorem spublic_no (vb : Value) (bs : List Int) (w : World) (hS : Sl w vb bs) (hl : bs.length ≠ 32) :
    Calls Tryd.prog 11 #[vb] w fun e w' => e = .returned (.slice none 0 0) ∧ w' = w := by
  have HI := hide (isSeed_no vb bs w hS hl)
  clear hS hl
  go_enter Tryd.func11, Tryd.ntmps11
  go_wp2_with fail
  refine (unhide HI).mono ?_
  rintro ee w1 ⟨rfl, hw⟩
  subst w1
  go_wp2_with fail
  go_ret
  exact ⟨rfl, rfl⟩

set_option maxRecDepth 100000 in
set_option maxHeartbeats 2000000 in
theorem sverify_any (vpub : Value) (pub : List Int) (vm : Value) (ms : List Int) (v : Value) (i : Int) (ps qs : List (List Int)) (b : Bool) (hb : b = verP pub ms i ps qs) (w : World) (hP : Sl w vpub pub) (hPB : Bs pub) (hM : Sl w vm ms) (hMB : Bs ms) (hml : ms.length ≤ 1000) (hV : SigV w v i ps qs) (hG : Gl w) :
    Calls Tryd.prog 16 #[vpub, vm, v] w fun e w' => e = .returned (.bool b) ∧ Kp [] w w' := by
  obtain ⟨c, hc⟩ : ∃ c, c = rgtP i ps qs := ⟨_, rfl⟩
  obtain ⟨ap, np, cp, aq, nq, cq, lp, lq, rfl, hLP, hp, hLQ, hq, hnp, hnq⟩ := hV.shape
  clear hnp hnq
  obtain ⟨ob, hob⟩ : ∃ o : Obj, o = (.cells #[.int .i64 i, .slice ap np cp, .slice aq nq cq] 33) := ⟨_, rfl⟩
  have K1 : Kp [] w (w.alloc ob) := (Kp.refl [] w).alloc ob
  have HR := hide (sright_any _ i ps qs c hc (w.alloc ob) (hV.kept K1))
  have HLP := hide hLP
  have HLQ := hide hLQ
  have Hp := hide hp
  have Hq := hide hq
  have HPu := hide hP
  have HPB := hide hPB
  have HM := hide hM
  have HMB := hide hMB
  have HG := hide hG
  obtain ⟨au, cu, hvu, _⟩ := hP
  obtain ⟨nu, hnu⟩ : ∃ n, n = pub.length := ⟨_, rfl⟩
  rw [← hnu] at hvu
  subst hvu
  obtain ⟨am, cm, hvm, _⟩ := hM
  obtain ⟨nm, hnm⟩ : ∃ n, n = ms.length := ⟨_, rfl⟩
  rw [← hnm] at hvm
  subst hvm
  have hl1 := load_sig (w.alloc ob) w.heap.size (.int .i64 i) (.slice ap np cp) (.slice aq nq cq) (0, 0) (by rw [hob]; exact heap_alloc_new w _)
  have G1 : Hid ((w.alloc ob).heap[w.heap.size]? = some (.cells #[.int .i64 i, .slice ap np cp, .slice aq nq cq] 33 (0, 0))) := by rw [hob]; exact heap_alloc_new w _
  rw [hob] at K1 HR hl1 G1
  have HK1 := hide K1
  have HB := hide hb
  have HCC := hide hc
  clear hob K1 hLP hLQ hp hq hPB hMB hV hG hnu hnm hb hc
  cases c
  · have hbf : b = false := by rw [unhide HB, verP, ← unhide HCC]; rfl
    subst hbf
    go_enter Tryd.func16, Tryd.ntmps16
    go_wp2_with fail
    refine (unhide HR).mono ?_
    rintro ee w2 ⟨rfl, K2⟩
    have HK2 := hide ((unhide HK1).trans K2)
    clear HR K2 HK1
    go_wp2_with fail
    go_ret
    exact ⟨rfl, unhide HK2⟩
  · have hrg := (rgtP_iff i ps qs).1 (unhide HCC).symm
    obtain ⟨⟨hi0, hi1⟩, ⟨hpl, hp32⟩, hql, hq32⟩ := hrg
    obtain ⟨k, rfl⟩ := Int.eq_ofNat_of_zero_le hi0
    obtain ⟨d, hd⟩ : ∃ d, d = digP ms := ⟨_, rfl⟩
    obtain ⟨r, hr⟩ : ∃ r, r = rootP d ps := ⟨_, rfl⟩
    obtain ⟨t, ht⟩ : ∃ t, t = ledP r k qs := ⟨_, rfl⟩
    have hare : true = areP ps := by
      unfold areP
      symm
      simp only [Bool.and_eq_true, beq_iff_eq, List.all_eq_true]
      exact ⟨hpl, hp32⟩
    obtain ⟨S, hS⟩ : ∃ S, S = strOfNums t := ⟨_, rfl⟩
    obtain ⟨T, hT⟩ : ∃ T, T = strOfNums pub := ⟨_, rfl⟩
    have hrB : Bs r := by rw [hr]; exact sha_bs _
    have hrl : r.length ≤ 1000 := by rw [hr, rootP, sha_len]; omega
    have hbb : b = (S.toList == T.toList) := by
      have htB : Bs t := by rw [ht]; exact (ledP_ok r k qs hrl hrB).2
      rw [unhide HB, verP, ← unhide HCC, hS, hT, str_beq t pub htB (unhide HPB), ht, hr, hd]
      rfl
    have HRo := hide (fun w' (k' : Kp [] w w') => root_any _ ms (.slice ap np cp) lp d true r hd (by rw [unhide Hp]; exact hare) (by rw [unhide Hp]; exact hr) w' ((unhide HM).kept k' (by simp)) (unhide HMB) hml ((unhide HLP).kept k') ((unhide HG).kept k' (by simp)))
    have HLe := hide (fun (vx : Value) w' (k' : Kp [] w w') (hx : Sl w' vx r) => ledUp_any vx r k (.slice aq nq cq) lq qs t ht (unhide Hq) w' hx hrB hrl (by omega) ((unhide HLQ).kept k') (by omega) (fun y hy => by rw [hq32 y hy]; omega) ((unhide HG).kept k' (by simp)))
    have HSa := hide (fun (vx : Value) w' (k' : Kp [] w w') (hx : Sl w' vx t) => samehash_any vx _ t pub S T hS hT w' hx ((unhide HPu).kept k' (by simp)))
    clear hrB hrl hS hT hd hr ht hare HB HCC hp32 hq32 hpl hql hi0 hi1
    subst hbb
    go_enter Tryd.func16, Tryd.ntmps16
    go_wp2_with fail
    refine (unhide HR).mono ?_
    rintro ee w2 ⟨rfl, K2⟩
    have HK2 := hide ((unhide HK1).trans K2)
    have G2 := K2.heap (unhide G1) (by simp)
    have c1 := cell_of_row w2 w.heap.size 1 _ _ _ G2
    have c1' : w2.cell? ⟨w.heap.size, 1, none⟩ = some (.slice ap np cp) := by rw [c1]; rfl
    have HG2 := hide G2
    clear HR K2 HK1 G1 G2 c1
    go_wp2_with fail
    refine (unhide HRo w2 (unhide HK2)).mono ?_
    rintro ee w3 ⟨vr, rfl, hRoot, K3⟩
    obtain ⟨a3, m3, c3, rfl, R3⟩ := hRoot
    have HK3 := hide ((unhide HK2).trans K3)
    have HR3 := hide R3.sl
    have G3 := K3.heap (unhide HG2) (by simp)
    have e0 : w3.cell? ⟨w.heap.size, 0, none⟩ = some (.int .i64 k) := by rw [cell_of_row w3 w.heap.size 0 _ _ _ G3]; rfl
    have e2 : w3.cell? ⟨w.heap.size, 2, none⟩ = some (.slice aq nq cq) := by rw [cell_of_row w3 w.heap.size 2 _ _ _ G3]; rfl
    clear R3 K3 HRo HG2 HK2 c1' G3
    go_wp2_with fail
    refine (unhide HLe _ w3 (unhide HK3) (unhide HR3)).mono ?_
    rintro ee w4 ⟨a4, m4, c4, rfl, S4, K4⟩
    have HK4 := hide ((unhide HK3).trans K4)
    have HS4 := hide S4
    clear K4 S4 HLe HR3 HK3
    go_wp2_with fail
    refine (unhide HSa _ w4 (unhide HK4) (unhide HS4)).mono ?_
    rintro ee w5 ⟨rfl, hw⟩
    subst w5
    go_wp2_with fail
    go_ret
    exact ⟨rfl, unhide HK4⟩
end Go.Proofs.YtdioaohejoflcaaDoor
