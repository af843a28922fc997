/-
  The contract of the program's partsOf, for whatever chooses the sides; Public and Sign.
-/
import Derived.Test.YtdioaohejoflcaaDoorKOSides
import Derived.Test.YtdioaohejoflcaaDoorKHInts
import Derived.Shelf.Abstract
namespace Go.Proofs.YtdioaohejoflcaaDoor
open Go.RowKit
open Go.Proofs

theorem Row.lt {w : World} {base k : Nat} {v : Value} {bs : List Int} (h : Row w base v bs) (hk : v.ownBlock = some k) : k < w.heap.size := by
  rcases h.2 with ⟨rfl, _⟩ | ⟨g, cap, cur, rfl, hb, hg, _⟩
  · cases hk
  · cases hk; exact (Array.getElem?_eq_some_iff.1 hg).1
theorem RowV.lt {w : World} {base k : Nat} {v : Value} {xs : List Value} (h : RowV w base v xs) (hk : v.ownBlock = some k) : k < w.heap.size := by
  rcases h.2 with ⟨rfl, _⟩ | ⟨g, cap, cur, rfl, hb, hg, _⟩
  · cases hk
  · cases hk; exact (Array.getElem?_eq_some_iff.1 hg).1

/-- v is a row of slices, all of the call's own, each apart from it. -/
def Parts (w : World) (base : Nat) (v : Value) (l : List (Value × List Int)) : Prop :=
  RowV w base v (l.map (·.1)) ∧ ∀ x ∈ l, Row w base x.1 x.2 ∧ Bs x.2 ∧ ∀ k, x.1.ownBlock = some k → v.ownBlock ≠ some k
theorem Parts.kept {w w' : World} {base : Nat} {v : Value} {l : List (Value × List Int)} (h : Parts w base v l) (k : Kp [] w w') : Parts w' base v l :=
  ⟨h.1.kept k (by simp), fun x hx => ⟨(h.2 x hx).1.kept k (by simp), (h.2 x hx).2⟩⟩
theorem Parts.lists {w : World} {base : Nat} {v : Value} {l : List (Value × List Int)} (h : Parts w base v l) (hl : l.length ≤ 1000) : Lists w v l :=
  lists_of_rowv h.1 hl (fun x hx => ⟨(h.2 x hx).1.sl, (h.2 x hx).2.1⟩)
theorem Parts.rebase {w w0 w' : World} {v : Value} {l : List (Value × List Int)} (h : Parts w' w0.heap.size v l) (k : Kp [] w w0) : Parts w' w.heap.size v l :=
  ⟨owns_rebase h.1 (fun i hi => Nat.le_trans k.size (h.1.own i hi)), fun x hx => ⟨row_new (h.2 x hx).1 k, (h.2 x hx).2⟩⟩
theorem Parts.snoc {wr w2 w3 w4 : World} {base : Nat} {v v' : Value} {l : List (Value × List Int)} {x : Value × List Int} (h : Parts wr base v l) (k : Kp [] wr w2) (hx : Row w2 wr.heap.size x.1 x.2) (hb : Bs x.2) (k3 : Kp [] w2 w3)
    (r : RowV w4 base v' (l.map (·.1) ++ [x.1])) (s : RStep w3 v w4 v') (hbase : base ≤ wr.heap.size) : Parts w4 base v' (l ++ [x]) := by
  refine ⟨by rw [List.map_append]; exact r, fun y hy => ?_⟩
  rcases List.mem_append.1 hy with hy | hy
  · obtain ⟨h1, h2, h3⟩ := h.2 y hy
    refine ⟨((h1.kept k (by simp)).kept k3 (by simp)).kept s.1 (fun i hi hm => h3 i hi (by simpa using hm)), h2, fun i hi hv => ?_⟩
    rcases s.2 i hv with h4 | h4
    · exact h3 i hi h4
    · have := h1.lt hi
      have := k.size
      have := k3.size
      omega
  · obtain rfl : y = x := by simpa using hy
    have hlt : ∀ i, y.1.ownBlock = some i → i < w3.heap.size := fun i hi => by have := hx.lt hi; have := k3.size; omega
    have hne : ∀ i, y.1.ownBlock = some i → v.ownBlock ≠ some i := fun i hi hv => by have := h.1.lt hv; have := hx.own i hi; omega
    refine ⟨owns_rebase ((hx.kept k3 (by simp)).kept s.1 (fun i hi hm => hne i hi (by simpa using hm))) (fun i hi => Nat.le_trans hbase (hx.own i hi)), hb, fun i hi hv => ?_⟩
    rcases s.2 i hv with h4 | h4
    · exact hne i hi h4
    · have := hlt i hi; omega
/-- what is gathered so far. -/
def Acc (w : World) (ls : List (List Int)) (v : Value) (wr : World) : Prop := ∃ l, Parts wr w.heap.size v l ∧ l.map (·.2) = ls ∧ Kp [] w wr
theorem Acc.mid {w wr w2 : World} {ls : List (List Int)} {v : Value} (h : Acc w ls v wr) (k : Kp [] wr w2) : Acc w ls v w2 := by
  obtain ⟨l, h1, h2, h3⟩ := h
  exact ⟨l, h1.kept k, h2, h3.trans k⟩
theorem Acc.kp {w wr : World} {ls : List (List Int)} {v : Value} (h : Acc w ls v wr) : Kp [] w wr := by obtain ⟨_, _, _, h3⟩ := h; exact h3
theorem Acc.cap {w wr : World} {ls : List (List Int)} {ao : Option Addr} {m c : Nat} (h : Acc w ls (.slice ao m c) wr) : m = ls.length := by
  obtain ⟨l, h1, h2, _⟩ := h
  have := h1.1.len
  rw [this, ← h2]; simp
/-- one more slice behind them. -/
theorem wpList_acc {w wr w2 : World} {ops : Array Oper} {rest : List Oper} {o : Oper} {a : Act} {Q : Exit → Act → World → Prop} (hgd : o.guard = none) (s x : Operand)
    (ho : o.op = .call { callee := .builtin .append, args := #[s, x], argTypes := #[31, 31] }) (v : Value) (ls : List (List Int)) (hs : a.eval s = v) (hA : Acc w ls v wr) (hl : ls.length ≤ 1000000)
    (vx : Value) (bs : List Int) (k : Kp [] wr w2) (hr : Row w2 wr.heap.size vx bs) (hb : Bs bs) (hx : a.eval x = .slice (some ⟨w2.heap.size, 0, none⟩) 1 1)
    (h : ∀ ao m c w', Acc w (ls ++ [bs]) (.slice ao m c) w' → wpList Tryd.prog ops Q rest (a.put o.dst (.slice ao m c)) w') : wpList Tryd.prog ops Q (o :: rest) a (w2.alloc (.cells #[vx] 24)) := by
  obtain ⟨l, hP, hl2, hK⟩ := hA
  have hP2 := hP.kept (k.trans ((Kp.refl [] w2).alloc (.cells #[vx] 24)))
  obtain ⟨ax, cx, hvx⟩ := hr.shape
  refine wpList_append_rowv hgd s x ho w.heap.size v (l.map (·.1)) hs hP2.1 ⟨w2.heap.size, 0, none⟩ 1 [vx] hx ?_ ?_ ?_ ?_ ?_
  · intro j u hu
    exact World.news_of_block (heap_alloc_new w2 _) j u (by simpa using hu)
  · simp [hvx, Value.oneCell']
  · have : l.length = ls.length := by rw [← hl2]; simp
    simp; omega
  · have := hK.size
    have := k.size
    simp; omega
  · intro ao m c w' r st
    refine h ao m c w' ⟨l ++ [(vx, bs)], hP.snoc (x := (vx, bs)) k hr hb ((Kp.refl [] w2).alloc _) r st hK.size, by simp [hl2], ?_⟩
    exact (hK.trans (k.trans ((Kp.refl [] w2).alloc _))).then st.1 (fun i hi => .inr (hP.1.own i (by simpa using hi)))

theorem tell_enters (b : Bool) : Enters Tryd.prog (if b then 80 else 83) := by
  cases b
  · exact enters_of Tryd.func83 (by kernel_rfl) rfl
  · exact enters_of Tryd.func80 (by kernel_rfl) rfl
theorem tell_any (b : Bool) (vb : Value) (bs : List Int) (key bit side : Int) (r : List Int) (hr : r = if b then secP bs key bit side else shnP bs key bit side) (w : World) (hS : Sl w vb bs) (hB : Bs bs) (hl : bs.length ≤ 1000) (hG : Gl w) :
    Calls Tryd.prog (if b then 80 else 83) #[vb, .int .i64 key, .int .i64 bit, .int .i64 side] w fun e w' => ∃ ao m c, e = .returned (.slice ao m c) ∧ Row w' w.heap.size (.slice ao m c) r ∧ Kp [] w w' := by
  cases b
  · exact shown_any vb bs key bit side r hr w hS hB hl hG
  · exact secret_any vb bs key bit side r hr w hS hB hl hG

theorem Tryd.infoT : ∃ i, Tryd.prog.info? 86 = some i ∧ i.size = 1 := by
  have h : (Tryd.prog.info? 86).map (·.size) = some 1 := by kernel_rfl
  exact Option.map_eq_some_iff.1 h
theorem index0 (x y : Value) (w : World) : (Instr.index 88 (.agg #[x, y]) (.int .i64 0)).run Tryd.prog w = .ok x w := by
  obtain ⟨i, hi, hs⟩ := Tryd.infoT
  simp [Instr.index, asIntOf, Sem.run_bind, run_underlying Tryd.underlying88 w, sizeOf, typeInfo, hi, hs, part]
theorem index1 (x y : Value) (w : World) : (Instr.index 88 (.agg #[x, y]) (.int .i64 1)).run Tryd.prog w = .ok y w := by
  obtain ⟨i, hi, hs⟩ := Tryd.infoT
  simp [Instr.index, asIntOf, Sem.run_bind, run_underlying Tryd.underlying88 w, sizeOf, typeInfo, hi, hs, part]
theorem ptP_at (bs : List Int) (key : Int) (c : Nat → Nat → Bool) (k s : Nat) (hs : s < 2) : ptP bs key c (2 * k + s) = if c k s then secP bs key (k : Nat) (s : Nat) else shnP bs key (k : Nat) (s : Nat) := by
  unfold ptP
  rw [show (2 * k + s) / 2 = k by omega, show (2 * k + s) % 2 = s by omega]

set_option maxRecDepth 100000 in
set_option maxHeartbeats 2000000 in
theorem partsOf_any (vb : Value) (bs : List Int) (key : Int) (c : Nat → Nat → Bool) (fc : FuncId) (cap : Array Value) (hen : Enters Tryd.prog fc) (w : World) (hS : Sl w vb bs) (hB : Bs bs) (hl : bs.length ≤ 1000) (hG : Gl w)
    (hch : ∀ j, j < 32 → ∀ w', Kp [] w w' → Calls Tryd.prog fc (#[.int .i64 (j : Nat)] ++ cap) w' fun e w'' => e = .returned (two c j) ∧ Kp [] w' w'') :
    Calls Tryd.prog 59 #[vb, .int .i64 key, .func (.func fc) #[] cap] w fun e w' => ∃ ao m cc, e = .returned (.slice ao m cc) ∧ Acc w (ptsP bs key c 64) (.slice ao m cc) w' := by
  obtain ⟨i0, hi0, hz0, hz1, hz2⟩ := info_parts Tryd.infoSl
  have HS := hide hS
  have HG := hide hG
  have HCH := hide hch
  have HB := hide hB
  have hen2 : ∀ (args : Array Value) (w : World), (callFunc fc args).run Tryd.prog w = .ok (.enter fc args) w := hen
  obtain ⟨ab, cb, hvb, _⟩ := hS
  obtain ⟨nb, hnb⟩ : ∃ n, n = bs.length := ⟨_, rfl⟩
  rw [← hnb] at hvb
  subst hvb
  clear hG hch hB hen hnb
  go_enter Tryd.func59, Tryd.ntmps59
  go_wp2_with (at_make; refine wpList_make_own _ rfl _ _ 31 rfl w.heap.size 24 i0 (.slice none 0 0) 1 Tryd.underlying31 hi0 hz0 hz1 .i64 .i64 _ 64 rfl rfl (by omega) (by rw [hz2]; omega) (by unfold maxLen; omega) (Nat.le_refl _) ?_; intro w1 o1 g1; have K1 : Kp [] w w1 := (Kp.refl [] w).grown g1 (by intro k hk; cases hk); have R1 : RowV w1 w.heap.size _ [] := o1)
  have A1 : Hid (Acc w (ptsP bs key c 0) (.slice (some ⟨w.heap.size, 0, none⟩) 0 64) w1) := ⟨[], ⟨R1, fun x hx => by cases hx⟩, rfl, K1⟩
  clear o1 g1 R1 K1
  go_loopw [7, 12] (fun v i wr => ∃ (k m cc : Nat) (ao : Option Addr), k ≤ 32 ∧ v = .slice ao m cc ∧ i = .int .i64 k ∧ Acc w (ptsP bs key c (2 * k)) v wr) (fun _ i _ => 32 - (intOf i).toNat)
  case atStart => exact ⟨0, 0, 64, some ⟨w.heap.size, 0, none⟩, by omega, rfl, rfl, unhide A1⟩
  case round =>
    obtain ⟨k, m, cc, ao, hk, rfl, rfl, Ar⟩ := hrel
    clear A1
    have HA := hide Ar
    clear Ar
    by_cases hlt : k < 32
    · have hlt2 : (k : Int) < 32 := by omega
      go_wp2_with fail
      refine (unhide HCH k hlt wr (unhide HA).kp).mono ?_
      rintro ee w2 ⟨rfl, K2⟩
      have HA2 := hide ((unhide HA).mid K2)
      clear HA K2
      obtain ⟨f0, e0⟩ : ∃ f0, f0 = if c k 0 then 80 else 83 := ⟨_, rfl⟩
      obtain ⟨f1, e1⟩ : ∃ f1, f1 = if c k 1 then 80 else 83 := ⟨_, rfl⟩
      have hT : two c k = .agg #[.func (.func f0) #[] #[], .func (.func f1) #[] #[]] := by unfold two tl; rw [e0, e1]
      rw [hT]
      have hen0 : ∀ (args : Array Value) (w : World), (callFunc f0 args).run Tryd.prog w = .ok (.enter f0 args) w := by rw [e0]; exact tell_enters _
      have hen1 : ∀ (args : Array Value) (w : World), (callFunc f1 args).run Tryd.prog w = .ok (.enter f1 args) w := by rw [e1]; exact tell_enters _
      have HF0 := hide e0
      have HF1 := hide e1
      clear hT e0 e1
      obtain ⟨wo, hwo⟩ : ∃ wo, wo = wr := ⟨_, rfl⟩
      subst hwo
      go_wp2_with fail
      go_loopw [7, 18] (fun v i wi => ∃ (s m cc : Nat) (ao : Option Addr), s ≤ 2 ∧ v = .slice ao m cc ∧ i = .int .i64 s ∧ Acc w (ptsP bs key c (2 * k + s)) v wi) (fun _ i _ => 2 - (intOf i).toNat)
      case atStart => exact ⟨0, m, cc, ao, by omega, rfl, rfl, unhide HA2⟩
      case round =>
        clear HA2
        obtain ⟨s, m2, cc2, ao2, hs, rfl, rfl, Ai⟩ := hrel
        have HI := hide Ai
        clear Ai
        obtain ⟨wi, hwi⟩ : ∃ wi, wi = wr := ⟨_, rfl⟩
        subst hwi
        rcases (by omega : s = 0 ∨ s = 1 ∨ s = 2) with rfl | rfl | rfl
        · have hix := index0 (.func (.func f0) #[] #[]) (.func (.func f1) #[] #[]) wi
          have hr0 := ptP_at bs key c k 0 (by omega)
          obtain ⟨r, hr⟩ : ∃ r, r = ptP bs key c (2 * k + 0) := ⟨_, rfl⟩
          have HRB : Hid (Bs r) := by rw [hr]; exact ptP_bs _ _ _ _
          have HE : Hid (ptsP bs key c (2 * k + 0 + 1) = ptsP bs key c (2 * k + 0) ++ [r]) := by rw [hr]; exact ptsP_succ _ _ _ _
          have HLN : Hid ((ptsP bs key c (2 * k + 0)).length ≤ 1000000) := by rw [ptsP_len]; show 2 * k + 0 ≤ 1000000; omega
          rw [← hr] at hr0
          have HR0 := hide hr0
          have hC := tell_any (c k 0) (.slice ab nb cb) bs key k 0 r (unhide HR0) wi ((unhide HS).kept (unhide HI).kp (by simp)) (unhide HB) hl ((unhide HG).kept (unhide HI).kp (by simp))
          rw [← unhide HF0] at hC
          have HC := hide hC
          clear hr hr0 hC
          go_wp2_with fail
          refine (unhide HC).mono ?_
          rintro ee w4 ⟨a4, m4, c4, rfl, R4, K4⟩
          have HR4 := hide R4
          have HK4 := hide K4
          clear R4 K4 HC
          go_wp2_with (at_builtin; refine wpList_acc rfl (.tmp 22) (.tmp 29) rfl _ _ rfl (unhide HI) (unhide HLN) _ r (unhide HK4) (unhide HR4) (unhide HRB) rfl ?_; intro ao5 m5 c5 w5 A5)
          go_roundw
          case rel => exact ⟨0 + 1, m5, c5, ao5, by omega, rfl, by go_num, by have e := unhide HE; rw [← e] at A5; exact A5⟩
          case measure => simp [intOf]
        · have hix := index1 (.func (.func f0) #[] #[]) (.func (.func f1) #[] #[]) wi
          have hr0 := ptP_at bs key c k 1 (by omega)
          obtain ⟨r, hr⟩ : ∃ r, r = ptP bs key c (2 * k + 1) := ⟨_, rfl⟩
          have HRB : Hid (Bs r) := by rw [hr]; exact ptP_bs _ _ _ _
          have HE : Hid (ptsP bs key c (2 * k + 1 + 1) = ptsP bs key c (2 * k + 1) ++ [r]) := by rw [hr]; exact ptsP_succ _ _ _ _
          have HLN : Hid ((ptsP bs key c (2 * k + 1)).length ≤ 1000000) := by rw [ptsP_len]; show 2 * k + 1 ≤ 1000000; omega
          rw [← hr] at hr0
          have HR0 := hide hr0
          have hC := tell_any (c k 1) (.slice ab nb cb) bs key k 1 r (unhide HR0) wi ((unhide HS).kept (unhide HI).kp (by simp)) (unhide HB) hl ((unhide HG).kept (unhide HI).kp (by simp))
          rw [← unhide HF1] at hC
          have HC := hide hC
          clear hr hr0 hC
          go_wp2_with fail
          refine (unhide HC).mono ?_
          rintro ee w4 ⟨a4, m4, c4, rfl, R4, K4⟩
          have HR4 := hide R4
          have HK4 := hide K4
          clear R4 K4 HC
          go_wp2_with (at_builtin; refine wpList_acc rfl (.tmp 22) (.tmp 29) rfl _ _ rfl (unhide HI) (unhide HLN) _ r (unhide HK4) (unhide HR4) (unhide HRB) rfl ?_; intro ao5 m5 c5 w5 A5)
          go_roundw
          case rel => exact ⟨1 + 1, m5, c5, ao5, by omega, rfl, by go_num, by have e := unhide HE; rw [← e] at A5; exact A5⟩
          case measure => simp [intOf]
        · go_wp2_with fail
          go_roundw
          case rel => exact ⟨k + 1, m2, cc2, ao2, by omega, rfl, by go_num, unhide HI⟩
          case measure => simp [intOf]; omega
    · obtain rfl : k = 32 := by omega
      go_wp2_with fail
      go_ret
      exact ⟨ao, m, cc, rfl, unhide HA⟩
end Go.Proofs.YtdioaohejoflcaaDoor
