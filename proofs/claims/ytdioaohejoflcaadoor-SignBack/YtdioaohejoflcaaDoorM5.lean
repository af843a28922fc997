/-
  The reference's owners: their contracts New, Public, Sign.
-/
import Derived.Test.YtdioaohejoflcaaDoorM4
import Derived.Test.YtdioaohejoflcaaDoorM3
import Derived.Test.YtdioaohejoflcaaDoorM1
import Derived.Deep.QuietTactic
import Derived.BigQuiet
namespace Go.Proofs.YtdioaohejoflcaaDoor
open Go.RowKit
open Go.Proofs

theorem Tryd.infoLs : (Tryd.prog.info? 31).map (fun i => (i.zero, i.size, i.bytes)) = some (some (.slice none 0 0), 1, 24) := by kernel_rfl
/-- a row of the call's own of slices of slices. -/
def RowL (w : World) (base : Nat) (v : Value) (xs : List Value) : Prop := w.ownsRow base 31 1 v xs.length xs
theorem RowL.shape {w : World} {base : Nat} {v : Value} {xs : List Value} (h : RowL w base v xs) : ∃ ao c, v = .slice ao xs.length c := owns_shape h
theorem RowL.own {w : World} {base : Nat} {v : Value} {xs : List Value} (h : RowL w base v xs) : ∀ k, v.ownBlock = some k → base ≤ k ∧ k < w.heap.size := by
  intro k hk
  rcases h.2 with ⟨rfl, _⟩ | ⟨g, cap, cur, rfl, hb, hg, _⟩
  · cases hk
  · cases hk; exact ⟨hb, (Array.getElem?_eq_some_iff.1 hg).1⟩
theorem RowL.kept {w w' : World} {base : Nat} {v : Value} {xs : List Value} {S : List Nat} (h : RowL w base v xs) (k : Kp S w w') (hv : ∀ i, v.ownBlock = some i → i ∉ S) : RowL w' base v xs := k.owns h hv
theorem RowL.at {w : World} {base : Nat} {v : Value} {xs : List Value} (h : RowL w base v xs) (h0 : 0 < xs.length) : ∃ g c, v = .slice (some ⟨g, 0, none⟩) xs.length c ∧ ∀ i (hi : i < xs.length), w.cell? ⟨g, i, none⟩ = some xs[i] := by
  rcases h.2 with ⟨h', h1⟩ | ⟨g, cap, cur, h', hb, hg, _⟩
  · omega
  · subst h'
    have h1 : w.ownsRow base 31 1 (.slice (some ⟨g, 0, none⟩) xs.length cap) xs.length xs := h
    exact ⟨g, cap, rfl, fun i hi => by rw [h1.cellAt i (by omega)]; simp [List.getElem?_eq_getElem hi]⟩
theorem wpList_append_rowl {w : World} {ops : Array Oper} {rest : List Oper} {o : Oper} {a : Act} {Q : Exit → Act → World → Prop} (hgd : o.guard = none) (s x : Operand)
    (ho : o.op = .call { callee := .builtin .append, args := #[s, x], argTypes := #[27, 27] }) (base : Nat) (v : Value) (xs : List Value) (hs : a.eval s = v) (hrow : RowL w base v xs)
    (ad : Addr) (c : Nat) (ys : List Value) (hx : a.eval x = .slice (some ad) ys.length c) (hy : ∀ j u, ys[j]? = some u → w.cell? (ad.add j) = some u) (h1 : ∀ u ∈ ys, u.oneCell' = true) (hb : xs.length + ys.length ≤ 1000000000) (hbase : base ≤ w.heap.size)
    (h : ∀ ao m c w', RowL w' base (.slice ao m c) (xs ++ ys) → RStep w v w' (.slice ao m c) → wpList Tryd.prog ops Q rest (a.put o.dst (.slice ao m c)) w') : wpList Tryd.prog ops Q (o :: rest) a w := by
  obtain ⟨i0, hi0, hz0, hz1, hz2⟩ := info_parts Tryd.infoLs
  obtain ⟨av, cv, rfl⟩ := hrow.shape
  refine wpList_append_own_at w hgd s x 27 ho base 31 i0 (.slice none 0 0) 1 24 Tryd.underlying27 hi0 hz0 hz1 hz2 rfl (by decide) _ xs.length xs hs hrow ad ys.length c ys hx (by simp) hy h1 (by unfold maxLen; omega) (by omega) hbase ?_
  intro v' w1 hown hgrow _ hat
  have R : RowL w1 base v' (xs ++ ys) := by unfold RowL; rw [List.length_append]; exact hown
  obtain ⟨ao', c', hv⟩ := R.shape
  subst hv
  refine h ao' _ c' w1 R ⟨(Kp.refl _ w).grown hgrow (fun k hk => .inl (by simp [hk])), fun k hk => ?_⟩
  rcases hat with e | e
  · exact .inl (e ▸ hk)
  · rw [e] at hk; cases hk; exact .inr (Nat.le_refl _)

theorem grown_build2 {o : Oper} {a : Act} {w : World} (x y : Operand) (ho : o.op = .buildSlice 31 2 #[(0, x), (1, y)]) (bs cs : List Int) (h : Sl w (a.eval x) bs) (hB : Bs bs) (k : Sl w (a.eval y) cs) (hC : Bs cs) : grown Tryd.prog w (LsM [bs, cs]) ((execOp a.eval o).run Tryd.prog w) := by
  have h2 := lists2 h hB k hC
  obtain ⟨ao, c, e, _⟩ := h
  obtain ⟨ao', c', e', _⟩ := k
  refine grown_run (v := .slice (some ⟨w.heap.size, 0, none⟩) 2 2) (w' := w.alloc (.cells #[a.eval x, a.eval y] 24)) ?_ ((Kp.refl _ _).alloc _) ⟨_, h2, rfl⟩
  obtain ⟨ρ, hρ, hc, hf, hg⟩ := eval_is a
  rw [hρ] at e e' ⊢
  unfold execOp
  simp only [ho]
  simp [go_sem, e, e']
/-- a level of nodes that lies apart from the block g and from pv. -/
def Lo (g : Nat) (pv : Value) (w : World) (x : Value) (ls : List (List Int)) : Prop :=
  ∃ ao n c l, x = .slice ao n c ∧ Lists w x l ∧ l.map (·.2) = ls ∧ ∀ q, (x.ownBlock = some q ∨ ∃ y ∈ l, y.1.ownBlock = some q) → q < w.heap.size ∧ q ≠ g ∧ pv.ownBlock ≠ some q
theorem Lo.kept {g : Nat} {pv x : Value} {w w' : World} {ls : List (List Int)} (h : Lo g pv w x ls) (k : Kp [] w w') : Lo g pv w' x ls := by
  obtain ⟨ao, n, c, l, e, h1, h2, h3⟩ := h
  exact ⟨ao, n, c, l, e, h1.kept k, h2, fun q hq => ⟨Nat.lt_of_lt_of_le (h3 q hq).1 k.size, (h3 q hq).2⟩⟩
theorem Lo.step {g : Nat} {pv pv' x : Value} {w w' : World} {ls : List (List Int)} (h : Lo g pv w x ls) (s : RStep w pv w' pv') : Lo g pv' w' x ls := by
  obtain ⟨ao, n, c, l, e, h1, h2, h3⟩ := h
  refine ⟨ao, n, c, l, e, h1.off s.1 (fun q hq hm => (h3 q (.inl hq)).2.2 (by simpa using hm)) (fun y hy q hq hm => (h3 q (.inr ⟨y, hy, hq⟩)).2.2 (by simpa using hm)), h2, fun q hq => ⟨Nat.lt_of_lt_of_le (h3 q hq).1 s.1.size, (h3 q hq).2.1, fun e' => ?_⟩⟩
  rcases s.2 q e' with h5 | h5
  · exact (h3 q hq).2.2 h5
  · have := (h3 q hq).1; omega
theorem Lo.store {g : Nat} {pv x : Value} {w w' : World} {ls : List (List Int)} (h : Lo g pv w x ls) (k : Kp [g] w w') : Lo g pv w' x ls := by
  obtain ⟨ao, n, c, l, e, h1, h2, h3⟩ := h
  exact ⟨ao, n, c, l, e, h1.off k (fun q hq hm => (h3 q (.inl hq)).2.1 (by simpa using hm)) (fun y hy q hq hm => (h3 q (.inr ⟨y, hy, hq⟩)).2.1 (by simpa using hm)), h2, fun q hq => ⟨Nat.lt_of_lt_of_le (h3 q hq).1 k.size, (h3 q hq).2⟩⟩
theorem Lo.of_acc {g : Nat} {pv : Value} {w1 w2 : World} {ao : Option Addr} {n c : Nat} {ls : List (List Int)} (h : Acc w1 ls (.slice ao n c) w2) (hl : ls.length ≤ 1000) (hg : g < w1.heap.size) (hp : ∀ q, pv.ownBlock = some q → q < w1.heap.size) : Lo g pv w2 (.slice ao n c) ls := by
  obtain ⟨l, h1, h2, h3⟩ := h
  refine ⟨ao, n, c, l, rfl, h1.lists (by rw [← List.length_map (f := (·.2)), h2]; exact hl), h2, fun q hq => ?_⟩
  have hq2 : w1.heap.size ≤ q ∧ q < w2.heap.size := by
    rcases hq with hq | ⟨y, hy, hq⟩
    · exact ⟨h1.1.own q hq, h1.1.lt hq⟩
    · exact ⟨(h1.2 y hy).1.own q hq, (h1.2 y hy).1.lt hq⟩
  exact ⟨hq2.2, by omega, fun e => by have := hp q e; omega⟩
theorem Lo.lists {g : Nat} {pv x : Value} {w : World} {ls : List (List Int)} (h : Lo g pv w x ls) : ∃ l, Lists w x l ∧ l.map (·.2) = ls := by
  obtain ⟨_, _, _, l, _, h1, h2, _⟩ := h
  exact ⟨l, h1, h2⟩

/-- an owner at block g, its first n levels. -/
def Ow (w : World) (base g : Nat) (bs : List Int) (n : Nat) : Prop :=
  ∃ sa sn sc lv xs, w.heap[g]? = some (.cells #[.slice sa sn sc, lv] 29 (0, 0)) ∧ (Sl w (.slice sa sn sc) bs ∧ ∀ q, (Value.slice sa sn sc).ownBlock = some q → q ≠ g ∧ lv.ownBlock ≠ some q) ∧ RowL w base lv xs ∧ g < base ∧ xs.length = n ∧ ∀ h (hh : h < xs.length), Lo g lv w xs[h] (lvP bs h)
theorem Ow.kept {w w' : World} {base g n : Nat} {bs : List Int} (h : Ow w base g bs n) (k : Kp [] w w') : Ow w' base g bs n := by
  obtain ⟨sa, sn, sc, lv, xs, h1, h2, h3, h4, h5, h6⟩ := h
  exact ⟨sa, sn, sc, lv, xs, k.heap h1 (by simp), ⟨h2.1.kept k (by simp), h2.2⟩, h3.kept k (by simp), h4, h5, fun h hh => (h6 h hh).kept k⟩
theorem ow_push {wr w5 : World} {base g n : Nat} {bs : List Int} {sa : Option Addr} {sn sc : Nat} {lv lv' x : Value} {xs : List Value} (h1 : wr.heap[g]? = some (.cells #[.slice sa sn sc, lv] 29 (0, 0))) (hne : bs ≠ []) (h2 : Sl wr (.slice sa sn sc) bs ∧ ∀ q, (Value.slice sa sn sc).ownBlock = some q → q ≠ g ∧ lv.ownBlock ≠ some q) (h3 : RowL wr base lv xs) (h4 : g < base) (h5 : xs.length = n) (h6 : ∀ h (hh : h < xs.length), Lo g lv wr xs[h] (lvP bs h))
    (hx : Lo g lv wr x (lvP bs n)) (r : RowL w5 base lv' (xs ++ [x])) (s : RStep wr lv w5 lv') : Ow (w5.setCell ⟨g, 1, none⟩ lv') base g bs (n + 1) := by
  have k := setCell_kp w5 g 1 lv'
  have hgl : ∀ q, lv'.ownBlock = some q → q ≠ g := fun q hq e => by have := (r.own q hq).1; omega
  have hg5 : w5.heap[g]? = some (.cells #[.slice sa sn sc, lv] 29 (0, 0)) := s.1.heap h1 (fun hm => by have := (h3.own g (by simpa using hm)).1; omega)
  have hs5 : Sl w5 (.slice sa sn sc) bs := h2.1.kept s.1 (fun q hq hm => (h2.2 q hq).2 (by simpa using hm))
  have hsq : ∀ q, (Value.slice sa sn sc).ownBlock = some q → q ≠ g ∧ lv'.ownBlock ≠ some q := fun q hq => ⟨(h2.2 q hq).1, fun e => by
    rcases s.2 q e with h | h
    · exact (h2.2 q hq).2 h
    · have := h2.1.lt hne q hq; omega⟩
  refine ⟨sa, sn, sc, lv', xs ++ [x], ?_, ⟨hs5.kept k (fun q hq => by simpa using (hsq q hq).1), hsq⟩, r.kept k (fun q hq => by simpa using hgl q hq), h4, by simp [h5], fun h hh => ?_⟩
  · have := heap_setCell_same w5 g 1 _ _ lv' hg5
    simpa using this
  · rw [List.length_append, List.length_cons, List.length_nil] at hh
    by_cases hlt : h < xs.length
    · rw [List.getElem_append_left hlt]
      exact ((h6 h hlt).step s).store k
    · obtain rfl : h = n := by omega
      rw [List.getElem_append_right (by omega)]
      simp only [h5, Nat.sub_self, List.getElem_cons_zero]
      exact (hx.step s).store k
/-- how many a slice has. -/
def lenOf : Value → Nat | .slice _ n _ => n | _ => 0

set_option maxRecDepth 100000 in
set_option maxHeartbeats 4000000 in
theorem new_own (vb : Value) (bs : List Int) (w : World) (hS : Sl w vb bs) (hB : Bs bs) (hl : bs.length = 32) :
    Calls Tryd.prog 9 #[vb] w fun e w' => ∃ g base, e = .returned (.pointer (some ⟨g, 0, none⟩)) ∧ Ow w' base g bs 5 ∧ Kp [] w w' := by
  have HS := hide hS
  have HB := hide hB
  have hne : bs ≠ [] := fun e => by rw [e] at hl; simp at hl
  have HLT := hide (hS.lt hne)
  obtain ⟨ab, cb, hvb, _⟩ := hS
  obtain ⟨nb, hnb⟩ : ∃ n, n = bs.length := ⟨_, rfl⟩
  rw [← hnb] at hvb
  subst hvb
  have HNE := hide hne
  have HL32 := hide hl
  clear hB hnb hl hne
  obtain ⟨ob, hob⟩ : ∃ o : Obj, o = (.cells #[.slice ab nb cb, .slice none 0 0] 29) := ⟨_, rfl⟩
  have K1 : Kp [] w (w.alloc ob) := (Kp.refl [] w).alloc ob
  have HG1 : Hid ((w.alloc ob).heap[w.heap.size]? = some ob) := heap_alloc_new w ob
  have HSZ : Hid ((w.alloc ob).heap.size = w.heap.size + 1) := by show _ = _; simp
  rw [hob] at K1 HG1 HSZ
  have HK1 := hide K1
  obtain ⟨w1, hw1⟩ : ∃ w1, w1 = w.alloc (.cells #[.slice ab nb cb, .slice none 0 0] 29) := ⟨_, rfl⟩
  have HW1 := hide hw1
  rw [← hw1] at HK1 HG1 HSZ
  clear K1 hob hw1
  go_enter Tryd.func9, Tryd.ntmps9
  go_wp2_with fail
  go_loopw [4, 5] (fun v i wr => ∃ (k m cc : Nat) (ao : Option Addr), k ≤ 16 ∧ v = .slice ao m cc ∧ i = .int .i64 k ∧ Acc w1 (lvsP bs k) v wr) (fun _ i _ => 16 - (intOf i).toNat)
  case atStart => exact ⟨0, 0, 0, none, by omega, rfl, rfl, by rw [unhide HW1]; exact acc_nil _⟩
  case round =>
    obtain ⟨k, m, cc, ao, hk, rfl, rfl, Ar⟩ := hrel
    have HA := hide Ar
    have HKr := hide ((unhide HK1).trans Ar.kp)
    clear Ar
    by_cases hlt : k < 16
    · have hlt2 : (k : Int) < 16 := by omega
      obtain ⟨r, hr⟩ : ∃ r, r = pubP bs (k : Nat) := ⟨_, rfl⟩
      have HRB : Hid (Bs r) := by rw [hr]; exact pubP_bs _ _
      have HE : Hid (lvsP bs (k + 1) = lvsP bs k ++ [r]) := by rw [hr]; exact lvsP_succ _ _
      have HLN : Hid ((lvsP bs k).length ≤ 1000000) := by rw [lvsP_len]; show k ≤ 1000000; omega
      have HC := hide (refpublic_any (.slice ab nb cb) bs (k : Nat) r hr wr ((unhide HS).kept (unhide HKr) (by simp)) (unhide HB) (by have := unhide HL32; omega))
      clear hr
      go_wp2_with fail
      refine (unhide HC).mono ?_
      rintro ee w4 ⟨a4, m4, c4, rfl, R4, K4⟩
      have HR4 := hide R4
      have HK4 := hide K4
      clear R4 K4 HC
      go_wp2_with (at_builtin; refine wpList_acc rfl (.tmp 15) (.tmp 19) rfl _ _ rfl (unhide HA) (unhide HLN) _ r (unhide HK4) (unhide HR4) (unhide HRB) rfl ?_; intro ao5 m5 c5 w5 A5)
      go_roundw
      case rel => exact ⟨k + 1, m5, c5, ao5, by omega, rfl, by go_num, by have e := unhide HE; rw [← e] at A5; exact A5⟩
      case measure => simp [intOf]; omega
    · obtain rfl : k = 16 := by omega
      have HLo : Hid (Lo w.heap.size (.slice none 0 0) wr (.slice ao m cc) (lvP bs 0)) := Lo.of_acc (unhide HA) (by have := lv_le bs 0; omega) (by have := unhide HSZ; omega) (fun q hq => by cases hq)
      have HGr := hide ((unhide HA).kp.heap (unhide HG1) (by simp))
      have hm16 : m = 16 := by rw [(unhide HA).cap, lvsP_len]
      subst hm16
      have hc1 : wr.cell? ⟨w.heap.size, 1, none⟩ = some (.slice none 0 0) := by rw [cell_of_row wr w.heap.size 1 _ _ _ (unhide HGr)]; rfl
      have HSr := hide ((unhide HS).kept (unhide HKr) (by simp))
      have hbr : w.heap.size + 1 ≤ wr.heap.size := by have := (unhide HA).kp.size; have := unhide HSZ; omega
      clear HA HG1 HSZ HK1 HW1
      go_wp2_with (at_builtin; refine wpList_append_rowl rfl (.tmp 25) (.tmp 27) rfl (w.heap.size + 1) (.slice none 0 0) [] rfl ⟨rfl, .inl ⟨rfl, rfl⟩⟩ ⟨wr.heap.size, 0, none⟩ 1 [.slice ao 16 cc] rfl (fun j u hu => World.news_of_block (heap_alloc_new wr _) j u (by simpa using hu)) (by simp [Value.oneCell']) (by simp) (by simp; omega) ?_; intro ao5 m5 c5 w5 R5 S5; refine Hid.out ?_)
      have S5' := S5.after ((Kp.refl [] wr).alloc (.cells #[.slice ao 16 cc] 31))
      have G5 : w5.heap[w.heap.size]? = some _ := S5'.1.heap (unhide HGr) (by simp [Value.ownBlock])
      have hc5 : w5.cell? ⟨w.heap.size, 1, none⟩ = some (.slice none 0 0) := by rw [cell_of_row w5 w.heap.size 1 _ _ _ G5]; rfl
      have hf5 : w5.frozen? ⟨w.heap.size, 1, none⟩ = false := frozen_of_row w5 w.heap.size 1 _ _ G5
      have HO : Hid (Ow (w5.setCell ⟨w.heap.size, 1, none⟩ (.slice ao5 m5 c5)) (w.heap.size + 1) w.heap.size bs 1) := ow_push (n := 0) (xs := []) (unhide HGr) (unhide HNE) ⟨unhide HSr, fun q hq => ⟨fun e => by have := unhide HLT q hq; omega, by simp [Value.ownBlock]⟩⟩ ⟨rfl, .inl ⟨rfl, rfl⟩⟩ (by omega) rfl (fun h hh => by cases hh) (unhide HLo) R5 S5'
      have HK6 : Hid (Kp [] w (w5.setCell ⟨w.heap.size, 1, none⟩ (.slice ao5 m5 c5))) := ((unhide HKr).then S5'.1 (fun i hi => by simp [Value.ownBlock] at hi)).setCell (p := ⟨w.heap.size, 1, none⟩) (.inr (by simp)) _
      have HL6 : Hid (∃ l, Lists (w5.setCell ⟨w.heap.size, 1, none⟩ (.slice ao5 m5 c5)) (.slice ao 16 cc) l ∧ l.map (·.2) = lvP bs 0) := (((unhide HLo).step S5').store (setCell_kp _ _ _ _)).lists
      clear R5 S5 S5' G5 HLo HGr HSr HKr hbr
      refine hide ?_
      go_wp2_with fail
      go_loopw [4] (fun v wr => ∃ (h n cc : Nat) (ao : Option Addr), h ≤ 4 ∧ v = .slice ao n cc ∧ n = 16 / 2 ^ h ∧ Ow wr (w.heap.size + 1) w.heap.size bs (h + 1) ∧ (∃ l, Lists wr v l ∧ l.map (·.2) = lvP bs h) ∧ Kp [] w wr) (fun v _ => lenOf v)
      case atStart => exact ⟨0, 16, cc, ao, by omega, rfl, by decide, unhide HO, unhide HL6, unhide HK6⟩
      case round =>
        clear HO HL6 HK6 hc5 hf5 hc1
        obtain ⟨h, n, c3, a3, hh, rfl, hn, Or, ⟨l, hL, hle⟩, Kr⟩ := hrel
        have HO := hide Or
        have HL := hide hL
        have HLE := hide hle
        have HKr := hide Kr
        have HNN := hide hn
        clear Or hL hle Kr
        by_cases hlt : h < 4
        · obtain ⟨M, hM⟩ : ∃ M, M = n / 2 := ⟨_, rfl⟩
          have hnM : n = 2 * M ∧ 1 ≤ M ∧ M ≤ 8 ∧ M = 16 / 2 ^ (h + 1) := by
            rw [hM, hn]
            rcases (by omega : h = 0 ∨ h = 1 ∨ h = 2 ∨ h = 3) with rfl | rfl | rfl | rfl <;> decide
          have HNM := hide hnM
          have hn1 : (1 : Int) < (n : Int) := by omega
          have hni : (n : Int) ≤ 16 := by omega
          have hln : (lvP bs h).length = n := by rw [lvP_len]; exact hn.symm
          have HLN0 := hide hln
          obtain ⟨ls, hls⟩ : ∃ ls, ls = lvP bs h := ⟨_, rfl⟩
          have HLS := hide hls
          have HML : Hid (∀ x ∈ ls, x.length ≤ 1000) := fun x hx => by rw [hls] at hx; rw [(lvP_all bs h x hx).1]; omega
          rw [← hls] at HLE HLN0
          clear hn hM hnM hln hls
          obtain ⟨wo, hwo⟩ : ∃ wo, wo = wr := ⟨_, rfl⟩
          subst hwo
          go_wp2_with fail
          go_loopw [6, 7] (fun v i wi => ∃ (k m cc : Nat) (ao : Option Addr), k ≤ M ∧ v = .slice ao m cc ∧ i = .int .i64 ((2 * k : Nat) : Int) ∧ Acc wo ((abvP ls).take k) v wi) (fun _ i _ => 2 * M - (intOf i).toNat)
          case atStart => exact ⟨0, 0, 0, none, by omega, rfl, rfl, acc_nil _⟩
          case round =>
            obtain ⟨k, m, cc, ao, hk, rfl, rfl, Ar⟩ := hrel
            obtain ⟨wi, hwi⟩ : ∃ wi, wi = wr := ⟨_, rfl⟩
            subst hwi
            have HA := hide Ar
            clear Ar
            obtain ⟨j, hj⟩ : ∃ j, j = 2 * k := ⟨_, rfl⟩
            rw [← hj]
            by_cases hlt' : k < M
            · have hlt2 : (j : Int) < (n : Int) := by have := unhide HNM; omega
              have hlt3 : (j : Int) + 1 < (n : Int) := by have := unhide HNM; omega
              have hwr : IntKind.i64.wrap ((j : Int) + 1) = (j : Int) + 1 := wrap_at rfl (by omega) (by omega)
              obtain ⟨b, off, ax, nx, cx, rfl, hcx, hSx, hBx⟩ := lists_at (unhide HL) (unhide HLE) j (by have := unhide HLN0; omega)
              obtain ⟨b', off', ay, ny, cy, e, hcy, hSy, hBy⟩ := lists_at (unhide HL) (unhide HLE) (j + 1) (by have := unhide HLN0; omega)
              injection e with e
              injection e with e1 e2
              subst e1
              subst e2
              have hxl : (ls.getD j []).length ≤ 1000 := unhide HML _ (getD_mem (by have := unhide HLN0; omega))
              have hyl : (ls.getD (j + 1) []).length ≤ 1000 := unhide HML _ (getD_mem (by have := unhide HLN0; omega))
              obtain ⟨r, hr⟩ : ∃ r, r = nodeP (ls.getD j []) (ls.getD (j + 1) []) := ⟨_, rfl⟩
              have HRB : Hid (Bs r) := by rw [hr]; exact nodeP_bs _ _
              have HE : Hid ((abvP ls).take (k + 1) = (abvP ls).take k ++ [r]) := by rw [hr, hj]; exact abv_take ls k (by have := unhide HLN0; have := unhide HNM; omega)
              have HLN : Hid (((abvP ls).take k).length ≤ 1000000) := by rw [List.length_take]; show min k _ ≤ 1000000; omega
              obtain ⟨X, hX⟩ : ∃ X, X = ls.getD j [] := ⟨_, rfl⟩
              obtain ⟨Y, hY⟩ : ∃ Y, Y = ls.getD (j + 1) [] := ⟨_, rfl⟩
              rw [← hX] at hSx hBx hxl hr
              rw [← hY] at hSy hBy hyl hr
              have HKi := hide (unhide HA).kp
              have HCX : Hid (∀ w', Kp [] wi.drew w' → w'.cell? ⟨b, off + j, none⟩ = some (.slice ax nx cx)) := fun w' k' => (((unhide HKi).trans (kp_drew wi)).trans k').cell hcx (by simp)
              have HCY : Hid (∀ w', Kp [] wi.drew w' → w'.cell? ⟨b, off + (j + 1), none⟩ = some (.slice ay ny cy)) := fun w' k' => (((unhide HKi).trans (kp_drew wi)).trans k').cell hcy (by simp)
              have HSX : Hid (∀ w', Kp [] wi.drew w' → Sl w' (.slice ax nx cx) X) := fun w' k' => hSx.kept (((unhide HKi).trans (kp_drew wi)).trans k') (by simp)
              have HSY : Hid (∀ w', Kp [] wi.drew w' → Sl w' (.slice ay ny cy) Y) := fun w' k' => hSy.kept (((unhide HKi).trans (kp_drew wi)).trans k') (by simp)
              have HR : Hid (r = sha (14 :: [X, Y].flatten)) := hide (by rw [hr, nodeP]; simp)
              have HBX := hide hBx
              have HBY := hide hBy
              have HJ : Hid ((j : Int) = 2 * (k : Int)) := hide (by omega)
              have HJN := hide hj
              clear hX hY hcx hcy hSx hSy hBx hBy hr hj
              go_wp2_with fail
              refine region_grow_tail 13 Tryd.mixed [Is (.slice ao m cc), Is (.slice (some ⟨b, off, none⟩) n c3), Is (.int .i64 j), Is (.pointer (some ⟨b, off + j, none⟩)), Is (.slice ax nx cx), Is (.slice (some ⟨b, off, none⟩) n c3), Is (.int .i64 j), Is (.int .i64 (j + 1)), Is (.pointer (some ⟨b, off + (j + 1), none⟩)), Is (.slice ay ny cy), LsM [X, Y], RowT wi.heap.size r, One wi.heap.size r] [[(6, none)], [(4, none)], [(7, none)], [(41, some 1), (42, some 2)], [(43, some 3)], [(4, none)], [(7, none)], [(46, some 6)], [(45, some 5), (47, some 7)], [(48, some 8)], [(44, some 4), (49, some 9)], [(50, some 10)], [(51, some 11)]] (by kernel_rfl) ?_ ?_ ?_
              all_goals try simp only [List.take_succ_cons, List.take_zero, List.drop_succ_cons, List.drop_zero]
              · simp only [List.mem_cons, List.not_mem_nil, or_false]
                intro R hR
                rcases hR with rfl | rfl | rfl | rfl | rfl | rfl | rfl | rfl | rfl | rfl | rfl | rfl | rfl <;> first | exact stable_is _ | exact stable_lsm _ | exact stable_row _ _ | exact stable_one _ _
              · refine steps_cons (fun a w hk hn => ?_) ?_
                · have h6 : a.eval (.tmp 6) = .slice ao m cc := hn.1
                  clear hn
                  refine wants_plain rfl ?_
                  exact grown_move (.tmp 6) rfl h6
                refine steps_cons (fun a w hk hn => ?_) ?_
                · have h4 : a.eval (.tmp 4) = .slice (some ⟨b, off, none⟩) n c3 := hn.1
                  clear hn
                  refine wants_plain rfl ?_
                  exact grown_move (.tmp 4) rfl h4
                refine steps_cons (fun a w hk hn => ?_) ?_
                · have h7 : a.eval (.tmp 7) = .int .i64 j := hn.1
                  clear hn
                  refine wants_plain rfl ?_
                  exact grown_move (.tmp 7) rfl h7
                refine steps_cons (fun a w hk hn => ?_) ?_
                · have h41 : a.eval (.tmp 41) = .slice (some ⟨b, off, none⟩) n c3 := hn.1
                  have h42 : a.eval (.tmp 42) = .int .i64 j := hn.2.1
                  clear hn
                  refine wants_plain rfl ?_
                  refine grown_run (v := .pointer (some ⟨b, off + j, none⟩)) ?_ (Kp.refl _ _) rfl
                  obtain ⟨ρ, hρ, hc, hf, hg⟩ := eval_is a
                  rw [hρ] at h41 h42 ⊢
                  simp [go_sem, h41, h42, hlt2]
                refine steps_cons (fun a w hk hn => ?_) ?_
                · have h43 : a.eval (.tmp 43) = .pointer (some ⟨b, off + j, none⟩) := hn.1
                  clear hn
                  refine wants_plain rfl ?_
                  refine grown_run (v := .slice ax nx cx) ?_ (Kp.refl _ _) rfl
                  have hcell := unhide HCX w hk
                  obtain ⟨ρ, hρ, hc, hf, hg⟩ := eval_is a
                  rw [hρ] at h43 ⊢
                  simp [go_sem, h43, hcell]
                refine steps_cons (fun a w hk hn => ?_) ?_
                · have h4 : a.eval (.tmp 4) = .slice (some ⟨b, off, none⟩) n c3 := hn.1
                  clear hn
                  refine wants_plain rfl ?_
                  exact grown_move (.tmp 4) rfl h4
                refine steps_cons (fun a w hk hn => ?_) ?_
                · have h7 : a.eval (.tmp 7) = .int .i64 j := hn.1
                  clear hn
                  refine wants_plain rfl ?_
                  exact grown_move (.tmp 7) rfl h7
                refine steps_cons (fun a w hk hn => ?_) ?_
                · have h46 : a.eval (.tmp 46) = .int .i64 j := hn.1
                  clear hn
                  refine wants_plain rfl ?_
                  refine grown_run (v := .int .i64 (j + 1)) ?_ (Kp.refl _ _) rfl
                  obtain ⟨ρ, hρ, hc, hf, hg⟩ := eval_is a
                  rw [hρ] at h46 ⊢
                  simp [go_sem, hc, h46, hwr]
                refine steps_cons (fun a w hk hn => ?_) ?_
                · have h45 : a.eval (.tmp 45) = .slice (some ⟨b, off, none⟩) n c3 := hn.1
                  have h47 : a.eval (.tmp 47) = .int .i64 (j + 1) := hn.2.1
                  clear hn
                  refine wants_plain rfl ?_
                  refine grown_run (v := .pointer (some ⟨b, off + (j + 1), none⟩)) ?_ (Kp.refl _ _) rfl
                  obtain ⟨ρ, hρ, hc, hf, hg⟩ := eval_is a
                  rw [hρ] at h45 h47 ⊢
                  simp [go_sem, h45, h47, hlt3]
                  intro h; omega
                refine steps_cons (fun a w hk hn => ?_) ?_
                · have h48 : a.eval (.tmp 48) = .pointer (some ⟨b, off + (j + 1), none⟩) := hn.1
                  clear hn
                  refine wants_plain rfl ?_
                  refine grown_run (v := .slice ay ny cy) ?_ (Kp.refl _ _) rfl
                  have hcell := unhide HCY w hk
                  obtain ⟨ρ, hρ, hc, hf, hg⟩ := eval_is a
                  rw [hρ] at h48 ⊢
                  simp [go_sem, h48, hcell]
                refine steps_cons (fun a w hk hn => ?_) ?_
                · have h44 : a.eval (.tmp 44) = .slice ax nx cx := hn.1
                  have h49 : a.eval (.tmp 49) = .slice ay ny cy := hn.2.1
                  clear hn
                  refine wants_plain rfl ?_
                  exact grown_build2 (.tmp 44) (.tmp 49) rfl X Y (by rw [h44]; exact unhide HSX w hk) (unhide HBX) (by rw [h49]; exact unhide HSY w hk) (unhide HBY)
                refine steps_cons (fun a w hk hn => ?_) ?_
                · have h50 : (LsM [X, Y]) (a.eval (.tmp 50)) w := hn.1
                  clear hn
                  refine wants_plain rfl ?_
                  refine grown_call (f := 29) rfl Tryd.func29 (by kernel_rfl) (by kernel_rfl) ?_
                  simp only [List.map_toArray, List.map_cons, List.map_nil]
                  refine (reftagged_lsm r (unhide HR) h50 (by omega) (by omega) (by simp) (by simp; omega)).mono ?_
                  rintro e w' ⟨ao, m, c, rfl, R, K⟩
                  exact ⟨_, rfl, K, owns_rebase R (fun i hi => Nat.le_trans hk.size (R.own i hi))⟩
                refine steps_cons (fun a w hk hn => ?_) ?_
                · have h51 : (RowT wi.heap.size r) (a.eval (.tmp 51)) w := hn.1
                  clear hn
                  refine wants_plain rfl ?_
                  exact grown_one (.tmp 51) rfl wi.heap.size r h51
                exact trivial
              intro W1 hkW1
              rintro _ rfl
              rintro _ rfl
              rintro _ rfl
              rintro _ rfl
              rintro _ rfl
              rintro _ rfl
              rintro _ rfl
              rintro _ rfl
              rintro _ rfl
              rintro _ rfl
              intro v50 h50
              intro v51 h51
              intro v52 h52
              refine fin_nil ?_
              simp only [Act.put, List.set_cons_zero, List.set_cons_succ, List.setIfInBounds_toArray]
              go_wp2_with (at_builtin; refine wpList_accg rfl (.tmp 40) (.tmp 52) rfl _ _ rfl (unhide HA) (unhide HLN) r ((kp_drew wi).trans hkW1) v52 rfl h52 (unhide HRB) ?_; intro ao5 m5 c5 w5 A5)
              go_roundw
              case rel => exact ⟨k + 1, m5, c5, ao5, by omega, rfl, by have := unhide HJ; go_num, by have e := unhide HE; rw [← e] at A5; exact A5⟩
              case measure => simp [intOf]; have := unhide HJN; omega
            · obtain rfl : k = M := by omega
              have hlt2 : ¬ (j : Int) < (n : Int) := by have := unhide HNM; omega
              have HT : Hid ((abvP ls).take k = abvP ls) := List.take_of_length_le (by rw [abvP_len]; have := unhide HLN0; have := unhide HNM; omega)
              rw [unhide HT] at HA
              have hmk : m = k := by rw [(unhide HA).cap, abvP_len]; have := unhide HLN0; have := unhide HNM; omega
              subst hmk
              obtain ⟨sa, sn, sc, lv, xs, o1, o2, o3, o4, o5, o6⟩ := (unhide HO).kept (unhide HA).kp
              have oe : lvP bs (h + 1) = abvP ls := by rw [unhide HLS]; rfl
              have hgo : w.heap.size < wo.heap.size := by
                obtain ⟨_, _, _, _, _, p1, _⟩ := unhide HO
                exact (Array.getElem?_eq_some_iff.1 p1).1
              have hpv : ∀ q, lv.ownBlock = some q → q < wo.heap.size := by
                obtain ⟨_, _, _, lv0, xs0, p1, _, p3, _⟩ := unhide HO
                have e := (unhide HA).kp.heap p1 (by simp)
                rw [o1] at e
                have e' : lv = lv0 := by injection e with e; injection e with e; simp at e; exact e.2
                subst e'
                exact fun q hq => (p3.own q hq).2
              have HLo : Hid (Lo w.heap.size lv wi (.slice ao m cc) (lvP bs (h + 1))) := by rw [oe]; exact Lo.of_acc (unhide HA) (by rw [abvP_len]; have := unhide HLN0; omega) hgo hpv
              have hc1 : wi.cell? ⟨w.heap.size, 1, none⟩ = some lv := by rw [cell_of_row wi w.heap.size 1 _ _ _ o1]; rfl
              obtain ⟨la, lc, hlv⟩ := o3.shape
              have hKi := (unhide HKr).trans (unhide HA).kp
              have hbi : w.heap.size + 1 ≤ wi.heap.size := by have := (unhide HA).kp.size; omega
              have H1 := hide o1
              have H2 := hide o2
              have H3 := hide o3
              have H5 := hide o5
              have H6 := hide o6
              have HKI := hide hKi
              have HLV := hide hlv
              have hxl : xs.length ≤ 10 := by rw [o5]; omega
              have HXL := hide hxl
              obtain ⟨N, hN⟩ : ∃ N, N = xs.length := ⟨_, rfl⟩
              rw [← hN] at hlv
              subst hlv
              clear o1 o2 o3 o5 o6 hKi hpv hgo oe hxl hN HT HO HL HLE HLN0 HML HA hj
              go_wp2_with (at_builtin; refine wpList_append_rowl rfl (.tmp 59) (.tmp 61) rfl (w.heap.size + 1) (.slice la N lc) xs rfl ((unhide H3).kept ((Kp.refl [] wi).alloc _) (by simp)) ⟨wi.heap.size, 0, none⟩ 1 [.slice ao m cc] rfl (fun j u hu => World.news_of_block (heap_alloc_new wi _) j u (by simpa using hu)) (by simp [Value.oneCell']) (by have := unhide HXL; simp; omega) (by simp; omega) ?_; intro ao5 m5 c5 w5 R5 S5; refine Hid.out ?_)
              have S5' := S5.after ((Kp.refl [] wi).alloc (.cells #[.slice ao m cc] 31))
              have hng : ∀ q, (Value.slice la N lc).ownBlock = some q → q ≠ w.heap.size := fun q hq => by have := ((unhide H3).own q hq).1; omega
              have G5 : w5.heap[w.heap.size]? = some _ := S5'.1.heap (unhide H1) (fun hm => hng _ (by simpa using hm) rfl)
              have hc5 : w5.cell? ⟨w.heap.size, 1, none⟩ = some (.slice la N lc) := by rw [cell_of_row w5 w.heap.size 1 _ _ _ G5]; rfl
              have hf5 : w5.frozen? ⟨w.heap.size, 1, none⟩ = false := frozen_of_row w5 w.heap.size 1 _ _ G5
              have HO6 : Hid (Ow (w5.setCell ⟨w.heap.size, 1, none⟩ (.slice ao5 m5 c5)) (w.heap.size + 1) w.heap.size bs (h + 1 + 1)) := ow_push (unhide H1) (unhide HNE) (unhide H2) (unhide H3) (by omega) (unhide H5) (unhide H6) (unhide HLo) R5 S5'
              have HK6 : Hid (Kp [] w (w5.setCell ⟨w.heap.size, 1, none⟩ (.slice ao5 m5 c5))) := ((unhide HKI).then S5'.1 (fun i hi => .inr (by have := ((unhide H3).own i (by simpa using hi)).1; omega))).setCell (p := ⟨w.heap.size, 1, none⟩) (.inr (by simp)) _
              have HL6 : Hid (∃ l, Lists (w5.setCell ⟨w.heap.size, 1, none⟩ (.slice ao5 m5 c5)) (.slice ao m cc) l ∧ l.map (·.2) = lvP bs (h + 1)) := (((unhide HLo).step S5').store (setCell_kp _ _ _ _)).lists
              clear R5 S5 S5' G5 HLo H1 H2 H3 H5 H6 hng hc1
              refine hide ?_
              go_wp2_with fail
              go_roundw
              case rel => exact ⟨h + 1, m, cc, ao, by omega, rfl, (unhide HNM).2.2.2, unhide HO6, unhide HL6, unhide HK6⟩
              case measure => simp [lenOf]; have := unhide HNM; omega
        · obtain rfl : h = 4 := by omega
          have hn1 : n = 1 := hn
          subst hn1
          clear HL HLE
          go_wp2_with fail
          go_ret
          exact ⟨_, _, rfl, unhide HO, unhide HKr⟩
end Go.Proofs.YtdioaohejoflcaaDoor

/-
  The contracts of the reference's owner's Public, and of its Right.
-/
namespace Go.Proofs.YtdioaohejoflcaaDoor
open Go.RowKit
open Go.Proofs

theorem Ow.open {w : World} {base g : Nat} {bs : List Int} (h : Ow w base g bs 5) : ∃ sa sn sc gl c, w.cell? ⟨g, 0, none⟩ = some (.slice sa sn sc) ∧ w.cell? ⟨g, 1, none⟩ = some (.slice (some ⟨gl, 0, none⟩) 5 c) ∧ Sl w (.slice sa sn sc) bs ∧ (∀ h, h < 5 → ∃ al nl cl l, w.cell? ⟨gl, h, none⟩ = some (.slice al nl cl) ∧ Lists w (.slice al nl cl) l ∧ l.map (·.2) = lvP bs h) := by
  obtain ⟨sa, sn, sc, lv, xs, h1, h2, h3, _, h5, h6⟩ := h
  obtain ⟨gl, c, e, hc⟩ := h3.at (by omega)
  rw [h5] at e
  subst e
  refine ⟨sa, sn, sc, gl, c, by rw [cell_of_row w g 0 _ _ _ h1]; rfl, by rw [cell_of_row w g 1 _ _ _ h1]; rfl, h2.1, fun h hh => ?_⟩
  have hx := hc h (by omega)
  obtain ⟨ao, n, c', l, e, k1, k2, _⟩ := h6 h (by omega)
  rw [e] at hx k1
  exact ⟨ao, n, c', l, hx, k1, k2⟩

theorem own_public (g base : Nat) (bs r : List Int) (hr : r = topP bs) (w : World) (hO : Ow w base g bs 5) :
    Calls Tryd.prog 12 #[.pointer (some ⟨g, 0, none⟩)] w fun e w' => ∃ ao m c, e = .returned (.slice ao m c) ∧ Sl w (.slice ao m c) r ∧ w' = w := by
  obtain ⟨sa, sn, sc, gl, c, h0, h1, _, h2⟩ := hO.open
  obtain ⟨al, nl, cl, l, h3, h4, h5⟩ := h2 4 (by omega)
  obtain ⟨b, off, ay, ny, cy, rfl, hc, hS, _⟩ := lists_at h4 h5 0 (by rw [lvP_len]; decide)
  have hn : nl = 1 := by
    obtain ⟨ao', c', e, _⟩ := h4
    injection e with _ e2
    rw [e2, ← List.length_map (f := (·.2)), h5, lvP_len]
  subst hn
  have HS : Hid (Sl w (.slice ay ny cy) r) := by rw [hr]; exact hS
  rw [Nat.add_zero] at hc
  clear h2 h4 h5 hS hO hr h0
  go_enter Tryd.func12, Tryd.ntmps12
  go_wp2_with fail
  go_ret
  exact ⟨ay, ny, cy, rfl, unhide HS, rfl⟩

set_option maxRecDepth 100000 in
set_option maxHeartbeats 2000000 in
theorem refright_any (v : Value) (i : Int) (ps qs : List (List Int)) (b : Bool) (hb : b = rgtP i ps qs) (w : World) (hV : SigV w v i ps qs) (hi : -9223372036854775808 ≤ i ∧ i ≤ 9223372036854775807) :
    Calls Tryd.prog 41 #[v] w fun e w' => e = .returned (.bool b) ∧ Kp [] w w' := by
  obtain ⟨ap, np, cp, aq, nq, cq, lp, lq, rfl, hP, hp, hQ, hq, hnp, hnq⟩ := hV.shape
  obtain ⟨ob, hob⟩ : ∃ o : Obj, o = (.cells #[.int .i64 i, .slice ap np cp, .slice aq nq cq] 33) := ⟨_, rfl⟩
  have K1 : Kp [] w (w.alloc ob) := (Kp.refl [] w).alloc ob
  rw [hob] at K1
  have HK1 := hide K1
  have HBb := hide hb
  have hfalse : ¬ ((0 ≤ i ∧ i < 16) ∧ np = 64 ∧ nq = 4) → b = false := fun h => by
    rw [hb]
    cases hr : rgtP i ps qs with
    | false => rfl
    | true =>
      have := (rgtP_iff i ps qs).1 hr
      exact absurd ⟨this.1, by rw [hnp]; exact this.2.1.1, by rw [hnq]; exact this.2.2.1⟩ h
  have hnpi : (np : Int) = 64 ↔ np = 64 := by omega
  have hnqi : (nq : Int) = 4 ↔ nq = 4 := by omega
  clear hob K1 hV hb
  by_cases h0 : i < 0
  · obtain rfl : b = false := hfalse (by omega)
    clear hP hQ hp hq hnp hnq
    go_enter Tryd.func41, Tryd.ntmps41
    go_wp2_with fail
    go_ret
    exact ⟨rfl, unhide HK1⟩
  · by_cases h16 : 16 ≤ i
    · obtain rfl : b = false := hfalse (by omega)
      clear hP hQ hp hq hnp hnq
      go_enter Tryd.func41, Tryd.ntmps41
      go_wp2_with fail
      go_ret
      exact ⟨rfl, unhide HK1⟩
    · by_cases hn1 : np = 64
      · by_cases hn2 : nq = 4
        · subst hn1
          subst hn2
          obtain ⟨o1, ho1⟩ : ∃ o : Obj, o = (.cells #[.int .i64 i, .slice ap 64 cp, .slice aq 4 cq] 33) := ⟨_, rfl⟩
          obtain ⟨o2, ho2⟩ : ∃ o : Obj, o = (.cells #[.slice ap 64 cp, .slice aq 4 cq] 31) := ⟨_, rfl⟩
          obtain ⟨W, hW⟩ : ∃ W, W = (w.alloc o1).alloc o2 := ⟨_, rfl⟩
          have KW : Kp [] w W := by rw [hW]; exact ((Kp.refl [] w).alloc o1).alloc o2
          have GW : W.heap[w.heap.size + 1]? = some o2 := by rw [hW]; exact heap_alloc2_new w o1 o2
          rw [ho2] at GW
          have c0 : W.cell? ⟨w.heap.size + 1, 0, none⟩ = some (.slice ap 64 cp) := by rw [cell_of_row W (w.heap.size + 1) 0 _ _ _ GW]; rfl
          have c1 : W.cell? ⟨w.heap.size + 1, 1, none⟩ = some (.slice aq 4 cq) := by rw [cell_of_row W (w.heap.size + 1) 1 _ _ _ GW]; rfl
          have HWE : Hid (W = (w.alloc (.cells #[.int .i64 i, .slice ap 64 cp, .slice aq 4 cq] 33)).alloc (.cells #[.slice ap 64 cp, .slice aq 4 cq] 31)) := by rw [hW, ho1, ho2]; exact rfl
          have HP := hide (hP.kept KW)
          have HQ := hide (hQ.kept KW)
          have Hp := hide hp
          have Hq := hide hq
          have HNp := hide hnp
          have HNq := hide hnq
          have HKW := hide KW
          have hbad : ∀ x, (x ∈ ps ∨ x ∈ qs) → x.length ≠ 32 → b = false := fun x hx hne => by
            rw [unhide HBb]
            cases hr : rgtP i ps qs with
            | false => rfl
            | true =>
              have := (rgtP_iff i ps qs).1 hr
              rcases hx with hx | hx
              · exact absurd (this.2.1.2 x hx) hne
              · exact absurd (this.2.2.2 x hx) hne
          have HBAD := hide hbad
          clear hP hQ hp hq hnp hnq ho1 ho2 hW KW GW hbad hfalse
          go_enter Tryd.func41, Tryd.ntmps41
          go_wp2_with fail
          rw [← unhide HWE]
          go_loopw [32] (fun j wr => ∃ s : Nat, s ≤ 2 ∧ j = .int .i64 s ∧ (1 ≤ s → ∀ x ∈ ps, x.length = 32) ∧ (2 ≤ s → ∀ x ∈ qs, x.length = 32) ∧ wr = W) (fun j _ => 2 - (intOf j).toNat)
          case atStart => exact ⟨0, by omega, rfl, by omega, by omega, rfl⟩
          case round =>
            obtain ⟨s, hs, rfl, g1, g2, hw⟩ := hrel
            subst hw
            have H1 := hide g1
            have H2 := hide g2
            clear g1 g2
            rcases (by omega : s = 0 ∨ s = 1 ∨ s = 2) with rfl | rfl | rfl
            · go_wp2_with fail
              go_loopw [5] (fun j wi => ∃ k : Nat, k ≤ 64 ∧ j = .int .i64 k ∧ (∀ x ∈ ps.take k, x.length = 32) ∧ wi = wr) (fun j _ => 64 - (intOf j).toNat)
              case atStart => exact ⟨0, by omega, rfl, by simp, rfl⟩
              case round =>
                obtain ⟨k, hk, rfl, hg, hw⟩ := hrel
                subst hw
                have HGd := hide hg
                clear hg
                by_cases hlt : k < 64
                · have hlt2 : (k : Int) < 64 := by omega
                  have hkl : k < ps.length := by have := unhide HNp; omega
                  obtain ⟨b', off, ay, ny, cy, rfl, hc, hSy, _⟩ := lists_at (unhide HP) (unhide Hp) k hkl
                  have hnl : ny = (ps.getD k []).length := by obtain ⟨_, _, e, _⟩ := hSy; injection e
                  by_cases h32 : ny = 32
                  · subst h32
                    have HG2 : Hid (∀ x ∈ ps.take (k + 1), x.length = 32) := fun x hx => by
                      rw [List.take_succ_eq_append_getElem hkl] at hx
                      rcases List.mem_append.1 hx with h | h
                      · exact unhide HGd x h
                      · obtain rfl : x = ps[k] := by simpa using h
                        have : ps.getD k [] = ps[k] := by simp [List.getD, hkl]
                        rw [← this]; exact hnl.symm
                    clear hSy hnl
                    go_wp2_with fail
                    go_roundw
                    case rel => exact ⟨k + 1, by omega, by go_num, unhide HG2, by trivial⟩
                    case measure => simp [intOf]; omega
                  · have hbf : b = false := unhide HBAD (ps.getD k []) (.inl (getD_mem hkl)) (by rw [← hnl]; exact h32)
                    have hni : ¬ (ny : Int) = 32 := by omega
                    subst hbf
                    clear hSy hnl
                    go_wp2_with fail
                    go_ret
                    exact ⟨rfl, unhide HKW⟩
                · have hk64 : k = 64 := by omega
                  have HA1 : Hid (∀ x ∈ ps, x.length = 32) := by
                    have := unhide HGd
                    rw [List.take_of_length_le (by have := unhide HNp; omega)] at this
                    exact this
                  have hlt2 : ¬ (k : Int) < 64 := by omega
                  clear hk64
                  go_wp2_with fail
                  go_roundw
                  case rel => exact ⟨0 + 1, by omega, by go_num, fun _ => unhide HA1, by omega, by trivial⟩
                  case measure => simp [intOf]
            · go_wp2_with fail
              go_loopw [5] (fun j wi => ∃ k : Nat, k ≤ 4 ∧ j = .int .i64 k ∧ (∀ x ∈ qs.take k, x.length = 32) ∧ wi = wr) (fun j _ => 4 - (intOf j).toNat)
              case atStart => exact ⟨0, by omega, rfl, by simp, rfl⟩
              case round =>
                obtain ⟨k, hk, rfl, hg, hw⟩ := hrel
                subst hw
                have HGd := hide hg
                clear hg
                by_cases hlt : k < 4
                · have hlt2 : (k : Int) < 4 := by omega
                  have hkl : k < qs.length := by have := unhide HNq; omega
                  obtain ⟨b', off, ay, ny, cy, rfl, hc, hSy, _⟩ := lists_at (unhide HQ) (unhide Hq) k hkl
                  have hnl : ny = (qs.getD k []).length := by obtain ⟨_, _, e, _⟩ := hSy; injection e
                  by_cases h32 : ny = 32
                  · subst h32
                    have HG2 : Hid (∀ x ∈ qs.take (k + 1), x.length = 32) := fun x hx => by
                      rw [List.take_succ_eq_append_getElem hkl] at hx
                      rcases List.mem_append.1 hx with h | h
                      · exact unhide HGd x h
                      · obtain rfl : x = qs[k] := by simpa using h
                        have : qs.getD k [] = qs[k] := by simp [List.getD, hkl]
                        rw [← this]; exact hnl.symm
                    clear hSy hnl
                    go_wp2_with fail
                    go_roundw
                    case rel => exact ⟨k + 1, by omega, by go_num, unhide HG2, by trivial⟩
                    case measure => simp [intOf]; omega
                  · have hbf : b = false := unhide HBAD (qs.getD k []) (.inr (getD_mem hkl)) (by rw [← hnl]; exact h32)
                    have hni : ¬ (ny : Int) = 32 := by omega
                    subst hbf
                    clear hSy hnl
                    go_wp2_with fail
                    go_ret
                    exact ⟨rfl, unhide HKW⟩
                · have hk64 : k = 4 := by omega
                  have HA1 : Hid (∀ x ∈ qs, x.length = 32) := by
                    have := unhide HGd
                    rw [List.take_of_length_le (by have := unhide HNq; omega)] at this
                    exact this
                  have hlt2 : ¬ (k : Int) < 4 := by omega
                  clear hk64
                  go_wp2_with fail
                  go_roundw
                  case rel => exact ⟨1 + 1, by omega, by go_num, fun _ => unhide H1 (by omega), fun _ => unhide HA1, by trivial⟩
                  case measure => simp [intOf]
            · have hbt : b = true := by
                rw [unhide HBb]
                exact (rgtP_iff i ps qs).2 ⟨by omega, ⟨(unhide HNp).symm, unhide H1 (by omega)⟩, (unhide HNq).symm, unhide H2 (by omega)⟩
              subst hbt
              go_wp2_with fail
              go_ret
              exact ⟨rfl, unhide HKW⟩
        · obtain rfl : b = false := hfalse (by omega)
          subst hn1
          have hni : ¬ (nq : Int) = 4 := by omega
          clear hP hQ hp hq hnp hnq
          go_enter Tryd.func41, Tryd.ntmps41
          go_wp2_with fail
          go_ret
          exact ⟨rfl, unhide HK1⟩
      · obtain rfl : b = false := hfalse (by omega)
        have hni : ¬ (np : Int) = 64 := by omega
        clear hP hQ hp hq hnp hnq
        go_enter Tryd.func41, Tryd.ntmps41
        go_wp2_with fail
        go_ret
        exact ⟨rfl, unhide HK1⟩
end Go.Proofs.YtdioaohejoflcaaDoor

/-
  The contract of the reference's owner's Sign.
-/
namespace Go.Proofs.YtdioaohejoflcaaDoor
open Go.RowKit
open Go.Proofs

/-- one more slice, that lies wherever it lies, behind them, at a step of a region that draws its order. -/
theorem step_accs {S : List Nat} {F : Nat → Prop} {w wr w3 : World} {ops : Array Oper} {o : Oper} {a : Act} {K : Act → World → Prop} {Q : Exit → Act → World → Prop} {E : Prop} (hgd : o.guard = none) (s x : Operand)
    (ho : o.op = .call { callee := .builtin .append, args := #[s, x], argTypes := #[31, 31] }) (v : Value) (ls : List (List Int)) (hs : a.eval s = v) (hA : AccS S F w ls v wr) (hl : ls.length ≤ 1000000)
    (vx : Value) (bs : List Int) (hS : Sl wr vx bs) (hB : Bs bs) (hap : ∀ q, vx.ownBlock = some q → v.ownBlock = some q → bs = []) (hF : ∀ q, vx.ownBlock = some q → F q) (g : Nat) (hx : a.eval x = .slice (some ⟨g, 0, none⟩) 1 1) (hc : w3.cell? ⟨g, 0, none⟩ = some vx) (k : Kp [] wr w3)
    (h : ∀ ao m c w', AccS S F w (ls ++ [bs]) (.slice ao m c) w' → RStep wr v w' (.slice ao m c) → K (a.put o.dst (.slice ao m c)) w') :
    if Region.wanted o (yielded ops a.tmps) = true then Oper.wp Tryd.prog o a w3 K Q else E := by
  have hw : Region.wanted o (yielded ops a.tmps) = true := by simp [Region.wanted, hgd]
  rw [if_pos hw]
  obtain ⟨i0, hi0, hz0, hz1, hz2⟩ := info_parts Tryd.infoSl
  obtain ⟨l, hP, hl2, hK, hF4⟩ := hA
  have hP2 := hP.kept k
  obtain ⟨ax, cx, hvx, _⟩ := id hS
  obtain ⟨av, cv, hv⟩ := hP2.1.shape
  have hll : l.length = ls.length := by rw [← hl2]; simp
  have hbase : w.heap.size ≤ w3.heap.size := Nat.le_trans hK.size k.size
  obtain ⟨ys, hys⟩ : ∃ ys, ys = l.map (·.1) := ⟨_, rfl⟩
  have hP2r : RowV w3 w.heap.size v ys := by rw [hys]; exact hP2.1
  have hyl : ys.length ≤ 1000000 := by rw [hys, List.length_map]; omega
  obtain ⟨v', w1, hr, hown1, hgrow, _, hat⟩ := run_append_own_at (P := Tryd.prog) w3 w.heap.size 31 o.type 24 i0 (.slice none 0 0) 1 24 Tryd.underlying31 hi0 hz0 hz1 hz2 rfl (by decide) v ys.length ys hP2r ⟨g, 0, none⟩ 1 1 [vx] (by simp) (fun j u hu => by
    have hj : j = 0 := by have := (List.getElem?_eq_some_iff.1 hu).1; simpa using this
    subst hj
    simp at hu
    subst hu
    exact hc) (by simp [hvx, Value.oneCell']) (by unfold maxLen; omega) (by omega) hbase
  have R : RowV w1 w.heap.size v' (ys ++ [vx]) := by unfold RowV; rw [List.length_append]; exact hown1
  rw [hys] at R
  obtain ⟨ao', c', hv'⟩ := R.shape
  subst hv'
  have st : RStep w3 v w1 (.slice ao' (l.map (·.1) ++ [vx]).length c') := ⟨(Kp.refl _ w3).grown hgrow (fun k hk => .inl (by simp [hk])), fun k hk => by
    rcases hat with e | e
    · exact .inl (e ▸ hk)
    · rw [e] at hk; cases hk; exact .inr (Nat.le_refl _)⟩
  have hKK := h ao' _ c' w1 ⟨l ++ [(vx, bs)], hP2.snoc (hS.kept k (by simp)) hB hap R st, by simp [hl2], (hK.trans (k.mono (by simp))).then st.1 (fun i hi => .inr (hP.1.own i (by simpa using hi))), fun y hy => by
    rcases List.mem_append.1 hy with hy | hy
    · exact hF4 y hy
    · obtain rfl : y = (vx, bs) := by simpa using hy
      exact hF⟩ (st.after k)
  unfold Oper.wp execOp
  simp only [ho, resolve, invoke, builtin, Sem.run_bind, Sem.run_pure, Result.andThen_ok, List.map_toArray, List.map_cons, List.map_nil, hs, hx, hr]
  exact hKK
theorem Ow.lv {w : World} {base g : Nat} {bs : List Int} (hO : Ow w base g bs 5) : ∃ sa sn sc gl c, w.cell? ⟨g, 0, none⟩ = some (.slice sa sn sc) ∧ w.cell? ⟨g, 1, none⟩ = some (.slice (some ⟨gl, 0, none⟩) 5 c) ∧ Sl w (.slice sa sn sc) bs ∧ ∀ h, h < 5 → ∀ j, j < (lvP bs h).length → ∃ b off nl cl ax nx cx, w.cell? ⟨gl, h, none⟩ = some (.slice (some ⟨b, off, none⟩) nl cl) ∧ nl = (lvP bs h).length ∧ w.cell? ⟨b, off + j, none⟩ = some (.slice ax nx cx) ∧ Sl w (.slice ax nx cx) ((lvP bs h).getD j []) ∧ Bs ((lvP bs h).getD j []) ∧ ∀ q, (Value.slice ax nx cx).ownBlock = some q → q < w.heap.size := by
  obtain ⟨sa, sn, sc, gl, c, h0, h1, h2, h3⟩ := hO.open
  refine ⟨sa, sn, sc, gl, c, h0, h1, h2, fun h hh j hj => ?_⟩
  obtain ⟨al, nl, cl, l, k1, k2, k3⟩ := h3 h hh
  obtain ⟨b, off, ay, ny, cy, rfl, hc, hS, hB⟩ := lists_at k2 k3 j hj
  have hn : nl = (lvP bs h).length := by
    obtain ⟨ao', c', e, _⟩ := k2
    injection e with _ e2
    rw [e2, ← List.length_map (f := (·.2)), k3]
  refine ⟨b, off, nl, cl, ay, ny, cy, k1, hn, hc, hS, hB, hS.lt (fun e => ?_)⟩
  have := (lvP_all bs h _ (getD_mem hj)).1
  rw [e] at this
  cases this

set_option maxRecDepth 100000 in
set_option maxHeartbeats 4000000 in
theorem own_sign (g base : Nat) (bs : List Int) (i : Nat) (vm : Value) (ms : List Int) (d : Int) (hd : d = digP ms) (w : World) (hO : Ow w base g bs 5) (hB : Bs bs) (hl : bs.length = 32) (hi : i < 16) (hM : Sl w vm ms) (hMB : Bs ms) (hml : ms.length ≤ 1000) :
    Calls Tryd.prog 15 #[.pointer (some ⟨g, 0, none⟩), .int .i64 i, vm] w fun e w' => ∃ v, e = .returned v ∧ SigV w' v i (sgnP bs i d) (pthP bs i 4) ∧ Kp [] w w' := by
  obtain ⟨sa, sn, sc, gl, lc, h0, h1, hS, hLv⟩ := hO.lv
  obtain ⟨ob, hob⟩ : ∃ o : Obj, o = (.cells #[.int .i64 0, .slice none 0 0, .slice none 0 0] 33) := ⟨_, rfl⟩
  have K1 : Kp [] w (w.alloc ob) := (Kp.refl [] w).alloc ob
  have HC := hide (refsign_any (.slice sa sn sc) bs i vm ms d hd (w.alloc ob) (hS.kept K1 (by simp)) hB (by omega) (hM.kept K1 (by simp)) hMB hml)
  have hc0 : (w.alloc ob).cell? ⟨g, 0, none⟩ = some (.slice sa sn sc) := K1.cell h0 (by simp)
  have G1 : Hid ((w.alloc ob).heap[w.heap.size]? = some ob) := heap_alloc_new w ob
  rw [hob] at K1 HC hc0 G1
  have HK1 := hide K1
  have HLV := hide hLv
  have H1 := hide h1
  obtain ⟨am, cm, hvm, _⟩ := hM
  obtain ⟨nm, hnm⟩ : ∃ n, n = ms.length := ⟨_, rfl⟩
  rw [← hnm] at hvm
  subst hvm
  clear hob K1 hO hB hMB hd hnm h0 h1 hS hLv
  go_enter Tryd.func15, Tryd.ntmps15
  go_wp2_with fail
  refine (unhide HC).mono ?_
  rintro ee w2 ⟨a2, m2, c2, rfl, A2⟩
  have HK2 := hide ((unhide HK1).trans A2.kp)
  have HG2 := hide (A2.kp.heap (unhide G1) (by simp))
  have HL2 : Hid (∃ l, Lists w2 (.slice a2 m2 c2) l ∧ l.map (·.2) = sgnP bs i d ∧ (∀ q, (Value.slice a2 m2 c2).ownBlock = some q → w.heap.size < q ∧ q < w2.heap.size) ∧ ∀ x ∈ l, ∀ q, x.1.ownBlock = some q → w.heap.size < q ∧ q < w2.heap.size) := by
    obtain ⟨l, k1, k2, _⟩ := A2
    have hz : ∀ o : Obj, (w.alloc o).heap.size = w.heap.size + 1 := fun o => by simp
    refine ⟨l, k1.lists (by rw [← List.length_map (f := (·.2)), k2, sgnP, ptsP_len]; omega), k2, fun q hq => ?_, fun x hx q hq => ?_⟩
    · have := k1.1.own q hq; have := k1.1.lt hq; rw [hz] at *; omega
    · have := (k1.2 x hx).1.own q hq; have := (k1.2 x hx).1.lt hq; rw [hz] at *; omega
  have Ga := heap_alloc_new w2 (.cells #[.int .i64 0, .slice none 0 0, .slice none 0 0] 33)
  have HKa : Hid (Kp [] w2 (w2.alloc (.cells #[.int .i64 0, .slice none 0 0, .slice none 0 0] 33))) := (Kp.refl [] w2).alloc _
  clear HC A2 HK1 G1 hc0
  go_wp2_with (refine wpList_store_sig rfl (.tmp 7) (.tmp 17) rfl w2.heap.size rfl _ _ _ _ _ _ Ga rfl ⟨rfl, rfl, rfl⟩ ?_; intro w3 G3 K3)
  obtain ⟨gs, hgs⟩ : ∃ gs, gs = w2.heap.size := ⟨_, rfl⟩
  have hz2 : ∀ o : Obj, (w2.alloc o).heap.size = w2.heap.size + 1 := fun o => by simp
  have hs3 : gs < w3.heap.size := by rw [hgs]; exact (Array.getElem?_eq_some_iff.1 G3).1
  have hws : w.heap.size < gs := by rw [hgs]; exact (Array.getElem?_eq_some_iff.1 (unhide HG2)).1
  have HK3 : Hid (Kp [] w w3) := ((unhide HK2).trans (unhide HKa)).then K3 (fun i hi => .inr (by simp at hi; omega))
  have HQ3 : Hid (Kp [gs] w2 w3) := by rw [hgs]; exact ((unhide HKa).mono (by simp)).trans K3
  rw [← hgs] at G3 ⊢
  have HG3 := hide G3
  have A3 : Hid (AccS [gs] (· < w.heap.size) w3 (pthP bs i 0) (.slice none 0 0) w3) := ⟨[], ⟨⟨rfl, .inl ⟨rfl, rfl⟩⟩, fun x hx => by cases hx⟩, rfl, Kp.refl _ _, fun x hx => by cases hx⟩
  have HGS := hide hgs
  clear Ga HKa G3 K3 hz2 hgs
  go_wp2_with fail
  go_loopw [8] (fun j wr => ∃ (h m cc : Nat) (ao : Option Addr), h ≤ 4 ∧ j = .int .i64 h ∧ AccS [gs] (· < w.heap.size) w3 (pthP bs i h) (.slice ao m cc) wr ∧ wr.heap[gs]? = some (.cells #[.int .i64 i, .slice a2 m2 c2, .slice ao m cc] 33 (0, 0))) (fun j _ => 4 - (intOf j).toNat)
  case atStart => exact ⟨0, 0, 0, none, by omega, rfl, unhide A3, unhide HG3⟩
  case round =>
    clear A3 HG3
    obtain ⟨h, m, cc, ao, hh, rfl, Ar, Gr⟩ := hrel
    have HA := hide Ar
    have HGr := hide Gr
    have HKr : Hid (Kp [] w wr) := (unhide HK3).then Ar.kp (fun i hi => .inr (by simp at hi; omega))
    clear Ar Gr
    by_cases hlt : h < 4
    · have hlt2 : (h : Int) < 4 := by omega
      have hx16 : i / 2 ^ h < 16 := Nat.lt_of_le_of_lt (Nat.div_le_self _ _) hi
      have hsl : sibP (i / 2 ^ h) < (lvP bs h).length := by rw [lvP_len]; exact sib_lv hi hlt
      have hxor := sib_xor _ hx16
      have hE := pthP_succ bs i h
      obtain ⟨b, off, nl, cl, ax, nx, cx, k1, k2, k3, k4, k5, k6⟩ := unhide HLV h (by omega) _ hsl
      have hshr : (i : Int) / 2 ^ h = ((i / 2 ^ h : Nat) : Int) := by rw [Int.natCast_ediv, Int.natCast_pow]; rfl
      rw [← k2] at hsl
      obtain ⟨x, hx⟩ : ∃ x, x = i / 2 ^ h := ⟨_, rfl⟩
      obtain ⟨s, hs⟩ : ∃ s, s = sibP x := ⟨_, rfl⟩
      rw [← hx] at hxor hsl hE k3 k4 k5 hshr hx16
      rw [← hs] at hxor hsl hE k3 k4 k5
      have hsi : (s : Int) < (nl : Int) := by omega
      obtain ⟨X, hX⟩ : ∃ X, X = (lvP bs h).getD s [] := ⟨_, rfl⟩
      rw [← hX] at hE k4 k5
      have HE := hide hE
      have HLN : Hid ((pthP bs i h).length ≤ 1000000) := by rw [pthP_len]; show h ≤ 1000000; omega
      have hc1 : wr.cell? ⟨g, 1, none⟩ = some (.slice (some ⟨gl, 0, none⟩) 5 lc) := (unhide HKr).cell (unhide H1) (by simp)
      have hc2 : wr.cell? ⟨gl, h, none⟩ = some (.slice (some ⟨b, off, none⟩) nl cl) := (unhide HKr).cell k1 (by simp)
      have hc3 : wr.cell? ⟨b, off + s, none⟩ = some (.slice ax nx cx) := (unhide HKr).cell k3 (by simp)
      have hc4 : wr.cell? ⟨gs, 2, none⟩ = some (.slice ao m cc) := by rw [cell_of_row wr gs 2 _ _ _ (unhide HGr)]; rfl
      have hlt5 : (h : Int) < 5 := by omega
      have hw64 : IntKind.u64.wrap (h : Int) = (h : Int) := by simp [IntKind.wrap, IntKind.signed, IntKind.bits]; omega
      have hmin : min h 64 = h := by omega
      have hgr : gs < wr.heap.size := (Array.getElem?_eq_some_iff.1 (unhide HGr)).1
      have hca : ∀ o, (wr.alloc o).cell? ⟨gs, 2, none⟩ = some (.slice ao m cc) := fun o => (World.cell?_alloc_lt _ _ _ (by exact hgr)).trans hc4
      have HSx := hide (k4.kept (unhide HKr) (by simp))
      have HBx := hide k5
      have HFx := hide k6
      have HAP : Hid (∀ q, (Value.slice ax nx cx).ownBlock = some q → (Value.slice ao m cc).ownBlock = some q → X = []) := fun q h1 h2 => by
        obtain ⟨_, hR, _⟩ := unhide HA
        have := hR.1.own q h2
        have := k6 q h1
        have := (unhide HK3).size
        omega
      clear hE k1 k2 k3 k4 k5 k6 hX hs hx
      go_wp2_with fail
      go_region_law ((refine step_accs (by rfl) (.tmp 23) (.tmp 38) (by rfl) (.slice ao m cc) _ (by rfl) (unhide HA) (unhide HLN) (.slice ax nx cx) X (unhide HSx) (unhide HBx) (unhide HAP) (unhide HFx) wr.heap.size (by rfl) (by exact cell_of_one (heap_alloc_new wr _)) (((Kp.refl [] wr).alloc _).drew) ?_; intro ao5 m5 c5 w5 A5 S5; have G5 : w5.heap[gs]? = some (.cells #[.int .i64 i, .slice a2 m2 c2, .slice ao m cc] 33 (0, 0)) := (S5.1.heap (unhide HGr) (fun hm => (by obtain ⟨_, hR, _⟩ := unhide HA; have := hR.1.own gs (by simpa using hm); omega))); have hc5 : w5.cell? ⟨gs, 2, none⟩ = some (.slice ao m cc) := (by rw [cell_of_row w5 gs 2 _ _ _ G5]; rfl); have hf5 : w5.frozen? ⟨gs, 2, none⟩ = false := frozen_of_row w5 gs 2 _ _ G5))
      all_goals
        have G6 : (w5.setCell ⟨gs, 2, none⟩ (.slice ao5 m5 c5)).heap[gs]? = some (.cells #[.int .i64 i, .slice a2 m2 c2, .slice ao5 m5 c5] 33 (0, 0)) := by
          have := heap_setCell_same w5 gs 2 _ _ (.slice ao5 m5 c5) G5
          simpa using this
        have A6 := A5.off (setCell_kp w5 gs 2 (.slice ao5 m5 c5)) (by simp) (fun i hi e => by subst e; omega) hs3
        have HG6 := hide G6
        have HA6 := hide A6
        clear A5 S5 G5 G6 A6 hc1 hc2 hc3 hc4 hca hc5 hf5 hw64 hmin HSx HAP
        go_wp2_with fail
        go_roundw
        case rel => exact ⟨h + 1, m5, c5, ao5, by omega, by go_num, by rw [unhide HE]; exact unhide HA6, unhide HG6⟩
        case measure => simp [intOf]; omega
    · obtain rfl : h = 4 := by omega
      have HV : Hid (∀ w', Kp [w.heap.size] wr w' → SigV w' (.agg #[.int .i64 i, .slice a2 m2 c2, .slice ao m cc]) i (sgnP bs i d) (pthP bs i 4)) := by
        intro w' k'
        obtain ⟨lp, p1, p2, p3, p4⟩ := unhide HL2
        obtain ⟨lq, q1, q2, q3, q4⟩ := (unhide HA).lists (by rw [pthP_len]; omega)
        have hg := unhide HGS
        have pr := (p1.off (unhide HQ3) (fun q hq => by have := p3 q hq; simp; omega) (fun y hy q hq => by have := p4 y hy q hq; simp; omega)).off (unhide HA).kp (fun q hq => by have := p3 q hq; simp; omega) (fun y hy q hq => by have := p4 y hy q hq; simp; omega)
        refine ⟨_, _, lp, lq, rfl, pr.off k' (fun q hq => by have := p3 q hq; simp; omega) (fun y hy q hq => by have := p4 y hy q hq; simp; omega), p2, q1.off k' (fun q hq => ?_) (fun y hy q hq => ?_), q2⟩
        · have := q3 q hq; have := (unhide HK3).size; simp; omega
        · have := q4 y hy q hq; simp; omega
      have G0 : wr.heap[w.heap.size]? = some (.cells #[.int .i64 0, .slice none 0 0, .slice none 0 0] 33) := (unhide HA).kp.heap ((unhide HQ3).heap (unhide HG2) (by simp; omega)) (by simp; omega)
      clear HLV H1 HA
      go_wp2_with (refine wpList_load_row rfl 33 (.tmp 7) rfl gs rfl 33 _ (0, 0) _ (unhide HGr) Tryd.underlying33 rfl Tryd.sigSize ?_; refine Hid.out ?_)
      refine hide ?_
      go_wp2_with (refine wpList_store_sig rfl (.tmp 6) (.tmp 41) rfl w.heap.size rfl _ _ _ _ _ _ G0 rfl ⟨rfl, rfl, rfl⟩ ?_; intro w4 G4 K4)
      refine bodyPost_ret (results_sig1 rfl _ _ w.heap.size _ _ _ (0, 0) rfl G4) rfl ?_
      exact ⟨_, rfl, unhide HV w4 K4, (unhide HKr).then K4 (by simp)⟩
end Go.Proofs.YtdioaohejoflcaaDoor

/-
  The contracts of the reference reader over this seat's program: Raw, Number, Bytes, End, Left, by the same plain function of what is left as the program's own reader.
-/
namespace Go.Proofs.YtdioaohejoflcaaDoor
open Go.RowKit

/-- A reference reader: its three cells at block q: all bytes B, how far it is, whether it is bad. -/
def RR (w : World) (q : Nat) (v : Value) (i : Nat) (bad : Bool) (B : List Int) : Prop :=
  w.heap[q]? = some (.cells #[v, .int .i64 i, .bool bad] 80 (0, 0)) ∧ Sl w v B ∧ v.ownBlock ≠ some q ∧ i ≤ B.length
/-- what is left of it. -/
def rest (i : Nat) (bad : Bool) (B : List Int) : List Int := if bad then [] else B.drop i

theorem cell_of_three {w : World} {b : Nat} {v u x : Value} {t : TypeId} (h : w.heap[b]? = some (.cells #[v, u, x] t (0, 0))) : w.cell? ⟨b, 0, none⟩ = some v ∧ w.cell? ⟨b, 1, none⟩ = some u ∧ w.cell? ⟨b, 2, none⟩ = some x :=
  ⟨by rw [cell_of_row w b 0 _ t _ h]; rfl, by rw [cell_of_row w b 1 _ t _ h]; rfl, by rw [cell_of_row w b 2 _ t _ h]; rfl⟩
theorem three_setCell1 {w : World} {b : Nat} {v u x y : Value} {t : TypeId} (h : w.heap[b]? = some (.cells #[v, u, x] t (0, 0))) : (w.setCell ⟨b, 1, none⟩ y).heap[b]? = some (.cells #[v, y, x] t (0, 0)) := by
  have hlt := lt_of_block h
  have h' : w.heap[b] = .cells #[v, u, x] t (0, 0) := by simpa [Array.getElem?_eq_getElem hlt] using h
  show (w.heap.modify b _)[b]? = _
  rw [Array.getElem?_eq_getElem (by simpa using hlt), Array.getElem_modify_self, h']
  rfl
theorem three_setCell2 {w : World} {b : Nat} {v u x y : Value} {t : TypeId} (h : w.heap[b]? = some (.cells #[v, u, x] t (0, 0))) : (w.setCell ⟨b, 2, none⟩ y).heap[b]? = some (.cells #[v, u, y] t (0, 0)) := by
  have hlt := lt_of_block h
  have h' : w.heap[b] = .cells #[v, u, x] t (0, 0) := by simpa [Array.getElem?_eq_getElem hlt] using h
  show (w.heap.modify b _)[b]? = _
  rw [Array.getElem?_eq_getElem (by simpa using hlt), Array.getElem_modify_self, h']
  rfl
theorem RR.kept {w w' : World} {q : Nat} {v : Value} {i : Nat} {bad : Bool} {B : List Int} {S : List Nat} (h : RR w q v i bad B) (k : Kp S w w') (hp : q ∉ S) (hv : ∀ i, v.ownBlock = some i → i ∉ S) : RR w' q v i bad B :=
  ⟨k.heap h.1 hp, h.2.1.kept k hv, h.2.2.1, h.2.2.2⟩
theorem rr_bad {w : World} {q : Nat} {v : Value} {i : Nat} {bad : Bool} {B : List Int} (h : RR w q v i bad B) : RR (w.setCell ⟨q, 2, none⟩ (.bool true)) q v i true B ∧ Kp [q] w (w.setCell ⟨q, 2, none⟩ (.bool true)) := by
  have k : Kp [q] w (w.setCell ⟨q, 2, none⟩ (.bool true)) := (Kp.refl [q] w).setCell (p := ⟨q, 2, none⟩) (.inl (by simp)) _
  exact ⟨⟨three_setCell2 h.1, h.2.1.kept k (fun j hj hm => by simp only [List.mem_singleton] at hm; subst hm; exact h.2.2.1 hj), h.2.2.1, h.2.2.2⟩, k⟩
theorem rr_go {w : World} {q : Nat} {v : Value} {i : Nat} {bad : Bool} {B : List Int} (h : RR w q v i bad B) (j : Nat) (hj : j ≤ B.length) : RR (w.setCell ⟨q, 1, none⟩ (.int .i64 j)) q v j bad B ∧ Kp [q] w (w.setCell ⟨q, 1, none⟩ (.int .i64 j)) := by
  have k : Kp [q] w (w.setCell ⟨q, 1, none⟩ (.int .i64 j)) := (Kp.refl [q] w).setCell (p := ⟨q, 1, none⟩) (.inl (by simp)) _
  exact ⟨⟨three_setCell1 h.1, h.2.1.kept k (fun j hj hm => by simp only [List.mem_singleton] at hm; subst hm; exact h.2.2.1 hj), h.2.2.1, hj⟩, k⟩

theorem rest_tk (i : Nat) (B : List Int) (n : Nat) (h : i + n ≤ B.length) : tk false (B.drop i) n = ((B.drop i).take n, false, B.drop (i + n)) := by
  rw [tk_ok false _ n (by rw [List.length_drop]; omega), List.drop_drop]

/-- what a call of a reference reader leaves. -/
def RLeft (w : World) (q : Nat) (v : Value) (B : List Int) (s : Bool × List Int) (w' : World) : Prop :=
  ∃ i bad, RR w' q v i bad B ∧ s = (bad, rest i bad B) ∧ Kp [q] w w'

set_option maxRecDepth 100000 in
set_option maxHeartbeats 2000000 in
theorem rraw_any (q : Nat) (v : Value) (i : Nat) (bad : Bool) (B : List Int) (n : Int) (w : World) (hR : RR w q v i bad B) (hb : B.length ≤ 140737488355328) (hn : -9223372036854775808 ≤ n ∧ n ≤ 9223372036854775807) :
    Calls Tryd.prog 52 #[.pointer (some ⟨q, 0, none⟩), .int .i64 n] w fun e w' => ∃ ao m c, e = .returned (.slice ao m c) ∧ Own w w' (.slice ao m c) (tk bad (rest i bad B) n).1 ∧ RLeft w q v B (tk bad (rest i bad B) n).2 w' := by
  obtain ⟨ao, c, rfl, h1, h2, h3, h4⟩ := hR.2.1
  obtain ⟨hc0, hc1, hc2⟩ := cell_of_three hR.1
  have hf := free_of_two hR.1
  have hf1 := hf 1
  have hf2 := hf 2
  have hi := hR.2.2.2
  clear hf h4
  have hi1 : (0 : Int) ≤ (i : Int) := by omega
  have hi2 : (i : Int) ≤ (B.length : Int) := by omega
  cases bad with
  | true =>
    have hB := rr_bad hR
    have ht : tk true (rest i true B) n = ([], true, []) := by
      show tk true [] n = _
      unfold tk; split <;> simp
    rw [ht]
    go_enter Tryd.func52, Tryd.ntmps52
    go_wp2_with fail
    go_quiet (fail)
    go_wp2_with fail
    go_ret
    exact ⟨none, 0, 0, rfl, ⟨Sl.nil _, by intro k hk; cases hk⟩, i, true, hB.1.kept (kp_drewN _ _) (by simp) (by simp), rfl, hB.2.trans ((kp_drewN _ _).mono (by simp))⟩
  | false =>
    have hr : rest i false B = B.drop i := rfl
    rw [hr]
    by_cases hn0 : n < 0
    · have hB := rr_bad hR
      rw [tk_no false _ n (.inl hn0)]
      have hd : decide (n < 0) = true := by simpa using hn0
      go_enter Tryd.func52, Tryd.ntmps52
      go_wp2_with fail
      go_quiet (fail)
      go_wp2_with fail
      go_ret
      exact ⟨none, 0, 0, rfl, ⟨Sl.nil _, by intro k hk; cases hk⟩, i, true, hB.1.kept (kp_drewN _ _) (by simp) (by simp), rfl, hB.2.trans ((kp_drewN _ _).mono (by simp))⟩
    · obtain ⟨m, rfl⟩ := Int.eq_ofNat_of_zero_le (show 0 ≤ n by omega)
      have hd : decide ((m : Int) < 0) = false := by simp
      by_cases hbig : B.length - i < m
      · have hB := rr_bad hR
        rw [tk_no false _ m (.inr (by rw [List.length_drop]; omega))]
        have hd2 : decide ((B.length : Int) - (i : Int) < (m : Int)) = true := by simp; omega
        have hd3 : (B.length : Int) - (i : Int) < (m : Int) := by omega
        go_enter Tryd.func52, Tryd.ntmps52
        go_wp2_with fail
        go_quiet (fail)
        go_wp2_with fail
        go_ret
        exact ⟨none, 0, 0, rfl, ⟨Sl.nil _, by intro k hk; cases hk⟩, i, true, hB.1.kept (kp_drewN _ _) (by simp) (by simp), rfl, hB.2.trans ((kp_drewN _ _).mono (by simp))⟩
      · have hG := rr_go hR (i + m) (by omega)
        rw [rest_tk i B m (by omega)]
        have hd2 : decide ((B.length : Int) - (i : Int) < (m : Int)) = false := by simp; omega
        have hd3 : ¬ (B.length : Int) - (i : Int) < (m : Int) := by omega
        go_enter Tryd.func52, Tryd.ntmps52
        go_wp2_with fail
        go_quiet (fail)
        go_wp2_with fail
        have G : RR ((w.drewN nq).setCell ⟨q, 1, none⟩ (.int .i64 ((i : Int) + (m : Int)))) q (.slice ao B.length c) (i + m) false B ∧ Kp [q] w ((w.drewN nq).setCell ⟨q, 1, none⟩ (.int .i64 ((i : Int) + (m : Int)))) := by
          have e : ((i + m : Nat) : Int) = (i : Int) + (m : Int) := by omega
          rw [← e]
          exact ⟨hG.1.kept (kp_drewN _ nq) (by simp) (by simp), hG.2.trans ((kp_drewN _ nq).mono (by simp))⟩
        clear hG hc0 hc1 hc2 hf1 hf2 hd hd2 hd3 hR hr
        generalize (w.drewN nq).setCell ⟨q, 1, none⟩ (.int .i64 ((i : Int) + (m : Int))) = W at G ⊢
        obtain ⟨gR, gK⟩ := G
        obtain ⟨hc0, hc1, hc2⟩ := cell_of_three gR.1
        have hc1' : W.cell? ⟨q, 1, none⟩ = some (.int .i64 ((i : Int) + (m : Int))) := by rw [hc1]; rfl
        have hq := lt_of_block gR.1
        have hlo : (i : Int) + (m : Int) ≤ (c : Int) := by omega
        have h2' : (c : Int) ≤ 9223372036854775807 := by unfold maxLen at h2; omega
        have hw1 : IntKind.i64.wrap ((i : Int) + (m : Int) - (m : Int)) = i := by simp [IntKind.wrap, IntKind.signed, IntKind.bits]; omega
        have hw2 : IntKind.i64.wrap (i : Int) = i := by simp [IntKind.wrap, IntKind.signed, IntKind.bits]; omega
        have hne1 := World.new_ne W ⟨q, 0, none⟩ hc0
        have hne2 := World.new_ne W ⟨q, 1, none⟩ hc1
        obtain ⟨X, hX⟩ : ∃ X, X = if c = i then ao else ao.map (·.add i) := ⟨_, rfl⟩
        obtain ⟨cs, hcs⟩ : ∃ cs, cs = (B.drop i).take m := ⟨_, rfl⟩
        have hcl : cs.length ≤ 140737488355328 := by rw [hcs, List.length_take, List.length_drop]; omega
        have hS : Sl W (.slice X m (c - i)) cs := by
          rw [hX, hcs]
          exact (gR.2.1.drop i hi).take m (by rw [List.length_drop]; omega)
        have hrs : ∀ w', (Instr.slice 24 (.slice ao B.length c) (some (.int .i64 (i : Int))) (some (.int .i64 ((i : Int) + (m : Int)))) none).run Tryd.prog w' = .ok (.slice X m (c - i)) w' := fun w' => by
          rw [run_slice_lh (P := Tryd.prog) w' 24 ao B.length c (by kernel_rfl) .i64 .i64 _ _ (by omega) (by omega) (by omega)]
          rw [hX]
          have e1 : ((i : Int) + (m : Int)).toNat = i + m := by omega
          obtain ⟨i0, hi0, hz0, hz1, hz2⟩ := info_parts Tryd.info5
          simp [sizeOf, typeInfo, show Tryd.prog.elem 24 = 5 from by kernel_rfl, sliced, e1, hi0, hz1, Result.andThen]
        have hrow0 : Row (W.alloc (.cells #[] 5)).drew W.heap.size (.slice (some ⟨W.heap.size, 0, none⟩) 0 0) [] := (World.ownsRow_made W #[] 0 (Nat.le_refl _) (by simp [maxLen]) rfl).drew
        have hSa : Sl (W.alloc (.cells #[] 5)).drew (.slice X m (c - i)) cs := hS.kept (((Kp.refl [] W).alloc _).drew) (by simp)
        have HF : Hid ((B.drop i).take m = cs) := hcs.symm
        have HS := hide hS
        have HR := hide gR
        clear hc1 hc2 h2 hX hcs hS gR
        go_region_held3 (fun w' => w'.cell? ⟨q, 0, none⟩ = some (.slice ao B.length c) ∧ w'.cell? ⟨q, 1, none⟩ = some (.int .i64 ((i : Int) + (m : Int))))
          (first
            | go_keep
            | (go_split_ands
               refine ⟨?_, ?_⟩
               · exact s1.1.cell (by assumption) (by simp [Value.ownBlock]; omega)
               · exact s1.1.cell (by assumption) (by simp [Value.ownBlock]; omega)))
          ((refine step_append_row (by rfl) (.tmp 39) (.tmp 54) (by rfl) W.heap.size _ [] (by rfl) hrow0 _ cs (by rfl) hSa (by simpa using hcl) (by simp) ?_; intro ao2 m2 c2 w1 r1 s1))
        go_wp2_with fail
        go_ret
        rw [unhide HF]
        have kW : Kp [] W w1 := (((Kp.refl [] W).alloc (.cells #[] 5)).drew).then s1.1 (fun k hk => by simp [Value.ownBlock] at hk; exact .inr (by omega))
        exact ⟨ao2, m2, c2, rfl, ⟨by simpa using r1.sl, fun k hk => Nat.le_trans gK.size (r1.lt k hk).1⟩, i + m, false, (unhide HR).kept kW (by simp) (by simp), rfl, gK.trans (kW.mono (by simp))⟩

theorem rest_bs {i : Nat} {bad : Bool} {B : List Int} (h : Bs B) : Bs (rest i bad B) := by
  unfold rest; split
  · intro b hb; cases hb
  · exact h.drop _

set_option maxHeartbeats 400000 in
theorem rnumb_any (q : Nat) (v : Value) (i : Nat) (bad : Bool) (B : List Int) (n : Nat) (w : World) (hR : RR w q v i bad B) (hb : B.length ≤ 140737488355328) (h4 : n ≤ 4) (hB : Bs B) :
    Calls Tryd.prog 51 #[.pointer (some ⟨q, 0, none⟩), .int .i64 n] w fun e w' => e = .returned (.int .u32 (val (tk bad (rest i bad B) n).1)) ∧ RLeft w q v B (tk bad (rest i bad B) n).2 w' := by
  have hBc : Bs (tk bad (rest i bad B) n).1 := tk_bs1 (rest_bs hB)
  have hl4 : (tk bad (rest i bad B) n).1.length ≤ 4 := Nat.le_trans tk_len1 h4
  obtain ⟨cs, hcs⟩ : ∃ cs, cs = (tk bad (rest i bad B) n).1 := ⟨_, rfl⟩
  go_enter Tryd.func51, Tryd.ntmps51
  go_wp2_with fail
  refine (rraw_any q v i bad B n _ hR hb (by omega)).mono ?_
  rintro e w1 ⟨ao, m, c, rfl, hO, hL⟩
  rw [← hcs] at hO hBc hl4
  have HC := hide hcs
  have HL := hide hL
  have hS := hO.1
  clear hcs hL hR hO
  obtain ⟨ao', c', he, hS1, hS2, hS3, hS4⟩ := hS
  injection he with e1 e2 e3
  subst e1 e2 e3
  go_wp2_with fail
  go_loop [5, 12] (fun x j => ∃ k : Nat, k ≤ cs.length ∧ j = .int .i64 k ∧ x = .int .u32 (val (cs.take k))) (fun _ j => cs.length - (intOf j).toNat)
  case atStart => exact ⟨0, Nat.zero_le _, rfl, rfl⟩
  case round =>
    obtain ⟨k, hk, rfl, rfl⟩ := hrel
    by_cases hlt : k < cs.length
    · have hSl : Sl w1 (.slice ao cs.length c) cs := ⟨ao, c, rfl, hS1, hS2, hS3, hS4⟩
      obtain ⟨b, off, rfl, _, hcell⟩ := hSl.at2 (by omega)
      have hc := hcell k hlt
      have hb1 := hBc cs[k] (List.getElem_mem hlt)
      have hvb := val_bd (cs.take k) (hBc.take k)
      have hlen : (cs.take k).length ≤ 3 := by simp; omega
      have hv1 := val_small (cs.take k) (hBc.take k) hlen
      obtain ⟨x, hx⟩ : ∃ x, x = val (cs.take k) := ⟨_, rfl⟩
      obtain ⟨y, hy⟩ : ∃ y, y = cs[k] := ⟨_, rfl⟩
      have HX : Hid (val (cs.take (k + 1)) = x * 256 + y) := by rw [hx, hy]; exact val_take_succ cs k hlt
      rw [← hx] at hvb hv1
      rw [← hx]
      rw [← hy] at hc hb1
      obtain ⟨hb1, hb2⟩ := hb1
      obtain ⟨hx0, _⟩ := hvb
      have hor := bits_or_byte x y hx0 hv1 hb1 hb2
      clear hx hy hlen hBc hcell hSl hS3 hS4
      go_wp2
      go_round
      case rel => exact ⟨k + 1, by omega, by go_num, by rw [HX.out]⟩
      case measure => simp [intOf]; omega
    · obtain rfl : k = cs.length := by omega
      clear hS3 hS4
      go_wp2
      go_ret
      exact ⟨congrArg (fun l => Ending.returned (.int .u32 (val l))) (unhide HC), unhide HL⟩

end Go.Proofs.YtdioaohejoflcaaDoor

/-
  The contract of the reference's Decode.
-/
namespace Go.Proofs.YtdioaohejoflcaaDoor
open Go.RowKit
open Go.Proofs

theorem step_call {P : Program} {ops : Array Oper} {o : Oper} {a : Act} {w : World} {K : Act → World → Prop} {Q : Exit → Act → World → Prop} {E : Prop} {f : FuncId} {fn : Func} {xs : Array Operand} {ats : Array TypeId} (hgd : o.guard = none) (ho : o.op = .call { callee := .value (.func f), args := xs, argTypes := ats }) (hf : P.funcs[f]? = some fn) (hn : (fn.name == "runtime.NumGoroutine") = false) (hb : fn.body.isNone = false)
    (h : Calls P f (xs.map a.eval) w fun e w' => ∃ v, e = .returned v ∧ K (a.put o.dst v) w') : if Region.wanted o (yielded ops a.tmps) = true then Oper.wp P o a w K Q else E := by
  have hw : Region.wanted o (yielded ops a.tmps) = true := by simp [Region.wanted, hgd]
  rw [if_pos hw]
  have e : (execOp a.eval o).run P w = .ok (.enter f (xs.map a.eval)) w := by
    obtain ⟨dst, op, ty, pos, after, guard⟩ := o
    simp only at ho
    subst ho
    rw [execOp_call_go]
    have h1 : fn.name ≠ "runtime.NumGoroutine" := by simpa using hn
    have h2 : ¬ fn.body = none := by intro h2; rw [h2] at hb; cases hb
    simp [callFunc, hf, h1, h2]
  unfold Oper.wp
  rw [e]
  simp only [Oper.upon]
  refine h.mono ?_
  rintro e' w' ⟨v, rfl, hv⟩
  exact hv

/-- what the reference's Decode answers. -/
def RDecd (b : List Int) (v : Value) (ok : Bool) (w' : World) : Prop :=
  if decOk b then SigV w' v (val (b.take 4)) (chP 64 (b.drop 4)) (chP 4 (b.drop 2052)) ∧ ok = true else v = sig0 ∧ ok = false

set_option maxRecDepth 100000 in
set_option maxHeartbeats 8000000 in
theorem refdecode_any (vb : Value) (bs : List Int) (w : World) (hS : Sl w vb bs) (hB : Bs bs) :
    Calls Tryd.prog 26 #[vb] w fun e w' => ∃ v ok, e = .returned (.tuple #[v, .bool ok]) ∧ RDecd bs v ok w' ∧ Kp [] w w' := by
  have G1 := heap_alloc_new w (.cells #[.int .i64 0, .slice none 0 0, .slice none 0 0] 33)
  have HK1 := hide ((Kp.refl [] w).alloc (.cells #[.int .i64 0, .slice none 0 0, .slice none 0 0] 33))
  by_cases hl : bs.length = 2180
  case neg =>
    have hno : decOk bs = false := by unfold decOk; simp [hl]
    have HNO := hide hno
    obtain ⟨ab, cb, rfl, _⟩ := hS
    obtain ⟨nb, hnb⟩ : ∃ n, n = bs.length := ⟨_, rfl⟩
    rw [← hnb] at hl ⊢
    have hni : ¬ (nb : Int) = 2180 := by omega
    clear hnb hl hno hB
    go_enter Tryd.func26, Tryd.ntmps26
    go_wp2_with (refine wpList_store_sig rfl (.tmp 2) (.tmp 12) rfl w.heap.size rfl _ _ _ _ _ _ G1 rfl ⟨rfl, rfl, rfl⟩ ?_; intro w4 G4 K4)
    refine bodyPost_ret (results_sig rfl _ _ w.heap.size _ _ _ (0, 0) rfl G4) rfl ?_
    exact ⟨_, _, rfl, by unfold RDecd; rw [unhide HNO]; exact ⟨rfl, rfl⟩, (unhide HK1).then K4 (by simp)⟩
  have HB := hide hB
  have HL := hide hl
  have hne : bs ≠ [] := fun e => by rw [e] at hl; simp at hl
  have hblt := hS.lt hne
  have HS := hide hS
  obtain ⟨ab, cb, hvb, _⟩ := hS
  rw [hl] at hvb
  subst hvb
  obtain ⟨w1, hw1⟩ : ∃ w1, w1 = w.alloc (.cells #[.int .i64 0, .slice none 0 0, .slice none 0 0] 33) := ⟨_, rfl⟩
  have hz1 : w1.heap.size = w.heap.size + 1 := by rw [hw1]; simp
  rw [← hw1] at G1 HK1
  obtain ⟨w2, hw2⟩ : ∃ w2, w2 = w1.alloc (.cells #[.slice ab 2180 cb, .int .i64 0, .bool false] 80) := ⟨_, rfl⟩
  have K2 : Kp [] w1 w2 := by rw [hw2]; exact (Kp.refl [] w1).alloc _
  have hz2 : w2.heap.size = w.heap.size + 2 := by rw [hw2]; simp [hz1]
  have R2 : RR w2 (w.heap.size + 1) (.slice ab 2180 cb) 0 false bs := ⟨by rw [hw2, ← hz1]; exact heap_alloc_new w1 _, (unhide HS).kept ((unhide HK1).trans K2) (by simp), fun e => by have := hblt _ e; omega, by omega⟩
  have hN := rnumb_any (w.heap.size + 1) (.slice ab 2180 cb) 0 false bs 4 w2 R2 (by omega) (by omega) hB
  have htk : tk false (rest 0 false bs) ((4 : Nat) : Int) = (bs.take 4, false, bs.drop 4) := by
    have e1 : rest 0 false bs = bs := rfl
    rw [e1]; exact tk_ok false bs 4 (by omega)
  rw [htk] at hN
  dsimp only at hN
  obtain ⟨x, hx⟩ : ∃ x, x = val (bs.take 4) := ⟨_, rfl⟩
  rw [← hx] at hN
  have hxb : 0 ≤ x ∧ x < 4294967296 := by
    have := val_bd (bs.take 4) (hB.take 4)
    rw [List.length_take, Nat.min_eq_left (by omega), ← hx] at this
    exact ⟨this.1, by simpa using this.2⟩
  have hwx : IntKind.i64.wrap x = x := wrap_at rfl (by omega) (by omega)
  have HX := hide hx
  have HXB := hide hxb
  have HN := hide hN
  have HK2 := hide ((unhide HK1).trans K2)
  have HG2 := hide (K2.heap G1 (by simp))
  have HW12 : Hid (w2 = (w.alloc (.cells #[.int .i64 0, .slice none 0 0, .slice none 0 0] 33)).alloc (.cells #[.slice ab 2180 cb, .int .i64 0, .bool false] 80)) := hide (by rw [hw2, hw1])
  have HBL0 := hide hblt
  have HZ2 := hide hz2
  clear hw1 hw2 hz1 hz2 R2 hN htk hx hxb G1 HK1 hB hl hne hblt K2
  go_enter Tryd.func26, Tryd.ntmps26
  go_wp2_with fail
  rw [← unhide HW12]
  refine (unhide HN).mono ?_
  rintro ee w3 ⟨rfl, p3, b3, R3, e3, K3⟩
  obtain ⟨q, hq⟩ : ∃ q, q = w.heap.size + 1 := ⟨_, rfl⟩
  rw [← hq] at R3 K3 ⊢
  have hb3 : b3 = false := (congrArg Prod.fst e3).symm
  subst hb3
  have hd3 : bs.drop p3 = bs.drop 4 := (congrArg Prod.snd e3).symm
  have HK3 : Hid (Kp [] w w3) := (unhide HK2).then K3 (fun i hi => .inr (by simp at hi; omega))
  have G3 : w3.heap[w.heap.size]? = some _ := K3.heap (unhide HG2) (by simp; omega)
  have hz3 : q < w3.heap.size := by have := K3.size; have := unhide HZ2; omega
  have HR3 := hide R3
  have HD3 := hide hd3
  have HQ := hide hq
  clear R3 K3 e3 hd3 HN HG2 HK2 HW12 HZ2 hq
  by_cases h16 : x < 16
  case neg =>
    have hno : decOk bs = false := by unfold decOk; rw [← unhide HX]; simp [h16]
    have HNO := hide hno
    have h16' : 16 ≤ x := by omega
    clear hno
    go_wp2_with (refine wpList_store_sig rfl (.tmp 2) (.tmp 20) rfl w.heap.size rfl _ _ _ _ _ _ G3 rfl ⟨rfl, rfl, rfl⟩ ?_; intro w4 G4 K4)
    refine bodyPost_ret (results_sig rfl _ _ w.heap.size _ _ _ (0, 0) rfl G4) rfl ?_
    exact ⟨_, _, rfl, by unfold RDecd; rw [unhide HNO]; exact ⟨rfl, rfl⟩, (unhide HK3).then K4 (by simp)⟩
  have hyes : decOk bs = true := by unfold decOk; rw [← unhide HX, unhide HL]; simp [h16]
  have HYES := hide hyes
  have h16' : ¬ 16 ≤ x := by omega
  have HG3 := hide G3
  have Ga := heap_alloc_new w3 (.cells #[.int .i64 0, .slice none 0 0, .slice none 0 0] 33)
  have HKa : Hid (Kp [] w3 (w3.alloc (.cells #[.int .i64 0, .slice none 0 0, .slice none 0 0] 33))) := (Kp.refl [] w3).alloc _
  clear G3 hyes
  go_wp2_with (refine wpList_store_sig rfl (.tmp 6) (.tmp 23) rfl w3.heap.size rfl _ _ _ _ _ _ Ga rfl ⟨rfl, rfl, rfl⟩ ?_; intro w4 G4 K4)
  obtain ⟨gs, hgs⟩ : ∃ gs, gs = w3.heap.size := ⟨_, rfl⟩
  have hs4 : gs < w4.heap.size := by rw [hgs]; exact (Array.getElem?_eq_some_iff.1 G4).1
  have hqs : q < gs := by rw [hgs]; exact hz3
  have hws : w.heap.size < q := by have := unhide HQ; omega
  have HK34 : Hid (Kp [gs] w3 w4) := by rw [hgs]; exact ((unhide HKa).mono (by simp)).trans K4
  rw [← hgs] at G4 ⊢
  have HG4 := hide G4
  have HBL : Hid (∀ i, (Value.slice ab 2180 cb).ownBlock = some i → i < w.heap.size) := hide (unhide HBL0)
  have HR4 : Hid (∃ p, RR w4 q (.slice ab 2180 cb) p false bs ∧ bs.drop p = bs.drop (4 + 32 * 0)) := ⟨p3, (unhide HR3).kept (unhide HK34) (by simp; omega) (fun i hi => by have := unhide HBL i hi; simp; omega), unhide HD3⟩
  have HA4 : Hid (AccS [q, gs] (w4.heap.size ≤ ·) w4 (chP 0 (bs.drop 4)) (.slice none 0 0) w4) := ⟨[], ⟨⟨rfl, .inl ⟨rfl, rfl⟩⟩, fun x hx => by cases hx⟩, rfl, Kp.refl _ _, fun x hx => by cases hx⟩
  have HGS := hide hgs
  clear Ga HKa G4 K4 hgs HR3 HD3 HBL0 hz3
  go_wp2_with fail
  go_loopw [7] (fun j wr => ∃ (k m cc : Nat) (ao : Option Addr), k ≤ 64 ∧ j = .int .i64 k ∧ AccS [q, gs] (w4.heap.size ≤ ·) w4 (chP k (bs.drop 4)) (.slice ao m cc) wr ∧ wr.heap[gs]? = some (.cells #[.int .i64 x, .slice ao m cc, .slice none 0 0] 33 (0, 0)) ∧ ∃ p, RR wr q (.slice ab 2180 cb) p false bs ∧ bs.drop p = bs.drop (4 + 32 * k)) (fun j _ => 64 - (intOf j).toNat)
  case atStart => exact ⟨0, 0, 0, none, by omega, rfl, unhide HA4, unhide HG4, unhide HR4⟩
  case round =>
    clear HA4 HG4 HR4
    obtain ⟨k, m, cc, ao, hk, rfl, Ar, Gr, p, Rr, hp⟩ := hrel
    have HA := hide Ar
    have HGr := hide Gr
    have HRr := hide Rr
    have HPp := hide hp
    clear Ar Gr Rr hp
    by_cases hlt : k < 64
    · have hlt2 : (k : Int) < 64 := by omega
      have hcq : wr.cell? ⟨gs, 1, none⟩ = some (.slice ao m cc) := by rw [cell_of_row wr gs 1 _ _ _ (unhide HGr)]; rfl
      obtain ⟨X, hX⟩ : ∃ X, X = ((bs.drop 4).drop (32 * k)).take 32 := ⟨_, rfl⟩
      have HE : Hid (chP (k + 1) (bs.drop 4) = chP k (bs.drop 4) ++ [X]) := by rw [hX]; exact chP_succ k _
      have HXB : Hid (Bs X) := by rw [hX]; exact (((unhide HB).drop _).drop _).take _
      have HLN : Hid ((chP k (bs.drop 4)).length ≤ 1000000) := by rw [chP_len]; show k ≤ 1000000; omega
      have hC := rraw_any q (.slice ab 2180 cb) p false bs ((32 : Nat) : Int) wr.drew ((unhide HRr).kept (kp_drew wr) (by simp) (by simp)) (by have := unhide HL; omega) (by omega)
      have htk : tk false (rest p false bs) ((32 : Nat) : Int) = (X, false, bs.drop (4 + 32 * (k + 1))) := by
        have e1 : rest p false bs = bs.drop (4 + 32 * k) := unhide HPp
        rw [e1, tk_ok _ _ 32 (by rw [List.length_drop]; have := unhide HL; omega), List.drop_drop, hX, List.drop_drop, show 4 + 32 * k + 32 = 4 + 32 * (k + 1) by omega]
      rw [htk] at hC
      dsimp only at hC
      have HC := hide hC
      clear hC htk hX
      go_wp2_with fail
      go_region_law (first
        | (refine step_call (by rfl) (by rfl) Tryd.func52 (by kernel_rfl) (by kernel_rfl) ?_; simp only [List.map_toArray, List.map_cons, List.map_nil]; refine (unhide HC).mono ?_; rintro ee wz ⟨az, mz, cz, rfl, O4, L4⟩; refine ⟨_, rfl, ?_⟩; obtain ⟨p4, b4, R4, e4, K4⟩ := L4; have kk4 := (kp_drew wr).mono (S' := [q]) (by simp) |>.trans K4; have A4 := (unhide HA).off kk4 (by simp) (fun i hi e => by subst e; omega) (by omega); have G4 : wz.heap[gs]? = some _ := kk4.heap (unhide HGr) (by simp; omega); have hca : ∀ o, (wz.alloc o).cell? ⟨gs, 1, none⟩ = some (.slice ao m cc) := (fun o => (World.cell?_alloc_lt _ _ _ (by exact (Array.getElem?_eq_some_iff.1 G4).1)).trans (by rw [cell_of_row wz gs 1 _ _ _ G4]; rfl)); have hcw : wz.cell? ⟨gs, 1, none⟩ = some (.slice ao m cc) := (by rw [cell_of_row wz gs 1 _ _ _ G4]; rfl); have HA4 := hide A4; have HG4 := hide G4; have HO4 := hide O4; have HR4 := hide R4; have HE4 := hide e4; clear A4 G4 O4 R4 e4 kk4 K4)
        | (refine step_accs (by rfl) (.tmp 29) (.tmp 32) (by rfl) (.slice ao m cc) _ (by rfl) (unhide HA4) (unhide HLN) (.slice az mz cz) X (unhide HO4).1 (unhide HXB) (fun i h1 h2 => absurd ((unhide HO4).2 i h1) (by have := (unhide HA).lt i h2; show ¬ wr.heap.size ≤ i; omega)) (fun i h1 => Nat.le_trans (unhide HA).kp.size ((unhide HO4).2 i h1)) wz.heap.size (by rfl) (by exact cell_of_one (heap_alloc_new wz _)) ((Kp.refl [] wz).alloc _) ?_; intro ay my cy wy A5 S5; have hng : ∀ i, (Value.slice ao m cc).ownBlock = some i → w4.heap.size ≤ i := (by obtain ⟨_, hR, _⟩ := unhide HA; exact hR.1.own); have G5 : wy.heap[gs]? = some _ := S5.1.heap (unhide HG4) (fun hm => by have := hng gs (by simpa using hm); omega); have hc5 : wy.cell? ⟨gs, 1, none⟩ = some (.slice ao m cc) := (by rw [cell_of_row wy gs 1 _ _ _ G5]; rfl); have hf5 : wy.frozen? ⟨gs, 1, none⟩ = false := frozen_of_row wy gs 1 _ _ G5))
      all_goals
        have k6 := setCell_kp wy gs 1 (.slice ay my cy)
        have G6 := heap_setCell_same wy gs 1 _ _ (.slice ay my cy) G5
        have A6 := A5.off k6 (by simp) (fun i hi e => by subst e; omega) (by omega)
        have hb4 : b4 = false := by have := congrArg Prod.fst (unhide HE4); exact this.symm
        have hd4 : bs.drop (4 + 32 * (k + 1)) = bs.drop p4 := by have := congrArg Prod.snd (unhide HE4); rw [hb4] at this; exact this
        have R6 : RR (wy.setCell ⟨gs, 1, none⟩ (.slice ay my cy)) q (.slice ab 2180 cb) p4 false bs := by
          rw [hb4] at HR4
          exact ((unhide HR4).kept S5.1 (fun hm => by have := hng q (by simpa using hm); omega) (fun i hi hm => by have := hng i (by simpa using hm); have := unhide HBL i hi; omega)).kept k6 (by simp; omega) (fun i hi => by have := unhide HBL i hi; simp; omega)
        have HG6 := hide G6
        have HA6 := hide A6
        have HR6 := hide R6
        have HD6 := hide hd4
        clear A5 S5 G5 G6 A6 R6 hd4 hb4 k6 hcq hca hcw hc5 hf5 HC HR4 HO4 HG4 HA4 HE4 hng
        go_wp2_with fail
        go_roundw
        case rel => exact ⟨k + 1, my, cy, ay, by omega, by go_num, by rw [unhide HE]; exact unhide HA6, unhide HG6, p4, unhide HR6, (unhide HD6).symm⟩
        case measure => simp [intOf]; omega
    · have hkn : k = 64 := by omega
      have hlt2 : ¬ (k : Int) < 64 := by omega
      rw [hkn] at HA HPp
      clear hkn
      have HL5 : Hid (∃ l, Lists wr (.slice ao m cc) l ∧ l.map (·.2) = chP 64 (bs.drop 4) ∧ (∀ i, (Value.slice ao m cc).ownBlock = some i → w4.heap.size ≤ i ∧ i < wr.heap.size) ∧ ∀ x ∈ l, ∀ i, x.1.ownBlock = some i → w4.heap.size ≤ i ∧ i < wr.heap.size) := by
        obtain ⟨l, p1, p2, p3, p4⟩ := (unhide HA).lists (by rw [chP_len]; omega)
        have h32 := chP_32 64 (bs.drop 4) (by rw [List.length_drop]; have := unhide HL; omega)
        refine ⟨l, p1, p2, fun i hi => ⟨p3 i hi, (unhide HA).lt i hi⟩, fun x hx i hi => ⟨p4 x hx i hi, ?_⟩⟩
        obtain ⟨j, hj, rfl⟩ := List.getElem_of_mem hx
        obtain ⟨_, _, _, _, p5⟩ := p1
        obtain ⟨_, _, _, _, p6, _⟩ := p5 j hj
        refine p6.lt (fun e => ?_) i hi
        have := h32 l[j].2 (by rw [← p2]; exact List.mem_map.2 ⟨_, hx, rfl⟩)
        rw [e] at this
        cases this
      obtain ⟨w5, hw5⟩ : ∃ w5, w5 = wr := ⟨_, rfl⟩
      subst hw5
      have HK5 := hide (unhide HA).kp
      have hs5 : gs < w5.heap.size := (Array.getElem?_eq_some_iff.1 (unhide HGr)).1
      obtain ⟨a5, m5, c5, e5⟩ : ∃ a5 m5 c5, (Value.slice a5 m5 c5) = .slice ao m cc := ⟨_, _, _, rfl⟩
      injection e5 with f1 f2 f3
      subst f1
      subst f2
      subst f3
      have HG6 := hide (unhide HGr)
      have HR6 : Hid (∃ p, RR w5 q (.slice ab 2180 cb) p false bs ∧ bs.drop p = bs.drop (2052 + 32 * 0)) := ⟨p, unhide HRr, unhide HPp⟩
      have HA6 : Hid (AccS [q, gs] (w5.heap.size ≤ ·) w5 (chP 0 (bs.drop 2052)) (.slice none 0 0) w5) := ⟨[], ⟨⟨rfl, .inl ⟨rfl, rfl⟩⟩, fun x hx => by cases hx⟩, rfl, Kp.refl _ _, fun x hx => by cases hx⟩
      clear HA HGr HRr HPp
      go_wp2_with fail
      go_loopw [8] (fun j wr => ∃ (k m cc : Nat) (ao : Option Addr), k ≤ 4 ∧ j = .int .i64 k ∧ AccS [q, gs] (w5.heap.size ≤ ·) w5 (chP k (bs.drop 2052)) (.slice ao m cc) wr ∧ wr.heap[gs]? = some (.cells #[.int .i64 x, .slice a5 m5 c5, .slice ao m cc] 33 (0, 0)) ∧ ∃ p, RR wr q (.slice ab 2180 cb) p false bs ∧ bs.drop p = bs.drop (2052 + 32 * k)) (fun j _ => 4 - (intOf j).toNat)
      case atStart => exact ⟨0, 0, 0, none, by omega, rfl, unhide HA6, unhide HG6, unhide HR6⟩
      case round =>
        clear HA6 HG6 HR6
        obtain ⟨k, m, cc, ao, hk, rfl, Ar, Gr, p, Rr, hp⟩ := hrel
        have HA := hide Ar
        have HGr := hide Gr
        have HRr := hide Rr
        have HPp := hide hp
        clear Ar Gr Rr hp
        by_cases hlt : k < 4
        · have hlt2 : (k : Int) < 4 := by omega
          have hcq : wr.cell? ⟨gs, 2, none⟩ = some (.slice ao m cc) := by rw [cell_of_row wr gs 2 _ _ _ (unhide HGr)]; rfl
          obtain ⟨X, hX⟩ : ∃ X, X = ((bs.drop 2052).drop (32 * k)).take 32 := ⟨_, rfl⟩
          have HE : Hid (chP (k + 1) (bs.drop 2052) = chP k (bs.drop 2052) ++ [X]) := by rw [hX]; exact chP_succ k _
          have HXB : Hid (Bs X) := by rw [hX]; exact (((unhide HB).drop _).drop _).take _
          have HLN : Hid ((chP k (bs.drop 2052)).length ≤ 1000000) := by rw [chP_len]; show k ≤ 1000000; omega
          have hC := rraw_any q (.slice ab 2180 cb) p false bs ((32 : Nat) : Int) wr.drew ((unhide HRr).kept (kp_drew wr) (by simp) (by simp)) (by have := unhide HL; omega) (by omega)
          have htk : tk false (rest p false bs) ((32 : Nat) : Int) = (X, false, bs.drop (2052 + 32 * (k + 1))) := by
            have e1 : rest p false bs = bs.drop (2052 + 32 * k) := unhide HPp
            rw [e1, tk_ok _ _ 32 (by rw [List.length_drop]; have := unhide HL; omega), List.drop_drop, hX, List.drop_drop, show 2052 + 32 * k + 32 = 2052 + 32 * (k + 1) by omega]
          rw [htk] at hC
          dsimp only at hC
          have HC := hide hC
          clear hC htk hX
          go_wp2_with fail
          go_region_law (first
            | (refine step_call (by rfl) (by rfl) Tryd.func52 (by kernel_rfl) (by kernel_rfl) ?_; simp only [List.map_toArray, List.map_cons, List.map_nil]; refine (unhide HC).mono ?_; rintro ee wz ⟨az, mz, cz, rfl, O4, L4⟩; refine ⟨_, rfl, ?_⟩; obtain ⟨p4, b4, R4, e4, K4⟩ := L4; have kk4 := (kp_drew wr).mono (S' := [q]) (by simp) |>.trans K4; have A4 := (unhide HA).off kk4 (by simp) (fun i hi e => by subst e; omega) (by omega); have G4 : wz.heap[gs]? = some _ := kk4.heap (unhide HGr) (by simp; omega); have hca : ∀ o, (wz.alloc o).cell? ⟨gs, 2, none⟩ = some (.slice ao m cc) := (fun o => (World.cell?_alloc_lt _ _ _ (by exact (Array.getElem?_eq_some_iff.1 G4).1)).trans (by rw [cell_of_row wz gs 2 _ _ _ G4]; rfl)); have hcw : wz.cell? ⟨gs, 2, none⟩ = some (.slice ao m cc) := (by rw [cell_of_row wz gs 2 _ _ _ G4]; rfl); have HA4 := hide A4; have HG4 := hide G4; have HO4 := hide O4; have HR4 := hide R4; have HE4 := hide e4; clear A4 G4 O4 R4 e4 kk4 K4)
            | (refine step_accs (by rfl) (.tmp 40) (.tmp 43) (by rfl) (.slice ao m cc) _ (by rfl) (unhide HA4) (unhide HLN) (.slice az mz cz) X (unhide HO4).1 (unhide HXB) (fun i h1 h2 => absurd ((unhide HO4).2 i h1) (by have := (unhide HA).lt i h2; show ¬ wr.heap.size ≤ i; omega)) (fun i h1 => Nat.le_trans (unhide HA).kp.size ((unhide HO4).2 i h1)) wz.heap.size (by rfl) (by exact cell_of_one (heap_alloc_new wz _)) ((Kp.refl [] wz).alloc _) ?_; intro ay my cy wy A5 S5; have hng : ∀ i, (Value.slice ao m cc).ownBlock = some i → w5.heap.size ≤ i := (by obtain ⟨_, hR, _⟩ := unhide HA; exact hR.1.own); have G5 : wy.heap[gs]? = some _ := S5.1.heap (unhide HG4) (fun hm => by have := hng gs (by simpa using hm); omega); have hc5 : wy.cell? ⟨gs, 2, none⟩ = some (.slice ao m cc) := (by rw [cell_of_row wy gs 2 _ _ _ G5]; rfl); have hf5 : wy.frozen? ⟨gs, 2, none⟩ = false := frozen_of_row wy gs 2 _ _ G5))
          all_goals
            have k6 := setCell_kp wy gs 2 (.slice ay my cy)
            have G6 := heap_setCell_same wy gs 2 _ _ (.slice ay my cy) G5
            have A6 := A5.off k6 (by simp) (fun i hi e => by subst e; omega) (by omega)
            have hb4 : b4 = false := by have := congrArg Prod.fst (unhide HE4); exact this.symm
            have hd4 : bs.drop (2052 + 32 * (k + 1)) = bs.drop p4 := by have := congrArg Prod.snd (unhide HE4); rw [hb4] at this; exact this
            have R6 : RR (wy.setCell ⟨gs, 2, none⟩ (.slice ay my cy)) q (.slice ab 2180 cb) p4 false bs := by
              rw [hb4] at HR4
              exact ((unhide HR4).kept S5.1 (fun hm => by have := hng q (by simpa using hm); omega) (fun i hi hm => by have := hng i (by simpa using hm); have := unhide HBL i hi; omega)).kept k6 (by simp; omega) (fun i hi => by have := unhide HBL i hi; simp; omega)
            have HG6 := hide G6
            have HA6 := hide A6
            have HR6 := hide R6
            have HD6 := hide hd4
            clear A5 S5 G5 G6 A6 R6 hd4 hb4 k6 hcq hca hcw hc5 hf5 HC HR4 HO4 HG4 HA4 HE4 hng
            go_wp2_with fail
            go_roundw
            case rel => exact ⟨k + 1, my, cy, ay, by omega, by go_num, by rw [unhide HE]; exact unhide HA6, unhide HG6, p4, unhide HR6, (unhide HD6).symm⟩
            case measure => simp [intOf]; omega
        · have hkn : k = 4 := by omega
          have hlt2 : ¬ (k : Int) < 4 := by omega
          rw [hkn] at HA HPp
          clear hkn
          have HK6 := hide (unhide HA).kp
          have HV : Hid (∀ w', Kp [w.heap.size] wr w' → SigV w' (.agg #[.int .i64 x, .slice a5 m5 c5, .slice ao m cc]) x (chP 64 (bs.drop 4)) (chP 4 (bs.drop 2052))) := by
            intro w' k'
            obtain ⟨lp, p1, p2, p3, p4⟩ := unhide HL5
            obtain ⟨lq, q1, q2, q3, q4⟩ := (unhide HA).lists (by rw [chP_len]; omega)
            have pr := p1.off (unhide HK6) (fun i hi => by have := p3 i hi; simp; omega) (fun y hy i hi => by have := p4 y hy i hi; simp; omega)
            refine ⟨_, _, lp, lq, rfl, pr.off k' (fun i hi => by have := p3 i hi; simp; omega) (fun y hy i hi => by have := p4 y hy i hi; simp; omega), p2, q1.off k' (fun i hi => ?_) (fun y hy i hi => ?_), q2⟩
            · have := q3 i hi; simp; omega
            · have := q4 y hy i hi; simp; omega
          have G0 : wr.heap[w.heap.size]? = some (.cells #[.int .i64 0, .slice none 0 0, .slice none 0 0] 33) := (unhide HK6).heap ((unhide HK5).heap ((unhide HK34).heap (unhide HG3) (by simp; omega)) (by simp; omega)) (by simp; omega)
          have HKr : Hid (Kp [] w wr) := (((unhide HK3).then (unhide HK34) (fun i hi => .inr (by simp at hi; omega))).then (unhide HK5) (fun i hi => .inr (by simp at hi; omega))).then (unhide HK6) (fun i hi => .inr (by simp at hi; omega))
          clear HA HRr HPp HK5 HK6 HK34 HG3
          go_wp2_with (refine wpList_load_row rfl 33 (.tmp 6) rfl gs rfl 33 _ (0, 0) _ (unhide HGr) Tryd.underlying33 rfl Tryd.sigSize ?_; refine Hid.out ?_)
          refine hide ?_
          go_wp2_with (refine wpList_store_sig rfl (.tmp 2) (.tmp 46) rfl w.heap.size rfl _ _ _ _ _ _ G0 rfl ⟨rfl, rfl, rfl⟩ ?_; intro w9 G9 K9)
          refine bodyPost_ret (results_sig rfl _ _ w.heap.size _ _ _ (0, 0) rfl G9) rfl ?_
          exact ⟨_, _, rfl, by unfold RDecd; rw [unhide HYES]; exact ⟨by rw [← unhide HX]; exact unhide HV w9 K9, rfl⟩, (unhide HKr).then K9 (by simp)⟩
end Go.Proofs.YtdioaohejoflcaaDoor

/-
  The contracts of the reference's Verify and Encode.
-/
namespace Go.Proofs.YtdioaohejoflcaaDoor
open Go.RowKit
open Go.Proofs

theorem and_one64 (n : Nat) (h : n < 16) : bits .and .i64 (n : Int) 1 = ((n % 2 : Nat) : Int) := by
  have h2 : ∀ m ∈ List.range 16, bits .and .i64 (m : Int) 1 = ((m % 2 : Nat) : Int) := by decide +kernel
  exact h2 n (by simpa using h)

set_option maxRecDepth 100000 in
set_option maxHeartbeats 2000000 in
theorem refverify_any (vpub : Value) (pub : List Int) (vm : Value) (ms : List Int) (v : Value) (i : Int) (ps qs : List (List Int)) (b : Bool) (hb : b = verP pub ms i ps qs) (w : World) (hP : Sl w vpub pub) (hPB : Bs pub) (hM : Sl w vm ms) (hMB : Bs ms) (hml : ms.length ≤ 1000) (hV : SigV w v i ps qs) (hi : -9223372036854775808 ≤ i ∧ i ≤ 9223372036854775807) :
    Calls Tryd.prog 27 #[vpub, vm, v] w fun e w' => e = .returned (.bool b) ∧ Kp [] w w' := by
  obtain ⟨c, hc⟩ : ∃ c, c = rgtP i ps qs := ⟨_, rfl⟩
  obtain ⟨ap, np, cp, aq, nq, cq, lp, lq, rfl, hLP, hp, hLQ, hq, hnp, hnq⟩ := hV.shape
  clear hnp
  obtain ⟨ob, hob⟩ : ∃ o : Obj, o = (.cells #[.int .i64 i, .slice ap np cp, .slice aq nq cq] 33) := ⟨_, rfl⟩
  have K1 : Kp [] w (w.alloc ob) := (Kp.refl [] w).alloc ob
  have HR := hide (refright_any _ i ps qs c hc (w.alloc ob) (hV.kept K1) hi)
  have HLP := hide hLP
  have HLQ := hide hLQ
  have Hp := hide hp
  have Hq := hide hq
  have HPu := hide hP
  have HPB := hide hPB
  have HM := hide hM
  have HMB := hide hMB
  have HNQ := hide hnq
  obtain ⟨au, cu, hvu, _⟩ := hP
  obtain ⟨nu, hnu⟩ : ∃ n, n = pub.length := ⟨_, rfl⟩
  rw [← hnu] at hvu
  subst hvu
  obtain ⟨am, cm, hvm, _⟩ := hM
  obtain ⟨nm, hnm⟩ : ∃ n, n = ms.length := ⟨_, rfl⟩
  rw [← hnm] at hvm
  subst hvm
  have hl1 := load_sig (w.alloc ob) w.heap.size (.int .i64 i) (.slice ap np cp) (.slice aq nq cq) (0, 0) (by rw [hob]; exact heap_alloc_new w _)
  have G1 : Hid ((w.alloc ob).heap[w.heap.size]? = some (.cells #[.int .i64 i, .slice ap np cp, .slice aq nq cq] 33 (0, 0))) := by rw [hob]; exact heap_alloc_new w _
  rw [hob] at K1 HR hl1 G1
  have HK1 := hide K1
  have HB := hide hb
  have HCC := hide hc
  clear hob K1 hLP hLQ hp hq hPB hMB hV hnu hnm hb hc hi hnq
  cases c
  · have hbf : b = false := by rw [unhide HB, verP, ← unhide HCC]; rfl
    subst hbf
    go_enter Tryd.func27, Tryd.ntmps27
    go_wp2_with fail
    refine (unhide HR).mono ?_
    rintro ee w2 ⟨rfl, K2⟩
    have HK2 := hide ((unhide HK1).trans K2)
    clear HR K2 HK1
    go_wp2_with fail
    go_ret
    exact ⟨rfl, unhide HK2⟩
  · have hrg := (rgtP_iff i ps qs).1 (unhide HCC).symm
    obtain ⟨⟨hi0, hi1⟩, ⟨hpl, hp32⟩, hql, hq32⟩ := hrg
    obtain ⟨k, rfl⟩ := Int.eq_ofNat_of_zero_le hi0
    have hk16 : k < 16 := by omega
    obtain ⟨d, hd⟩ : ∃ d, d = digP ms := ⟨_, rfl⟩
    obtain ⟨r, hr⟩ : ∃ r, r = rootP d ps := ⟨_, rfl⟩
    obtain ⟨t, ht⟩ : ∃ t, t = ledP r k qs := ⟨_, rfl⟩
    have hare : true = areP ps := by
      unfold areP
      symm
      simp only [Bool.and_eq_true, beq_iff_eq, List.all_eq_true]
      exact ⟨hpl, hp32⟩
    obtain ⟨S, hS⟩ : ∃ S, S = strOfNums t := ⟨_, rfl⟩
    obtain ⟨T, hT⟩ : ∃ T, T = strOfNums pub := ⟨_, rfl⟩
    have hrB : Bs r := by rw [hr]; exact sha_bs _
    have hrl : r.length ≤ 1000 := by rw [hr, rootP, sha_len]; omega
    have hbb : b = (S.toList == T.toList) := by
      have htB : Bs t := by rw [ht]; exact (ledP_ok r k qs hrl hrB).2
      rw [unhide HB, verP, ← unhide HCC, hS, hT, str_beq t pub htB (unhide HPB), ht, hr, hd]
      rfl
    have HRo := hide (fun w' (k' : Kp [] w w') => refroot_any _ ms (.slice ap np cp) lp d true r hd (by rw [unhide Hp]; exact hare) (by rw [unhide Hp]; exact hr) w' ((unhide HM).kept k' (by simp)) (unhide HMB) hml ((unhide HLP).kept k'))
    have HOK := hide (fun n => ledP_ok r k (qs.take n) hrl hrB)
    have HTT := hide ht
    have HQL := hide hql
    have HQ32 := hide hq32
    have hnq4 : nq = 4 := by rw [unhide HNQ]; exact hql
    subst hnq4
    have HS := hide hS
    have HT := hide hT
    clear hrB hrl hS hT hd hr ht hare HB HCC hp32 hq32 hpl hql hi0 hi1
    subst hbb
    go_enter Tryd.func27, Tryd.ntmps27
    go_wp2_with fail
    refine (unhide HR).mono ?_
    rintro ee w2 ⟨rfl, K2⟩
    have HK2 := hide ((unhide HK1).trans K2)
    have G2 := K2.heap (unhide G1) (by simp)
    have c1' : w2.cell? ⟨w.heap.size, 1, none⟩ = some (.slice ap np cp) := by rw [cell_of_row w2 w.heap.size 1 _ _ _ G2]; rfl
    have HG2 := hide G2
    clear HR K2 HK1 G1 G2
    go_wp2_with fail
    refine (unhide HRo w2 (unhide HK2)).mono ?_
    rintro ee w3 ⟨vr, rfl, hRoot, K3⟩
    obtain ⟨a3, m3, c3, rfl, R3⟩ := hRoot
    have HK3 := hide ((unhide HK2).trans K3)
    have HR3 := hide R3.sl
    have HG3 := hide (K3.heap (unhide HG2) (by simp))
    clear R3 K3 HRo HG2 HK2 c1'
    go_wp2_with fail
    go_loopw [7, 9] (fun v j wr => ∃ (n m cc : Nat) (ao : Option Addr), n ≤ 4 ∧ v = .slice ao m cc ∧ j = .int .i64 n ∧ Sl wr v (ledP r k (qs.take n)) ∧ Kp [] w wr ∧ Kp [] w3 wr) (fun _ j _ => 4 - (intOf j).toNat)
    case atStart => exact ⟨0, m3, c3, a3, by omega, rfl, rfl, unhide HR3, unhide HK3, Kp.refl _ _⟩
    case round =>
      clear HR3 HK3
      obtain ⟨n, m, cc, ao, hn, rfl, rfl, Sr, Kr, Kr3⟩ := hrel
      have HSr := hide Sr
      have HKr := hide Kr
      have HKr3 := hide Kr3
      have Gr := Kr3.heap (unhide HG3) (by simp)
      have e0 : wr.cell? ⟨w.heap.size, 0, none⟩ = some (.int .i64 k) := by rw [cell_of_row wr w.heap.size 0 _ _ _ Gr]; rfl
      have e2 : wr.cell? ⟨w.heap.size, 2, none⟩ = some (.slice aq 4 cq) := by rw [cell_of_row wr w.heap.size 2 _ _ _ Gr]; rfl
      clear Sr Kr Kr3 Gr
      by_cases hlt : n < 4
      · have hlt2 : (n : Int) < 4 := by omega
        have hnl : n < qs.length := by have := unhide HQL; omega
        obtain ⟨bq, oq, ay, ny, cy, rfl, hcy, hSy, hBy⟩ := lists_at (unhide HLQ) (unhide Hq) n hnl
        have hcw := (unhide HKr).cell hcy (by simp)
        have hE := led_take r k qs n hnl
        obtain ⟨x, hx⟩ : ∃ x, x = k / 2 ^ n := ⟨_, rfl⟩
        have hx16 : x < 16 := by rw [hx]; exact Nat.lt_of_le_of_lt (Nat.div_le_self _ _) hk16
        have hshr : (k : Int) / 2 ^ n = (x : Int) := by rw [hx, Int.natCast_ediv, Int.natCast_pow]; rfl
        have hshr2 : (k : Int) / 2 ^ ((n : Int)).toNat = (x : Int) := by rw [Int.toNat_natCast]; exact hshr
        have hand := and_one64 x hx16
        have hyl : (qs.getD n []).length ≤ 1000 := by have := unhide HQ32 _ (getD_mem hnl); omega
        have hok := unhide HOK n
        obtain ⟨tb, htb⟩ : ∃ tb, tb = x % 2 := ⟨_, rfl⟩
        have ht2 : tb < 2 := by omega
        rw [← htb] at hand
        rw [← hx, ← htb] at hE
        obtain ⟨Y, hY⟩ : ∃ Y, Y = qs.getD n [] := ⟨_, rfl⟩
        obtain ⟨X, hX⟩ : ∃ X, X = ledP r k (qs.take n) := ⟨_, rfl⟩
        rw [← hY] at hE hSy hBy hyl
        rw [← hX] at hE hok HSr
        have HSy := hide (hSy.kept (unhide HKr) (by simp))
        have HE := hide hE
        have HOk := hide hok
        have HBy := hide hBy
        clear hE hok hBy hSy hcy hx htb hY hX
        rcases (by omega : tb = 0 ∨ tb = 1) with rfl | rfl
        · rw [if_pos rfl] at HE
          obtain ⟨q, hq⟩ : ∃ q, q = nodeP X Y := ⟨_, rfl⟩
          have HL2 := hide (lists2 (unhide HSr) (unhide HOk).2 (unhide HSy) (unhide HBy))
          have HKa := hide ((Kp.refl [] wr).alloc (.cells #[.slice ao m cc, .slice ay ny cy] 24))
          have HC := hide (reftagged_any 14 _ _ q (by rw [hq, cat2]; rfl) _ (unhide HL2) (by omega) (by omega) (by simp) (by have := (unhide HOk).1; simp; omega))
          rw [← hq] at HE
          clear hq HL2
          go_wp2_with fail
          refine (unhide HC).mono ?_
          rintro ee w5 ⟨a5, m5, c5, rfl, R5, K5⟩
          have HS5 := hide R5.sl
          have HK5 := hide ((unhide HKr).trans ((unhide HKa).trans K5))
          have HK53 := hide ((unhide HKr3).trans ((unhide HKa).trans K5))
          clear R5 K5 HC HKa HSr HSy HKr HKr3 e0 e2 hcw
          go_wp2_with fail
          go_roundw
          case rel => exact ⟨n + 1, m5, c5, a5, by omega, rfl, by go_num, by rw [unhide HE]; exact unhide HS5, unhide HK5, unhide HK53⟩
          case measure => simp [intOf]; omega
        · rw [if_neg (by omega)] at HE
          obtain ⟨q, hq⟩ : ∃ q, q = nodeP Y X := ⟨_, rfl⟩
          have HL2 := hide (lists2 (unhide HSy) (unhide HBy) (unhide HSr) (unhide HOk).2)
          have HKa := hide ((Kp.refl [] wr).alloc (.cells #[.slice ay ny cy, .slice ao m cc] 24))
          have HC := hide (reftagged_any 14 _ _ q (by rw [hq, cat2]; rfl) _ (unhide HL2) (by omega) (by omega) (by simp) (by have := (unhide HOk).1; simp; omega))
          rw [← hq] at HE
          clear hq HL2
          go_wp2_with fail
          refine (unhide HC).mono ?_
          rintro ee w5 ⟨a5, m5, c5, rfl, R5, K5⟩
          have HS5 := hide R5.sl
          have HK5 := hide ((unhide HKr).trans ((unhide HKa).trans K5))
          have HK53 := hide ((unhide HKr3).trans ((unhide HKa).trans K5))
          clear R5 K5 HC HKa HSr HSy HKr HKr3 e0 e2 hcw
          go_wp2_with fail
          go_roundw
          case rel => exact ⟨n + 1, m5, c5, a5, by omega, rfl, by go_num, by rw [unhide HE]; exact unhide HS5, unhide HK5, unhide HK53⟩
          case measure => simp [intOf]; omega
      · obtain rfl : n = 4 := by omega
        have hT4 : qs.take 4 = qs := List.take_of_length_le (by have := unhide HQL; omega)
        rw [hT4, ← unhide HTT] at HSr
        have v1 := (unhide HSr).conv (P := Tryd.prog) 24 9 5 Tryd.underlying24 Tryd.underlying5 Tryd.underlying9
        have v2 := ((unhide HPu).kept (unhide HKr) (by simp)).conv (P := Tryd.prog) 24 9 5 Tryd.underlying24 Tryd.underlying5 Tryd.underlying9
        rw [← unhide HS] at v1
        rw [← unhide HT] at v2
        clear hT4 HSr e0 e2
        go_wp2_with fail
        go_ret
        exact ⟨rfl, unhide HKr⟩

theorem flat32 : ∀ (m : List (List Int)), (∀ x ∈ m, x.length = 32) → m.flatten.length = 32 * m.length := by
  intro m
  induction m with
  | nil => simp
  | cons a m ih =>
    intro hm
    rw [List.flatten_cons, List.length_append, ih (fun x hx => hm x (by simp [hx])), hm a (by simp), List.length_cons]
    omega

set_option maxRecDepth 100000 in
set_option maxHeartbeats 2000000 in
theorem refencode_any (v : Value) (i : Int) (ps qs : List (List Int)) (hr : rgtP i ps qs = true) (w : World) (hV : SigV w v i ps qs) :
    Calls Tryd.prog 42 #[v] w fun e w' => ∃ ao m c, e = .returned (.slice ao m c) ∧ Row w' w.heap.size (.slice ao m c) (encP i ps qs) ∧ Kp [] w w' := by
  obtain ⟨⟨hi0, hi1⟩, ⟨hpl, hp32⟩, hql, hq32⟩ := (rgtP_iff i ps qs).1 hr
  obtain ⟨ap, np, cp, aq, nq, cq, lp, lq, rfl, hLP, hp, hLQ, hq, hnp, hnq⟩ := hV.shape
  rw [hpl] at hnp
  rw [hql] at hnq
  subst hnp
  subst hnq
  obtain ⟨ob, hob⟩ : ∃ o : Obj, o = (.cells #[.int .i64 i, .slice ap 64 cp, .slice aq 4 cq] 33) := ⟨_, rfl⟩
  have K1 : Kp [] w (w.alloc ob) := (Kp.refl [] w).alloc ob
  have G1 : (w.alloc ob).heap[w.heap.size]? = some ob := heap_alloc_new w ob
  rw [hob] at K1 G1
  have HK1 := hide K1
  have HG1 := hide G1
  have HLP := hide hLP
  have HLQ := hide hLQ
  have Hp := hide hp
  have Hq := hide hq
  have H32 := hide hp32
  have H32q := hide hq32
  have HPL := hide hpl
  have HQL := hide hql
  have hwrap : IntKind.u32.wrap i = i := by simp [IntKind.wrap, IntKind.signed, IntKind.bits]; omega
  clear hob K1 G1 hLP hLQ hp hq hV hr hp32 hq32 hpl hql
  go_enter Tryd.func42, Tryd.ntmps42
  go_wp2_with fail
  refine (refnum_any i _).mono ?_
  rintro ee w2 ⟨a2, m2, c2, rfl, R2, K2⟩
  have HR2 : Hid (Row w2 w.heap.size (.slice a2 m2 c2) (be4 i)) := row_new R2 (unhide HK1)
  have HK2 := hide ((unhide HK1).trans K2)
  have G2 := K2.heap (unhide HG1) (by simp)
  have e1 : w2.cell? ⟨w.heap.size, 1, none⟩ = some (.slice ap 64 cp) := by rw [cell_of_row w2 w.heap.size 1 _ _ _ G2]; rfl
  have e2 : w2.cell? ⟨w.heap.size, 2, none⟩ = some (.slice aq 4 cq) := by rw [cell_of_row w2 w.heap.size 2 _ _ _ G2]; rfl
  obtain ⟨o2, ho2⟩ : ∃ o : Obj, o = (.cells #[.slice ap 64 cp, .slice aq 4 cq] 31) := ⟨_, rfl⟩
  obtain ⟨W, hW⟩ : ∃ W, W = w2.alloc o2 := ⟨_, rfl⟩
  have KW : Kp [] w2 W := by rw [hW]; exact (Kp.refl [] w2).alloc o2
  have GW : W.heap[w2.heap.size]? = some o2 := by rw [hW]; exact heap_alloc_new w2 o2
  rw [ho2] at GW
  have HWE : Hid (W = w2.alloc (.cells #[.slice ap 64 cp, .slice aq 4 cq] 31)) := by rw [hW, ho2]; exact rfl
  have HGW := hide GW
  have HRW := hide ((unhide HR2).kept KW (by simp))
  have HKW := hide ((unhide HK2).trans KW)
  have hblt : (Value.slice a2 m2 c2).ownBlock ≠ some w2.heap.size := fun e => by
    have := R2.lt e
    omega
  have HBL := hide hblt
  clear R2 K2 G2 KW GW hW ho2 HK1 HG1 HR2 HK2 hblt
  go_wp2_with fail
  rw [← unhide HWE]
  have hgz : w2.heap.size < W.heap.size := (Array.getElem?_eq_some_iff.1 (unhide HGW)).1
  obtain ⟨G, hG⟩ : ∃ G, G = w2.heap.size := ⟨_, rfl⟩
  rw [← hG] at HGW HBL hgz ⊢
  have HW2 := hide hG
  clear hG
  go_loopw [3, 17] (fun v j wr => ∃ (s m cc : Nat) (ao : Option Addr), s ≤ 2 ∧ v = .slice ao m cc ∧ j = .int .i64 s ∧ Row wr w.heap.size v (be4 i ++ (([ps, qs].take s).flatten).flatten) ∧ Kp [] w wr ∧ wr.heap[G]? = some (.cells #[.slice ap 64 cp, .slice aq 4 cq] 31) ∧ v.ownBlock ≠ some G) (fun _ j _ => 2 - (intOf j).toNat)
  case atStart => exact ⟨0, m2, c2, a2, by omega, rfl, rfl, by simpa using unhide HRW, unhide HKW, unhide HGW, unhide HBL⟩
  case round =>
    clear HRW HKW HGW HBL e1 e2 HWE
    obtain ⟨s, m, cc, ao, hs, rfl, rfl, Rr, Kr, Gr, Br⟩ := hrel
    have HRr := hide Rr
    have HKr := hide Kr
    have HGr := hide Gr
    have HBr := hide Br
    clear Rr Kr Gr Br
    obtain ⟨wo, hwo⟩ : ∃ wo, wo = wr := ⟨_, rfl⟩
    subst hwo
    rcases (by omega : s = 0 ∨ s = 1 ∨ s = 2) with rfl | rfl | rfl
    · have c0 : wo.cell? ⟨G, 0, none⟩ = some (.slice ap 64 cp) := by rw [cell_of_row wo G 0 _ _ _ (unhide HGr)]; rfl
      have HR0 : Hid (Row wo w.heap.size (.slice ao m cc) (be4 i ++ (ps.take 0).flatten)) := hide (by simpa using unhide HRr)
      clear HRr
      simp only [show ((0 : Nat) : Int) = 0 from rfl]
      go_wp2_with fail
      go_loopw [3, 6] (fun v j wi => ∃ (k m cc : Nat) (ao : Option Addr), k ≤ 64 ∧ v = .slice ao m cc ∧ j = .int .i64 k ∧ Row wi w.heap.size v (be4 i ++ (ps.take k).flatten) ∧ Kp [] w wi ∧ wi.heap[G]? = some (.cells #[.slice ap 64 cp, .slice aq 4 cq] 31) ∧ v.ownBlock ≠ some G) (fun _ j _ => 64 - (intOf j).toNat)
      case atStart => exact ⟨0, m, cc, ao, by omega, rfl, rfl, unhide HR0, unhide HKr, unhide HGr, unhide HBr⟩
      case round =>
        clear HR0 HKr HGr HBr c0
        obtain ⟨k, m4, cc4, ao4, hk, rfl, rfl, Ri, Ki, Gi, Bi⟩ := hrel
        have HRi := hide Ri
        have HKi := hide Ki
        have HGi := hide Gi
        have HBi := hide Bi
        clear Ri Ki Gi Bi
        by_cases hlt : k < 64
        · have hlt2 : (k : Int) < 64 := by omega
          have hkl : k < ps.length := by have := unhide HPL; omega
          obtain ⟨b', off, ay, ny, cy, rfl, hc, hSy, _⟩ := lists_at (unhide HLP) (unhide Hp) k hkl
          have hcw := (unhide HKi).cell hc (by simp)
          obtain ⟨Y, hY⟩ : ∃ Y, Y = ps.getD k [] := ⟨_, rfl⟩
          have HE : Hid (be4 i ++ (ps.take (k + 1)).flatten = be4 i ++ (ps.take k).flatten ++ Y) := hide (by rw [hY, List.take_succ_eq_append_getElem hkl, List.flatten_append, List.append_assoc]; simp [List.getD, hkl])
          have HYL : Hid (Y.length = 32) := by rw [hY]; exact unhide H32 _ (getD_mem hkl)
          rw [← hY] at hSy
          have HSy := hide (hSy.kept (unhide HKi) (by simp))
          have HFL : Hid ((be4 i ++ (ps.take k).flatten).length ≤ 10000) := hide (by rw [List.length_append, flat32 _ (fun x hx => unhide H32 x (List.mem_of_mem_take hx)), List.length_take, be4_len]; omega)
          clear hc hSy hY
          go_wp2_with (at_builtin; refine wpList_append_row rfl (.tmp 27) (.tmp 31) rfl w.heap.size (.slice ao4 m4 cc4) _ rfl (unhide HRi) _ Y rfl (unhide HSy) (by have := unhide HFL; have := unhide HYL; omega) (by have := (unhide HKi).size; omega) ?_; intro ao6 m6 c6 w6 R6 s6)
          go_roundw
          case rel =>
            refine ⟨k + 1, m6, c6, ao6, by omega, rfl, by go_num, by rw [unhide HE]; exact R6, (unhide HRi).step (unhide HKi) s6, s6.1.heap (unhide HGi) (fun hm => unhide HBi (by simpa using hm)), fun e => ?_⟩
            rcases s6.2 G e with h | h
            · exact unhide HBi h
            · have := (Array.getElem?_eq_some_iff.1 (unhide HGi)).1; omega
          case measure => simp [intOf]; omega
        · have hk64 : k = 64 := by omega
          have hlt2 : ¬ (k : Int) < 64 := by omega
          have HR1 : Hid (Row wr w.heap.size (.slice ao4 m4 cc4) (be4 i ++ (([ps, qs].take (0 + 1)).flatten).flatten)) := by
            refine hide ?_
            have := unhide HRi
            rw [List.take_of_length_le (by have := unhide HPL; omega)] at this
            simpa using this
          clear hk64 HRi
          go_wp2_with fail
          go_roundw
          case rel => exact ⟨0 + 1, m4, cc4, ao4, by omega, rfl, by go_num, unhide HR1, unhide HKi, unhide HGi, unhide HBi⟩
          case measure => simp [intOf]
    · have c0 : wo.cell? ⟨G, 1, none⟩ = some (.slice aq 4 cq) := by rw [cell_of_row wo G 1 _ _ _ (unhide HGr)]; rfl
      have HR0 : Hid (Row wo w.heap.size (.slice ao m cc) (be4 i ++ ps.flatten ++ (qs.take 0).flatten)) := hide (by simpa using unhide HRr)
      clear HRr
      simp only [show ((1 : Nat) : Int) = 1 from rfl]
      go_wp2_with fail
      go_loopw [3, 6] (fun v j wi => ∃ (k m cc : Nat) (ao : Option Addr), k ≤ 4 ∧ v = .slice ao m cc ∧ j = .int .i64 k ∧ Row wi w.heap.size v (be4 i ++ ps.flatten ++ (qs.take k).flatten) ∧ Kp [] w wi ∧ wi.heap[G]? = some (.cells #[.slice ap 64 cp, .slice aq 4 cq] 31) ∧ v.ownBlock ≠ some G) (fun _ j _ => 4 - (intOf j).toNat)
      case atStart => exact ⟨0, m, cc, ao, by omega, rfl, rfl, unhide HR0, unhide HKr, unhide HGr, unhide HBr⟩
      case round =>
        clear HR0 HKr HGr HBr c0
        obtain ⟨k, m4, cc4, ao4, hk, rfl, rfl, Ri, Ki, Gi, Bi⟩ := hrel
        have HRi := hide Ri
        have HKi := hide Ki
        have HGi := hide Gi
        have HBi := hide Bi
        clear Ri Ki Gi Bi
        by_cases hlt : k < 4
        · have hlt2 : (k : Int) < 4 := by omega
          have hkl : k < qs.length := by have := unhide HQL; omega
          obtain ⟨b', off, ay, ny, cy, rfl, hc, hSy, _⟩ := lists_at (unhide HLQ) (unhide Hq) k hkl
          have hcw := (unhide HKi).cell hc (by simp)
          obtain ⟨Y, hY⟩ : ∃ Y, Y = qs.getD k [] := ⟨_, rfl⟩
          have HE : Hid (be4 i ++ ps.flatten ++ (qs.take (k + 1)).flatten = be4 i ++ ps.flatten ++ (qs.take k).flatten ++ Y) := hide (by rw [hY, List.take_succ_eq_append_getElem hkl, List.flatten_append, List.append_assoc, List.append_assoc]; simp [List.getD, hkl])
          have HYL : Hid (Y.length = 32) := by rw [hY]; exact unhide H32q _ (getD_mem hkl)
          rw [← hY] at hSy
          have HSy := hide (hSy.kept (unhide HKi) (by simp))
          have HFL : Hid ((be4 i ++ ps.flatten ++ (qs.take k).flatten).length ≤ 10000) := hide (by rw [List.length_append, List.length_append, flat32 _ (fun x hx => unhide H32q x (List.mem_of_mem_take hx)), List.length_take, flat32 _ (unhide H32), be4_len]; have := unhide HPL; omega)
          clear hc hSy hY
          go_wp2_with (at_builtin; refine wpList_append_row rfl (.tmp 27) (.tmp 31) rfl w.heap.size (.slice ao4 m4 cc4) _ rfl (unhide HRi) _ Y rfl (unhide HSy) (by have := unhide HFL; have := unhide HYL; omega) (by have := (unhide HKi).size; omega) ?_; intro ao6 m6 c6 w6 R6 s6)
          go_roundw
          case rel =>
            refine ⟨k + 1, m6, c6, ao6, by omega, rfl, by go_num, by rw [unhide HE]; exact R6, (unhide HRi).step (unhide HKi) s6, s6.1.heap (unhide HGi) (fun hm => unhide HBi (by simpa using hm)), fun e => ?_⟩
            rcases s6.2 G e with h | h
            · exact unhide HBi h
            · have := (Array.getElem?_eq_some_iff.1 (unhide HGi)).1; omega
          case measure => simp [intOf]; omega
        · have hk64 : k = 4 := by omega
          have hlt2 : ¬ (k : Int) < 4 := by omega
          have HR1 : Hid (Row wr w.heap.size (.slice ao4 m4 cc4) (be4 i ++ (([ps, qs].take (1 + 1)).flatten).flatten)) := by
            refine hide ?_
            have := unhide HRi
            rw [List.take_of_length_le (by have := unhide HQL; omega)] at this
            simpa using this
          clear hk64 HRi
          go_wp2_with fail
          go_roundw
          case rel => exact ⟨1 + 1, m4, cc4, ao4, by omega, rfl, by go_num, unhide HR1, unhide HKi, unhide HGi, unhide HBi⟩
          case measure => simp [intOf]
    · have HR1 : Hid (Row wo w.heap.size (.slice ao m cc) (encP i ps qs)) := by
        refine hide ?_
        have := unhide HRr
        unfold encP
        simpa using this
      clear HRr
      go_wp2_with fail
      go_ret
      exact ⟨ao, m, cc, rfl, unhide HR1, unhide HKr⟩
end Go.Proofs.YtdioaohejoflcaaDoor

/-
  The contract of the reference's Same, of signatures that are alike.
-/
namespace Go.Proofs.YtdioaohejoflcaaDoor
open Go.RowKit
open Go.Proofs

set_option maxRecDepth 100000 in
set_option maxHeartbeats 2000000 in
theorem refsame_any (v u : Value) (i : Int) (ps qs : List (List Int)) (w : World) (hV : SigV w v i ps qs) (hU : SigV w u i ps qs) :
    Calls Tryd.prog 14 #[v, u] w fun e w' => e = .returned (.bool true) ∧ Kp [] w w' := by
  obtain ⟨ap, np, cp, aq, nq, cq, lp, lq, rfl, hP, hp, hQ, hq, hnp, hnq⟩ := hV.shape
  obtain ⟨ar, nr, cr, as', ns, cs, lr, ls, rfl, hR, hr, hS, hs, hnr, hns⟩ := hU.shape
  obtain rfl : nr = np := by omega
  obtain rfl : ns = nq := by omega
  have hb1 : nr ≤ 9223372036854775807 := by obtain ⟨_, _, e, h, _⟩ := hP; injection e with _ e2; omega
  have hb2 : ns ≤ 9223372036854775807 := by obtain ⟨_, _, e, h, _⟩ := hQ; injection e with _ e2; omega
  obtain ⟨o1, ho1⟩ : ∃ o : Obj, o = (.cells #[.int .i64 i, .slice ap nr cp, .slice aq ns cq] 33) := ⟨_, rfl⟩
  obtain ⟨o2, ho2⟩ : ∃ o : Obj, o = (.cells #[.int .i64 i, .slice ar nr cr, .slice as' ns cs] 33) := ⟨_, rfl⟩
  obtain ⟨W, hW⟩ : ∃ W, W = (w.alloc o1).alloc o2 := ⟨_, rfl⟩
  have K1 : Kp [] w W := by rw [hW]; exact ((Kp.refl [] w).alloc o1).alloc o2
  have G1 : W.heap[w.heap.size]? = some o1 := by rw [hW]; exact heap_alloc2_old w o1 o2
  have G2 : W.heap[w.heap.size + 1]? = some o2 := by rw [hW]; exact heap_alloc2_new w o1 o2
  rw [ho1] at G1
  rw [ho2] at G2
  have hWE : W = (w.alloc (.cells #[.int .i64 i, .slice ap nr cp, .slice aq ns cq] 33)).alloc (.cells #[.int .i64 i, .slice ar nr cr, .slice as' ns cs] 33) := by rw [hW, ho1, ho2]
  have HWE := hide hWE
  have HG1 := hide G1
  have HG2 := hide G2
  have HK1 := hide K1
  have HP := hide (hP.kept K1)
  have HQ := hide (hQ.kept K1)
  have HR := hide (hR.kept K1)
  have HS := hide (hS.kept K1)
  have Hxp := hide hp
  have Hxq := hide hq
  have Hxr := hide hr
  have Hxs := hide hs
  have HN1 := hide hnr
  have HN2 := hide hns
  have hb1i : (nr : Int) ≤ 9223372036854775807 := by omega
  have hb2i : (ns : Int) ≤ 9223372036854775807 := by omega
  clear hP hQ hR hS hp hq hr hs hnp hnq hnr hns hV hU ho1 ho2 hW hWE K1 G1 G2
  go_enter Tryd.func14, Tryd.ntmps14
  go_wp2_with fail
  rw [← unhide HWE]
  go_loopw [5] (fun j wr => ∃ k : Nat, k ≤ nr ∧ j = .int .i64 k ∧ Kp [] W wr) (fun j _ => nr - (intOf j).toNat)
  case atStart => exact ⟨0, by omega, rfl, Kp.refl _ _⟩
  case round =>
    obtain ⟨k, hk, rfl, Kr⟩ := hrel
    have HKr := hide Kr
    have hr1 : wr.cell? ⟨w.heap.size, 1, none⟩ = some (.slice ap nr cp) := by rw [cell_of_row wr w.heap.size 1 _ _ _ (Kr.heap (unhide HG1) (by simp))]; rfl
    have hr2 : wr.cell? ⟨w.heap.size + 1, 1, none⟩ = some (.slice ar nr cr) := by rw [cell_of_row wr (w.heap.size + 1) 1 _ _ _ (Kr.heap (unhide HG2) (by simp))]; rfl
    clear Kr
    by_cases hlt : k < nr
    · have hlt2 : (k : Int) < (nr : Int) := by omega
      obtain ⟨b1, o1, ax, nx, cx, rfl, hcx, hSx, hBx⟩ := lists_at (unhide HP) (unhide Hxp) k (by have := unhide HN1; omega)
      obtain ⟨b2, o2, ay, ny, cy, rfl, hcy, hSy, hBy⟩ := lists_at (unhide HR) (unhide Hxr) k (by have := unhide HN1; omega)
      have d0 : wr.drew.cell? ⟨w.heap.size, 1, none⟩ = some (.slice (some ⟨b1, o1, none⟩) nr cp) := (kp_drew wr).cell hr1 (by simp)
      have d0' : wr.drew.cell? ⟨w.heap.size + 1, 1, none⟩ = some (.slice (some ⟨b2, o2, none⟩) nr cr) := (kp_drew wr).cell hr2 (by simp)
      have kk := (unhide HKr).trans (kp_drew wr)
      have d1 : wr.drew.cell? ⟨b1, o1 + k, none⟩ = some (.slice ax nx cx) := kk.cell hcx (by simp)
      have d2 : wr.drew.cell? ⟨b2, o2 + k, none⟩ = some (.slice ay ny cy) := kk.cell hcy (by simp)
      have v1 := (hSx.kept kk (by simp)).conv (P := Tryd.prog) 24 9 5 Tryd.underlying24 Tryd.underlying5 Tryd.underlying9
      have v2 := (hSy.kept kk (by simp)).conv (P := Tryd.prog) 24 9 5 Tryd.underlying24 Tryd.underlying5 Tryd.underlying9
      obtain ⟨S, hSS⟩ : ∃ S, S = strOfNums (ps.getD k []) := ⟨_, rfl⟩
      rw [← hSS] at v1 v2
      have HKK := hide kk
      clear hcx hcy hSx hSy hBx hBy hSS kk
      go_wp2_with fail
      refine region_read Tryd.mixed (by kernel_rfl) ?_
      repeat (first | go_big_quiet_skip | (go_big_quiet_want; go_big_quiet_op; go_big_quiet_on))
      refine wpQuiet_nil ?_
      go_wp2_with fail
      go_roundw
      case rel => exact ⟨k + 1, by omega, by go_num, unhide HKK⟩
      case measure => simp [intOf]; omega
    · obtain rfl : k = nr := by omega
      have hlt2 : ¬ (k : Int) < (k : Int) := by omega
      have HKe := hide (unhide HKr)
      go_wp2_with fail
      go_loopw [6] (fun j wr => ∃ k : Nat, k ≤ ns ∧ j = .int .i64 k ∧ Kp [] W wr) (fun j _ => ns - (intOf j).toNat)
      case atStart => exact ⟨0, by omega, rfl, unhide HKe⟩
      case round =>
        obtain ⟨k, hk, rfl, Kr⟩ := hrel
        have HKr := hide Kr
        have hr1 : wr.cell? ⟨w.heap.size, 2, none⟩ = some (.slice aq ns cq) := by rw [cell_of_row wr w.heap.size 2 _ _ _ (Kr.heap (unhide HG1) (by simp))]; rfl
        have hr2 : wr.cell? ⟨w.heap.size + 1, 2, none⟩ = some (.slice as' ns cs) := by rw [cell_of_row wr (w.heap.size + 1) 2 _ _ _ (Kr.heap (unhide HG2) (by simp))]; rfl
        clear Kr
        by_cases hlt : k < ns
        · have hlt2 : (k : Int) < (ns : Int) := by omega
          obtain ⟨b1, o1, ax, nx, cx, rfl, hcx, hSx, hBx⟩ := lists_at (unhide HQ) (unhide Hxq) k (by have := unhide HN2; omega)
          obtain ⟨b2, o2, ay, ny, cy, rfl, hcy, hSy, hBy⟩ := lists_at (unhide HS) (unhide Hxs) k (by have := unhide HN2; omega)
          have d0 : wr.drew.cell? ⟨w.heap.size, 2, none⟩ = some (.slice (some ⟨b1, o1, none⟩) ns cq) := (kp_drew wr).cell hr1 (by simp)
          have d0' : wr.drew.cell? ⟨w.heap.size + 1, 2, none⟩ = some (.slice (some ⟨b2, o2, none⟩) ns cs) := (kp_drew wr).cell hr2 (by simp)
          have kk := (unhide HKr).trans (kp_drew wr)
          have d1 : wr.drew.cell? ⟨b1, o1 + k, none⟩ = some (.slice ax nx cx) := kk.cell hcx (by simp)
          have d2 : wr.drew.cell? ⟨b2, o2 + k, none⟩ = some (.slice ay ny cy) := kk.cell hcy (by simp)
          have v1 := (hSx.kept kk (by simp)).conv (P := Tryd.prog) 24 9 5 Tryd.underlying24 Tryd.underlying5 Tryd.underlying9
          have v2 := (hSy.kept kk (by simp)).conv (P := Tryd.prog) 24 9 5 Tryd.underlying24 Tryd.underlying5 Tryd.underlying9
          obtain ⟨S, hSS⟩ : ∃ S, S = strOfNums (qs.getD k []) := ⟨_, rfl⟩
          rw [← hSS] at v1 v2
          have HKK := hide kk
          clear hcx hcy hSx hSy hBx hBy hSS kk
          go_wp2_with fail
          refine region_read Tryd.mixed (by kernel_rfl) ?_
          repeat (first | go_big_quiet_skip | (go_big_quiet_want; go_big_quiet_op; go_big_quiet_on))
          refine wpQuiet_nil ?_
          go_wp2_with fail
          go_roundw
          case rel => exact ⟨k + 1, by omega, by go_num, unhide HKK⟩
          case measure => simp [intOf]; omega
        · obtain rfl : k = ns := by omega
          have hlt2 : ¬ (k : Int) < (k : Int) := by omega
          go_wp2_with fail
          go_ret
          exact ⟨rfl, (unhide HK1).trans (unhide HKr)⟩
end Go.Proofs.YtdioaohejoflcaaDoor
