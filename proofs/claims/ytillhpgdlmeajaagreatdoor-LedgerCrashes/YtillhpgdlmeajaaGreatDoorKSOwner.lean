/-
  The reference's owners: their contracts New, Public, Sign.
-/
import Derived.Test.YtillhpgdlmeajaaGreatDoorKSCode
import Derived.Test.YtillhpgdlmeajaaGreatDoorKORefs
namespace Go.Proofs.YtillhpgdlmeajaaGreatDoor
open Go.RowKit
open Go.Proofs

theorem Tryz.infoLs : (Tryz.prog.info? 33).map (fun i => (i.zero, i.size, i.bytes)) = some (some (.slice none 0 0), 1, 24) := by kernel_rfl
/-- a row of the call's own of slices of slices. -/
def RowL (w : World) (base : Nat) (v : Value) (xs : List Value) : Prop := w.ownsRow base 33 1 v xs.length xs
theorem RowL.shape {w : World} {base : Nat} {v : Value} {xs : List Value} (h : RowL w base v xs) : ∃ ao c, v = .slice ao xs.length c := owns_shape h
theorem RowL.own {w : World} {base : Nat} {v : Value} {xs : List Value} (h : RowL w base v xs) : ∀ k, v.ownBlock = some k → base ≤ k ∧ k < w.heap.size := by
  intro k hk
  rcases h.2 with ⟨rfl, _⟩ | ⟨g, cap, cur, rfl, hb, hg, _⟩
  · cases hk
  · cases hk; exact ⟨hb, (Array.getElem?_eq_some_iff.1 hg).1⟩
theorem RowL.kept {w w' : World} {base : Nat} {v : Value} {xs : List Value} {S : List Nat} (h : RowL w base v xs) (k : Kp S w w') (hv : ∀ i, v.ownBlock = some i → i ∉ S) : RowL w' base v xs := k.owns h hv
theorem RowL.at {w : World} {base : Nat} {v : Value} {xs : List Value} (h : RowL w base v xs) (h0 : 0 < xs.length) : ∃ g c, v = .slice (some ⟨g, 0, none⟩) xs.length c ∧ ∀ i (hi : i < xs.length), w.cell? ⟨g, i, none⟩ = some xs[i] := by
  rcases h.2 with ⟨h', h1⟩ | ⟨g, cap, cur, h', hb, hg, _⟩
  · omega
  · subst h'
    have h1 : w.ownsRow base 33 1 (.slice (some ⟨g, 0, none⟩) xs.length cap) xs.length xs := h
    exact ⟨g, cap, rfl, fun i hi => by rw [h1.cellAt i (by omega)]; simp [List.getElem?_eq_getElem hi]⟩
theorem wpList_append_rowl {w : World} {ops : Array Oper} {rest : List Oper} {o : Oper} {a : Act} {Q : Exit → Act → World → Prop} (hgd : o.guard = none) (s x : Operand)
    (ho : o.op = .call { callee := .builtin .append, args := #[s, x], argTypes := #[184, 184] }) (base : Nat) (v : Value) (xs : List Value) (hs : a.eval s = v) (hrow : RowL w base v xs)
    (ad : Addr) (c : Nat) (ys : List Value) (hx : a.eval x = .slice (some ad) ys.length c) (hy : ∀ j u, ys[j]? = some u → w.cell? (ad.add j) = some u) (h1 : ∀ u ∈ ys, u.oneCell' = true) (hb : xs.length + ys.length ≤ 1000000000) (hbase : base ≤ w.heap.size)
    (h : ∀ ao m c w', RowL w' base (.slice ao m c) (xs ++ ys) → RStep w v w' (.slice ao m c) → wpList Tryz.prog ops Q rest (a.put o.dst (.slice ao m c)) w') : wpList Tryz.prog ops Q (o :: rest) a w := by
  obtain ⟨i0, hi0, hz0, hz1, hz2⟩ := info_parts Tryz.infoLs
  obtain ⟨av, cv, rfl⟩ := hrow.shape
  refine wpList_append_own_at w hgd s x 184 ho base 33 i0 (.slice none 0 0) 1 24 Tryz.underlying184 hi0 hz0 hz1 hz2 rfl (by decide) _ xs.length xs hs hrow ad ys.length c ys hx (by simp) hy h1 (by unfold maxLen; omega) (by omega) hbase ?_
  intro v' w1 hown hgrow _ hat
  have R : RowL w1 base v' (xs ++ ys) := by unfold RowL; rw [List.length_append]; exact hown
  obtain ⟨ao', c', hv⟩ := R.shape
  subst hv
  refine h ao' _ c' w1 R ⟨(Kp.refl _ w).grown hgrow (fun k hk => .inl (by simp [hk])), fun k hk => ?_⟩
  rcases hat with e | e
  · exact .inl (e ▸ hk)
  · rw [e] at hk; cases hk; exact .inr (Nat.le_refl _)

theorem grown_build2 {o : Oper} {a : Act} {w : World} (x y : Operand) (ho : o.op = .buildSlice 33 2 #[(0, x), (1, y)]) (bs cs : List Int) (h : Sl w (a.eval x) bs) (hB : Bs bs) (k : Sl w (a.eval y) cs) (hC : Bs cs) : grown Tryz.prog w (LsM [bs, cs]) ((execOp a.eval o).run Tryz.prog w) := by
  have h2 := lists2 h hB k hC
  obtain ⟨ao, c, e, _⟩ := h
  obtain ⟨ao', c', e', _⟩ := k
  refine grown_run (v := .slice (some ⟨w.heap.size, 0, none⟩) 2 2) (w' := w.alloc (.cells #[a.eval x, a.eval y] 22)) ?_ ((Kp.refl _ _).alloc _) ⟨_, h2, rfl⟩
  obtain ⟨ρ, hρ, hc, hf, hg⟩ := eval_is a
  rw [hρ] at e e' ⊢
  unfold execOp
  simp only [ho]
  simp [go_sem, e, e']
/-- a level of nodes that lies apart from the block g and from pv. -/
def Lo (g : Nat) (pv : Value) (w : World) (x : Value) (ls : List (List Int)) : Prop :=
  ∃ ao n c l, x = .slice ao n c ∧ Lists w x l ∧ l.map (·.2) = ls ∧ ∀ q, (x.ownBlock = some q ∨ ∃ y ∈ l, y.1.ownBlock = some q) → q < w.heap.size ∧ g < q ∧ pv.ownBlock ≠ some q
theorem Lo.kept {g : Nat} {pv x : Value} {w w' : World} {ls : List (List Int)} (h : Lo g pv w x ls) (k : Kp [] w w') : Lo g pv w' x ls := by
  obtain ⟨ao, n, c, l, e, h1, h2, h3⟩ := h
  exact ⟨ao, n, c, l, e, h1.kept k, h2, fun q hq => ⟨Nat.lt_of_lt_of_le (h3 q hq).1 k.size, (h3 q hq).2⟩⟩
theorem Lo.step {g : Nat} {pv pv' x : Value} {w w' : World} {ls : List (List Int)} (h : Lo g pv w x ls) (s : RStep w pv w' pv') : Lo g pv' w' x ls := by
  obtain ⟨ao, n, c, l, e, h1, h2, h3⟩ := h
  refine ⟨ao, n, c, l, e, h1.off s.1 (fun q hq hm => (h3 q (.inl hq)).2.2 (by simpa using hm)) (fun y hy q hq hm => (h3 q (.inr ⟨y, hy, hq⟩)).2.2 (by simpa using hm)), h2, fun q hq => ⟨Nat.lt_of_lt_of_le (h3 q hq).1 s.1.size, (h3 q hq).2.1, fun e' => ?_⟩⟩
  rcases s.2 q e' with h5 | h5
  · exact (h3 q hq).2.2 h5
  · have := (h3 q hq).1; omega
theorem Lo.store {g : Nat} {pv x : Value} {w w' : World} {ls : List (List Int)} (h : Lo g pv w x ls) (k : Kp [g] w w') : Lo g pv w' x ls := by
  obtain ⟨ao, n, c, l, e, h1, h2, h3⟩ := h
  exact ⟨ao, n, c, l, e, h1.off k (fun q hq hm => by have := (h3 q (.inl hq)).2.1; simp at hm; omega) (fun y hy q hq hm => by have := (h3 q (.inr ⟨y, hy, hq⟩)).2.1; simp at hm; omega), h2, fun q hq => ⟨Nat.lt_of_lt_of_le (h3 q hq).1 k.size, (h3 q hq).2⟩⟩
theorem Lo.of_acc {g : Nat} {pv : Value} {w1 w2 : World} {ao : Option Addr} {n c : Nat} {ls : List (List Int)} (h : Acc w1 ls (.slice ao n c) w2) (hl : ls.length ≤ 1000) (hg : g < w1.heap.size) (hp : ∀ q, pv.ownBlock = some q → q < w1.heap.size) : Lo g pv w2 (.slice ao n c) ls := by
  obtain ⟨l, h1, h2, h3⟩ := h
  refine ⟨ao, n, c, l, rfl, h1.lists (by rw [← List.length_map (f := (·.2)), h2]; exact hl), h2, fun q hq => ?_⟩
  have hq2 : w1.heap.size ≤ q ∧ q < w2.heap.size := by
    rcases hq with hq | ⟨y, hy, hq⟩
    · exact ⟨h1.1.own q hq, h1.1.lt hq⟩
    · exact ⟨(h1.2 y hy).1.own q hq, (h1.2 y hy).1.lt hq⟩
  exact ⟨hq2.2, by omega, fun e => by have := hp q e; omega⟩
theorem Lo.lists {g : Nat} {pv x : Value} {w : World} {ls : List (List Int)} (h : Lo g pv w x ls) : ∃ l, Lists w x l ∧ l.map (·.2) = ls := by
  obtain ⟨_, _, _, l, _, h1, h2, _⟩ := h
  exact ⟨l, h1, h2⟩

/-- an owner at block g, its seed's slice, its first n levels. -/
def OwS (sa : Option Addr) (sn sc : Nat) (w : World) (base g : Nat) (bs : List Int) (n : Nat) : Prop :=
  ∃ lv xs, w.heap[g]? = some (.cells #[.slice sa sn sc, lv] 186 (0, 0)) ∧ (Sl w (.slice sa sn sc) bs ∧ ∀ q, (Value.slice sa sn sc).ownBlock = some q → q ≠ g ∧ lv.ownBlock ≠ some q) ∧ RowL w base lv xs ∧ g < base ∧ xs.length = n ∧ ∀ h (hh : h < xs.length), Lo g lv w xs[h] (lvP bs h)
theorem OwS.kept {sa : Option Addr} {sn sc : Nat} {w w' : World} {base g n : Nat} {bs : List Int} (h : OwS sa sn sc w base g bs n) (k : Kp [] w w') : OwS sa sn sc w' base g bs n := by
  obtain ⟨lv, xs, h1, h2, h3, h4, h5, h6⟩ := h
  exact ⟨lv, xs, k.heap h1 (by simp), ⟨h2.1.kept k (by simp), h2.2⟩, h3.kept k (by simp), h4, h5, fun h hh => (h6 h hh).kept k⟩
/-- an owner at block g, its first n levels. -/
def Ow (w : World) (base g : Nat) (bs : List Int) (n : Nat) : Prop := ∃ sa sn sc, OwS sa sn sc w base g bs n
theorem Ow.kept {w w' : World} {base g n : Nat} {bs : List Int} (h : Ow w base g bs n) (k : Kp [] w w') : Ow w' base g bs n := by
  obtain ⟨sa, sn, sc, h1⟩ := h
  exact ⟨sa, sn, sc, h1.kept k⟩
/-- it stays, whatever becomes of older blocks. -/
theorem OwS.apart {sa : Option Addr} {sn sc : Nat} {w w' : World} {base g n b : Nat} {bs : List Int} {S : List Nat} (h : OwS sa sn sc w base g bs n) (hg : b ≤ g) (hs : ∀ q, (Value.slice sa sn sc).ownBlock = some q → b ≤ q) (hS : ∀ q ∈ S, q < b) (k : Kp S w w') : OwS sa sn sc w' base g bs n := by
  obtain ⟨lv, xs, h1, h2, h3, h4, h5, h6⟩ := h
  refine ⟨lv, xs, k.heap h1 (fun hm => by have := hS g hm; omega), ⟨h2.1.kept k (fun q hq hm => by have := hS q hm; have := hs q hq; omega), h2.2⟩, h3.kept k (fun q hq hm => by have := hS q hm; have := (h3.own q hq).1; omega), h4, h5, fun h hh => ?_⟩
  obtain ⟨ao, n', c, l, e, k1, k2, k3⟩ := h6 h hh
  exact ⟨ao, n', c, l, e, k1.off k (fun q hq hm => by have := hS q hm; have := (k3 q (.inl hq)).2.1; omega) (fun y hy q hq hm => by have := hS q hm; have := (k3 q (.inr ⟨y, hy, hq⟩)).2.1; omega), k2, fun q hq => ⟨Nat.lt_of_lt_of_le (k3 q hq).1 k.size, (k3 q hq).2⟩⟩
theorem ow_push {wr w5 : World} {base g n : Nat} {bs : List Int} {sa : Option Addr} {sn sc : Nat} {lv lv' x : Value} {xs : List Value} (h1 : wr.heap[g]? = some (.cells #[.slice sa sn sc, lv] 186 (0, 0))) (hne : bs ≠ []) (h2 : Sl wr (.slice sa sn sc) bs ∧ ∀ q, (Value.slice sa sn sc).ownBlock = some q → q ≠ g ∧ lv.ownBlock ≠ some q) (h3 : RowL wr base lv xs) (h4 : g < base) (h5 : xs.length = n) (h6 : ∀ h (hh : h < xs.length), Lo g lv wr xs[h] (lvP bs h))
    (hx : Lo g lv wr x (lvP bs n)) (r : RowL w5 base lv' (xs ++ [x])) (s : RStep wr lv w5 lv') : OwS sa sn sc (w5.setCell ⟨g, 1, none⟩ lv') base g bs (n + 1) := by
  have k := setCell_kp w5 g 1 lv'
  have hgl : ∀ q, lv'.ownBlock = some q → q ≠ g := fun q hq e => by have := (r.own q hq).1; omega
  have hg5 : w5.heap[g]? = some (.cells #[.slice sa sn sc, lv] 186 (0, 0)) := s.1.heap h1 (fun hm => by have := (h3.own g (by simpa using hm)).1; omega)
  have hs5 : Sl w5 (.slice sa sn sc) bs := h2.1.kept s.1 (fun q hq hm => (h2.2 q hq).2 (by simpa using hm))
  have hsq : ∀ q, (Value.slice sa sn sc).ownBlock = some q → q ≠ g ∧ lv'.ownBlock ≠ some q := fun q hq => ⟨(h2.2 q hq).1, fun e => by
    rcases s.2 q e with h | h
    · exact (h2.2 q hq).2 h
    · have := h2.1.lt hne q hq; omega⟩
  refine ⟨lv', xs ++ [x], ?_, ⟨hs5.kept k (fun q hq => by simpa using (hsq q hq).1), hsq⟩, r.kept k (fun q hq => by simpa using hgl q hq), h4, by simp [h5], fun h hh => ?_⟩
  · have := heap_setCell_same w5 g 1 _ _ lv' hg5
    simpa using this
  · rw [List.length_append, List.length_cons, List.length_nil] at hh
    by_cases hlt : h < xs.length
    · rw [List.getElem_append_left hlt]
      exact ((h6 h hlt).step s).store k
    · obtain rfl : h = n := by omega
      rw [List.getElem_append_right (by omega)]
      simp only [h5, Nat.sub_self, List.getElem_cons_zero]
      exact (hx.step s).store k
/-- how many a slice has. -/
def lenOf : Value → Nat | .slice _ n _ => n | _ => 0

set_option maxRecDepth 100000 in
set_option maxHeartbeats 4000000 in
theorem new_ownS (vb : Value) (bs : List Int) (w : World) (hS : Sl w vb bs) (hB : Bs bs) (hl : bs.length = 32) :
    Calls Tryz.prog 99 #[vb] w fun e w' => ∃ g base, e = .returned (.pointer (some ⟨g, 0, none⟩)) ∧ (∃ sa sn sc, vb = .slice sa sn sc ∧ OwS sa sn sc w' base g bs 5) ∧ Kp [] w w' ∧ w.heap.size ≤ g := by
  have HS := hide hS
  have HB := hide hB
  have hne : bs ≠ [] := fun e => by rw [e] at hl; simp at hl
  have HLT := hide (hS.lt hne)
  obtain ⟨ab, cb, hvb, _⟩ := hS
  obtain ⟨nb, hnb⟩ : ∃ n, n = bs.length := ⟨_, rfl⟩
  rw [← hnb] at hvb
  subst hvb
  have HNE := hide hne
  have HL32 := hide hl
  clear hB hnb hl hne
  obtain ⟨ob, hob⟩ : ∃ o : Obj, o = (.cells #[.slice ab nb cb, .slice none 0 0] 186) := ⟨_, rfl⟩
  have K1 : Kp [] w (w.alloc ob) := (Kp.refl [] w).alloc ob
  have HG1 : Hid ((w.alloc ob).heap[w.heap.size]? = some ob) := heap_alloc_new w ob
  have HSZ : Hid ((w.alloc ob).heap.size = w.heap.size + 1) := by show _ = _; simp
  rw [hob] at K1 HG1 HSZ
  have HK1 := hide K1
  obtain ⟨w1, hw1⟩ : ∃ w1, w1 = w.alloc (.cells #[.slice ab nb cb, .slice none 0 0] 186) := ⟨_, rfl⟩
  have HW1 := hide hw1
  rw [← hw1] at HK1 HG1 HSZ
  clear K1 hob hw1
  go_enter Tryz.func99, Tryz.ntmps99
  go_wp2_with fail
  go_loopw [4, 5] (fun v i wr => ∃ (k m cc : Nat) (ao : Option Addr), k ≤ 16 ∧ v = .slice ao m cc ∧ i = .int .i64 k ∧ Acc w1 (lvsP bs k) v wr) (fun _ i _ => 16 - (intOf i).toNat)
  case atStart => exact ⟨0, 0, 0, none, by omega, rfl, rfl, by rw [unhide HW1]; exact acc_nil _⟩
  case round =>
    obtain ⟨k, m, cc, ao, hk, rfl, rfl, Ar⟩ := hrel
    have HA := hide Ar
    have HKr := hide ((unhide HK1).trans Ar.kp)
    clear Ar
    by_cases hlt : k < 16
    · have hlt2 : (k : Int) < 16 := by omega
      obtain ⟨r, hr⟩ : ∃ r, r = pubP bs (k : Nat) := ⟨_, rfl⟩
      have HRB : Hid (Bs r) := by rw [hr]; exact pubP_bs _ _
      have HE : Hid (lvsP bs (k + 1) = lvsP bs k ++ [r]) := by rw [hr]; exact lvsP_succ _ _
      have HLN : Hid ((lvsP bs k).length ≤ 1000000) := by rw [lvsP_len]; show k ≤ 1000000; omega
      have HC := hide (refpublic_any (.slice ab nb cb) bs (k : Nat) r hr wr ((unhide HS).kept (unhide HKr) (by simp)) (unhide HB) (by have := unhide HL32; omega))
      clear hr
      go_wp2_with fail
      refine (unhide HC).mono ?_
      rintro ee w4 ⟨a4, m4, c4, rfl, R4, K4⟩
      have HR4 := hide R4
      have HK4 := hide K4
      clear R4 K4 HC
      go_wp2_with (at_builtin; refine wpList_acc rfl (.tmp 15) (.tmp 19) rfl _ _ rfl (unhide HA) (unhide HLN) _ r (unhide HK4) (unhide HR4) (unhide HRB) rfl ?_; intro ao5 m5 c5 w5 A5)
      go_roundw
      case rel => exact ⟨k + 1, m5, c5, ao5, by omega, rfl, by go_num, by have e := unhide HE; rw [← e] at A5; exact A5⟩
      case measure => simp [intOf]; omega
    · obtain rfl : k = 16 := by omega
      have HLo : Hid (Lo w.heap.size (.slice none 0 0) wr (.slice ao m cc) (lvP bs 0)) := Lo.of_acc (unhide HA) (by have := lv_le bs 0; omega) (by have := unhide HSZ; omega) (fun q hq => by cases hq)
      have HGr := hide ((unhide HA).kp.heap (unhide HG1) (by simp))
      have hm16 : m = 16 := by rw [(unhide HA).cap, lvsP_len]
      subst hm16
      have hc1 : wr.cell? ⟨w.heap.size, 1, none⟩ = some (.slice none 0 0) := by rw [cell_of_row wr w.heap.size 1 _ _ _ (unhide HGr)]; rfl
      have HSr := hide ((unhide HS).kept (unhide HKr) (by simp))
      have hbr : w.heap.size + 1 ≤ wr.heap.size := by have := (unhide HA).kp.size; have := unhide HSZ; omega
      clear HA HG1 HSZ HK1 HW1
      go_wp2_with (at_builtin; refine wpList_append_rowl rfl (.tmp 25) (.tmp 27) rfl (w.heap.size + 1) (.slice none 0 0) [] rfl ⟨rfl, .inl ⟨rfl, rfl⟩⟩ ⟨wr.heap.size, 0, none⟩ 1 [.slice ao 16 cc] rfl (fun j u hu => World.news_of_block (heap_alloc_new wr _) j u (by simpa using hu)) (by simp [Value.oneCell']) (by simp) (by simp; omega) ?_; intro ao5 m5 c5 w5 R5 S5; refine Hid.out ?_)
      have S5' := S5.after ((Kp.refl [] wr).alloc (.cells #[.slice ao 16 cc] 33))
      have G5 : w5.heap[w.heap.size]? = some _ := S5'.1.heap (unhide HGr) (by simp [Value.ownBlock])
      have hc5 : w5.cell? ⟨w.heap.size, 1, none⟩ = some (.slice none 0 0) := by rw [cell_of_row w5 w.heap.size 1 _ _ _ G5]; rfl
      have hf5 : w5.frozen? ⟨w.heap.size, 1, none⟩ = false := frozen_of_row w5 w.heap.size 1 _ _ G5
      have HO : Hid (OwS ab nb cb (w5.setCell ⟨w.heap.size, 1, none⟩ (.slice ao5 m5 c5)) (w.heap.size + 1) w.heap.size bs 1) := ow_push (n := 0) (xs := []) (unhide HGr) (unhide HNE) ⟨unhide HSr, fun q hq => ⟨fun e => by have := unhide HLT q hq; omega, by simp [Value.ownBlock]⟩⟩ ⟨rfl, .inl ⟨rfl, rfl⟩⟩ (by omega) rfl (fun h hh => by cases hh) (unhide HLo) R5 S5'
      have HK6 : Hid (Kp [] w (w5.setCell ⟨w.heap.size, 1, none⟩ (.slice ao5 m5 c5))) := ((unhide HKr).then S5'.1 (fun i hi => by simp [Value.ownBlock] at hi)).setCell (p := ⟨w.heap.size, 1, none⟩) (.inr (by simp)) _
      have HL6 : Hid (∃ l, Lists (w5.setCell ⟨w.heap.size, 1, none⟩ (.slice ao5 m5 c5)) (.slice ao 16 cc) l ∧ l.map (·.2) = lvP bs 0) := (((unhide HLo).step S5').store (setCell_kp _ _ _ _)).lists
      clear R5 S5 S5' G5 HLo HGr HSr HKr hbr
      refine hide ?_
      go_wp2_with fail
      go_loopw [4] (fun v wr => ∃ (h n cc : Nat) (ao : Option Addr), h ≤ 4 ∧ v = .slice ao n cc ∧ n = 16 / 2 ^ h ∧ OwS ab nb cb wr (w.heap.size + 1) w.heap.size bs (h + 1) ∧ (∃ l, Lists wr v l ∧ l.map (·.2) = lvP bs h) ∧ Kp [] w wr) (fun v _ => lenOf v)
      case atStart => exact ⟨0, 16, cc, ao, by omega, rfl, by decide, unhide HO, unhide HL6, unhide HK6⟩
      case round =>
        clear HO HL6 HK6 hc5 hf5 hc1
        obtain ⟨h, n, c3, a3, hh, rfl, hn, Or, ⟨l, hL, hle⟩, Kr⟩ := hrel
        have HO := hide Or
        have HL := hide hL
        have HLE := hide hle
        have HKr := hide Kr
        have HNN := hide hn
        clear Or hL hle Kr
        by_cases hlt : h < 4
        · obtain ⟨M, hM⟩ : ∃ M, M = n / 2 := ⟨_, rfl⟩
          have hnM : n = 2 * M ∧ 1 ≤ M ∧ M ≤ 8 ∧ M = 16 / 2 ^ (h + 1) := by
            rw [hM, hn]
            rcases (by omega : h = 0 ∨ h = 1 ∨ h = 2 ∨ h = 3) with rfl | rfl | rfl | rfl <;> decide
          have HNM := hide hnM
          have hn1 : (1 : Int) < (n : Int) := by omega
          have hni : (n : Int) ≤ 16 := by omega
          have hln : (lvP bs h).length = n := by rw [lvP_len]; exact hn.symm
          have HLN0 := hide hln
          obtain ⟨ls, hls⟩ : ∃ ls, ls = lvP bs h := ⟨_, rfl⟩
          have HLS := hide hls
          have HML : Hid (∀ x ∈ ls, x.length ≤ 1000) := fun x hx => by rw [hls] at hx; rw [(lvP_all bs h x hx).1]; omega
          rw [← hls] at HLE HLN0
          clear hn hM hnM hln hls
          obtain ⟨wo, hwo⟩ : ∃ wo, wo = wr := ⟨_, rfl⟩
          subst hwo
          go_wp2_with fail
          go_loopw [6, 7] (fun v i wi => ∃ (k m cc : Nat) (ao : Option Addr), k ≤ M ∧ v = .slice ao m cc ∧ i = .int .i64 ((2 * k : Nat) : Int) ∧ Acc wo ((abvP ls).take k) v wi) (fun _ i _ => 2 * M - (intOf i).toNat)
          case atStart => exact ⟨0, 0, 0, none, by omega, rfl, rfl, acc_nil _⟩
          case round =>
            obtain ⟨k, m, cc, ao, hk, rfl, rfl, Ar⟩ := hrel
            obtain ⟨wi, hwi⟩ : ∃ wi, wi = wr := ⟨_, rfl⟩
            subst hwi
            have HA := hide Ar
            clear Ar
            obtain ⟨j, hj⟩ : ∃ j, j = 2 * k := ⟨_, rfl⟩
            rw [← hj]
            by_cases hlt' : k < M
            · have hlt2 : (j : Int) < (n : Int) := by have := unhide HNM; omega
              have hlt3 : (j : Int) + 1 < (n : Int) := by have := unhide HNM; omega
              have hwr : IntKind.i64.wrap ((j : Int) + 1) = (j : Int) + 1 := wrap_at rfl (by omega) (by omega)
              obtain ⟨b, off, ax, nx, cx, rfl, hcx, hSx, hBx⟩ := lists_at (unhide HL) (unhide HLE) j (by have := unhide HLN0; omega)
              obtain ⟨b', off', ay, ny, cy, e, hcy, hSy, hBy⟩ := lists_at (unhide HL) (unhide HLE) (j + 1) (by have := unhide HLN0; omega)
              injection e with e
              injection e with e1 e2
              subst e1
              subst e2
              have hxl : (ls.getD j []).length ≤ 1000 := unhide HML _ (getD_mem (by have := unhide HLN0; omega))
              have hyl : (ls.getD (j + 1) []).length ≤ 1000 := unhide HML _ (getD_mem (by have := unhide HLN0; omega))
              obtain ⟨r, hr⟩ : ∃ r, r = nodeP (ls.getD j []) (ls.getD (j + 1) []) := ⟨_, rfl⟩
              have HRB : Hid (Bs r) := by rw [hr]; exact nodeP_bs _ _
              have HE : Hid ((abvP ls).take (k + 1) = (abvP ls).take k ++ [r]) := by rw [hr, hj]; exact abv_take ls k (by have := unhide HLN0; have := unhide HNM; omega)
              have HLN : Hid (((abvP ls).take k).length ≤ 1000000) := by rw [List.length_take]; show min k _ ≤ 1000000; omega
              obtain ⟨X, hX⟩ : ∃ X, X = ls.getD j [] := ⟨_, rfl⟩
              obtain ⟨Y, hY⟩ : ∃ Y, Y = ls.getD (j + 1) [] := ⟨_, rfl⟩
              rw [← hX] at hSx hBx hxl hr
              rw [← hY] at hSy hBy hyl hr
              have HKi := hide (unhide HA).kp
              have HCX : Hid (∀ w', Kp [] wi.drew w' → w'.cell? ⟨b, off + j, none⟩ = some (.slice ax nx cx)) := fun w' k' => (((unhide HKi).trans (kp_drew wi)).trans k').cell hcx (by simp)
              have HCY : Hid (∀ w', Kp [] wi.drew w' → w'.cell? ⟨b, off + (j + 1), none⟩ = some (.slice ay ny cy)) := fun w' k' => (((unhide HKi).trans (kp_drew wi)).trans k').cell hcy (by simp)
              have HSX : Hid (∀ w', Kp [] wi.drew w' → Sl w' (.slice ax nx cx) X) := fun w' k' => hSx.kept (((unhide HKi).trans (kp_drew wi)).trans k') (by simp)
              have HSY : Hid (∀ w', Kp [] wi.drew w' → Sl w' (.slice ay ny cy) Y) := fun w' k' => hSy.kept (((unhide HKi).trans (kp_drew wi)).trans k') (by simp)
              have HR : Hid (r = sha (14 :: [X, Y].flatten)) := hide (by rw [hr, nodeP]; simp)
              have HBX := hide hBx
              have HBY := hide hBy
              have HJ : Hid ((j : Int) = 2 * (k : Int)) := hide (by omega)
              have HJN := hide hj
              clear hX hY hcx hcy hSx hSy hBx hBy hr hj
              go_wp2_with fail
              refine region_grow_tail 13 Tryz.mixed [Is (.slice ao m cc), Is (.slice (some ⟨b, off, none⟩) n c3), Is (.int .i64 j), Is (.pointer (some ⟨b, off + j, none⟩)), Is (.slice ax nx cx), Is (.slice (some ⟨b, off, none⟩) n c3), Is (.int .i64 j), Is (.int .i64 (j + 1)), Is (.pointer (some ⟨b, off + (j + 1), none⟩)), Is (.slice ay ny cy), LsM [X, Y], RowT wi.heap.size r, One wi.heap.size r] [[(6, none)], [(4, none)], [(7, none)], [(41, some 1), (42, some 2)], [(43, some 3)], [(4, none)], [(7, none)], [(46, some 6)], [(45, some 5), (47, some 7)], [(48, some 8)], [(44, some 4), (49, some 9)], [(50, some 10)], [(51, some 11)]] (by kernel_rfl) ?_ ?_ ?_
              all_goals try simp only [List.take_succ_cons, List.take_zero, List.drop_succ_cons, List.drop_zero]
              · simp only [List.mem_cons, List.not_mem_nil, or_false]
                intro R hR
                rcases hR with rfl | rfl | rfl | rfl | rfl | rfl | rfl | rfl | rfl | rfl | rfl | rfl | rfl <;> first | exact stable_is _ | exact stable_lsm _ | exact stable_row _ _ | exact stable_one _ _
              · refine steps_cons (fun a w hk hn => ?_) ?_
                · have h6 : a.eval (.tmp 6) = .slice ao m cc := hn.1
                  clear hn
                  refine wants_plain rfl ?_
                  exact grown_move (.tmp 6) rfl h6
                refine steps_cons (fun a w hk hn => ?_) ?_
                · have h4 : a.eval (.tmp 4) = .slice (some ⟨b, off, none⟩) n c3 := hn.1
                  clear hn
                  refine wants_plain rfl ?_
                  exact grown_move (.tmp 4) rfl h4
                refine steps_cons (fun a w hk hn => ?_) ?_
                · have h7 : a.eval (.tmp 7) = .int .i64 j := hn.1
                  clear hn
                  refine wants_plain rfl ?_
                  exact grown_move (.tmp 7) rfl h7
                refine steps_cons (fun a w hk hn => ?_) ?_
                · have h41 : a.eval (.tmp 41) = .slice (some ⟨b, off, none⟩) n c3 := hn.1
                  have h42 : a.eval (.tmp 42) = .int .i64 j := hn.2.1
                  clear hn
                  refine wants_plain rfl ?_
                  refine grown_run (v := .pointer (some ⟨b, off + j, none⟩)) ?_ (Kp.refl _ _) rfl
                  obtain ⟨ρ, hρ, hc, hf, hg⟩ := eval_is a
                  rw [hρ] at h41 h42 ⊢
                  simp [go_sem, h41, h42, hlt2]
                refine steps_cons (fun a w hk hn => ?_) ?_
                · have h43 : a.eval (.tmp 43) = .pointer (some ⟨b, off + j, none⟩) := hn.1
                  clear hn
                  refine wants_plain rfl ?_
                  refine grown_run (v := .slice ax nx cx) ?_ (Kp.refl _ _) rfl
                  have hcell := unhide HCX w hk
                  obtain ⟨ρ, hρ, hc, hf, hg⟩ := eval_is a
                  rw [hρ] at h43 ⊢
                  simp [go_sem, h43, hcell]
                refine steps_cons (fun a w hk hn => ?_) ?_
                · have h4 : a.eval (.tmp 4) = .slice (some ⟨b, off, none⟩) n c3 := hn.1
                  clear hn
                  refine wants_plain rfl ?_
                  exact grown_move (.tmp 4) rfl h4
                refine steps_cons (fun a w hk hn => ?_) ?_
                · have h7 : a.eval (.tmp 7) = .int .i64 j := hn.1
                  clear hn
                  refine wants_plain rfl ?_
                  exact grown_move (.tmp 7) rfl h7
                refine steps_cons (fun a w hk hn => ?_) ?_
                · have h46 : a.eval (.tmp 46) = .int .i64 j := hn.1
                  clear hn
                  refine wants_plain rfl ?_
                  refine grown_run (v := .int .i64 (j + 1)) ?_ (Kp.refl _ _) rfl
                  obtain ⟨ρ, hρ, hc, hf, hg⟩ := eval_is a
                  rw [hρ] at h46 ⊢
                  simp [go_sem, hc, h46, hwr]
                refine steps_cons (fun a w hk hn => ?_) ?_
                · have h45 : a.eval (.tmp 45) = .slice (some ⟨b, off, none⟩) n c3 := hn.1
                  have h47 : a.eval (.tmp 47) = .int .i64 (j + 1) := hn.2.1
                  clear hn
                  refine wants_plain rfl ?_
                  refine grown_run (v := .pointer (some ⟨b, off + (j + 1), none⟩)) ?_ (Kp.refl _ _) rfl
                  obtain ⟨ρ, hρ, hc, hf, hg⟩ := eval_is a
                  rw [hρ] at h45 h47 ⊢
                  simp [go_sem, h45, h47, hlt3]
                  intro h; omega
                refine steps_cons (fun a w hk hn => ?_) ?_
                · have h48 : a.eval (.tmp 48) = .pointer (some ⟨b, off + (j + 1), none⟩) := hn.1
                  clear hn
                  refine wants_plain rfl ?_
                  refine grown_run (v := .slice ay ny cy) ?_ (Kp.refl _ _) rfl
                  have hcell := unhide HCY w hk
                  obtain ⟨ρ, hρ, hc, hf, hg⟩ := eval_is a
                  rw [hρ] at h48 ⊢
                  simp [go_sem, h48, hcell]
                refine steps_cons (fun a w hk hn => ?_) ?_
                · have h44 : a.eval (.tmp 44) = .slice ax nx cx := hn.1
                  have h49 : a.eval (.tmp 49) = .slice ay ny cy := hn.2.1
                  clear hn
                  refine wants_plain rfl ?_
                  exact grown_build2 (.tmp 44) (.tmp 49) rfl X Y (by rw [h44]; exact unhide HSX w hk) (unhide HBX) (by rw [h49]; exact unhide HSY w hk) (unhide HBY)
                refine steps_cons (fun a w hk hn => ?_) ?_
                · have h50 : (LsM [X, Y]) (a.eval (.tmp 50)) w := hn.1
                  clear hn
                  refine wants_plain rfl ?_
                  refine grown_call (f := 40) rfl Tryz.func40 (by kernel_rfl) (by kernel_rfl) ?_
                  simp only [List.map_toArray, List.map_cons, List.map_nil]
                  refine (reftagged_lsm r (unhide HR) h50 (by omega) (by omega) (by simp) (by simp; omega)).mono ?_
                  rintro e w' ⟨ao, m, c, rfl, R, K⟩
                  exact ⟨_, rfl, K, owns_rebase R (fun i hi => Nat.le_trans hk.size (R.own i hi))⟩
                refine steps_cons (fun a w hk hn => ?_) ?_
                · have h51 : (RowT wi.heap.size r) (a.eval (.tmp 51)) w := hn.1
                  clear hn
                  refine wants_plain rfl ?_
                  exact grown_one (.tmp 51) rfl wi.heap.size r h51
                exact trivial
              intro W1 hkW1
              rintro _ rfl
              rintro _ rfl
              rintro _ rfl
              rintro _ rfl
              rintro _ rfl
              rintro _ rfl
              rintro _ rfl
              rintro _ rfl
              rintro _ rfl
              rintro _ rfl
              intro v50 h50
              intro v51 h51
              intro v52 h52
              refine fin_nil ?_
              simp only [Act.put, List.set_cons_zero, List.set_cons_succ, List.setIfInBounds_toArray]
              go_wp2_with (at_builtin; refine wpList_accg rfl (.tmp 40) (.tmp 52) rfl _ _ rfl (unhide HA) (unhide HLN) r ((kp_drew wi).trans hkW1) v52 rfl h52 (unhide HRB) ?_; intro ao5 m5 c5 w5 A5)
              go_roundw
              case rel => exact ⟨k + 1, m5, c5, ao5, by omega, rfl, by have := unhide HJ; go_num, by have e := unhide HE; rw [← e] at A5; exact A5⟩
              case measure => simp [intOf]; have := unhide HJN; omega
            · obtain rfl : k = M := by omega
              have hlt2 : ¬ (j : Int) < (n : Int) := by have := unhide HNM; omega
              have HT : Hid ((abvP ls).take k = abvP ls) := List.take_of_length_le (by rw [abvP_len]; have := unhide HLN0; have := unhide HNM; omega)
              rw [unhide HT] at HA
              have hmk : m = k := by rw [(unhide HA).cap, abvP_len]; have := unhide HLN0; have := unhide HNM; omega
              subst hmk
              obtain ⟨lv, xs, o1, o2, o3, o4, o5, o6⟩ := (unhide HO).kept (unhide HA).kp
              have oe : lvP bs (h + 1) = abvP ls := by rw [unhide HLS]; rfl
              have hgo : w.heap.size < wo.heap.size := by
                obtain ⟨_, _, p1, _⟩ := unhide HO
                exact (Array.getElem?_eq_some_iff.1 p1).1
              have hpv : ∀ q, lv.ownBlock = some q → q < wo.heap.size := by
                obtain ⟨lv0, xs0, p1, _, p3, _⟩ := unhide HO
                have e := (unhide HA).kp.heap p1 (by simp)
                rw [o1] at e
                have e' : lv = lv0 := by injection e with e; injection e with e; simp at e; exact e
                subst e'
                exact fun q hq => (p3.own q hq).2
              have HLo : Hid (Lo w.heap.size lv wi (.slice ao m cc) (lvP bs (h + 1))) := by rw [oe]; exact Lo.of_acc (unhide HA) (by rw [abvP_len]; have := unhide HLN0; omega) hgo hpv
              have hc1 : wi.cell? ⟨w.heap.size, 1, none⟩ = some lv := by rw [cell_of_row wi w.heap.size 1 _ _ _ o1]; rfl
              obtain ⟨la, lc, hlv⟩ := o3.shape
              have hKi := (unhide HKr).trans (unhide HA).kp
              have hbi : w.heap.size + 1 ≤ wi.heap.size := by have := (unhide HA).kp.size; omega
              have H1 := hide o1
              have H2 := hide o2
              have H3 := hide o3
              have H5 := hide o5
              have H6 := hide o6
              have HKI := hide hKi
              have HLV := hide hlv
              have hxl : xs.length ≤ 10 := by rw [o5]; omega
              have HXL := hide hxl
              obtain ⟨N, hN⟩ : ∃ N, N = xs.length := ⟨_, rfl⟩
              rw [← hN] at hlv
              subst hlv
              clear o1 o2 o3 o5 o6 hKi hpv hgo oe hxl hN HT HO HL HLE HLN0 HML HA hj
              go_wp2_with (at_builtin; refine wpList_append_rowl rfl (.tmp 59) (.tmp 61) rfl (w.heap.size + 1) (.slice la N lc) xs rfl ((unhide H3).kept ((Kp.refl [] wi).alloc _) (by simp)) ⟨wi.heap.size, 0, none⟩ 1 [.slice ao m cc] rfl (fun j u hu => World.news_of_block (heap_alloc_new wi _) j u (by simpa using hu)) (by simp [Value.oneCell']) (by have := unhide HXL; simp; omega) (by simp; omega) ?_; intro ao5 m5 c5 w5 R5 S5; refine Hid.out ?_)
              have S5' := S5.after ((Kp.refl [] wi).alloc (.cells #[.slice ao m cc] 33))
              have hng : ∀ q, (Value.slice la N lc).ownBlock = some q → q ≠ w.heap.size := fun q hq => by have := ((unhide H3).own q hq).1; omega
              have G5 : w5.heap[w.heap.size]? = some _ := S5'.1.heap (unhide H1) (fun hm => hng _ (by simpa using hm) rfl)
              have hc5 : w5.cell? ⟨w.heap.size, 1, none⟩ = some (.slice la N lc) := by rw [cell_of_row w5 w.heap.size 1 _ _ _ G5]; rfl
              have hf5 : w5.frozen? ⟨w.heap.size, 1, none⟩ = false := frozen_of_row w5 w.heap.size 1 _ _ G5
              have HO6 : Hid (OwS ab nb cb (w5.setCell ⟨w.heap.size, 1, none⟩ (.slice ao5 m5 c5)) (w.heap.size + 1) w.heap.size bs (h + 1 + 1)) := ow_push (unhide H1) (unhide HNE) (unhide H2) (unhide H3) (by omega) (unhide H5) (unhide H6) (unhide HLo) R5 S5'
              have HK6 : Hid (Kp [] w (w5.setCell ⟨w.heap.size, 1, none⟩ (.slice ao5 m5 c5))) := ((unhide HKI).then S5'.1 (fun i hi => .inr (by have := ((unhide H3).own i (by simpa using hi)).1; omega))).setCell (p := ⟨w.heap.size, 1, none⟩) (.inr (by simp)) _
              have HL6 : Hid (∃ l, Lists (w5.setCell ⟨w.heap.size, 1, none⟩ (.slice ao5 m5 c5)) (.slice ao m cc) l ∧ l.map (·.2) = lvP bs (h + 1)) := (((unhide HLo).step S5').store (setCell_kp _ _ _ _)).lists
              clear R5 S5 S5' G5 HLo H1 H2 H3 H5 H6 hng hc1
              refine hide ?_
              go_wp2_with fail
              go_roundw
              case rel => exact ⟨h + 1, m, cc, ao, by omega, rfl, (unhide HNM).2.2.2, unhide HO6, unhide HL6, unhide HK6⟩
              case measure => simp [lenOf]; have := unhide HNM; omega
        · obtain rfl : h = 4 := by omega
          have hn1 : n = 1 := hn
          subst hn1
          clear HL HLE
          go_wp2_with fail
          go_ret
          exact ⟨_, _, rfl, ⟨ab, nb, cb, rfl, unhide HO⟩, unhide HKr, Nat.le_refl _⟩
theorem new_ownA (vb : Value) (bs : List Int) (w : World) (hS : Sl w vb bs) (hB : Bs bs) (hl : bs.length = 32) :
    Calls Tryz.prog 99 #[vb] w fun e w' => ∃ g base, e = .returned (.pointer (some ⟨g, 0, none⟩)) ∧ Ow w' base g bs 5 ∧ Kp [] w w' ∧ w.heap.size ≤ g := by
  refine (new_ownS vb bs w hS hB hl).mono ?_
  rintro e w' ⟨g, base, h1, ⟨sa, sn, sc, _, h2⟩, h3, h4⟩
  exact ⟨g, base, h1, ⟨sa, sn, sc, h2⟩, h3, h4⟩
theorem new_own (vb : Value) (bs : List Int) (w : World) (hS : Sl w vb bs) (hB : Bs bs) (hl : bs.length = 32) :
    Calls Tryz.prog 99 #[vb] w fun e w' => ∃ g base, e = .returned (.pointer (some ⟨g, 0, none⟩)) ∧ Ow w' base g bs 5 ∧ Kp [] w w' := by
  refine (new_ownA vb bs w hS hB hl).mono ?_
  rintro e w' ⟨g, base, h1, h2, h3, _⟩
  exact ⟨g, base, h1, h2, h3⟩
end Go.Proofs.YtillhpgdlmeajaaGreatDoor

/-
  The contracts of the reference's owner's Public, and of its Right.
-/
namespace Go.Proofs.YtillhpgdlmeajaaGreatDoor
open Go.RowKit
open Go.Proofs

theorem Ow.open {w : World} {base g : Nat} {bs : List Int} (h : Ow w base g bs 5) : ∃ sa sn sc gl c, w.cell? ⟨g, 0, none⟩ = some (.slice sa sn sc) ∧ w.cell? ⟨g, 1, none⟩ = some (.slice (some ⟨gl, 0, none⟩) 5 c) ∧ Sl w (.slice sa sn sc) bs ∧ (∀ h, h < 5 → ∃ al nl cl l, w.cell? ⟨gl, h, none⟩ = some (.slice al nl cl) ∧ Lists w (.slice al nl cl) l ∧ l.map (·.2) = lvP bs h) := by
  obtain ⟨sa, sn, sc, lv, xs, h1, h2, h3, _, h5, h6⟩ := h
  obtain ⟨gl, c, e, hc⟩ := h3.at (by omega)
  rw [h5] at e
  subst e
  refine ⟨sa, sn, sc, gl, c, by rw [cell_of_row w g 0 _ _ _ h1]; rfl, by rw [cell_of_row w g 1 _ _ _ h1]; rfl, h2.1, fun h hh => ?_⟩
  have hx := hc h (by omega)
  obtain ⟨ao, n, c', l, e, k1, k2, _⟩ := h6 h (by omega)
  rw [e] at hx k1
  exact ⟨ao, n, c', l, hx, k1, k2⟩

theorem Ow.openA {w : World} {base g : Nat} {bs : List Int} (h : Ow w base g bs 5) : ∃ sa sn sc gl c, w.cell? ⟨g, 0, none⟩ = some (.slice sa sn sc) ∧ w.cell? ⟨g, 1, none⟩ = some (.slice (some ⟨gl, 0, none⟩) 5 c) ∧ Sl w (.slice sa sn sc) bs ∧ (∀ h, h < 5 → ∃ al nl cl l, w.cell? ⟨gl, h, none⟩ = some (.slice al nl cl) ∧ Lists w (.slice al nl cl) l ∧ l.map (·.2) = lvP bs h ∧ ∀ y ∈ l, ∀ q, y.1.ownBlock = some q → g < q) := by
  obtain ⟨sa, sn, sc, lv, xs, h1, h2, h3, _, h5, h6⟩ := h
  obtain ⟨gl, c, e, hc⟩ := h3.at (by omega)
  rw [h5] at e
  subst e
  refine ⟨sa, sn, sc, gl, c, by rw [cell_of_row w g 0 _ _ _ h1]; rfl, by rw [cell_of_row w g 1 _ _ _ h1]; rfl, h2.1, fun h hh => ?_⟩
  have hx := hc h (by omega)
  obtain ⟨ao, n, c', l, e, k1, k2, k3⟩ := h6 h (by omega)
  rw [e] at hx k1
  exact ⟨ao, n, c', l, hx, k1, k2, fun y hy q hq => (k3 q (.inr ⟨y, hy, hq⟩)).2.1⟩
theorem lists_atA {w : World} {ao : Option Addr} {n c : Nat} {l : List (Value × List Int)} {ls : List (List Int)} (hL : Lists w (.slice ao n c) l) (he : l.map (·.2) = ls) (i : Nat) (hi : i < ls.length) :
    ∃ b off ax nx cx, ao = some ⟨b, off, none⟩ ∧ w.cell? ⟨b, off + i, none⟩ = some (.slice ax nx cx) ∧ Sl w (.slice ax nx cx) (ls.getD i []) ∧ Bs (ls.getD i []) ∧ ∃ y ∈ l, y.1 = .slice ax nx cx := by
  subst he
  obtain ⟨ao', c', e, _, h2⟩ := hL
  have hi2 : i < l.length := by simpa using hi
  obtain ⟨b, off, e2, h3, h4, h5⟩ := h2 i hi2
  injection e with e0
  subst e0
  have hg : (l.map (·.2)).getD i [] = l[i].2 := by simp [List.getD, hi2]
  rw [hg]
  obtain ⟨ax, cx, e4, _⟩ := id h4
  have e5 : ∃ y ∈ l, y.1 = .slice ax l[i].2.length cx := ⟨l[i], List.getElem_mem hi2, e4⟩
  rw [e4] at h3 h4
  exact ⟨b, off, ax, _, cx, e2, h3, h4, h5, e5⟩

theorem own_public (g base : Nat) (bs r : List Int) (hr : r = topP bs) (w : World) (hO : Ow w base g bs 5) :
    Calls Tryz.prog 102 #[.pointer (some ⟨g, 0, none⟩)] w fun e w' => ∃ ao m c, e = .returned (.slice ao m c) ∧ Sl w (.slice ao m c) r ∧ w' = w := by
  obtain ⟨sa, sn, sc, gl, c, h0, h1, _, h2⟩ := hO.open
  obtain ⟨al, nl, cl, l, h3, h4, h5⟩ := h2 4 (by omega)
  obtain ⟨b, off, ay, ny, cy, rfl, hc, hS, _⟩ := lists_at h4 h5 0 (by rw [lvP_len]; decide)
  have hn : nl = 1 := by
    obtain ⟨ao', c', e, _⟩ := h4
    injection e with _ e2
    rw [e2, ← List.length_map (f := (·.2)), h5, lvP_len]
  subst hn
  have HS : Hid (Sl w (.slice ay ny cy) r) := by rw [hr]; exact hS
  rw [Nat.add_zero] at hc
  clear h2 h4 h5 hS hO hr h0
  go_enter Tryz.func102, Tryz.ntmps102
  go_wp2_with fail
  go_ret
  exact ⟨ay, ny, cy, rfl, unhide HS, rfl⟩

set_option maxRecDepth 100000 in
set_option maxHeartbeats 2000000 in
theorem refright_any (v : Value) (i : Int) (ps qs : List (List Int)) (b : Bool) (hb : b = rgtP i ps qs) (w : World) (hV : SigV w v i ps qs) (hi : -9223372036854775808 ≤ i ∧ i ≤ 9223372036854775807) :
    Calls Tryz.prog 118 #[v] w fun e w' => e = .returned (.bool b) ∧ Kp [] w w' := by
  obtain ⟨ap, np, cp, aq, nq, cq, lp, lq, rfl, hP, hp, hQ, hq, hnp, hnq⟩ := hV.shape
  obtain ⟨ob, hob⟩ : ∃ o : Obj, o = (.cells #[.int .i64 i, .slice ap np cp, .slice aq nq cq] 70) := ⟨_, rfl⟩
  have K1 : Kp [] w (w.alloc ob) := (Kp.refl [] w).alloc ob
  rw [hob] at K1
  have HK1 := hide K1
  have HBb := hide hb
  have hfalse : ¬ ((0 ≤ i ∧ i < 16) ∧ np = 64 ∧ nq = 4) → b = false := fun h => by
    rw [hb]
    cases hr : rgtP i ps qs with
    | false => rfl
    | true =>
      have := (rgtP_iff i ps qs).1 hr
      exact absurd ⟨this.1, by rw [hnp]; exact this.2.1.1, by rw [hnq]; exact this.2.2.1⟩ h
  have hnpi : (np : Int) = 64 ↔ np = 64 := by omega
  have hnqi : (nq : Int) = 4 ↔ nq = 4 := by omega
  clear hob K1 hV hb
  by_cases h0 : i < 0
  · obtain rfl : b = false := hfalse (by omega)
    clear hP hQ hp hq hnp hnq
    go_enter Tryz.func118, Tryz.ntmps118
    go_wp2_with fail
    go_ret
    exact ⟨rfl, unhide HK1⟩
  · by_cases h16 : 16 ≤ i
    · obtain rfl : b = false := hfalse (by omega)
      clear hP hQ hp hq hnp hnq
      go_enter Tryz.func118, Tryz.ntmps118
      go_wp2_with fail
      go_ret
      exact ⟨rfl, unhide HK1⟩
    · by_cases hn1 : np = 64
      · by_cases hn2 : nq = 4
        · subst hn1
          subst hn2
          obtain ⟨o1, ho1⟩ : ∃ o : Obj, o = (.cells #[.int .i64 i, .slice ap 64 cp, .slice aq 4 cq] 70) := ⟨_, rfl⟩
          obtain ⟨o2, ho2⟩ : ∃ o : Obj, o = (.cells #[.slice ap 64 cp, .slice aq 4 cq] 33) := ⟨_, rfl⟩
          obtain ⟨W, hW⟩ : ∃ W, W = (w.alloc o1).alloc o2 := ⟨_, rfl⟩
          have KW : Kp [] w W := by rw [hW]; exact ((Kp.refl [] w).alloc o1).alloc o2
          have GW : W.heap[w.heap.size + 1]? = some o2 := by rw [hW]; exact heap_alloc2_new w o1 o2
          rw [ho2] at GW
          have c0 : W.cell? ⟨w.heap.size + 1, 0, none⟩ = some (.slice ap 64 cp) := by rw [cell_of_row W (w.heap.size + 1) 0 _ _ _ GW]; rfl
          have c1 : W.cell? ⟨w.heap.size + 1, 1, none⟩ = some (.slice aq 4 cq) := by rw [cell_of_row W (w.heap.size + 1) 1 _ _ _ GW]; rfl
          have HWE : Hid (W = (w.alloc (.cells #[.int .i64 i, .slice ap 64 cp, .slice aq 4 cq] 70)).alloc (.cells #[.slice ap 64 cp, .slice aq 4 cq] 33)) := by rw [hW, ho1, ho2]; exact rfl
          have HP := hide (hP.kept KW)
          have HQ := hide (hQ.kept KW)
          have Hp := hide hp
          have Hq := hide hq
          have HNp := hide hnp
          have HNq := hide hnq
          have HKW := hide KW
          have hbad : ∀ x, (x ∈ ps ∨ x ∈ qs) → x.length ≠ 32 → b = false := fun x hx hne => by
            rw [unhide HBb]
            cases hr : rgtP i ps qs with
            | false => rfl
            | true =>
              have := (rgtP_iff i ps qs).1 hr
              rcases hx with hx | hx
              · exact absurd (this.2.1.2 x hx) hne
              · exact absurd (this.2.2.2 x hx) hne
          have HBAD := hide hbad
          clear hP hQ hp hq hnp hnq ho1 ho2 hW KW GW hbad hfalse
          go_enter Tryz.func118, Tryz.ntmps118
          go_wp2_with fail
          rw [← unhide HWE]
          go_loopw [32] (fun j wr => ∃ s : Nat, s ≤ 2 ∧ j = .int .i64 s ∧ (1 ≤ s → ∀ x ∈ ps, x.length = 32) ∧ (2 ≤ s → ∀ x ∈ qs, x.length = 32) ∧ wr = W) (fun j _ => 2 - (intOf j).toNat)
          case atStart => exact ⟨0, by omega, rfl, by omega, by omega, rfl⟩
          case round =>
            obtain ⟨s, hs, rfl, g1, g2, hw⟩ := hrel
            subst hw
            have H1 := hide g1
            have H2 := hide g2
            clear g1 g2
            rcases (by omega : s = 0 ∨ s = 1 ∨ s = 2) with rfl | rfl | rfl
            · go_wp2_with fail
              go_loopw [5] (fun j wi => ∃ k : Nat, k ≤ 64 ∧ j = .int .i64 k ∧ (∀ x ∈ ps.take k, x.length = 32) ∧ wi = wr) (fun j _ => 64 - (intOf j).toNat)
              case atStart => exact ⟨0, by omega, rfl, by simp, rfl⟩
              case round =>
                obtain ⟨k, hk, rfl, hg, hw⟩ := hrel
                subst hw
                have HGd := hide hg
                clear hg
                by_cases hlt : k < 64
                · have hlt2 : (k : Int) < 64 := by omega
                  have hkl : k < ps.length := by have := unhide HNp; omega
                  obtain ⟨b', off, ay, ny, cy, rfl, hc, hSy, _⟩ := lists_at (unhide HP) (unhide Hp) k hkl
                  have hnl : ny = (ps.getD k []).length := by obtain ⟨_, _, e, _⟩ := hSy; injection e
                  by_cases h32 : ny = 32
                  · subst h32
                    have HG2 : Hid (∀ x ∈ ps.take (k + 1), x.length = 32) := fun x hx => by
                      rw [List.take_succ_eq_append_getElem hkl] at hx
                      rcases List.mem_append.1 hx with h | h
                      · exact unhide HGd x h
                      · obtain rfl : x = ps[k] := by simpa using h
                        have : ps.getD k [] = ps[k] := by simp [List.getD, hkl]
                        rw [← this]; exact hnl.symm
                    clear hSy hnl
                    go_wp2_with fail
                    go_roundw
                    case rel => exact ⟨k + 1, by omega, by go_num, unhide HG2, by trivial⟩
                    case measure => simp [intOf]; omega
                  · have hbf : b = false := unhide HBAD (ps.getD k []) (.inl (getD_mem hkl)) (by rw [← hnl]; exact h32)
                    have hni : ¬ (ny : Int) = 32 := by omega
                    subst hbf
                    clear hSy hnl
                    go_wp2_with fail
                    go_ret
                    exact ⟨rfl, unhide HKW⟩
                · have hk64 : k = 64 := by omega
                  have HA1 : Hid (∀ x ∈ ps, x.length = 32) := by
                    have := unhide HGd
                    rw [List.take_of_length_le (by have := unhide HNp; omega)] at this
                    exact this
                  have hlt2 : ¬ (k : Int) < 64 := by omega
                  clear hk64
                  go_wp2_with fail
                  go_roundw
                  case rel => exact ⟨0 + 1, by omega, by go_num, fun _ => unhide HA1, by omega, by trivial⟩
                  case measure => simp [intOf]
            · go_wp2_with fail
              go_loopw [5] (fun j wi => ∃ k : Nat, k ≤ 4 ∧ j = .int .i64 k ∧ (∀ x ∈ qs.take k, x.length = 32) ∧ wi = wr) (fun j _ => 4 - (intOf j).toNat)
              case atStart => exact ⟨0, by omega, rfl, by simp, rfl⟩
              case round =>
                obtain ⟨k, hk, rfl, hg, hw⟩ := hrel
                subst hw
                have HGd := hide hg
                clear hg
                by_cases hlt : k < 4
                · have hlt2 : (k : Int) < 4 := by omega
                  have hkl : k < qs.length := by have := unhide HNq; omega
                  obtain ⟨b', off, ay, ny, cy, rfl, hc, hSy, _⟩ := lists_at (unhide HQ) (unhide Hq) k hkl
                  have hnl : ny = (qs.getD k []).length := by obtain ⟨_, _, e, _⟩ := hSy; injection e
                  by_cases h32 : ny = 32
                  · subst h32
                    have HG2 : Hid (∀ x ∈ qs.take (k + 1), x.length = 32) := fun x hx => by
                      rw [List.take_succ_eq_append_getElem hkl] at hx
                      rcases List.mem_append.1 hx with h | h
                      · exact unhide HGd x h
                      · obtain rfl : x = qs[k] := by simpa using h
                        have : qs.getD k [] = qs[k] := by simp [List.getD, hkl]
                        rw [← this]; exact hnl.symm
                    clear hSy hnl
                    go_wp2_with fail
                    go_roundw
                    case rel => exact ⟨k + 1, by omega, by go_num, unhide HG2, by trivial⟩
                    case measure => simp [intOf]; omega
                  · have hbf : b = false := unhide HBAD (qs.getD k []) (.inr (getD_mem hkl)) (by rw [← hnl]; exact h32)
                    have hni : ¬ (ny : Int) = 32 := by omega
                    subst hbf
                    clear hSy hnl
                    go_wp2_with fail
                    go_ret
                    exact ⟨rfl, unhide HKW⟩
                · have hk64 : k = 4 := by omega
                  have HA1 : Hid (∀ x ∈ qs, x.length = 32) := by
                    have := unhide HGd
                    rw [List.take_of_length_le (by have := unhide HNq; omega)] at this
                    exact this
                  have hlt2 : ¬ (k : Int) < 4 := by omega
                  clear hk64
                  go_wp2_with fail
                  go_roundw
                  case rel => exact ⟨1 + 1, by omega, by go_num, fun _ => unhide H1 (by omega), fun _ => unhide HA1, by trivial⟩
                  case measure => simp [intOf]
            · have hbt : b = true := by
                rw [unhide HBb]
                exact (rgtP_iff i ps qs).2 ⟨by omega, ⟨(unhide HNp).symm, unhide H1 (by omega)⟩, (unhide HNq).symm, unhide H2 (by omega)⟩
              subst hbt
              go_wp2_with fail
              go_ret
              exact ⟨rfl, unhide HKW⟩
        · obtain rfl : b = false := hfalse (by omega)
          subst hn1
          have hni : ¬ (nq : Int) = 4 := by omega
          clear hP hQ hp hq hnp hnq
          go_enter Tryz.func118, Tryz.ntmps118
          go_wp2_with fail
          go_ret
          exact ⟨rfl, unhide HK1⟩
      · obtain rfl : b = false := hfalse (by omega)
        have hni : ¬ (np : Int) = 64 := by omega
        clear hP hQ hp hq hnp hnq
        go_enter Tryz.func118, Tryz.ntmps118
        go_wp2_with fail
        go_ret
        exact ⟨rfl, unhide HK1⟩
end Go.Proofs.YtillhpgdlmeajaaGreatDoor

/-
  The contract of the reference's owner's Sign.
-/
namespace Go.Proofs.YtillhpgdlmeajaaGreatDoor
open Go.RowKit
open Go.Proofs

/-- one more slice, that lies wherever it lies, behind them, at a step of a region that draws its order. -/
theorem step_accs {S : List Nat} {F : Nat → Prop} {w wr w3 : World} {ops : Array Oper} {o : Oper} {a : Act} {K : Act → World → Prop} {Q : Exit → Act → World → Prop} {E : Prop} (hgd : o.guard = none) (s x : Operand)
    (ho : o.op = .call { callee := .builtin .append, args := #[s, x], argTypes := #[33, 33] }) (v : Value) (ls : List (List Int)) (hs : a.eval s = v) (hA : AccS S F w ls v wr) (hl : ls.length ≤ 1000000)
    (vx : Value) (bs : List Int) (hS : Sl wr vx bs) (hB : Bs bs) (hap : ∀ q, vx.ownBlock = some q → v.ownBlock = some q → bs = []) (hF : ∀ q, vx.ownBlock = some q → F q) (g : Nat) (hx : a.eval x = .slice (some ⟨g, 0, none⟩) 1 1) (hc : w3.cell? ⟨g, 0, none⟩ = some vx) (k : Kp [] wr w3)
    (h : ∀ ao m c w', AccS S F w (ls ++ [bs]) (.slice ao m c) w' → RStep wr v w' (.slice ao m c) → K (a.put o.dst (.slice ao m c)) w') :
    if Region.wanted o (yielded ops a.tmps) = true then Oper.wp Tryz.prog o a w3 K Q else E := by
  have hw : Region.wanted o (yielded ops a.tmps) = true := by simp [Region.wanted, hgd]
  rw [if_pos hw]
  obtain ⟨i0, hi0, hz0, hz1, hz2⟩ := info_parts Tryz.infoSl
  obtain ⟨l, hP, hl2, hK, hF4⟩ := hA
  have hP2 := hP.kept k
  obtain ⟨ax, cx, hvx, _⟩ := id hS
  obtain ⟨av, cv, hv⟩ := hP2.1.shape
  have hll : l.length = ls.length := by rw [← hl2]; simp
  have hbase : w.heap.size ≤ w3.heap.size := Nat.le_trans hK.size k.size
  obtain ⟨ys, hys⟩ : ∃ ys, ys = l.map (·.1) := ⟨_, rfl⟩
  have hP2r : RowV w3 w.heap.size v ys := by rw [hys]; exact hP2.1
  have hyl : ys.length ≤ 1000000 := by rw [hys, List.length_map]; omega
  obtain ⟨v', w1, hr, hown1, hgrow, _, hat⟩ := run_append_own_at (P := Tryz.prog) w3 w.heap.size 33 o.type 22 i0 (.slice none 0 0) 1 24 Tryz.underlying33 hi0 hz0 hz1 hz2 rfl (by decide) v ys.length ys hP2r ⟨g, 0, none⟩ 1 1 [vx] (by simp) (fun j u hu => by
    have hj : j = 0 := by have := (List.getElem?_eq_some_iff.1 hu).1; simpa using this
    subst hj
    simp at hu
    subst hu
    exact hc) (by simp [hvx, Value.oneCell']) (by unfold maxLen; omega) (by omega) hbase
  have R : RowV w1 w.heap.size v' (ys ++ [vx]) := by unfold RowV; rw [List.length_append]; exact hown1
  rw [hys] at R
  obtain ⟨ao', c', hv'⟩ := R.shape
  subst hv'
  have st : RStep w3 v w1 (.slice ao' (l.map (·.1) ++ [vx]).length c') := ⟨(Kp.refl _ w3).grown hgrow (fun k hk => .inl (by simp [hk])), fun k hk => by
    rcases hat with e | e
    · exact .inl (e ▸ hk)
    · rw [e] at hk; cases hk; exact .inr (Nat.le_refl _)⟩
  have hKK := h ao' _ c' w1 ⟨l ++ [(vx, bs)], hP2.snoc (hS.kept k (by simp)) hB hap R st, by simp [hl2], (hK.trans (k.mono (by simp))).then st.1 (fun i hi => .inr (hP.1.own i (by simpa using hi))), fun y hy => by
    rcases List.mem_append.1 hy with hy | hy
    · exact hF4 y hy
    · obtain rfl : y = (vx, bs) := by simpa using hy
      exact hF⟩ (st.after k)
  unfold Oper.wp execOp
  simp only [ho, resolve, invoke, builtin, Sem.run_bind, Sem.run_pure, Result.andThen_ok, List.map_toArray, List.map_cons, List.map_nil, hs, hx, hr]
  exact hKK
theorem Ow.lv {w : World} {base g : Nat} {bs : List Int} (hO : Ow w base g bs 5) : ∃ sa sn sc gl c, w.cell? ⟨g, 0, none⟩ = some (.slice sa sn sc) ∧ w.cell? ⟨g, 1, none⟩ = some (.slice (some ⟨gl, 0, none⟩) 5 c) ∧ Sl w (.slice sa sn sc) bs ∧ ∀ h, h < 5 → ∀ j, j < (lvP bs h).length → ∃ b off nl cl ax nx cx, w.cell? ⟨gl, h, none⟩ = some (.slice (some ⟨b, off, none⟩) nl cl) ∧ nl = (lvP bs h).length ∧ w.cell? ⟨b, off + j, none⟩ = some (.slice ax nx cx) ∧ Sl w (.slice ax nx cx) ((lvP bs h).getD j []) ∧ Bs ((lvP bs h).getD j []) ∧ ∀ q, (Value.slice ax nx cx).ownBlock = some q → g < q ∧ q < w.heap.size := by
  obtain ⟨sa, sn, sc, gl, c, h0, h1, h2, h3⟩ := hO.openA
  refine ⟨sa, sn, sc, gl, c, h0, h1, h2, fun h hh j hj => ?_⟩
  obtain ⟨al, nl, cl, l, k1, k2, k3, k4⟩ := h3 h hh
  obtain ⟨b, off, ay, ny, cy, rfl, hc, hS, hB, y, hy, ey⟩ := lists_atA k2 k3 j hj
  have hn : nl = (lvP bs h).length := by
    obtain ⟨ao', c', e, _⟩ := k2
    injection e with _ e2
    rw [e2, ← List.length_map (f := (·.2)), k3]
  refine ⟨b, off, nl, cl, ay, ny, cy, k1, hn, hc, hS, hB, fun q hq => ⟨k4 y hy q (by rw [ey]; exact hq), hS.lt (fun e => ?_) q hq⟩⟩
  have := (lvP_all bs h _ (getD_mem hj)).1
  rw [e] at this
  cases this

set_option maxRecDepth 100000 in
set_option maxHeartbeats 4000000 in
theorem own_signA (g base : Nat) (bs : List Int) (i : Nat) (vm : Value) (ms : List Int) (d : Int) (hd : d = digP ms) (w : World) (hO : Ow w base g bs 5) (hB : Bs bs) (hl : bs.length = 32) (hi : i < 16) (hM : Sl w vm ms) (hMB : Bs ms) (hml : ms.length ≤ 1000) :
    Calls Tryz.prog 101 #[.pointer (some ⟨g, 0, none⟩), .int .i64 i, vm] w fun e w' => ∃ v, e = .returned v ∧ SigA g w' v i (sgnP bs i d) (pthP bs i 4) ∧ Kp [] w w' := by
  have hgw : g < w.heap.size := lt_of_block hO.choose_spec.choose_spec.choose_spec.choose_spec.choose_spec.1
  obtain ⟨sa, sn, sc, gl, lc, h0, h1, hS, hLv⟩ := hO.lv
  obtain ⟨ob, hob⟩ : ∃ o : Obj, o = (.cells #[.int .i64 0, .slice none 0 0, .slice none 0 0] 70) := ⟨_, rfl⟩
  have K1 : Kp [] w (w.alloc ob) := (Kp.refl [] w).alloc ob
  have HC := hide (refsign_any (.slice sa sn sc) bs i vm ms d hd (w.alloc ob) (hS.kept K1 (by simp)) hB (by omega) (hM.kept K1 (by simp)) hMB hml)
  have hc0 : (w.alloc ob).cell? ⟨g, 0, none⟩ = some (.slice sa sn sc) := K1.cell h0 (by simp)
  have G1 : Hid ((w.alloc ob).heap[w.heap.size]? = some ob) := heap_alloc_new w ob
  rw [hob] at K1 HC hc0 G1
  have HK1 := hide K1
  have HLV := hide hLv
  have H1 := hide h1
  obtain ⟨am, cm, hvm, _⟩ := hM
  obtain ⟨nm, hnm⟩ : ∃ n, n = ms.length := ⟨_, rfl⟩
  rw [← hnm] at hvm
  subst hvm
  clear hob K1 hO hB hMB hd hnm h0 h1 hS hLv
  go_enter Tryz.func101, Tryz.ntmps101
  go_wp2_with fail
  refine (unhide HC).mono ?_
  rintro ee w2 ⟨a2, m2, c2, rfl, A2⟩
  have HK2 := hide ((unhide HK1).trans A2.kp)
  have HG2 := hide (A2.kp.heap (unhide G1) (by simp))
  have HL2 : Hid (∃ l, Lists w2 (.slice a2 m2 c2) l ∧ l.map (·.2) = sgnP bs i d ∧ (∀ q, (Value.slice a2 m2 c2).ownBlock = some q → w.heap.size < q ∧ q < w2.heap.size) ∧ ∀ x ∈ l, ∀ q, x.1.ownBlock = some q → w.heap.size < q ∧ q < w2.heap.size) := by
    obtain ⟨l, k1, k2, _⟩ := A2
    have hz : ∀ o : Obj, (w.alloc o).heap.size = w.heap.size + 1 := fun o => by simp
    refine ⟨l, k1.lists (by rw [← List.length_map (f := (·.2)), k2, sgnP, ptsP_len]; omega), k2, fun q hq => ?_, fun x hx q hq => ?_⟩
    · have := k1.1.own q hq; have := k1.1.lt hq; rw [hz] at *; omega
    · have := (k1.2 x hx).1.own q hq; have := (k1.2 x hx).1.lt hq; rw [hz] at *; omega
  have Ga := heap_alloc_new w2 (.cells #[.int .i64 0, .slice none 0 0, .slice none 0 0] 70)
  have HKa : Hid (Kp [] w2 (w2.alloc (.cells #[.int .i64 0, .slice none 0 0, .slice none 0 0] 70))) := (Kp.refl [] w2).alloc _
  clear HC A2 HK1 G1 hc0
  go_wp2_with (refine wpList_store_sig rfl (.tmp 7) (.tmp 17) rfl w2.heap.size rfl _ _ _ _ _ _ Ga rfl ⟨rfl, rfl, rfl⟩ ?_; intro w3 G3 K3)
  obtain ⟨gs, hgs⟩ : ∃ gs, gs = w2.heap.size := ⟨_, rfl⟩
  have hz2 : ∀ o : Obj, (w2.alloc o).heap.size = w2.heap.size + 1 := fun o => by simp
  have hs3 : gs < w3.heap.size := by rw [hgs]; exact (Array.getElem?_eq_some_iff.1 G3).1
  have hws : w.heap.size < gs := by rw [hgs]; exact (Array.getElem?_eq_some_iff.1 (unhide HG2)).1
  have HK3 : Hid (Kp [] w w3) := ((unhide HK2).trans (unhide HKa)).then K3 (fun i hi => .inr (by simp at hi; omega))
  have HQ3 : Hid (Kp [gs] w2 w3) := by rw [hgs]; exact ((unhide HKa).mono (by simp)).trans K3
  rw [← hgs] at G3 ⊢
  have HG3 := hide G3
  have A3 : Hid (AccS [gs] (fun q => g < q ∧ q < w.heap.size) w3 (pthP bs i 0) (.slice none 0 0) w3) := ⟨[], ⟨⟨rfl, .inl ⟨rfl, rfl⟩⟩, fun x hx => by cases hx⟩, rfl, Kp.refl _ _, fun x hx => by cases hx⟩
  have HGS := hide hgs
  clear Ga HKa G3 K3 hz2 hgs
  go_wp2_with fail
  go_loopw [8] (fun j wr => ∃ (h m cc : Nat) (ao : Option Addr), h ≤ 4 ∧ j = .int .i64 h ∧ AccS [gs] (fun q => g < q ∧ q < w.heap.size) w3 (pthP bs i h) (.slice ao m cc) wr ∧ wr.heap[gs]? = some (.cells #[.int .i64 i, .slice a2 m2 c2, .slice ao m cc] 70 (0, 0))) (fun j _ => 4 - (intOf j).toNat)
  case atStart => exact ⟨0, 0, 0, none, by omega, rfl, unhide A3, unhide HG3⟩
  case round =>
    clear A3 HG3
    obtain ⟨h, m, cc, ao, hh, rfl, Ar, Gr⟩ := hrel
    have HA := hide Ar
    have HGr := hide Gr
    have HKr : Hid (Kp [] w wr) := (unhide HK3).then Ar.kp (fun i hi => .inr (by simp at hi; omega))
    clear Ar Gr
    by_cases hlt : h < 4
    · have hlt2 : (h : Int) < 4 := by omega
      have hx16 : i / 2 ^ h < 16 := Nat.lt_of_le_of_lt (Nat.div_le_self _ _) hi
      have hsl : sibP (i / 2 ^ h) < (lvP bs h).length := by rw [lvP_len]; exact sib_lv hi hlt
      have hxor := sib_xor _ hx16
      have hE := pthP_succ bs i h
      obtain ⟨b, off, nl, cl, ax, nx, cx, k1, k2, k3, k4, k5, k6⟩ := unhide HLV h (by omega) _ hsl
      have hshr : (i : Int) / 2 ^ h = ((i / 2 ^ h : Nat) : Int) := by rw [Int.natCast_ediv, Int.natCast_pow]; rfl
      rw [← k2] at hsl
      obtain ⟨x, hx⟩ : ∃ x, x = i / 2 ^ h := ⟨_, rfl⟩
      obtain ⟨s, hs⟩ : ∃ s, s = sibP x := ⟨_, rfl⟩
      rw [← hx] at hxor hsl hE k3 k4 k5 hshr hx16
      rw [← hs] at hxor hsl hE k3 k4 k5
      have hsi : (s : Int) < (nl : Int) := by omega
      obtain ⟨X, hX⟩ : ∃ X, X = (lvP bs h).getD s [] := ⟨_, rfl⟩
      rw [← hX] at hE k4 k5
      have HE := hide hE
      have HLN : Hid ((pthP bs i h).length ≤ 1000000) := by rw [pthP_len]; show h ≤ 1000000; omega
      have hc1 : wr.cell? ⟨g, 1, none⟩ = some (.slice (some ⟨gl, 0, none⟩) 5 lc) := (unhide HKr).cell (unhide H1) (by simp)
      have hc2 : wr.cell? ⟨gl, h, none⟩ = some (.slice (some ⟨b, off, none⟩) nl cl) := (unhide HKr).cell k1 (by simp)
      have hc3 : wr.cell? ⟨b, off + s, none⟩ = some (.slice ax nx cx) := (unhide HKr).cell k3 (by simp)
      have hc4 : wr.cell? ⟨gs, 2, none⟩ = some (.slice ao m cc) := by rw [cell_of_row wr gs 2 _ _ _ (unhide HGr)]; rfl
      have hlt5 : (h : Int) < 5 := by omega
      have hw64 : IntKind.u64.wrap (h : Int) = (h : Int) := by simp [IntKind.wrap, IntKind.signed, IntKind.bits]; omega
      have hmin : min h 64 = h := by omega
      have hgr : gs < wr.heap.size := (Array.getElem?_eq_some_iff.1 (unhide HGr)).1
      have hca : ∀ o, (wr.alloc o).cell? ⟨gs, 2, none⟩ = some (.slice ao m cc) := fun o => (World.cell?_alloc_lt _ _ _ (by exact hgr)).trans hc4
      have HSx := hide (k4.kept (unhide HKr) (by simp))
      have HBx := hide k5
      have HFx := hide k6
      have HAP : Hid (∀ q, (Value.slice ax nx cx).ownBlock = some q → (Value.slice ao m cc).ownBlock = some q → X = []) := fun q h1 h2 => by
        obtain ⟨_, hR, _⟩ := unhide HA
        have := hR.1.own q h2
        have := k6 q h1
        have := (unhide HK3).size
        omega
      clear hE k1 k2 k3 k4 k5 k6 hX hs hx
      go_wp2_with fail
      go_region_law ((refine step_accs (by rfl) (.tmp 23) (.tmp 38) (by rfl) (.slice ao m cc) _ (by rfl) (unhide HA) (unhide HLN) (.slice ax nx cx) X (unhide HSx) (unhide HBx) (unhide HAP) (unhide HFx) wr.heap.size (by rfl) (by exact cell_of_one (heap_alloc_new wr _)) (((Kp.refl [] wr).alloc _).drew) ?_; intro ao5 m5 c5 w5 A5 S5; have G5 : w5.heap[gs]? = some (.cells #[.int .i64 i, .slice a2 m2 c2, .slice ao m cc] 70 (0, 0)) := (S5.1.heap (unhide HGr) (fun hm => (by obtain ⟨_, hR, _⟩ := unhide HA; have := hR.1.own gs (by simpa using hm); omega))); have hc5 : w5.cell? ⟨gs, 2, none⟩ = some (.slice ao m cc) := (by rw [cell_of_row w5 gs 2 _ _ _ G5]; rfl); have hf5 : w5.frozen? ⟨gs, 2, none⟩ = false := frozen_of_row w5 gs 2 _ _ G5))
      all_goals
        have G6 : (w5.setCell ⟨gs, 2, none⟩ (.slice ao5 m5 c5)).heap[gs]? = some (.cells #[.int .i64 i, .slice a2 m2 c2, .slice ao5 m5 c5] 70 (0, 0)) := by
          have := heap_setCell_same w5 gs 2 _ _ (.slice ao5 m5 c5) G5
          simpa using this
        have A6 := A5.off (setCell_kp w5 gs 2 (.slice ao5 m5 c5)) (by simp) (fun i hi e => by subst e; omega) hs3
        have HG6 := hide G6
        have HA6 := hide A6
        clear A5 S5 G5 G6 A6 hc1 hc2 hc3 hc4 hca hc5 hf5 hw64 hmin HSx HAP
        go_wp2_with fail
        go_roundw
        case rel => exact ⟨h + 1, m5, c5, ao5, by omega, by go_num, by rw [unhide HE]; exact unhide HA6, unhide HG6⟩
        case measure => simp [intOf]; omega
    · obtain rfl : h = 4 := by omega
      have HV : Hid (∀ (S : List Nat) w', (∀ q ∈ S, q < g ∨ q = w.heap.size) → Kp S wr w' → SigV w' (.agg #[.int .i64 i, .slice a2 m2 c2, .slice ao m cc]) i (sgnP bs i d) (pthP bs i 4)) := by
        intro S w' hS' k'
        obtain ⟨lp, p1, p2, p3, p4⟩ := unhide HL2
        obtain ⟨lq, q1, q2, q3, q4⟩ := (unhide HA).lists (by rw [pthP_len]; omega)
        have hg := unhide HGS
        have pr := (p1.off (unhide HQ3) (fun q hq => by have := p3 q hq; simp; omega) (fun y hy q hq => by have := p4 y hy q hq; simp; omega)).off (unhide HA).kp (fun q hq => by have := p3 q hq; simp; omega) (fun y hy q hq => by have := p4 y hy q hq; simp; omega)
        refine ⟨_, _, lp, lq, rfl, pr.off k' (fun q hq hm => by have := p3 q hq; have := hS' q hm; omega) (fun y hy q hq hm => by have := p4 y hy q hq; have := hS' q hm; omega), p2, q1.off k' (fun q hq hm => ?_) (fun y hy q hq hm => ?_), q2⟩
        · have := q3 q hq; have := (unhide HK3).size; have := hS' q hm; omega
        · have := q4 y hy q hq; have := hS' q hm; omega
      have G0 : wr.heap[w.heap.size]? = some (.cells #[.int .i64 0, .slice none 0 0, .slice none 0 0] 70) := (unhide HA).kp.heap ((unhide HQ3).heap (unhide HG2) (by simp; omega)) (by simp; omega)
      clear HLV H1 HA
      go_wp2_with (refine wpList_load_row rfl 70 (.tmp 7) rfl gs rfl 70 _ (0, 0) _ (unhide HGr) Tryz.underlying70 rfl Tryz.sigSize ?_; refine Hid.out ?_)
      refine hide ?_
      go_wp2_with (refine wpList_store_sig rfl (.tmp 6) (.tmp 41) rfl w.heap.size rfl _ _ _ _ _ _ G0 rfl ⟨rfl, rfl, rfl⟩ ?_; intro w4 G4 K4)
      refine bodyPost_ret (results_sig1 rfl _ _ w.heap.size _ _ _ (0, 0) rfl G4) rfl ?_
      exact ⟨_, rfl, fun S w5 h5 k5 => unhide HV (w.heap.size :: S) w5 (fun q hq => by rcases List.mem_cons.1 hq with e | e; exact .inr e; exact .inl (h5 q e)) ((K4.mono (by simp)).trans (k5.mono (by simp; intro x hx; exact .inr hx))), (unhide HKr).then K4 (by simp)⟩
theorem own_sign (g base : Nat) (bs : List Int) (i : Nat) (vm : Value) (ms : List Int) (d : Int) (hd : d = digP ms) (w : World) (hO : Ow w base g bs 5) (hB : Bs bs) (hl : bs.length = 32) (hi : i < 16) (hM : Sl w vm ms) (hMB : Bs ms) (hml : ms.length ≤ 1000) :
    Calls Tryz.prog 101 #[.pointer (some ⟨g, 0, none⟩), .int .i64 i, vm] w fun e w' => ∃ v, e = .returned v ∧ SigV w' v i (sgnP bs i d) (pthP bs i 4) ∧ Kp [] w w' := by
  refine (own_signA g base bs i vm ms d hd w hO hB hl hi hM hMB hml).mono ?_
  rintro e w' ⟨v, h1, h2, h3⟩
  exact ⟨v, h1, h2.v, h3⟩
end Go.Proofs.YtillhpgdlmeajaaGreatDoor
