/-
  The contract of the law package's nodes.
-/
import Derived.Test.YtiabccgabbdedaaDoorKCFrom
import Derived.Test.YtiabccgabbdedaaDoorKTRef
namespace Go.Proofs.YtiabccgabbdedaaDoor
open Go.RowKit
open Go.Proofs

theorem bits_and_i64_nat (a b : Nat) (ha : a < 9223372036854775808) (hb : b < 9223372036854775808) : bits .and .i64 (a : Int) (b : Int) = ((a &&& b : Nat) : Int) := by
  have hx : a &&& b < 2 ^ 63 := Nat.and_lt_two_pow _ (by omega)
  have h1 : (BitVec.ofInt 64 (a : Int)).toNat = a := by
    rw [BitVec.ofInt_natCast, BitVec.toNat_ofNat]; exact Nat.mod_eq_of_lt (by omega)
  have h2 : (BitVec.ofInt 64 (b : Int)).toNat = b := by
    rw [BitVec.ofInt_natCast, BitVec.toNat_ofNat]; exact Nat.mod_eq_of_lt (by omega)
  show IntKind.i64.wrap ((BitVec.ofInt 64 (a : Int) &&& BitVec.ofInt 64 (b : Int)).toNat : Int) = _
  rw [BitVec.toNat_and, h1, h2]
  simp [IntKind.wrap, IntKind.signed, IntKind.bits]
  omega
theorem and_big (n j : Nat) (h : n < 2 ^ (j + 1)) (h2 : 2 ^ j ≤ n) : n &&& 2 ^ j = 2 ^ j := by
  apply Nat.eq_of_testBit_eq
  intro i
  rw [Nat.testBit_and, Nat.testBit_two_pow]
  by_cases e : j = i
  · subst e
    simp [Nat.testBit_of_two_pow_le_and_two_pow_add_one_gt h2 h]
  · simp [e]
theorem and_small (n j : Nat) (h : n < 2 ^ j) : n &&& 2 ^ j = 0 := by
  apply Nat.eq_of_testBit_eq
  intro i
  rw [Nat.testBit_and, Nat.testBit_two_pow]
  by_cases e : j = i
  · subst e
    simp [Nat.testBit_lt_two_pow h]
  · simp [e]

/-- one more slice, wherever it lies but in the row itself. -/
theorem RowS.snoc {w1 w2 : World} {base : Nat} {v v' : Value} {l : List (Value × List Int)} {x : Value × List Int} (h : RowS w1 base v l) (hx : Sl w1 x.1 x.2) (hB : Bs x.2) (ha : ∀ k, x.1.ownBlock = some k → v.ownBlock = some k → x.2 = [])
    (r : RowV w2 base v' (l.map (·.1) ++ [x.1])) (s : RStep w1 v w2 v') : RowS w2 base v' (l ++ [x]) := by
  have one : ∀ y : Value × List Int, Sl w1 y.1 y.2 → (∀ k, y.1.ownBlock = some k → v.ownBlock = some k → y.2 = []) → Sl w2 y.1 y.2 ∧ ∀ k, y.1.ownBlock = some k → v'.ownBlock = some k → y.2 = [] := by
    intro y hy hay
    refine ⟨hy.apart s.1 (fun i hi hm => hay i hi (by simpa [Option.mem_toList] using hm)), fun k hk hv => ?_⟩
    rcases s.2 k hv with h1 | h1
    · exact hay k hk h1
    · by_cases hb : y.2 = []
      · exact hb
      · obtain ⟨ao', c', e, h1', _, h3, h4⟩ := hy
        cases ao' with
        | none => exact List.eq_nil_of_length_eq_zero (by have := h3 rfl; omega)
        | some a =>
          have hpos : 0 < y.2.length := List.length_pos_iff.2 hb
          have hc := h4 a rfl 0 (.int .u8 y.2[0]) (by simp [List.getElem?_eq_getElem hpos])
          have hlt := World.block_lt_of_cell? _ _ hc
          rw [add_block] at hlt
          rw [e] at hk
          have : a.block = k := by simpa [Value.ownBlock] using hk
          omega
  refine ⟨by rw [List.map_append]; exact r, fun y hy => ?_⟩
  rcases List.mem_append.1 hy with hy | hy
  · obtain ⟨h1, h2, h3⟩ := h.2 y hy
    exact ⟨(one y h1 h3).1, h2, (one y h1 h3).2⟩
  · obtain rfl : y = x := by simpa using hy
    exact ⟨(one y hx ha).1, hB, (one y hx ha).2⟩
/-- what is gathered, of slices wherever they lie. -/
def AccR (w : World) (ls : List (List Int)) (v : Value) (wr : World) : Prop := ∃ l, RowS wr w.heap.size v l ∧ l.map (·.2) = ls ∧ Kp [] w wr
theorem AccR.kp {w wr : World} {ls : List (List Int)} {v : Value} (h : AccR w ls v wr) : Kp [] w wr := by obtain ⟨_, _, _, h3⟩ := h; exact h3
theorem AccR.lcm {w wr : World} {ls : List (List Int)} {v : Value} (h : AccR w ls v wr) (hl : ls.length ≤ 1000) : LcM ls v wr := by
  obtain ⟨l, h1, h2, _⟩ := h
  exact ⟨l, lc_of_owns h1.1 (h1.lists (by rw [← List.length_map (f := (·.2)), h2]; exact hl)), h2⟩
/-- a slice that lay there when the gathering began, or is new since. -/
def Ok1 (w wr w2 : World) (vx : Value) (x : List Int) : Prop := Row w2 wr.heap.size vx x ∨ Sl w vx x
theorem wpList_accr {w wr w2 : World} {ops : Array Oper} {rest : List Oper} {o : Oper} {a : Act} {Q : Exit → Act → World → Prop} (hgd : o.guard = none) (s x : Operand)
    (ho : o.op = .call { callee := .builtin .append, args := #[s, x], argTypes := #[24, 24] }) (v : Value) (ls : List (List Int)) (hs : a.eval s = v) (hA : AccR w ls v wr) (hl : ls.length ≤ 1000000)
    (vx : Value) (bs : List Int) (k : Kp [] wr w2) (hr : Ok1 w wr w2 vx bs) (hb : Bs bs) (hx : a.eval x = .slice (some ⟨w2.heap.size, 0, none⟩) 1 1)
    (h : ∀ ao m c w', AccR w (ls ++ [bs]) (.slice ao m c) w' → wpList Tryd.prog ops Q rest (a.put o.dst (.slice ao m c)) w') : wpList Tryd.prog ops Q (o :: rest) a (w2.alloc (.cells #[vx] 28)) := by
  obtain ⟨l, hP, hl2, hK⟩ := hA
  have kk := k.trans ((Kp.refl [] w2).alloc (.cells #[vx] 28))
  have hP2 := hP.kept kk
  have hSl : Sl w2 vx bs := by
    rcases hr with h1 | h1
    · exact h1.sl
    · exact h1.kept (hK.trans k) (by simp)
  have hap : ∀ i, vx.ownBlock = some i → v.ownBlock = some i → bs = [] := by
    intro i h1 h2
    have hlt := hP.1.lt h2
    have hge := hP.1.own i h2
    rcases hr with h3 | h3
    · have := Row.own h3 i h1
      omega
    · by_cases hb0 : bs = []
      · exact hb0
      · obtain ⟨ao', c', e, h1', _, h3', h4⟩ := h3
        cases ao' with
        | none => exact List.eq_nil_of_length_eq_zero (by have := h3' rfl; omega)
        | some ad =>
          have hpos : 0 < bs.length := List.length_pos_iff.2 hb0
          have hc := h4 ad rfl 0 (.int .u8 bs[0]) (by simp [List.getElem?_eq_getElem hpos])
          have hlt2 := World.block_lt_of_cell? _ _ hc
          rw [add_block] at hlt2
          rw [e] at h1
          have : ad.block = i := by simpa [Value.ownBlock] using h1
          omega
  obtain ⟨ax, cx, hvx, _⟩ := hSl
  refine wpList_append_rowv hgd s x ho w.heap.size v (l.map (·.1)) hs hP2.1 ⟨w2.heap.size, 0, none⟩ 1 [vx] hx ?_ ?_ ?_ ?_ ?_
  · intro j u hu
    exact World.news_of_block (heap_alloc_new w2 _) j u (by simpa using hu)
  · simp [hvx, Value.oneCell']
  · have : l.length = ls.length := by rw [← hl2]; simp
    simp; omega
  · have := hK.size
    have := kk.size
    omega
  · intro ao m c w' r st
    have hSl2 : Sl (w2.alloc (.cells #[vx] 28)) vx bs := by
      rcases hr with h1 | h1
      · exact h1.sl.kept ((Kp.refl [] w2).alloc _) (by simp)
      · exact h1.kept (hK.trans kk) (by simp)
    refine h ao m c w' ⟨l ++ [(vx, bs)], hP2.snoc (x := (vx, bs)) hSl2 hb hap r st, by simp [hl2], ?_⟩
    exact (hK.trans kk).then st.1 (fun i hi => .inr (hP.1.own i (by simpa [Option.mem_toList] using hi)))

set_option maxRecDepth 100000 in
set_option maxHeartbeats 4000000 in
theorem lnodes_any (vl : Value) (ls : List (List Int)) (w : World) (hL : LcM ls vl w) (hn : ls.length ≤ 1000) (hm : ∀ x ∈ ls, x.length ≤ 1000) :
    Calls Tryd.prog 25 #[vl] w fun e w' => ∃ ao m c, e = .returned (.slice ao m c) ∧ AccR w (cndP 21 ls) (.slice ao m c) w' := by
  have HL := hide hL
  have HM := hide hm
  obtain ⟨al, cl, e, -⟩ := hL.shape
  subst e
  obtain ⟨G, hG⟩ : ∃ G, G = cndP 21 ls := ⟨_, rfl⟩
  have HGO := hide hG
  have hln : ls.length < 2 ^ 21 := by omega
  have HLN := hide hln
  have HLS := hide hn
  have hGl : G.length ≤ 21 := by
    rw [hG, cndP_len 21 ls hln]
    exact onesP_le 21 _ hln
  rw [← hG]
  obtain ⟨N, hN⟩ : ∃ N, N = ls.length := ⟨_, rfl⟩
  rw [← hN] at HL ⊢
  clear hL hm hG hln hn hN
  go_enter Tryd.func25, Tryd.ntmps25
  go_wp2_with fail
  go_loopw [0, 3, 4] (fun vl vo i wr => ∃ (q m c n0 c0 : Nat) (ao a0 : Option Addr) (rs gs : List (List Int)), q ≤ 21 ∧ i = .int .i64 ((2 ^ q / 2 : Nat) : Int) ∧ vl = .slice a0 n0 c0 ∧ vo = .slice ao m c ∧ LcM rs (.slice a0 n0 c0) w ∧ rs.length < 2 ^ q ∧ rs.length ≤ 1000 ∧ (∀ x ∈ rs, x ∈ ls) ∧ AccR w gs (.slice ao m c) wr ∧ gs ++ cndP q rs = G) (fun _ _ i _ => (intOf i).toNat)
  case atStart => exact ⟨21, 0, 0, N, cl, none, al, ls, [], by omega, rfl, rfl, rfl, unhide HL, unhide HLN, unhide HLS, fun x hx => hx, ⟨[], ⟨World.ownsRow_nil _ _ _ _, fun x hx => by cases hx⟩, rfl, Kp.refl _ _⟩, (unhide HGO).symm⟩
  case round =>
    obtain ⟨q, m, c, n0, c0, ao, a0, rs, gs, hq, rfl, rfl, rfl, hRs, hrl, hrk, hsub, hA, hgo⟩ := hrel
    have HRS := hide hRs
    have HSUB := hide hsub
    have HA := hide hA
    have HGS := hide hgo
    obtain ⟨a1, c1, e1, h1, h2, h3⟩ := hRs.shape
    injection e1 with e1 e2 e3
    subst e1
    subst e3
    cases q with
    | zero =>
      clear hRs hsub hA hgo
      have hk0 : ((2 ^ 0 / 2 : Nat) : Int) = 0 := by decide
      rw [hk0]
      go_wp2_with fail
      go_ret
      refine ⟨ao, m, c, rfl, ?_⟩
      have hg := unhide HGS
      rw [show cndP 0 rs = [] from rfl, List.append_nil] at hg
      rw [← hg]
      exact unhide HA
    | succ j =>
      have hjj : 2 ^ (j + 1) / 2 = 2 ^ j := by rw [Nat.pow_succ]; omega
      have hj20 : 2 ^ j ≤ 1048576 := Nat.pow_le_pow_right (n := 2) (i := j) (j := 20) (by omega) (by omega)
      have hj1 : 1 ≤ 2 ^ j := Nat.one_le_two_pow
      rw [hjj]
      obtain ⟨K, hK⟩ : ∃ K, K = 2 ^ j := ⟨_, rfl⟩
      obtain ⟨n1, hn1⟩ : ∃ n1, n1 = rs.length := ⟨_, rfl⟩
      have hnn : n0 = n1 := by omega
      subst hnn
      have hn63 : n0 ≤ 1048576 * 2 := by rw [hn1]; rw [Nat.pow_succ] at hrl; omega
      by_cases hbig : 2 ^ j ≤ rs.length
      · have hand := bits_and_i64_nat n0 K (by omega) (by omega)
        rw [hK, hn1, and_big _ j hrl hbig, ← hK, ← hn1] at hand
        have hcn : cndP (j + 1) rs = trootP (rs.take K) :: cndP j (rs.drop K) := by rw [hK]; exact cndP_big hbig
        rw [hcn] at HGS
        rw [← hK] at hj1 hj20 hbig ⊢
        rw [← hn1] at hbig h1
        have hkc : K ≤ c0 := by omega
        have hh := run_lhead a0 n0 c0 K wr hkc
        obtain ⟨X, hX⟩ : ∃ X : Option Addr, X = if c0 = K then a0 else a0.map (·.add K) := ⟨_, rfl⟩
        have hfr := fun W => run_lfrom a0 n0 c0 K W hbig h1 h3
        rw [← hX] at hfr
        have hTk := (unhide HRS).take K (by rw [← hn1]; exact hbig)
        have hDr := (unhide HRS).drop K (by rw [← hn1]; exact hbig)
        rw [← hX] at hDr
        obtain ⟨r, hr⟩ : ∃ r, r = trootP (rs.take K) := ⟨_, rfl⟩
        rw [← hr] at HGS
        have hml : ∀ x ∈ rs.take K, x.length ≤ 1000 := fun x hx => unhide HM x (hsub x (List.mem_of_mem_take hx))
        have HC := hide (rroot_row K _ (rs.take K) r wr hr (by simp; omega) (by omega) (hTk.kept (unhide HA).kp) hml)
        have HRB : Hid (Bs r) := by rw [hr]; exact trootP_bs _ (fun x hx => hRs.bs x (List.mem_of_mem_take hx))
        have HOK : Hid (∀ w2 vx, Row w2 wr.heap.size vx r ∨ AtOne (.slice a0 K c0) vx wr → Ok1 w wr w2 vx r) := by
          intro w2 vx ho
          rcases ho with ho | ⟨b, off, c', e, hc⟩
          · exact .inl ho
          · injection e with e4 e5 e6
            subst e4
            rw [e5] at hTk hr
            have hl1 : 0 < rs.length := by omega
            have hx0 : (rs.take 1)[0]? = some (rs[0]'hl1) := by rw [List.getElem?_take, if_pos (by omega), List.getElem?_eq_getElem hl1]
            obtain ⟨-, b', off', u, e7, hcu, hSu, -⟩ := hTk.at 0 _ hx0
            cases e7
            have hcw := (unhide HA).kp.cell hcu (by simp)
            rw [Nat.add_zero, hc] at hcw
            cases hcw
            have er : r = rs[0]'hl1 := by
              rw [hr]
              have : rs.take 1 = [rs[0]'hl1] := by
                cases rs with
                | nil => simp at hl1
                | cons y t => simp
              rw [this, trootP_one]
            rw [er]
            exact .inr hSu
        have HLN2 : Hid (gs.length ≤ 1000000) := by
          have h := congrArg List.length (unhide HGS)
          simp at h
          show gs.length ≤ 1000000
          omega
        have HDR := hide hDr
        have hdl : (rs.drop K).length < 2 ^ j := by rw [Nat.pow_succ] at hrl; simp; omega
        have HDL := hide hdl
        have HDS : Hid (∀ x ∈ rs.drop K, x ∈ ls) := fun x hx => hsub x (List.mem_of_mem_drop hx)
        have HKJ := hide hK
        have hKi : (K : Int) ≤ 1048576 := by omega
        have hK1 : (1 : Int) ≤ (K : Int) := by omega
        have hge : (K : Int) ≤ (n0 : Int) := by omega
        clear hRs hsub hA hgo hTk hDr hml hr hcn hX hdl hrl hn1 hK e2 hjj HRS HSUB h3 hj1 hj20 hn63 h1 hbig
        have HDK : Hid ((rs.drop K).length ≤ 1000) := hide (by simp; omega)
        clear hrk
        go_wp2_with fail
        refine (unhide HC).mono ?_
        rintro ee w2 ⟨a2, m2, c2, rfl, hor, S2, K2⟩
        have HO2 := hide (unhide HOK w2 _ hor)
        have HK2 := hide K2
        clear HC hor S2 K2 HOK hh
        go_wp2_with (at_builtin; refine wpList_accr rfl (.tmp 20) (.tmp 25) rfl _ gs rfl (unhide HA) (unhide HLN2) _ r (unhide HK2) (unhide HO2) (unhide HRB) rfl ?_; intro ao5 m5 c5 w5 A5; have hf5 := hfr w5; have HA5 := hide A5; clear A5)
        go_roundw
        case rel => exact ⟨j, m5, c5, n0 - K, c0 - K, ao5, X, rs.drop K, gs ++ [r], by omega, by rw [← unhide HKJ]; congr 1, rfl, rfl, unhide HDR, unhide HDL, unhide HDK, unhide HDS, unhide HA5, by have h := unhide HGS; rw [List.append_assoc]; exact h⟩
        case measure => simp [intOf]; omega
      · have hand := bits_and_i64_nat n0 K (by omega) (by omega)
        rw [hK, hn1, and_small _ j (by omega), ← hK, ← hn1] at hand
        have hcn : cndP (j + 1) rs = cndP j rs := cndP_small (by omega)
        rw [hcn] at HGS
        have HDL : Hid (rs.length < 2 ^ j) := hide (by omega)
        have HDK := hide hrk
        rw [← hK] at hj1 hj20 ⊢
        have HKJ := hide hK
        have hKi : (K : Int) ≤ 1048576 := by omega
        have hK1 : (1 : Int) ≤ (K : Int) := by omega
        clear hRs hsub hA hgo hcn hrl hn1 hK e2 hjj h3 hj1 hj20 hn63 h1 hbig hrk
        go_wp2_with fail
        go_roundw
        case rel => exact ⟨j, m, c, n0, c0, ao, a0, rs, gs, by omega, by rw [← unhide HKJ]; congr 1, rfl, rfl, unhide HRS, unhide HDL, unhide HDK, unhide HSUB, unhide HA, unhide HGS⟩
        case measure => simp [intOf]; omega
end Go.Proofs.YtiabccgabbdedaaDoor
