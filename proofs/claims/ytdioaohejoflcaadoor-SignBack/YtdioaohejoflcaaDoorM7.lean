/-
  The contract of the law package's turned, over a signature of the right form.
-/
import Derived.Test.YtdioaohejoflcaaDoorM6
import Derived.Test.YtdioaohejoflcaaDoorM4
import Derived.Test.YtdioaohejoflcaaDoorM2
import Derived.Deep.Upon
import Derived.ArgAppend
namespace Go.Proofs.YtdioaohejoflcaaDoor
open Go.RowKit
open Go.Proofs

/-- what turned tells of a signature. -/
def Trnd (w : World) (ps : List (List Int)) (how : Nat) (tn : Int) (v : Value) (w' : World) : Prop :=
  ∃ i' ps' qs', SigV w' v i' ps' qs' ∧ (-9223372036854775808 ≤ i' ∧ i' ≤ 9223372036854775807) ∧ (how = 1 → tn ≠ 0 → ps' ≠ ps) ∧ Kp [] w w'
theorem xor64_bd (x y : Int) : -9223372036854775808 ≤ bits .xor .i64 x y ∧ bits .xor .i64 x y ≤ 9223372036854775807 := by
  show -9223372036854775808 ≤ IntKind.i64.wrap _ ∧ IntKind.i64.wrap _ ≤ 9223372036854775807
  simp [IntKind.wrap, IntKind.signed, IntKind.bits]
  omega
theorem xor_ne (x y : Int) (hx : 0 ≤ x ∧ x ≤ 255) (hy : 0 ≤ y ∧ y ≤ 255) (h : y ≠ 0) : bits .xor .u8 x y ≠ x := by
  obtain ⟨m, rfl⟩ := Int.eq_ofNat_of_zero_le hx.1
  obtain ⟨n, rfl⟩ := Int.eq_ofNat_of_zero_le hy.1
  have hall : ∀ m ∈ List.range 256, ∀ n ∈ List.range 256, n ≠ 0 → bits .xor .u8 (m : Int) (n : Int) ≠ (m : Int) := by decide +kernel
  exact hall m (by simp; omega) n (by simp; omega) (by omega)
/-- the end of it: what was made is handed out. -/
theorem trnd_end {w wf w9 : World} {i' : Int} {ps ps' qs' : List (List Int)} {how : Nat} {tn : Int} {g8 : Nat} {vp vq : Value} (hP : Lz g8 wf vp ps') (hQ : Lz g8 wf vq qs') (hi : -9223372036854775808 ≤ i' ∧ i' ≤ 9223372036854775807) (hn : how = 1 → tn ≠ 0 → ps' ≠ ps) (k : Kp [g8] wf w9) (kw : Kp [] w wf) (hg : w.heap.size ≤ g8) : Trnd w ps how tn (.agg #[.int .i64 i', vp, vq]) w9 := by
  obtain ⟨l, h1, h2, h3, h4⟩ := hP.off k
  obtain ⟨m, k1, k2, k3, k4⟩ := hQ.off k
  exact ⟨i', ps', qs', ⟨vp, vq, l, m, rfl, h1, h2, k1, k2⟩, hi, hn, kw.then k (fun j hj => .inr (by simp at hj; omega))⟩

set_option maxRecDepth 100000 in
set_option maxHeartbeats 16000000 in
theorem turned_any (v : Value) (i : Int) (ps qs : List (List Int)) (how : Nat) (ax tn : Int) (w : World) (hV : SigV w v i ps qs) (hi : -9223372036854775808 ≤ i ∧ i ≤ 9223372036854775807) (hpl : ps.length = 64) (hp32 : ∀ x ∈ ps, x.length = 32) (hql : qs.length = 4) (hq32 : ∀ x ∈ qs, x.length = 32) (hhow : how ≤ 8) (hax : -9223372036854775808 ≤ ax ∧ ax ≤ 9223372036854775807) (htn : 0 ≤ tn ∧ tn ≤ 255) :
    Calls Tryd.prog 18 #[v, .int .i64 how, .int .i64 ax, .int .u8 tn] w fun e w' => ∃ v', e = .returned v' ∧ Trnd w ps how tn v' w' := by
  obtain ⟨ap, np, cp, aq, nq, cq, lp, lq, rfl, hP, hp, hQ, hq, hnp, hnq⟩ := hV.shape
  rw [hpl] at hnp
  rw [hql] at hnq
  subst hnp
  subst hnq
  have HP := hide hP
  have HQ := hide hQ
  have Hp := hide hp
  have Hq := hide hq
  have HPL := hide hpl
  have HQL := hide hql
  have HP32 := hide hp32
  have HQ32 := hide hq32
  have HAX := hide hax
  have HTN := hide htn
  have HI := hide hi
  obtain ⟨o1, ho1⟩ : ∃ o : Obj, o = (.cells #[.int .i64 i, .slice ap 64 cp, .slice aq 4 cq] 33) := ⟨_, rfl⟩
  obtain ⟨z, hz⟩ : ∃ o : Obj, o = (.cells #[.int .i64 0, .slice none 0 0, .slice none 0 0] 33) := ⟨_, rfl⟩
  have K2 : Kp [] w (((w.alloc o1).alloc z).alloc z) := (((Kp.refl [] w).alloc o1).alloc z).alloc z
  have hsz : ((w.alloc o1).alloc z).heap.size = w.heap.size + 1 + 1 := by simp
  have Ga : (((w.alloc o1).alloc z).alloc z).heap[w.heap.size + 1 + 1]? = some z := by rw [← hsz]; exact heap_alloc_new _ z
  have Gb : (((w.alloc o1).alloc z).alloc z).heap[w.heap.size]? = some o1 := (((Kp.refl [] ((w.alloc o1).alloc z)).alloc z)).heap (heap_alloc2_old w o1 z) (by simp)
  have Gc : (((w.alloc o1).alloc z).alloc z).heap[w.heap.size + 1]? = some z := (((Kp.refl [] ((w.alloc o1).alloc z)).alloc z)).heap (heap_alloc2_new w o1 z) (by simp)
  rw [ho1] at K2 Ga Gb Gc
  rw [hz] at K2 Ga Gb Gc
  have HK2 := hide K2
  have HGb := hide Gb
  have HGc := hide Gc
  clear hP hQ hp hq hpl hql hp32 hq32 hax htn hi hV ho1 hz hsz K2 Gb Gc
  go_enter Tryd.func18, Tryd.ntmps18
  go_wp2_with (refine wpList_store_sig rfl (.tmp 9) (.tmp 16) rfl (w.heap.size + 1 + 1) rfl _ _ _ _ _ _ Ga rfl ⟨rfl, rfl, rfl⟩ ?_; intro w3 G3 K3)
  obtain ⟨g9, h9⟩ : ∃ g, g = w.heap.size + 1 + 1 := ⟨_, rfl⟩
  rw [← h9] at G3 K3 ⊢
  obtain ⟨g8, h8⟩ : ∃ g, g = w.heap.size + 1 := ⟨_, rfl⟩
  rw [← h8] at HGc ⊢
  obtain ⟨g4, h4⟩ : ∃ g, g = w.heap.size := ⟨_, rfl⟩
  rw [← h4] at HGb ⊢
  have H9 := hide h9
  have H8 := hide h8
  have H4 := hide h4
  have HG3 := hide G3
  have HB3 := hide (K3.heap (unhide HGb) (by simp; omega))
  have HZ3 := hide (K3.heap (unhide HGc) (by simp; omega))
  have HK3 : Hid (Kp [] w w3) := (unhide HK2).then K3 (fun i hi => .inr (by simp at hi; omega))
  have hs3 : g9 < w3.heap.size := (Array.getElem?_eq_some_iff.1 G3).1
  clear G3 K3 Ga h9 h8 h4 HGb HGc HK2
  go_wp2_with fail
  go_loopw [10] (fun j wr => ∃ (k m cc : Nat) (ao : Option Addr), k ≤ 64 ∧ j = .int .i64 k ∧ AccP [g9] w3 (ps.take k) (.slice ao m cc) wr ∧ wr.heap[g9]? = some (.cells #[.int .i64 i, .slice ao m cc, .slice none 0 0] 33 (0, 0))) (fun j _ => 64 - (intOf j).toNat)
  case atStart => exact ⟨0, 0, 0, none, by omega, rfl, ⟨[], ⟨⟨rfl, .inl ⟨rfl, rfl⟩⟩, fun x hx => by cases hx⟩, rfl, Kp.refl _ _⟩, unhide HG3⟩
  case round =>
    clear HG3
    obtain ⟨k, m, cc, ao, hk, rfl, Ar, Gr⟩ := hrel
    have HA := hide Ar
    have HGr := hide Gr
    have HKr : Hid (Kp [] w wr) := (unhide HK3).then Ar.kp (fun i hi => .inr (by have := unhide H9; simp at hi; omega))
    have hc28 : wr.cell? ⟨g4, 1, none⟩ = some (.slice ap 64 cp) := by rw [cell_of_row wr g4 1 _ _ _ (Ar.kp.heap (unhide HB3) (by have := unhide H9; have := unhide H4; simp; omega))]; rfl
    clear Ar Gr
    by_cases hlt : k < 64
    · have hlt2 : (k : Int) < 64 := by omega
      have hkl : k < ps.length := by have := unhide HPL; omega
      obtain ⟨b, off, ax', nx, cx, rfl, hcx, hSx, hBx⟩ := lists_at (unhide HP) (unhide Hp) k hkl
      have h32 : (ps.getD k []).length = 32 := unhide HP32 _ (getD_mem hkl)
      have hE : ps.take (k + 1) = ps.take k ++ [ps.getD k []] := by rw [List.take_succ_eq_append_getElem hkl]; simp [List.getD, hkl]
      obtain ⟨X, hX⟩ : ∃ X, X = ps.getD k [] := ⟨_, rfl⟩
      rw [← hX] at hSx hBx h32 hE
      have HE := hide hE
      have HBx := hide hBx
      have H32 := hide h32
      have HLN : Hid ((ps.take k).length ≤ 1000000) := hide (by rw [List.length_take]; omega)
      have HSx := hide (hSx.kept (unhide HKr) (by simp))
      have hc31 : wr.cell? ⟨b, off + k, none⟩ = some (.slice ax' nx cx) := (unhide HKr).cell hcx (by simp)
      have hc25 : wr.cell? ⟨g9, 1, none⟩ = some (.slice ao m cc) := by rw [cell_of_row wr g9 1 _ _ _ (unhide HGr)]; rfl
      have al : ∀ (a : Addr) (u : Value), wr.cell? a = some u → ∀ o, (wr.alloc o).cell? a = some u := fun a u h o => (World.cell?_alloc_lt _ _ _ (by exact World.block_lt_of_cell? _ _ h)).trans h
      have e25 := al _ _ hc25
      have e28 := al _ _ hc28
      have e31 := al _ _ hc31
      have hg9r : g9 < wr.heap.size := (Array.getElem?_eq_some_iff.1 (unhide HGr)).1
      clear hcx hSx hBx h32 hE hX al
      go_wp2_with fail
      go_region_law (first
        | (refine step_append_row (by rfl) (.tmp 26) (.tmp 31) (by rfl) wr.heap.size (.slice (some ⟨wr.heap.size, 0, none⟩) 0 0) [] (by rfl) ((row_of_block (bs := []) (n := 0) (Nat.le_refl _) (heap_alloc_new wr _) rfl (by simp [maxLen])).kept (kp_drew _) (by simp)) (.slice ax' nx cx) X (by rfl) ((unhide HSx).kept (((Kp.refl [] wr).alloc _).drew) (by simp)) (by have := unhide H32; simp; omega) (by simp) ?_; intro a2 m2 c2 w2 R2 S2; have K2 : Kp [] wr w2 := ((((Kp.refl [] wr).alloc _).drew).then S2.1 (by simp [Value.ownBlock])); have hcy : w2.cell? ⟨g9, 1, none⟩ = some (.slice ao m cc) := K2.cell hc25 (by simp); have ey : ∀ o, (w2.alloc o).cell? ⟨g9, 1, none⟩ = some (.slice ao m cc) := (fun o => (World.cell?_alloc_lt _ _ _ (by exact World.block_lt_of_cell? _ _ hcy)).trans hcy); have HR2 := hide R2; have HK2 := hide K2; clear R2 S2 K2)
        | (refine step_accp (by rfl) (.tmp 25) (.tmp 33) (by rfl) (.slice ao m cc) _ (by rfl) (unhide HA) (unhide HLN) (.slice a2 m2 c2) ([] ++ X) (unhide HK2) (unhide HR2) (unhide HBx) w2.heap.size (by rfl) (by exact cell_of_one (heap_alloc_new w2 _)) ((Kp.refl [] w2).alloc _) ?_; intro ao5 m5 c5 w5 A5 S5; have G5 : w5.heap[g9]? = some _ := S5.1.heap (unhide HGr) (fun hm => by have := ((unhide HA).own g9 (by simpa using hm)).1; omega); have hc5 : w5.cell? ⟨g9, 1, none⟩ = some (.slice ao m cc) := (by rw [cell_of_row w5 g9 1 _ _ _ G5]; rfl); have hf5 : w5.frozen? ⟨g9, 1, none⟩ = false := frozen_of_row w5 g9 1 _ _ G5))
      all_goals
        have G6 := heap_setCell_same w5 g9 1 _ _ (.slice ao5 m5 c5) G5
        have A6 := A5.off (setCell_kp w5 g9 1 (.slice ao5 m5 c5)) (by simp) hs3
        rw [List.nil_append] at A6
        have HG6 := hide G6
        have HA6 := hide A6
        clear A5 S5 G5 G6 A6 hc25 hc28 hc31 e25 e28 e31 hcy ey hc5 hf5 HR2 HK2 HSx
        go_wp2_with fail
        go_roundw
        case rel => exact ⟨k + 1, m5, c5, ao5, by omega, by go_num, by rw [unhide HE]; exact unhide HA6, unhide HG6⟩
        case measure => simp [intOf]; omega
    · have hkn : k = 64 := by omega
      have hlt2 : ¬ (k : Int) < 64 := by omega
      have hT : ps.take k = ps := List.take_of_length_le (by have := unhide HPL; omega)
      rw [hT] at HA
      clear hkn hT
      obtain ⟨w5, hw5⟩ : ∃ w5, w5 = wr := ⟨_, rfl⟩
      subst hw5
      obtain ⟨pa, pm, pc, e5⟩ : ∃ a5 m5 c5, (Value.slice a5 m5 c5) = .slice ao m cc := ⟨_, _, _, rfl⟩
      injection e5 with f1 f2 f3
      subst f1
      subst f2
      subst f3
      have hpm : pm = 64 := by rw [(unhide HA).len]; exact unhide HPL
      subst hpm
      have HAP := hide (unhide HA)
      have HPX5 : Hid (∃ l, Lists w5 (.slice pa 64 pc) l ∧ l.map (·.2) = ps ∧ ∀ q, ((Value.slice pa 64 pc).ownBlock = some q ∨ ∃ x ∈ l, x.1.ownBlock = some q) → w3.heap.size ≤ q ∧ q < w5.heap.size) := by
        obtain ⟨l, p1, p2, _⟩ := unhide HA
        refine ⟨l, p1.lists (by rw [← List.length_map (f := (·.2)), p2]; have := unhide HPL; omega), p2, fun q hq => ?_⟩
        rcases hq with hq | ⟨x, hx, hq⟩
        · exact ⟨p1.1.own q hq, p1.1.lt hq⟩
        · exact ⟨(p1.2 x hx).1.own q hq, (p1.2 x hx).1.lt hq⟩
      have HK5 := hide (unhide HKr)
      have hs5 : g9 < w5.heap.size := (Array.getElem?_eq_some_iff.1 (unhide HGr)).1
      have HG5 := hide (unhide HGr)
      have HB5 := hide ((unhide HA).kp.heap (unhide HB3) (by have := unhide H9; have := unhide H4; simp; omega))
      have HZ5 := hide ((unhide HA).kp.heap (unhide HZ3) (by have := unhide H9; have := unhide H8; simp; omega))
      clear HA HGr HB3 HZ3 HKr
      go_wp2_with fail
      go_loopw [11] (fun j wr => ∃ (k m cc : Nat) (ao : Option Addr), k ≤ 4 ∧ j = .int .i64 k ∧ AccP [g9] w5 (qs.take k) (.slice ao m cc) wr ∧ wr.heap[g9]? = some (.cells #[.int .i64 i, .slice pa 64 pc, .slice ao m cc] 33 (0, 0))) (fun j _ => 4 - (intOf j).toNat)
      case atStart => exact ⟨0, 0, 0, none, by omega, rfl, ⟨[], ⟨⟨rfl, .inl ⟨rfl, rfl⟩⟩, fun x hx => by cases hx⟩, rfl, Kp.refl _ _⟩, unhide HG5⟩
      case round =>
        clear HG5
        obtain ⟨k, m, cc, ao, hk, rfl, Ar, Gr⟩ := hrel
        have HA := hide Ar
        have HGr := hide Gr
        have HKr : Hid (Kp [] w wr) := (unhide HK5).then Ar.kp (fun i hi => .inr (by have := unhide H9; simp at hi; omega))
        have hc28 : wr.cell? ⟨g4, 2, none⟩ = some (.slice aq 4 cq) := by rw [cell_of_row wr g4 2 _ _ _ (Ar.kp.heap (unhide HB5) (by have := unhide H9; have := unhide H4; simp; omega))]; rfl
        clear Ar Gr
        by_cases hlt : k < 4
        · have hlt2 : (k : Int) < 4 := by omega
          have hkl : k < qs.length := by have := unhide HQL; omega
          obtain ⟨b, off, ax', nx, cx, rfl, hcx, hSx, hBx⟩ := lists_at (unhide HQ) (unhide Hq) k hkl
          have h32 : (qs.getD k []).length = 32 := unhide HQ32 _ (getD_mem hkl)
          have hE : qs.take (k + 1) = qs.take k ++ [qs.getD k []] := by rw [List.take_succ_eq_append_getElem hkl]; simp [List.getD, hkl]
          obtain ⟨X, hX⟩ : ∃ X, X = qs.getD k [] := ⟨_, rfl⟩
          rw [← hX] at hSx hBx h32 hE
          have HE := hide hE
          have HBx := hide hBx
          have H32 := hide h32
          have HLN : Hid ((qs.take k).length ≤ 1000000) := hide (by rw [List.length_take]; omega)
          have HSx := hide (hSx.kept (unhide HKr) (by simp))
          have hc31 : wr.cell? ⟨b, off + k, none⟩ = some (.slice ax' nx cx) := (unhide HKr).cell hcx (by simp)
          have hc25 : wr.cell? ⟨g9, 2, none⟩ = some (.slice ao m cc) := by rw [cell_of_row wr g9 2 _ _ _ (unhide HGr)]; rfl
          have al : ∀ (a : Addr) (u : Value), wr.cell? a = some u → ∀ o, (wr.alloc o).cell? a = some u := fun a u h o => (World.cell?_alloc_lt _ _ _ (by exact World.block_lt_of_cell? _ _ h)).trans h
          have e25 := al _ _ hc25
          have e28 := al _ _ hc28
          have e31 := al _ _ hc31
          have hg9r : g9 < wr.heap.size := (Array.getElem?_eq_some_iff.1 (unhide HGr)).1
          clear hcx hSx hBx h32 hE hX al
          go_wp2_with fail
          go_region_law (first
            | (refine step_append_row (by rfl) (.tmp 45) (.tmp 50) (by rfl) wr.heap.size (.slice (some ⟨wr.heap.size, 0, none⟩) 0 0) [] (by rfl) ((row_of_block (bs := []) (n := 0) (Nat.le_refl _) (heap_alloc_new wr _) rfl (by simp [maxLen])).kept (kp_drew _) (by simp)) (.slice ax' nx cx) X (by rfl) ((unhide HSx).kept (((Kp.refl [] wr).alloc _).drew) (by simp)) (by have := unhide H32; simp; omega) (by simp) ?_; intro a2 m2 c2 w2 R2 S2; have K2 : Kp [] wr w2 := ((((Kp.refl [] wr).alloc _).drew).then S2.1 (by simp [Value.ownBlock])); have hcy : w2.cell? ⟨g9, 2, none⟩ = some (.slice ao m cc) := K2.cell hc25 (by simp); have ey : ∀ o, (w2.alloc o).cell? ⟨g9, 2, none⟩ = some (.slice ao m cc) := (fun o => (World.cell?_alloc_lt _ _ _ (by exact World.block_lt_of_cell? _ _ hcy)).trans hcy); have HR2 := hide R2; have HK2 := hide K2; clear R2 S2 K2)
            | (refine step_accp (by rfl) (.tmp 44) (.tmp 52) (by rfl) (.slice ao m cc) _ (by rfl) (unhide HA) (unhide HLN) (.slice a2 m2 c2) ([] ++ X) (unhide HK2) (unhide HR2) (unhide HBx) w2.heap.size (by rfl) (by exact cell_of_one (heap_alloc_new w2 _)) ((Kp.refl [] w2).alloc _) ?_; intro ao5 m5 c5 w5 A5 S5; have G5 : w5.heap[g9]? = some _ := S5.1.heap (unhide HGr) (fun hm => by have := ((unhide HA).own g9 (by simpa using hm)).1; omega); have hc5 : w5.cell? ⟨g9, 2, none⟩ = some (.slice ao m cc) := (by rw [cell_of_row w5 g9 2 _ _ _ G5]; rfl); have hf5 : w5.frozen? ⟨g9, 2, none⟩ = false := frozen_of_row w5 g9 2 _ _ G5))
          all_goals
            have G6 := heap_setCell_same w5 g9 2 _ _ (.slice ao5 m5 c5) G5
            have A6 := A5.off (setCell_kp w5 g9 2 (.slice ao5 m5 c5)) (by simp) hs5
            rw [List.nil_append] at A6
            have HG6 := hide G6
            have HA6 := hide A6
            clear A5 S5 G5 G6 A6 hc25 hc28 hc31 e25 e28 e31 hcy ey hc5 hf5 HR2 HK2 HSx
            go_wp2_with fail
            go_roundw
            case rel => exact ⟨k + 1, m5, c5, ao5, by omega, by go_num, by rw [unhide HE]; exact unhide HA6, unhide HG6⟩
            case measure => simp [intOf]; omega
        · have hkn : k = 4 := by omega
          have hlt2 : ¬ (k : Int) < 4 := by omega
          have hT : qs.take k = qs := List.take_of_length_le (by have := unhide HQL; omega)
          rw [hT] at HA
          clear hkn hT
          obtain ⟨w7, hw7⟩ : ∃ w7, w7 = wr := ⟨_, rfl⟩
          subst hw7
          obtain ⟨qa, qm, qc, e7⟩ : ∃ a5 m5 c5, (Value.slice a5 m5 c5) = .slice ao m cc := ⟨_, _, _, rfl⟩
          injection e7 with f1 f2 f3
          subst f1
          subst f2
          subst f3
          have hqm : qm = 4 := by rw [(unhide HA).len]; exact unhide HQL
          subst hqm
          have HAQ := hide (unhide HA)
          have HAP7 := hide ((unhide HAP).off (unhide HA).kp (by simp) hs3)
          have HPX7 : Hid (∃ l, Lists w7 (.slice pa 64 pc) l ∧ l.map (·.2) = ps ∧ ∀ q, ((Value.slice pa 64 pc).ownBlock = some q ∨ ∃ x ∈ l, x.1.ownBlock = some q) → w3.heap.size ≤ q ∧ q < w5.heap.size) := by
            obtain ⟨l, p1, p2, p3⟩ := unhide HPX5
            exact ⟨l, p1.off (unhide HA).kp (fun q hq => by have := p3 q (.inl hq); simp; omega) (fun y hy q hq => by have := p3 q (.inr ⟨y, hy, hq⟩); simp; omega), p2, p3⟩
          have HK7 := hide (unhide HKr)
          have HG7 := hide (unhide HGr)
          have HZ7 := hide ((unhide HA).kp.heap (unhide HZ5) (by have := unhide H9; have := unhide H8; simp; omega))
          have d1 : w7.cell? ⟨g9, 1, none⟩ = some (.slice pa 64 pc) := by rw [cell_of_row w7 g9 1 _ _ _ (unhide HGr)]; rfl
          have d2 : w7.cell? ⟨g9, 2, none⟩ = some (.slice qa 4 qc) := by rw [cell_of_row w7 g9 2 _ _ _ (unhide HGr)]; rfl
          have HC1 : Hid (∀ w', Kp [] w7.drew w' → w'.cell? ⟨g9, 1, none⟩ = some (.slice pa 64 pc)) := fun w' k' => ((kp_drew w7).trans k').cell d1 (by simp)
          have HC2 : Hid (∀ w', Kp [] w7.drew w' → w'.cell? ⟨g9, 2, none⟩ = some (.slice qa 4 qc)) := fun w' k' => ((kp_drew w7).trans k').cell d2 (by simp)
          clear HA HGr HKr HAP HZ5 HB5 HK5 HPX5
          go_wp2_with fail
          refine region_grow Tryd.mixed [Is (.int .i64 ax), Is (.pointer (some ⟨g9, 1, none⟩)), Is (.slice pa 64 pc), Is (.int .i64 64), Is (.int .i64 63), InT 64, Is (.int .i64 ax), Is (.pointer (some ⟨g9, 2, none⟩)), Is (.slice qa 4 qc), Is (.int .i64 4), Is (.int .i64 3), InT 4, InT 64, InT 4] [[(2, none)], [(9, none)], [(67, some 1)], [(68, some 2)], [(69, some 3)], [(66, some 0), (70, some 4)], [(2, none)], [(9, none)], [(73, some 7)], [(74, some 8)], [(75, some 9)], [(72, some 6), (76, some 10)], [(71, some 5)], [(77, some 11)]] (by kernel_rfl) ?_ ?_ ?_
          · simp only [List.mem_cons, List.not_mem_nil, or_false]
            intro R hR
            rcases hR with rfl | rfl | rfl | rfl | rfl | rfl | rfl | rfl | rfl | rfl | rfl | rfl | rfl | rfl <;> first | exact stable_is _ | exact stable_in _
          · refine steps_cons (fun a w hk hn => ?_) ?_
            · have h2 : a.eval (.tmp 2) = .int .i64 ax := hn.1
              clear hn
              refine wants_plain rfl ?_
              exact grown_move (.tmp 2) rfl h2
            refine steps_cons (fun a w hk hn => ?_) ?_
            · have h9 : a.eval (.tmp 9) = .pointer (some ⟨g9, 0, none⟩) := hn.1
              clear hn
              refine wants_plain rfl ?_
              refine grown_run (v := .pointer (some ⟨g9, 1, none⟩)) ?_ (Kp.refl _ _) rfl
              obtain ⟨ρ, hρ, hc, hf, hg⟩ := eval_is a
              rw [hρ] at h9 ⊢
              simp [go_sem, h9]
            refine steps_cons (fun a w hk hn => ?_) ?_
            · have h67 : a.eval (.tmp 67) = .pointer (some ⟨g9, 1, none⟩) := hn.1
              clear hn
              refine wants_plain rfl ?_
              refine grown_run (v := .slice pa 64 pc) ?_ (Kp.refl _ _) rfl
              have hcell := unhide HC1 w hk
              obtain ⟨ρ, hρ, hc, hf, hg⟩ := eval_is a
              rw [hρ] at h67 ⊢
              simp [go_sem, h67, hcell]
            refine steps_cons (fun a w hk hn => ?_) ?_
            · have h68 : a.eval (.tmp 68) = .slice pa 64 pc := hn.1
              clear hn
              refine wants_plain rfl ?_
              refine grown_run (v := .int .i64 64) ?_ (Kp.refl _ _) rfl
              obtain ⟨ρ, hρ, hc, hf, hg⟩ := eval_is a
              rw [hρ] at h68 ⊢
              simp [go_sem, h68]
            refine steps_cons (fun a w hk hn => ?_) ?_
            · have h69 : a.eval (.tmp 69) = .int .i64 64 := hn.1
              clear hn
              refine wants_plain rfl ?_
              refine grown_run (v := .int .i64 63) ?_ (Kp.refl _ _) rfl
              obtain ⟨ρ, hρ, hc, hf, hg⟩ := eval_is a
              rw [hρ] at h69 ⊢
              simp [go_sem, hc, h69]
              rfl
            refine steps_cons (fun a w hk hn => ?_) ?_
            · have h66 : a.eval (.tmp 66) = .int .i64 ax := hn.1
              have h70 : a.eval (.tmp 70) = .int .i64 63 := hn.2.1
              clear hn
              refine wants_plain rfl ?_
              refine grown_call (f := 23) rfl Tryd.func23 (by kernel_rfl) (by kernel_rfl) ?_
              simp only [List.map_toArray, List.map_cons, List.map_nil, h66, h70]
              refine (within_any ax 0 63 w (by omega) (by omega) (by omega) (unhide HAX)).mono ?_
              rintro e w' ⟨x, rfl, h0, h1, hw⟩
              subst w'
              obtain ⟨y, rfl⟩ := Int.eq_ofNat_of_zero_le h0
              exact ⟨_, rfl, Kp.refl _ _, y, rfl, by omega⟩
            refine steps_cons (fun a w hk hn => ?_) ?_
            · have h2 : a.eval (.tmp 2) = .int .i64 ax := hn.1
              clear hn
              refine wants_plain rfl ?_
              exact grown_move (.tmp 2) rfl h2
            refine steps_cons (fun a w hk hn => ?_) ?_
            · have h9 : a.eval (.tmp 9) = .pointer (some ⟨g9, 0, none⟩) := hn.1
              clear hn
              refine wants_plain rfl ?_
              refine grown_run (v := .pointer (some ⟨g9, 2, none⟩)) ?_ (Kp.refl _ _) rfl
              obtain ⟨ρ, hρ, hc, hf, hg⟩ := eval_is a
              rw [hρ] at h9 ⊢
              simp [go_sem, h9]
            refine steps_cons (fun a w hk hn => ?_) ?_
            · have h73 : a.eval (.tmp 73) = .pointer (some ⟨g9, 2, none⟩) := hn.1
              clear hn
              refine wants_plain rfl ?_
              refine grown_run (v := .slice qa 4 qc) ?_ (Kp.refl _ _) rfl
              have hcell := unhide HC2 w hk
              obtain ⟨ρ, hρ, hc, hf, hg⟩ := eval_is a
              rw [hρ] at h73 ⊢
              simp [go_sem, h73, hcell]
            refine steps_cons (fun a w hk hn => ?_) ?_
            · have h74 : a.eval (.tmp 74) = .slice qa 4 qc := hn.1
              clear hn
              refine wants_plain rfl ?_
              refine grown_run (v := .int .i64 4) ?_ (Kp.refl _ _) rfl
              obtain ⟨ρ, hρ, hc, hf, hg⟩ := eval_is a
              rw [hρ] at h74 ⊢
              simp [go_sem, h74]
            refine steps_cons (fun a w hk hn => ?_) ?_
            · have h75 : a.eval (.tmp 75) = .int .i64 4 := hn.1
              clear hn
              refine wants_plain rfl ?_
              refine grown_run (v := .int .i64 3) ?_ (Kp.refl _ _) rfl
              obtain ⟨ρ, hρ, hc, hf, hg⟩ := eval_is a
              rw [hρ] at h75 ⊢
              simp [go_sem, hc, h75]
              rfl
            refine steps_cons (fun a w hk hn => ?_) ?_
            · have h72 : a.eval (.tmp 72) = .int .i64 ax := hn.1
              have h76 : a.eval (.tmp 76) = .int .i64 3 := hn.2.1
              clear hn
              refine wants_plain rfl ?_
              refine grown_call (f := 23) rfl Tryd.func23 (by kernel_rfl) (by kernel_rfl) ?_
              simp only [List.map_toArray, List.map_cons, List.map_nil, h72, h76]
              refine (within_any ax 0 3 w (by omega) (by omega) (by omega) (unhide HAX)).mono ?_
              rintro e w' ⟨x, rfl, h0, h1, hw⟩
              subst w'
              obtain ⟨y, rfl⟩ := Int.eq_ofNat_of_zero_le h0
              exact ⟨_, rfl, Kp.refl _ _, y, rfl, by omega⟩
            refine steps_cons (fun a w hk hn => ?_) ?_
            · have h71 : (InT 64) (a.eval (.tmp 71)) w := hn.1
              clear hn
              refine wants_plain rfl ?_
              exact grown_assign (.tmp 71) rfl h71
            refine steps_cons (fun a w hk hn => ?_) ?_
            · have h77 : (InT 4) (a.eval (.tmp 77)) w := hn.1
              clear hn
              refine wants_plain rfl ?_
              exact grown_assign (.tmp 77) rfl h77
            exact trivial
          intro W1 hkW1
          rintro _ rfl
          rintro _ rfl
          rintro _ rfl
          rintro _ rfl
          rintro _ rfl
          intro v71 h71
          rintro _ rfl
          rintro _ rfl
          rintro _ rfl
          rintro _ rfl
          rintro _ rfl
          intro v77 h77
          intro v12 h12
          intro v13 h13
          refine fin_nil ?_
          simp only [Act.put, List.set_cons_zero, List.set_cons_succ, List.setIfInBounds_toArray]
          obtain ⟨pi, e12, hpi⟩ := h12
          obtain ⟨ki, e13, hki⟩ := h13
          subst e12
          subst e13
          have kkW := (kp_drew w7).trans hkW1
          have HAP1 := hide ((unhide HAP7).mid kkW)
          have HAQ1 := hide ((unhide HAQ).mid kkW)
          have HPXW : Hid (∃ l, Lists W1 (.slice pa 64 pc) l ∧ l.map (·.2) = ps ∧ ∀ q, ((Value.slice pa 64 pc).ownBlock = some q ∨ ∃ x ∈ l, x.1.ownBlock = some q) → w3.heap.size ≤ q ∧ q < w5.heap.size) := by
            obtain ⟨l, p1, p2, p3⟩ := unhide HPX7
            exact ⟨l, p1.kept kkW, p2, p3⟩
          have HKW := hide ((unhide HK7).trans kkW)
          have HGW := hide (kkW.heap (unhide HG7) (by simp))
          have HZW := hide (kkW.heap (unhide HZ7) (by simp))
          have HLP := hide ((unhide HAP1).lz (by have := unhide HPL; omega) g8 (by have := unhide H8; have := unhide H9; omega))
          have HLQ := hide ((unhide HAQ1).lz (by have := unhide HQL; omega) g8 (by have := unhide H8; have := unhide H9; omega))
          have hpx : pi < ps.length := by have := unhide HPL; omega
          have hkx : ki < qs.length := by have := unhide HQL; omega
          have hp32 := unhide HP32 _ (getD_mem hpx)
          have hq32 := unhide HQ32 _ (getD_mem hkx)
          obtain ⟨gr, b1, c1, epa, hb1, r1, r2, r3, r4, r5, r6, r7⟩ := (unhide HAP1).at pi hpx (by omega)
          obtain ⟨gq, b2, c2, eqa, hb2, s1, s2, s3, s4, s5, s6, s7⟩ := (unhide HAQ1).at ki hkx (by omega)
          subst epa
          subst eqa
          rw [hp32] at r1 r4
          rw [hq32] at s1 s4
          have HR4 := hide r4
          have HR5 := hide r5
          have HR6 := hide r6
          have hgr9 : gr ≠ g9 := fun e => by have := ((unhide HAP1).own gr rfl).1; omega
          have hb19 : b1 ≠ g9 := by omega
          have hb29 : b2 ≠ g9 := by omega
          have hpi64 : (pi : Int) < 64 := by omega
          have hki4 : (ki : Int) < 4 := by omega
          have D1 : W1.cell? ⟨g9, 1, none⟩ = some (.slice (some ⟨gr, 0, none⟩) 64 pc) := by rw [cell_of_row W1 g9 1 _ _ _ (unhide HGW)]; rfl
          have D2 : W1.cell? ⟨g9, 2, none⟩ = some (.slice (some ⟨gq, 0, none⟩) 4 qc) := by rw [cell_of_row W1 g9 2 _ _ _ (unhide HGW)]; rfl
          have D0 : W1.cell? ⟨g9, 0, none⟩ = some (.int .i64 i) := by rw [cell_of_row W1 g9 0 _ _ _ (unhide HGW)]; rfl
          have F0 : W1.frozen? ⟨g9, 0, none⟩ = false := frozen_of_row W1 g9 0 _ _ (unhide HGW)
          have F1 : W1.frozen? ⟨g9, 1, none⟩ = false := frozen_of_row W1 g9 1 _ _ (unhide HGW)
          have F2 : W1.frozen? ⟨g9, 2, none⟩ = false := frozen_of_row W1 g9 2 _ _ (unhide HGW)
          have hg8 : w.heap.size ≤ g8 := by have := unhide H8; omega
          have hg89 : g8 < g9 := by have := unhide H8; have := unhide H9; omega
          obtain ⟨B1, hB1⟩ : ∃ B, B = (ps.getD pi []).getD 0 0 := ⟨_, rfl⟩
          obtain ⟨B2, hB2⟩ : ∃ B, B = (qs.getD ki []).getD 0 0 := ⟨_, rfl⟩
          rw [← hB1] at r2
          rw [← hB2] at s2
          have HB1 := hide hB1
          have hB1b : 0 ≤ B1 ∧ B1 ≤ 255 := by rw [hB1]; exact r5.at 0
          have HB1b := hide hB1b
          have HP32p := hide hp32
          clear hB1 hB2 hB1b r4 r5 r6 s4 s5 s6 hp32 hq32 HAP7 HAQ HK7 HG7 HZ7 HC1 HC2 d1 d2 kkW hpx hkx HPX7
          rcases (by omega : how = 0 ∨ how = 1 ∨ how = 2 ∨ how = 3 ∨ how = 4 ∨ how = 5 ∨ how = 6 ∨ how = 7 ∨ how = 8) with rfl | rfl | rfl | rfl | rfl | rfl | rfl | rfl | rfl
          · have HGf := hide (unhide HGW)
            have HZf := hide (unhide HZW)
            go_wp2_with (refine wpList_load_row rfl 33 (.tmp 9) rfl g9 rfl 33 _ (0, 0) _ (unhide HGf) Tryd.underlying33 rfl Tryd.sigSize ?_; refine Hid.out ?_)
            refine hide ?_
            go_wp2_with (refine wpList_store_sig rfl (.tmp 8) (.tmp 169) rfl g8 rfl _ _ _ _ _ _ (unhide HZf) rfl ⟨rfl, rfl, rfl⟩ ?_; intro w9 G9 K9)
            refine bodyPost_ret (results_sig1 rfl _ _ g8 _ _ _ (0, 0) rfl G9) rfl ?_
            exact ⟨_, rfl, trnd_end (unhide HLP) (unhide HLQ) (unhide HI) (fun h => by omega) K9 (unhide HKW) hg8⟩
          · obtain ⟨y, hy⟩ : ∃ y, y = bits .xor .u8 B1 tn := ⟨_, rfl⟩
            have hyb : 0 ≤ y ∧ y ≤ 255 := by rw [hy]; exact xor_bd B1 tn
            have k' := setCell_kp W1 b1 0 (.int .u8 y)
            obtain ⟨ps', hLP'⟩ := (unhide HLP).poke y hyb.1 hyb.2 r2
            obtain ⟨qs', hLQ'⟩ := (unhide HLQ).poke y hyb.1 hyb.2 r2
            have HNE : Hid (tn ≠ 0 → ps' ≠ ps) := by
              intro ht e
              obtain ⟨l, q1, q2, _, _⟩ := hLP'
              rw [e] at q2
              obtain ⟨b', off', ay, ny, cy, e1, q3, q4, _⟩ := lists_at q1 q2 pi (by have := unhide HPL; omega)
              injection e1 with e1
              injection e1 with e2 e3
              subst e2
              subst e3
              rw [Nat.zero_add, cell_setCell_ne rfl (by intro h; have := congrArg Addr.block h; simp at this; omega) rfl, r1] at q3
              injection q3 with q3
              injection q3 with f1 f2 f3
              subst f1
              obtain ⟨ao', c', e4, _, _, _, q5⟩ := q4
              injection e4 with e4
              have hne : 0 < (ps.getD pi []).length := by have := unhide HP32p; omega
              have q6 := q5 ⟨b1, 0, none⟩ e4.symm 0 (.int .u8 ((ps.getD pi [])[0])) (by simp)
              rw [show (⟨b1, 0, none⟩ : Addr).add 0 = ⟨b1, 0, none⟩ from rfl, cell_setCell_same r2] at q6
              have q7 : y = (ps.getD pi [])[0] := by simpa using q6
              have q8 : B1 = (ps.getD pi [])[0] := by rw [unhide HB1, List.getD_eq_getElem?_getD (l := ps.getD pi []), List.getElem?_eq_getElem hne]; rfl
              exact xor_ne B1 tn (unhide HB1b) (unhide HTN) ht (by rw [← hy, q7, q8])
            have HLP' := hide hLP'
            have HLQ' := hide hLQ'
            have G' := k'.heap (unhide HGW) (by simp; omega)
            have Z' := k'.heap (unhide HZW) (by simp; omega)
            have HK' : Hid (Kp [] w (W1.setCell ⟨b1, 0, none⟩ (.int .u8 y))) := (unhide HKW).then k' (fun j hj => .inr (by have := unhide H9; simp at hj; omega))
            clear hLP' hLQ' k' hyb
            rw [hy] at G' Z' HLP' HLQ' HK'
            clear hy
            have HGf := hide G'
            have HZf := hide Z'
            go_wp2_with (refine wpList_load_row rfl 33 (.tmp 9) rfl g9 rfl 33 _ (0, 0) _ (unhide HGf) Tryd.underlying33 rfl Tryd.sigSize ?_; refine Hid.out ?_)
            refine hide ?_
            go_wp2_with (refine wpList_store_sig rfl (.tmp 8) (.tmp 169) rfl g8 rfl _ _ _ _ _ _ (unhide HZf) rfl ⟨rfl, rfl, rfl⟩ ?_; intro w9 G9 K9)
            refine bodyPost_ret (results_sig1 rfl _ _ g8 _ _ _ (0, 0) rfl G9) rfl ?_
            exact ⟨_, rfl, trnd_end (unhide HLP') (unhide HLQ') (unhide HI) (fun _ => unhide HNE) K9 (unhide HK') hg8⟩
          · obtain ⟨y, hy⟩ : ∃ y, y = bits .xor .u8 B2 tn := ⟨_, rfl⟩
            have hyb : 0 ≤ y ∧ y ≤ 255 := by rw [hy]; exact xor_bd B2 tn
            have k' := setCell_kp W1 b2 0 (.int .u8 y)
            obtain ⟨ps', hLP'⟩ := (unhide HLP).poke y hyb.1 hyb.2 s2
            obtain ⟨qs', hLQ'⟩ := (unhide HLQ).poke y hyb.1 hyb.2 s2
            have HLP' := hide hLP'
            have HLQ' := hide hLQ'
            have G' := k'.heap (unhide HGW) (by simp; omega)
            have Z' := k'.heap (unhide HZW) (by simp; omega)
            have HK' : Hid (Kp [] w (W1.setCell ⟨b2, 0, none⟩ (.int .u8 y))) := (unhide HKW).then k' (fun j hj => .inr (by have := unhide H9; simp at hj; omega))
            clear hLP' hLQ' k' hyb
            rw [hy] at G' Z' HLP' HLQ' HK'
            clear hy
            have HGf := hide G'
            have HZf := hide Z'
            go_wp2_with (refine wpList_load_row rfl 33 (.tmp 9) rfl g9 rfl 33 _ (0, 0) _ (unhide HGf) Tryd.underlying33 rfl Tryd.sigSize ?_; refine Hid.out ?_)
            refine hide ?_
            go_wp2_with (refine wpList_store_sig rfl (.tmp 8) (.tmp 169) rfl g8 rfl _ _ _ _ _ _ (unhide HZf) rfl ⟨rfl, rfl, rfl⟩ ?_; intro w9 G9 K9)
            refine bodyPost_ret (results_sig1 rfl _ _ g8 _ _ _ (0, 0) rfl G9) rfl ?_
            exact ⟨_, rfl, trnd_end (unhide HLP') (unhide HLQ') (unhide HI) (fun h => by omega) K9 (unhide HK') hg8⟩
          · have hwt : IntKind.i64.wrap tn = tn := wrap_at rfl (by have := unhide HTN; omega) (by have := unhide HTN; omega)
            have k' := setCell_kp W1 g9 0 (.int .i64 (bits .xor .i64 i tn))
            have G' := heap_setCell_same W1 g9 0 _ _ (.int .i64 (bits .xor .i64 i tn)) (unhide HGW)
            have Z' := k'.heap (unhide HZW) (by simp; omega)
            have HK' : Hid (Kp [] w (W1.setCell ⟨g9, 0, none⟩ (.int .i64 (bits .xor .i64 i tn)))) := (unhide HKW).then k' (fun j hj => .inr (by have := unhide H9; simp at hj; omega))
            have L9P := (unhide HAP1).lzoff k' hs3 (by have := unhide HPL; omega) g8 (by have := unhide H8; have := unhide H9; omega)
            have L9Q := (unhide HAQ1).lzoff k' hs5 (by have := unhide HQL; omega) g8 (by have := unhide H8; have := unhide H9; omega)
            have HLP' := hide (L9P)
            have HLQ' := hide (L9Q)
            clear k' L9P L9Q
            have HGf := hide G'
            have HZf := hide Z'
            go_wp2_with (refine wpList_load_row rfl 33 (.tmp 9) rfl g9 rfl 33 _ (0, 0) _ (unhide HGf) Tryd.underlying33 rfl Tryd.sigSize ?_; refine Hid.out ?_)
            refine hide ?_
            go_wp2_with (refine wpList_store_sig rfl (.tmp 8) (.tmp 169) rfl g8 rfl _ _ _ _ _ _ (unhide HZf) rfl ⟨rfl, rfl, rfl⟩ ?_; intro w9 G9 K9)
            refine bodyPost_ret (results_sig1 rfl _ _ g8 _ _ _ (0, 0) rfl G9) rfl ?_
            exact ⟨_, rfl, trnd_end (unhide HLP') (unhide HLQ') (xor64_bd i tn) (fun h => by omega) K9 (unhide HK') hg8⟩
          · have hpc : 64 ≤ pc := (unhide HAP1).cap
            have hrs := run_cut (some ⟨gr, 0, none⟩) 64 pc pi W1 (by omega) hpc (fun h => by cases h)
            have k' := setCell_kp W1 g9 1 (.slice (some ⟨gr, 0, none⟩) pi pc)
            have G' := heap_setCell_same W1 g9 1 _ _ (.slice (some ⟨gr, 0, none⟩) pi pc) (unhide HGW)
            have Z' := k'.heap (unhide HZW) (by simp; omega)
            have HK' : Hid (Kp [] w (W1.setCell ⟨g9, 1, none⟩ (.slice (some ⟨gr, 0, none⟩) pi pc))) := (unhide HKW).then k' (fun j hj => .inr (by have := unhide H9; simp at hj; omega))
            have L9P := (unhide HAP1).lzoff k' hs3 (by have := unhide HPL; omega) g8 (by have := unhide H8; have := unhide H9; omega)
            have L9Q := (unhide HAQ1).lzoff k' hs5 (by have := unhide HQL; omega) g8 (by have := unhide H8; have := unhide H9; omega)
            have HLP' := hide (L9P.take (k := pi) (by have := unhide HPL; omega))
            have HLQ' := hide (L9Q)
            clear k' L9P L9Q
            have HGf := hide G'
            have HZf := hide Z'
            go_wp2_with (refine wpList_load_row rfl 33 (.tmp 9) rfl g9 rfl 33 _ (0, 0) _ (unhide HGf) Tryd.underlying33 rfl Tryd.sigSize ?_; refine Hid.out ?_)
            refine hide ?_
            go_wp2_with (refine wpList_store_sig rfl (.tmp 8) (.tmp 169) rfl g8 rfl _ _ _ _ _ _ (unhide HZf) rfl ⟨rfl, rfl, rfl⟩ ?_; intro w9 G9 K9)
            refine bodyPost_ret (results_sig1 rfl _ _ g8 _ _ _ (0, 0) rfl G9) rfl ?_
            exact ⟨_, rfl, trnd_end (unhide HLP') (unhide HLQ') (unhide HI) (fun h => by omega) K9 (unhide HK') hg8⟩
          · have hqc : 4 ≤ qc := (unhide HAQ1).cap
            have hrs := run_cut (some ⟨gq, 0, none⟩) 4 qc ki W1 (by omega) hqc (fun h => by cases h)
            have k' := setCell_kp W1 g9 2 (.slice (some ⟨gq, 0, none⟩) ki qc)
            have G' := heap_setCell_same W1 g9 2 _ _ (.slice (some ⟨gq, 0, none⟩) ki qc) (unhide HGW)
            have Z' := k'.heap (unhide HZW) (by simp; omega)
            have HK' : Hid (Kp [] w (W1.setCell ⟨g9, 2, none⟩ (.slice (some ⟨gq, 0, none⟩) ki qc))) := (unhide HKW).then k' (fun j hj => .inr (by have := unhide H9; simp at hj; omega))
            have L9P := (unhide HAP1).lzoff k' hs3 (by have := unhide HPL; omega) g8 (by have := unhide H8; have := unhide H9; omega)
            have L9Q := (unhide HAQ1).lzoff k' hs5 (by have := unhide HQL; omega) g8 (by have := unhide H8; have := unhide H9; omega)
            have HLP' := hide (L9P)
            have HLQ' := hide (L9Q.take (k := ki) (by have := unhide HQL; omega))
            clear k' L9P L9Q
            have HGf := hide G'
            have HZf := hide Z'
            go_wp2_with (refine wpList_load_row rfl 33 (.tmp 9) rfl g9 rfl 33 _ (0, 0) _ (unhide HGf) Tryd.underlying33 rfl Tryd.sigSize ?_; refine Hid.out ?_)
            refine hide ?_
            go_wp2_with (refine wpList_store_sig rfl (.tmp 8) (.tmp 169) rfl g8 rfl _ _ _ _ _ _ (unhide HZf) rfl ⟨rfl, rfl, rfl⟩ ?_; intro w9 G9 K9)
            refine bodyPost_ret (results_sig1 rfl _ _ g8 _ _ _ (0, 0) rfl G9) rfl ?_
            exact ⟨_, rfl, trnd_end (unhide HLP') (unhide HLQ') (unhide HI) (fun h => by omega) K9 (unhide HK') hg8⟩
          · have hq16 : Int.tdiv (32 : Int) 2 = 16 := by decide
            have hc116 : 16 ≤ c1 := by have := (unhide HR4).sl; obtain ⟨_, _, e, h, _⟩ := this; injection e with _ _ e3; rw [unhide HP32p] at h; omega
            have hrs := run_cut1 (some ⟨b1, 0, none⟩) 32 c1 16 W1.drew (by omega) (by have := (unhide HR4).sl; obtain ⟨_, _, e, h, _⟩ := this; injection e with _ _ e3; rw [unhide HP32p] at h; omega) (fun h => by cases h)
            have Fg : W1.drew.frozen? ⟨gr, pi, none⟩ = false := unhide HR6 pi
            have k' := (setCell_kp W1.drew gr pi (.slice (some ⟨b1, 0, none⟩) 16 c1))
            have HLP' : Hid (Lz g8 (W1.drew.setCell ⟨gr, pi, none⟩ (.slice (some ⟨b1, 0, none⟩) 16 c1)) (.slice (some ⟨gr, 0, none⟩) 64 pc) (ps.set pi ((ps.getD pi []).take 16))) := (unhide HAP1).half pi (kp_drew W1) (unhide HR4) (unhide HR5) r7 (by have := unhide HPL; omega) g8 (by omega)
            have HLQ' : Hid (Lz g8 (W1.drew.setCell ⟨gr, pi, none⟩ (.slice (some ⟨b1, 0, none⟩) 16 c1)) (.slice (some ⟨gq, 0, none⟩) 4 qc) qs) := ((unhide HAQ1).mid (kp_drew W1)).lzoff k' (by obtain ⟨_, _, _, p3⟩ := unhide HPXW; exact (p3 gr (.inl rfl)).2) (by have := unhide HQL; omega) g8 (by omega)
            have G' := k'.heap ((kp_drew W1).heap (unhide HGW) (by simp)) (by simp; omega)
            have Z' := k'.heap ((kp_drew W1).heap (unhide HZW) (by simp)) (by have := ((unhide HAP1).own gr rfl).1; simp; omega)
            have HK' : Hid (Kp [] w (W1.drew.setCell ⟨gr, pi, none⟩ (.slice (some ⟨b1, 0, none⟩) 16 c1))) := ((unhide HKW).trans (kp_drew W1)).then k' (fun j hj => .inr (by have := ((unhide HAP1).own gr rfl).1; have := unhide H9; simp at hj; omega))
            clear k'
            have dD1 := (kp_drew W1).cell D1 (by simp)
            have dr1 := (kp_drew W1).cell r1 (by simp)
            go_wp2_with fail
            refine region_tail 17 Tryd.mixed (by kernel_rfl) ?_
            simp only [List.take_succ_cons, List.take_zero, List.drop_succ_cons, List.drop_zero]
            repeat (first | go_big_quiet_skip | (go_big_quiet_want; go_big_quiet_op; go_big_quiet_on))
            refine wpQuiet_nil ?_
            have HGf := hide G'
            have HZf := hide Z'
            go_wp2_with (refine wpList_load_row rfl 33 (.tmp 9) rfl g9 rfl 33 _ (0, 0) _ (unhide HGf) Tryd.underlying33 rfl Tryd.sigSize ?_; refine Hid.out ?_)
            refine hide ?_
            go_wp2_with (refine wpList_store_sig rfl (.tmp 8) (.tmp 169) rfl g8 rfl _ _ _ _ _ _ (unhide HZf) rfl ⟨rfl, rfl, rfl⟩ ?_; intro w9 G9 K9)
            refine bodyPost_ret (results_sig1 rfl _ _ g8 _ _ _ (0, 0) rfl G9) rfl ?_
            exact ⟨_, rfl, trnd_end (unhide HLP') (unhide HLQ') (unhide HI) (fun h => by omega) K9 (unhide HK') hg8⟩
          · obtain ⟨i0, hi0, hz0, hz1, hz2⟩ := info_parts Tryd.info5
            obtain ⟨wm, hmr, hm1, hm2⟩ := run_make_full (P := Tryd.prog) W1.drew W1.heap.size 24 5 i0 (.int .u8 0) 1 Tryd.underlying24 hi0 hz0 hz1 .i64 .i64 32 (by rw [hz2]; omega) (by unfold maxLen; omega) (Nat.le_refl _)
            rw [made_zero] at hm1
            have hmr' : (Instr.makeSlice 24 (.int .i64 32) (.int .i64 32)).run Tryd.prog W1.drew = .ok (.slice (some ⟨W1.heap.size, 0, none⟩) 32 32) wm := hmr
            clear hmr
            have RM : Row wm W1.heap.size (.slice (some ⟨W1.heap.size, 0, none⟩) 32 32) (List.replicate 32 (0 : Int)) := by unfold Row; rw [List.length_replicate]; exact hm1
            have KM : Kp [] W1 wm := (kp_drew W1).trans ((Kp.refl [] W1.drew).grown hm2 (by intro k hk; cases hk))
            have HRM := hide RM
            have HKM := hide KM
            have E2 : wm.cell? ⟨g9, 2, none⟩ = some (.slice (some ⟨gq, 0, none⟩) 4 qc) := KM.cell D2 (by simp)
            have E2a : ∀ o, (wm.alloc o).cell? ⟨g9, 2, none⟩ = some (.slice (some ⟨gq, 0, none⟩) 4 qc) := fun o => (World.cell?_alloc_lt _ _ _ (by exact World.block_lt_of_cell? _ _ E2)).trans E2
            have hbz : Bs (List.replicate 32 (0 : Int)) := fun b hb => by rw [List.eq_of_mem_replicate hb]; omega
            have HBZ := hide hbz
            have HLNq : Hid (qs.length ≤ 1000000) := hide (by have := unhide HQL; omega)
            clear hm1 hm2 RM KM hbz
            go_wp2_with fail
            go_region_law ((refine step_accp (by rfl) (.tmp 161) (.tmp 163) (by rfl) (.slice (some ⟨gq, 0, none⟩) 4 qc) _ (by rfl) (unhide HAQ1) (unhide HLNq) (.slice (some ⟨W1.heap.size, 0, none⟩) 32 32) (List.replicate 32 (0 : Int)) (unhide HKM) (unhide HRM) (unhide HBZ) wm.heap.size (by rfl) (by exact cell_of_one (heap_alloc_new wm _)) ((Kp.refl [] wm).alloc _) ?_; intro ao5 m5 c5 w8 A5 S5; have G5 : w8.heap[g9]? = some _ := S5.1.heap (unhide HGW) (fun hm => by have := ((unhide HAQ1).own g9 (by simpa using hm)).1; omega); have hc5 : w8.cell? ⟨g9, 2, none⟩ = some (.slice (some ⟨gq, 0, none⟩) 4 qc) := (by rw [cell_of_row w8 g9 2 _ _ _ G5]; rfl); have hf5 : w8.frozen? ⟨g9, 2, none⟩ = false := frozen_of_row w8 g9 2 _ _ G5))
            all_goals
              have k' := setCell_kp w8 g9 2 (.slice ao5 m5 c5)
              have G' := heap_setCell_same w8 g9 2 _ _ (.slice ao5 m5 c5) G5
              have hgqo := (unhide HAQ1).own
              have Z' := k'.heap (S5.1.heap (unhide HZW) (fun hm => by have := (hgqo g8 (by simpa using hm)).1; omega)) (by simp; omega)
              have HK' : Hid (Kp [] w (w8.setCell ⟨g9, 2, none⟩ (.slice ao5 m5 c5))) := ((unhide HKW).then S5.1 (fun j hj => .inr (by have := (hgqo j (by simpa using hj)).1; have := unhide H9; omega))).then k' (fun j hj => .inr (by have := unhide H9; simp at hj; omega))
              have HLQ' := hide (A5.lzoff k' hs5 (by have := unhide HQL; simp; omega) g8 (by omega))
              have HLP' : Hid (Lz g8 (w8.setCell ⟨g9, 2, none⟩ (.slice ao5 m5 c5)) (.slice (some ⟨gr, 0, none⟩) 64 pc) ps) := by
                obtain ⟨l, p1, p2, p3⟩ := unhide HPXW
                exact ⟨l, (p1.off S5.1 (fun q hq hm => by have := p3 q (.inl hq); have := (hgqo q (by simpa using hm)).1; omega) (fun y hy q hq hm => by have := p3 q (.inr ⟨y, hy, hq⟩); have := (hgqo q (by simpa using hm)).1; omega)).off k' (fun q hq => by have := p3 q (.inl hq); simp; omega) (fun y hy q hq => by have := p3 q (.inr ⟨y, hy, hq⟩); simp; omega), p2, fun q hq => by have := p3 q (.inl hq); omega, fun y hy q hq => by have := p3 q (.inr ⟨y, hy, hq⟩); omega⟩
              clear k' A5 S5 G5 hc5 hf5 hgqo E2 E2a hmr'
              have HGf := hide G'
              have HZf := hide Z'
              go_wp2_with (refine wpList_load_row rfl 33 (.tmp 9) rfl g9 rfl 33 _ (0, 0) _ (unhide HGf) Tryd.underlying33 rfl Tryd.sigSize ?_; refine Hid.out ?_)
              refine hide ?_
              go_wp2_with (refine wpList_store_sig rfl (.tmp 8) (.tmp 169) rfl g8 rfl _ _ _ _ _ _ (unhide HZf) rfl ⟨rfl, rfl, rfl⟩ ?_; intro w9 G9 K9)
              refine bodyPost_ret (results_sig1 rfl _ _ g8 _ _ _ (0, 0) rfl G9) rfl ?_
              exact ⟨_, rfl, trnd_end (unhide HLP') (unhide HLQ') (unhide HI) (fun h => by omega) K9 (unhide HK') hg8⟩
          · skip
            have k' := setCell_kp W1 g9 0 (.int .i64 (-1))
            have G' := heap_setCell_same W1 g9 0 _ _ (.int .i64 (-1)) (unhide HGW)
            have Z' := k'.heap (unhide HZW) (by simp; omega)
            have HK' : Hid (Kp [] w (W1.setCell ⟨g9, 0, none⟩ (.int .i64 (-1)))) := (unhide HKW).then k' (fun j hj => .inr (by have := unhide H9; simp at hj; omega))
            have L9P := (unhide HAP1).lzoff k' hs3 (by have := unhide HPL; omega) g8 (by have := unhide H8; have := unhide H9; omega)
            have L9Q := (unhide HAQ1).lzoff k' hs5 (by have := unhide HQL; omega) g8 (by have := unhide H8; have := unhide H9; omega)
            have HLP' := hide (L9P)
            have HLQ' := hide (L9Q)
            clear k' L9P L9Q
            have HGf := hide G'
            have HZf := hide Z'
            go_wp2_with (refine wpList_load_row rfl 33 (.tmp 9) rfl g9 rfl 33 _ (0, 0) _ (unhide HGf) Tryd.underlying33 rfl Tryd.sigSize ?_; refine Hid.out ?_)
            refine hide ?_
            go_wp2_with (refine wpList_store_sig rfl (.tmp 8) (.tmp 169) rfl g8 rfl _ _ _ _ _ _ (unhide HZf) rfl ⟨rfl, rfl, rfl⟩ ?_; intro w9 G9 K9)
            refine bodyPost_ret (results_sig1 rfl _ _ g8 _ _ _ (0, 0) rfl G9) rfl ?_
            exact ⟨_, rfl, trnd_end (unhide HLP') (unhide HLQ') (by omega) (fun h => by omega) K9 (unhide HK') hg8⟩
end Go.Proofs.YtdioaohejoflcaaDoor

/-
  A signature that is written is read again: the plain form, and Decode with memory of its own; the law package's Sized at a signature's size.
-/
namespace Go.Proofs.YtdioaohejoflcaaDoor
open Go.ChangeShapes Go.WideShapes Go.ChangeAt Go.RowKit
open Go.Deep
open Go.Proofs

theorem sb_flat_len (ps : List (List Int)) (h : ∀ x ∈ ps, x.length = 32) : ps.flatten.length = 32 * ps.length := by
  induction ps with
  | nil => rfl
  | cons a l ih => rw [List.flatten_cons, List.length_append, h a (by simp), ih (fun x hx => h x (by simp [hx])), List.length_cons]; omega
theorem sb_flat_drop (ps : List (List Int)) (h : ∀ x ∈ ps, x.length = 32) (r : List Int) : ∀ n, n ≤ ps.length → (ps.flatten ++ r).drop (32 * n) = (ps.drop n).flatten ++ r := by
  induction ps with
  | nil => intro n hn; have : n = 0 := by simpa using hn
           subst this; simp
  | cons a l ih =>
    intro n hn
    cases n with
    | zero => simp
    | succ n =>
      have ha : a.length = 32 := h a (by simp)
      rw [show 32 * (n + 1) = a.length + 32 * n by omega, List.flatten_cons, List.append_assoc, ← List.drop_drop, List.drop_left, ih (fun x hx => h x (by simp [hx])) n (by simpa using hn)]
      rfl
theorem sb_chP_flat (ps : List (List Int)) (h : ∀ x ∈ ps, x.length = 32) (r : List Int) (n : Nat) (hn : ps.length = n) : chP n (ps.flatten ++ r) = ps := by
  apply List.ext_getElem
  · rw [chP_len, hn]
  · intro j h1 h2
    have : (ps.drop j).flatten = ps[j] ++ (ps.drop (j + 1)).flatten := by rw [List.drop_eq_getElem_cons h2, List.flatten_cons]
    simp only [chP, List.getElem_map, List.getElem_range]
    rw [sb_flat_drop ps h r j (by omega), this, List.append_assoc, ← h ps[j] (List.getElem_mem h2), List.take_left]
theorem encP_len (i : Int) (ps qs : List (List Int)) (hr : rgtP i ps qs = true) : (encP i ps qs).length = 2180 := by
  obtain ⟨_, ⟨h1, h2⟩, h3, h4⟩ := (rgtP_iff _ _ _).1 hr
  unfold encP
  rw [List.length_append, List.length_append, be4_len, sb_flat_len _ h2, sb_flat_len _ h4, h1, h3]
theorem encP_back (i : Int) (ps qs : List (List Int)) (hr : rgtP i ps qs = true) : decOk (encP i ps qs) = true ∧ val ((encP i ps qs).take 4) = i ∧ chP 64 ((encP i ps qs).drop 4) = ps ∧ chP 4 ((encP i ps qs).drop 2052) = qs := by
  have hl := encP_len i ps qs hr
  obtain ⟨⟨hi0, hi1⟩, ⟨h1, h2⟩, h3, h4⟩ := (rgtP_iff _ _ _).1 hr
  have e1 : (encP i ps qs).take 4 = be4 i := by unfold encP; rw [← be4_len i, List.take_left]
  have e2 : (encP i ps qs).drop 4 = ps.flatten ++ qs.flatten := by unfold encP; rw [← be4_len i, List.drop_left]
  have e3 : (encP i ps qs).drop 2052 = qs.flatten ++ [] := by
    rw [show 2052 = 4 + 2048 from rfl, ← List.drop_drop, e2, show 2048 = ps.flatten.length by rw [sb_flat_len _ h2, h1], List.drop_left, List.append_nil]
  have e4 : val (be4 i) = i := by
    obtain ⟨k, rfl⟩ := Int.eq_ofNat_of_zero_le hi0
    have : k < 16 := by omega
    have key : ∀ k : Nat, k < 16 → val (be4 (k : Int)) = (k : Int) := by decide
    exact key k this
  refine ⟨?_, by rw [e1, e4], by rw [e2, sb_chP_flat _ h2 _ _ h1], by rw [e3, sb_chP_flat _ h4 _ _ h3]⟩
  unfold decOk
  rw [hl, e1, e4]
  simp [hi1]
theorem encP_bs (i : Int) (ps qs : List (List Int)) (hr : rgtP i ps qs = true) (hp : ∀ x ∈ ps, Bs x) (hq : ∀ x ∈ qs, Bs x) : Bs (encP i ps qs) := by
  obtain ⟨⟨hi0, hi1⟩, _, _⟩ := (rgtP_iff _ _ _).1 hr
  intro b hb
  unfold encP at hb
  rcases List.mem_append.1 hb with h | h
  · obtain ⟨k, rfl⟩ := Int.eq_ofNat_of_zero_le hi0
    have key : ∀ k : Nat, k < 16 → ∀ b ∈ be4 (k : Int), 0 ≤ b ∧ b ≤ 255 := by decide
    exact key k (by omega) b h
  · rcases List.mem_append.1 h with h | h
    · obtain ⟨x, hx, hb⟩ := List.mem_flatten.1 h; exact hp x hx b hb
    · obtain ⟨x, hx, hb⟩ := List.mem_flatten.1 h; exact hq x hx b hb

theorem made_sig : (madeCells (Value.int .u8 0).cells (2180 * 1)).toList = (List.replicate 2180 (0 : Int)).map (Value.int .u8) := by
  rw [List.map_replicate]
  exact toList_madeCells_one (.int .u8 0) 2180
theorem splice_sig (bs : List Int) : splice ((List.replicate 2180 (0 : Int)).map (Value.int .u8)) 0 ((bs.take 2180).map (Value.int .u8)) = (bs.take 2180 ++ List.replicate (2180 - (bs.take 2180).length) 0).map (Value.int .u8) := by
  unfold splice
  rw [List.take_zero, List.nil_append, List.map_append, ← List.map_drop, List.drop_replicate]
  congr 3
  simp

set_option maxRecDepth 100000 in
set_option maxHeartbeats 1000000 in
theorem sized_sig (v : Value) (bs : List Int) (w : World) (hS : Sl w v bs) (hB : Bs bs) :
    Calls Tryd.prog 21 #[v, .int .i64 2180] w fun e w' => ∃ g bs', e = .returned (.slice (some ⟨g, 0, none⟩) 2180 2180) ∧ bs'.length = 2180 ∧ Bs bs' ∧ Row w' w.heap.size (.slice (some ⟨g, 0, none⟩) 2180 2180) bs' ∧ Kp [] w w' := by
  obtain ⟨i0, hi0, hz0, hz1, hz2⟩ := info_parts Tryd.info5
  obtain ⟨ao, c, rfl, h1, h2, h3, h4⟩ := hS
  obtain ⟨cs, hcs⟩ : ∃ cs, cs = (bs.take 2180).map (Value.int .u8) := ⟨_, rfl⟩
  have hcl : cs.length = min bs.length 2180 := by rw [hcs]; simp; omega
  have hone : ∀ u ∈ cs, u.oneCell' = true := by
    rw [hcs]
    intro u hu
    obtain ⟨x, _, rfl⟩ := List.mem_map.1 hu
    rfl
  have hsrc : Hid (∀ a, ao = some a → ∀ j u, cs[j]? = some u → w.cell? (a.add j) = some u) := by
    rw [hcs]
    intro a ha j u hu
    refine h4 a ha j u ?_
    rw [List.map_take, List.getElem?_take] at hu
    split at hu
    · exact hu
    · cases hu
  have HC := hide hcs
  have HCL := hide hcl
  have HB := hide hB
  obtain ⟨nb, hnb⟩ : ∃ n, n = bs.length := ⟨_, rfl⟩
  rw [← hnb] at h1 HCL ⊢
  clear h4 hcs hcl hB hnb
  go_enter Tryd.func21, Tryd.ntmps21
  have hszi : (Tryd.prog.info? 5).map (·.size) = some 1 := by rw [hi0]; simp [hz1]
  go_wp2_with (at_make; refine wpList_make_full _ rfl _ _ 24 rfl w.heap.size 5 i0 (.int .u8 0) 1 Tryd.underlying24 hi0 hz0 hz1 .i64 .i64 _ _ 2180 rfl rfl (by omega) (by omega) (by rw [hz2]; omega) (by unfold maxLen; omega) (Nat.le_refl _) ?_; intro w1 o1 g1; refine Hid.out ?_)
  rw [made_sig] at o1
  have hcur := hide (made_all o1)
  have B1 : Below w.heap.size w w1 := (Below.refl _ _).grown g1 (Nat.le_refl _) (by intro k hk; cases hk)
  have HB1 := hide B1
  obtain ⟨zs, hzs⟩ : ∃ zs, zs = (List.replicate 2180 (0 : Int)).map (Value.int .u8) := ⟨_, rfl⟩
  rw [← hzs] at hcur
  have HZ := hide hzs
  have HZL : Hid (zs.length = 2180) := hide (by rw [hzs]; simp)
  clear o1 g1 B1 hzs
  refine hide ?_
  go_wp2_with (refine wpList_copy_splice rfl (.tmp 8) (.tmp 9) 24 24 rfl 5 Tryd.underlying24 hszi (some ⟨w.heap.size, 0, none⟩) ao 2180 2180 nb c rfl rfl w.heap.size 0 zs 5 (unhide hcur) cs (by have := unhide HCL; unfold Nat.min at *; omega) (fun hpos => ⟨rfl, copy_src (unhide HB1) (unhide hsrc) (h3) (by have := unhide HCL; omega)⟩) (by have := unhide HCL; have := unhide HZL; omega) hone w.heap.size w (unhide HB1) (Nat.le_refl _) ?_; intro w2 H2 B2; refine Hid.out ?_)
  have hbl : (bs.take 2180 ++ List.replicate (2180 - (bs.take 2180).length) (0 : Int)).length = 2180 := by simp; omega
  have hrow : Row w2 w.heap.size (.slice (some ⟨w.heap.size, 0, none⟩) 2180 2180) (bs.take 2180 ++ List.replicate (2180 - (bs.take 2180).length) 0) := by
    have := H2.out
    rw [unhide HZ, unhide HC, splice_sig] at this
    exact row_of_block (Nat.le_refl _) this hbl (by unfold maxLen; omega)
  have hbb : Bs (bs.take 2180 ++ List.replicate (2180 - (bs.take 2180).length) (0 : Int)) := by
    intro b hb
    rcases List.mem_append.1 hb with h | h
    · exact (unhide HB).take 2180 b h
    · rw [List.eq_of_mem_replicate h]; omega
  have HRW := hide hrow
  have HBB := hide hbb
  have HBL := hide hbl
  have HK2 := hide (Kp.of_below B2)
  clear hrow hbb hbl H2 B2
  refine hide ?_
  go_wp2_with fail
  go_ret
  exact ⟨_, _, rfl, unhide HBL, unhide HBB, unhide HRW, unhide HK2⟩

set_option maxRecDepth 100000 in
set_option maxHeartbeats 4000000 in
theorem decode_apart (vb : Value) (bs : List Int) (w : World) (hS : Sl w vb bs) (hB : Bs bs) (hok : decOk bs = true) :
    Calls Tryd.prog 19 #[vb] w fun e w' => ∃ v, e = .returned (.tuple #[v, .int .i64 0]) ∧ (∀ (S : List Nat) w2, (∀ q ∈ S, q < w.heap.size) → Kp S w' w2 → SigV w2 v (val (bs.take 4)) (chP 64 (bs.drop 4)) (chP 4 (bs.drop 2052))) ∧ Kp [] w w' := by
  have hl : bs.length = 2180 := by unfold decOk at hok; simp at hok; exact hok.1
  have HOK := hide hok
  have HB := hide hB
  have HL := hide hl
  clear hok
  obtain ⟨ob, hob⟩ : ∃ o : Obj, o = (.cells #[.int .i64 0, .slice none 0 0, .slice none 0 0] 33) := ⟨_, rfl⟩
  have K1 : Kp [] w (w.alloc ob) := (Kp.refl [] w).alloc ob
  have HRd := hide (read_any vb bs (w.alloc ob) (hS.kept K1 (by simp)) (by omega))
  have G1 : Hid ((w.alloc ob).heap[w.heap.size]? = some ob) := heap_alloc_new w ob
  rw [hob] at K1 HRd G1
  have HK1 := hide K1
  obtain ⟨ab, cb, hvb, _⟩ := hS
  rw [hl] at hvb
  subst hvb
  clear hob K1 hB hl
  go_enter Tryd.func19, Tryd.ntmps19
  go_wp2_with fail
  refine (unhide HRd).mono ?_
  rintro ee w2 ⟨q, v2, rfl, hq2, R2, hv2, K2⟩
  have HK2 := hide ((unhide HK1).trans K2)
  have HG2 := hide (K2.heap (unhide G1) (by simp))
  have HKa : Hid (Kp [] w2 (w2.alloc (.cells #[.int .i64 0, .slice none 0 0, .slice none 0 0] 33))) := (Kp.refl [] w2).alloc _
  have HR2 := hide (R2.kept (unhide HKa) (by simp) (by simp))
  have hqlt : q < w2.heap.size := lt_of_block R2.1
  have HV2 := hide hv2
  have hqw : w.heap.size < q := by have e : (w.alloc ob).heap.size = w.heap.size + 1 := by simp
                                   have e' : ∀ o : Obj, (w.alloc o).heap.size = w.heap.size + 1 := fun o => by simp
                                   rw [e'] at hq2; omega
  have HGa : Hid ((w2.alloc (.cells #[.int .i64 0, .slice none 0 0, .slice none 0 0] 33)).heap[w2.heap.size]? = some (.cells #[.int .i64 0, .slice none 0 0, .slice none 0 0] 33)) := heap_alloc_new w2 _
  have hRn := rnum_any q v2 false bs _ (unhide HR2) (unhide HB)
  rw [show tk false bs 4 = (bs.take 4, false, bs.drop 4) from tk_ok false bs 4 (by have := unhide HL; omega)] at hRn
  obtain ⟨x, hx⟩ : ∃ x, x = val (bs.take 4) := ⟨_, rfl⟩
  dsimp only at hRn
  rw [← hx] at hRn
  have hxb : 0 ≤ x ∧ x < 4294967296 := by
    have := val_bd (bs.take 4) ((unhide HB).take 4)
    rw [List.length_take, Nat.min_eq_left (by have := unhide HL; omega), ← hx] at this
    exact ⟨this.1, by simpa using this.2⟩
  have hwx : IntKind.i64.wrap x = x := wrap_at rfl (by omega) (by omega)
  have HX := hide hx
  have HXB := hide hxb
  have HRn := hide hRn
  clear hx hxb hRn
  clear HRd R2 hv2 K2 HK1 G1 hq2
  go_wp2_with fail
  refine (unhide HRn).mono ?_
  rintro ee w3 ⟨rfl, ⟨v3, R3, hv3⟩, K3⟩
  obtain ⟨g1, hg1⟩ : ∃ g, g = w2.heap.size := ⟨_, rfl⟩
  rw [← hg1] at HGa hqlt HV2 ⊢
  have hza : Hid (∀ o : Obj, (w2.alloc o).heap.size = g1 + 1) := fun o => by rw [hg1]; simp
  have G3 : w3.heap[g1]? = some (.cells #[.int .i64 0, .slice none 0 0, .slice none 0 0] 33) := K3.heap (unhide HGa) (by simp; omega)
  have hc3 : w3.cell? ⟨g1, 0, none⟩ = some (.int .i64 0) := by rw [cell_of_row w3 g1 0 _ _ _ G3]; rfl
  have hf3 : w3.frozen? ⟨g1, 0, none⟩ = false := frozen_of_row w3 g1 0 _ _ G3
  have HK3 : Hid (Kp [] w w3) := ((unhide HK2).trans (unhide HKa)).then K3 (fun i hi => .inr (by simp at hi; omega))
  have k4 := setCell_kp w3 g1 0 (.int .i64 x)
  have g4 := heap_setCell_same w3 g1 0 _ _ (.int .i64 x) G3
  have hv3' : ∀ k, v3.ownBlock = some k → k < g1 := fun k hk => (unhide HV2 k (hv3 k hk)).2
  have R4 := R3.kept k4 (by simp; omega) (fun i hi => by have := hv3' i hi; simp; omega)
  have hsz3 : g1 + 1 ≤ w3.heap.size := by have := K3.size; rw [unhide hza] at this; exact this
  have hsz4 : w3.heap.size ≤ (w3.setCell ⟨g1, 0, none⟩ (.int .i64 x)).heap.size := k4.size
  have HC4 := hide (reads_any q v3 (bs.drop 4) 64 _ R4 (fun k hk => by have := hv3' k hk; omega) ((unhide HB).drop 4) (by rw [List.length_drop]; have := unhide HL; omega) (by omega) (by rw [List.length_drop]; have := unhide HL; omega))
  have HK4 : Hid (Kp [] w (w3.setCell ⟨g1, 0, none⟩ (.int .i64 x))) := (unhide HK3).then k4 (fun i hi => .inr (by simp at hi; subst hi; have := (unhide HK2).size; omega))
  have HG4 := hide g4
  have HV3 := hide hv3'
  have HQ4 : Hid (Kp [q, g1] w2 (w3.setCell ⟨g1, 0, none⟩ (.int .i64 x))) := (((unhide HKa).mono (by simp)).trans (K3.mono (by simp))).trans (k4.mono (by simp))
  have HGW : Hid (w.heap.size < g1) := hide (by omega)
  clear G3 k4 g4 hv3' R4 R3 hv3 K3 HRn HR2 HGa HKa HK3 HV2 hg1
  go_wp2_with fail
  refine (unhide HC4).mono ?_
  rintro ee w5 ⟨a5, m5, c5, rfl, A5, v5, R5, hv5⟩
  have hA5 := A5.kp
  have HG5 : w5.heap[g1]? = some _ := hA5.heap (unhide HG4) (by simp; omega)
  have hc5 : w5.cell? ⟨g1, 1, none⟩ = some (.slice none 0 0) := by rw [cell_of_row w5 g1 1 _ _ _ HG5]; rfl
  have hf5 : w5.frozen? ⟨g1, 1, none⟩ = false := frozen_of_row w5 g1 1 _ _ HG5
  have k6 := setCell_kp w5 g1 1 (.slice a5 m5 c5)
  have g6 := heap_setCell_same w5 g1 1 _ _ (.slice a5 m5 c5) HG5
  have HL5 : Hid (∃ l, Lists w5 (.slice a5 m5 c5) l ∧ l.map (·.2) = chP 64 (bs.drop 4) ∧ (∀ q, (Value.slice a5 m5 c5).ownBlock = some q → g1 + 1 ≤ q) ∧ ∀ x ∈ l, ∀ q, x.1.ownBlock = some q → g1 + 1 ≤ q) := by
    obtain ⟨l, h1, h2, h3, h4⟩ := A5.lists (by rw [chP_len]; omega)
    exact ⟨l, h1, h2, fun q hq => by have := h3 q hq; omega, fun x hx q hq => by have := h4 x hx q hq; omega⟩
  have hv5' : ∀ k, v5.ownBlock = some k → k < g1 := fun k hk => unhide HV3 k (hv5 k hk)
  have hsz5 : g1 + 1 ≤ w5.heap.size := by have := hA5.size; omega
  have R6 := R5.kept k6 (by simp; omega) (fun i hi => by have := hv5' i hi; simp; omega)
  have hsz6 := k6.size
  rw [List.drop_drop] at R6
  have HC6 := hide (reads_any q v5 (bs.drop (4 + 32 * 64)) 4 _ R6 (fun k hk => by have := hv5' k hk; omega) ((unhide HB).drop _) (by rw [List.length_drop]; have := unhide HL; omega) (by omega) (by rw [List.length_drop]; have := unhide HL; omega))
  have HK5 : Hid (Kp [] w w5) := (unhide HK4).then hA5 (fun i hi => .inr (by simp at hi; omega))
  have HK6 : Hid (Kp [] w (w5.setCell ⟨g1, 1, none⟩ (.slice a5 m5 c5))) := (unhide HK5).then k6 (fun i hi => .inr (by simp at hi; subst hi; have := unhide HGW; omega))
  have HK56 := hide k6
  have HQ6 : Hid (Kp [q, g1] w2 (w5.setCell ⟨g1, 1, none⟩ (.slice a5 m5 c5))) := ((unhide HQ4).trans (hA5.mono (by simp))).trans (k6.mono (by simp))
  have HG6 := hide g6
  clear HG5 k6 g6 hv5' R6 R5 hv5 A5 hA5 HC4 HG4 HV3 HK4 HK5 hc3 hf3 hsz3 hsz4
  go_wp2_with fail
  refine (unhide HC6).mono ?_
  rintro ee w7 ⟨a7, m7, c7, rfl, A7, -⟩
  have hA7 := A7.kp
  have HG7 : w7.heap[g1]? = some _ := hA7.heap (unhide HG6) (by simp; omega)
  have hc7 : w7.cell? ⟨g1, 2, none⟩ = some (.slice none 0 0) := by rw [cell_of_row w7 g1 2 _ _ _ HG7]; rfl
  have hf7 : w7.frozen? ⟨g1, 2, none⟩ = false := frozen_of_row w7 g1 2 _ _ HG7
  have k8 := setCell_kp w7 g1 2 (.slice a7 m7 c7)
  have g8 := heap_setCell_same w7 g1 2 _ _ (.slice a7 m7 c7) HG7
  have HK7 : Hid (Kp [] w w7) := (unhide HK6).then hA7 (fun i hi => .inr (by simp at hi; omega))
  have HK8 : Hid (Kp [] w (w7.setCell ⟨g1, 2, none⟩ (.slice a7 m7 c7))) := (unhide HK7).then k8 (fun i hi => .inr (by simp at hi; subst hi; have := unhide HGW; omega))
  have HV8 : Hid (SigV (w7.setCell ⟨g1, 2, none⟩ (.slice a7 m7 c7)) (.agg #[.int .i64 x, .slice a5 m5 c5, .slice a7 m7 c7]) x (chP 64 (bs.drop 4)) (chP 4 (bs.drop 2052)) ∧ ∀ (S : List Nat) w9, (∀ q ∈ S, q ≤ w.heap.size) → Kp S (w7.setCell ⟨g1, 2, none⟩ (.slice a7 m7 c7)) w9 → SigV w9 (.agg #[.int .i64 x, .slice a5 m5 c5, .slice a7 m7 c7]) x (chP 64 (bs.drop 4)) (chP 4 (bs.drop 2052))) := by
    obtain ⟨lp, h1, h2, h3, h4⟩ := unhide HL5
    obtain ⟨lq, g1', g2, g3, g4⟩ := A7.lists (by rw [chP_len]; omega)
    have p6 := h1.off (unhide HK56) (fun q hq => by have := h3 q hq; simp; omega) (fun y hy q hq => by have := h4 y hy q hq; simp; omega)
    have p7 := p6.off hA7 (fun i hq => by have := h3 i hq; simp; omega) (fun y hy i hq => by have := h4 y hy i hq; simp; omega)
    have p8 := p7.off k8 (fun q hq => by have := h3 q hq; simp; omega) (fun y hy q hq => by have := h4 y hy q hq; simp; omega)
    have q8 := g1'.off k8 (fun q hq => by have := g3 q hq; simp; omega) (fun y hy q hq => by have := g4 y hy q hq; simp; omega)
    refine ⟨⟨_, _, lp, lq, rfl, p8, h2, q8, g2⟩, fun S w9 hS9 k9 => ⟨_, _, lp, lq, rfl, p8.off k9 (fun q hq => ?_) (fun y hy q hq => ?_), h2, q8.off k9 (fun q hq => ?_) (fun y hy q hq => ?_), g2⟩⟩
    · have h := h3 q hq; have := unhide HGW; exact fun hm => by have := hS9 _ hm; omega
    · have h := h4 y hy q hq; have := unhide HGW; exact fun hm => by have := hS9 _ hm; omega
    · have h := g3 q hq; have := unhide HGW; exact fun hm => by have := hS9 _ hm; omega
    · have h := g4 y hy q hq; have := unhide HGW; exact fun hm => by have := hS9 _ hm; omega
  obtain ⟨r, hr⟩ : ∃ r, r = rgtP x (chP 64 (bs.drop 4)) (chP 4 (bs.drop 2052)) := ⟨_, rfl⟩
  have hrd : r = decOk bs := by
    have hxb := unhide HXB
    by_cases h16 : x < 16
    · have e1 : rgtP x (chP 64 (bs.drop 4)) (chP 4 (bs.drop 2052)) = true := (rgtP_iff _ _ _).2 ⟨⟨hxb.1, h16⟩, ⟨chP_len _ _, chP_32 _ _ (by rw [List.length_drop]; have := unhide HL; omega)⟩, chP_len _ _, chP_32 _ _ (by rw [List.length_drop]; have := unhide HL; omega)⟩
      have e2 : decOk bs = true := by unfold decOk; rw [← unhide HX, unhide HL]; simp [h16]
      rw [hr, e1, e2]
    · have e1 : rgtP x (chP 64 (bs.drop 4)) (chP 4 (bs.drop 2052)) = false := by
        cases h : rgtP x (chP 64 (bs.drop 4)) (chP 4 (bs.drop 2052)) with
        | false => rfl
        | true => exact absurd ((rgtP_iff _ _ _).1 h).1.2 h16
      have e2 : decOk bs = false := by unfold decOk; rw [← unhide HX]; simp [h16]
      rw [hr, e1, e2]
  have HRi := hide (sright_any _ x _ _ r hr _ (unhide HV8).1)
  have HG8 := hide g8
  have HRD := hide hrd
  have HG0 : Hid ((w7.setCell ⟨g1, 2, none⟩ (.slice a7 m7 c7)).heap[w.heap.size]? = some (.cells #[.int .i64 0, .slice none 0 0, .slice none 0 0] 33)) := (((unhide HQ6).trans (hA7.mono (by simp))).trans (k8.mono (by simp))).heap (unhide HG2) (by have := unhide HGW; simp; omega)
  clear HG7 k8 g8 A7 hA7 HC6 HG6 HK6 HK7 HL5 HK56 hc5 hf5 hsz5 hsz6 hr hrd HQ4 HQ6
  go_wp2_with (refine wpList_load_row rfl 33 (.tmp 5) rfl g1 rfl 33 _ (0, 0) _ (unhide HG8) Tryd.underlying33 rfl Tryd.sigSize ?_)
  refine (unhide HRi).mono ?_
  rintro ee w9 ⟨rfl, K9⟩
  have HK9 := hide ((unhide HK8).trans K9)
  have G0 := K9.heap (unhide HG0) (by simp)
  have G9 := K9.heap (unhide HG8) (by simp)
  have HV9 : Hid (∀ (S : List Nat) w', (∀ q ∈ S, q ≤ w.heap.size) → Kp S w9 w' → SigV w' (.agg #[.int .i64 x, .slice a5 m5 c5, .slice a7 m7 c7]) x (chP 64 (bs.drop 4)) (chP 4 (bs.drop 2052))) := fun S w' hS' k' => (unhide HV8).2 S w' hS' ((K9.mono (by simp)).trans k')
  clear HRi K9 HG8 HG0 HK8 HV8 hc7 hf7
  have HG9 := hide G9
  clear G9
  cases r
  · exact absurd (unhide HRD) (by rw [unhide HOK]; decide)
  · go_wp2_with (refine wpList_load_row rfl 33 (.tmp 5) rfl g1 rfl 33 _ (0, 0) _ (unhide HG9) Tryd.underlying33 rfl Tryd.sigSize ?_; refine Hid.out ?_)
    refine hide ?_
    go_wp2_with (refine wpList_store_sig rfl (.tmp 2) (.tmp 26) rfl w.heap.size rfl _ _ _ _ _ _ G0 rfl ⟨rfl, rfl, rfl⟩ ?_; intro w4 G4 K4)
    refine bodyPost_ret (results_sig rfl _ _ w.heap.size _ _ _ (0, 0) rfl G4) rfl ?_
    refine ⟨_, rfl, fun S w' hS' k' => ?_, (unhide HK9).then K4 (by simp)⟩
    rw [← unhide HX]
    exact unhide HV9 (w.heap.size :: S) w' (fun q hq => by rcases List.mem_cons.1 hq with h | h; · omega
                                                           · exact Nat.le_of_lt (hS' q h)) ((K4.mono (by simp)).trans (k'.mono (by simp +contextual)))
end Go.Proofs.YtdioaohejoflcaaDoor

/-
  append of bytes onto a slice that has no room: it only makes memory.
-/
namespace Go.Proofs.YtdioaohejoflcaaDoor
open Go.RowKit

/-- The value is a slice that reads as these bytes, and has no room behind them. -/
def Full (bs : List Int) : Tell := fun v w => (∃ a, v = .slice (some a) bs.length bs.length) ∧ Sl w v bs
theorem stable_full (bs : List Int) : Tell.stable (Full bs) := fun _ _ _ k h => ⟨h.1, h.2.kept k (by simp)⟩
theorem grown_append_full {o : Oper} {a : Act} {w : World} {R : Tell} (s x : Operand) (bs cs : List Int) (ho : o.op = .call { callee := .builtin .append, args := #[s, x], argTypes := #[24, 24] })
    (hs : Full bs (a.eval s) w) (hx : Sl w (a.eval x) cs) (hb : bs.length + cs.length ≤ 140737488355328) (hR : ∀ v w', Sl w' v (bs ++ cs) → R v w') : grown Tryd.prog w R ((execOp a.eval o).run Tryd.prog w) := by
  obtain ⟨i0, hi0, hz0, hz1, hz2⟩ := info_parts Tryd.info5
  obtain ⟨⟨b, hv⟩, hS⟩ := hs
  obtain ⟨ax, cx, hxv, h1, h2, h3, h4⟩ := hx
  by_cases hc : cs = []
  · subst hc
    have hrun := run_append_nothing (P := Tryd.prog) w 24 24 o.type 5 i0 Tryd.underlying24 hi0 (some b) bs.length bs.length (Nat.le_refl _) (.slice ax 0 cx) (by
      cases ax with
      | none => exact Src.ofNil w Tryd.underlying24 cx
      | some ad => exact Src.ofSlice w Tryd.underlying24 ad 0 cx [] (by simp) (by simp) (by simp))
    refine grown_run (v := .slice (some b) bs.length bs.length) (w' := w) ?_ (Kp.refl _ _) (hR _ _ ?_)
    · simp [execOp, ho, resolve, invoke, builtin, hv, hxv, hrun, Result.andThen]
    · rw [List.append_nil, ← hv]; exact hS
  · cases ax with
    | none => exact absurd (List.eq_nil_of_length_eq_zero (by have := h3 rfl; omega)) hc
    | some ad =>
      have hpos : 0 < cs.length := List.length_pos_iff.2 hc
      obtain ⟨ao', c', he, g1, g2, g3, g4⟩ := hS
      rw [hv] at he
      injection he with e1 e2 e3
      subst e1
      obtain ⟨v', w', hrun, r1, r2⟩ := run_append_arg_grows (P := Tryd.prog) w 24 o.type 5 i0 (.int .u8 0) 1 1 Tryd.underlying24 hi0 hz0 hz1 hz2 rfl (by decide) b bs.length bs.length (bs.map (Value.int .u8)) (by simp) (g4 b rfl) ad cs.length cx (cs.map (Value.int .u8)) (by simp) (h4 ad rfl) (by omega) (by unfold maxLen; omega) (by omega)
      refine grown_run (v := v') (w' := w') ?_ ((Kp.refl [] w).grown r2 (by intro k hk; cases hk)) (hR _ _ ?_)
      · simp [execOp, ho, resolve, invoke, builtin, hv, hxv, hrun, Result.andThen]
      · rw [← List.map_append] at r1
        exact Sl.of_owns r1
end Go.Proofs.YtdioaohejoflcaaDoor

/-
  Rows of bytes with zeros in their room: a nought that is appended changes no cell that was there.
-/
namespace Go.Proofs.YtdioaohejoflcaaDoor
open Go.ChangeShapes Go.WideShapes Go.ChangeAt Go.RowKit
open Go.Deep

/-- a row of bytes with noughts in its room. -/
def ZRow (bs : List Int) : Tell := fun v w => ∃ (g k : Nat) (cur : Array Value), v = .slice (some ⟨g, 0, none⟩) bs.length (bs.length + k) ∧ bs.length + k ≤ maxLen ∧ w.heap[g]? = some (.cells cur 5 (0, 0)) ∧ (∀ (j : Nat) (u : Value), (bs.map (Value.int .u8))[j]? = some u → cur[j]? = some u) ∧ ∀ j : Nat, bs.length ≤ j → j < bs.length + k → cur[j]? = some (.int .u8 0)
theorem stable_zrow (bs : List Int) : Tell.stable (ZRow bs) := fun _ _ _ k ⟨g, n, cur, e, h1, h2, h3, h4⟩ => ⟨g, n, cur, e, h1, k.heap h2 (by simp), h3, h4⟩
theorem ZRow.sl {bs : List Int} {v : Value} {w : World} (h : ZRow bs v w) : Sl w v bs := by
  obtain ⟨g, k, cur, rfl, h1, h2, h3, h4⟩ := h
  refine ⟨some ⟨g, 0, none⟩, _, rfl, by omega, h1, (fun e => by cases e), fun a ha j u hu => ?_⟩
  injection ha with ha
  subst ha
  rw [Addr.add_lit, Nat.zero_add, cell_of_row w g j _ _ _ h2]
  exact h3 j u hu
theorem zero_at (k j : Nat) (h : j < k) : (Builtin.zeroCells #[Value.int .u8 0] k)[j]? = some (.int .u8 0) := by
  simp [Builtin.zeroCells, h, Nat.mod_one]
theorem grown_append_z {o : Oper} {a : Act} {w : World} {R : Tell} (s x : Operand) (cs : List Int) (ho : o.op = .call { callee := .builtin .append, args := #[s, x], argTypes := #[24, 24] })
    (hs : Full [] (a.eval s) w) (hx : Sl w (a.eval x) cs) (hne : cs ≠ []) (hb : cs.length ≤ 1000000) (hR : ∀ v w', ZRow cs v w' → R v w') : grown Tryd.prog w R ((execOp a.eval o).run Tryd.prog w) := by
  obtain ⟨i0, hi0, hz0, hz1, hz2⟩ := info_parts Tryd.info5
  obtain ⟨⟨b, hv⟩, _⟩ := hs
  obtain ⟨ax, cx, hxv, h1, h2, h3, h4⟩ := hx
  have hpos : 0 < cs.length := List.length_pos_iff.2 hne
  cases ax with
  | none => have := h3 rfl; omega
  | some ad =>
    have hg := grownCap_ge w (0 + cs.length) 0 5
    have hm := grownCap_le_maxLen w (0 + cs.length) 0 5 (by unfold maxLen; omega)
    have hrun := run_append_grow (P := Tryd.prog) w 24 o.type 5 i0 (.int .u8 0) Tryd.underlying24 hi0 hz0 b 0 0 [] (by simp) (by simp) ad cs.length cx (cs.map (Value.int .u8)) (by simp [hz1]) (h4 ad rfl) (by omega) (by omega) (growslice_fits (by omega) (by rw [hz2]; omega))
    obtain ⟨vv, hvv⟩ : ∃ v, v = Value.slice (some ⟨w.heap.size, 0, none⟩) (0 + cs.length) (grownCap w (0 + cs.length) 0 5) := ⟨_, rfl⟩
    obtain ⟨ob, hob⟩ : ∃ o, o = Obj.cells (([] : List Value).toArray ++ (cs.map (Value.int .u8)).toArray ++ Builtin.zeroCells (Value.int .u8 0).cells (grownCap w (0 + cs.length) 0 5 - (0 + cs.length))) 5 := ⟨_, rfl⟩
    rw [← hvv, ← hob] at hrun
    refine grown_run (v := vv) (w' := w.drew.alloc ob) ?_ ((kp_drew w).alloc _) (hR _ _ ?_)
    · simp [execOp, ho, resolve, invoke, builtin, hv, hxv, hrun, Result.andThen]
    · rw [hvv, hob]
      generalize grownCap w (0 + cs.length) 0 5 = gc at hg hm ⊢
      refine ⟨w.heap.size, gc - cs.length, _, ?_, by omega, heap_alloc_new w.drew _, fun j u hu => ?_, fun j h5 h6 => ?_⟩
      · rw [Nat.zero_add, Nat.add_sub_cancel' (by omega)]
      · have hj : j < cs.length := by have := (List.getElem?_eq_some_iff.1 hu).1; simpa using this
        rw [Array.getElem?_append_left (by simpa using hj)]
        simpa using hu
      · rw [Array.getElem?_append_right (by simpa using h5)]
        exact zero_at _ _ (by simp; omega)
theorem grown_append_0 {o : Oper} {a : Act} {w : World} {R : Tell} (s x : Operand) (bs : List Int) (ho : o.op = .call { callee := .builtin .append, args := #[s, x], argTypes := #[24, 24] })
    (hs : ZRow bs (a.eval s) w) (hx : Sl w (a.eval x) [0]) (hb : bs.length ≤ 1000000) (hR : ∀ v w', Sl w' v (bs ++ [0]) → R v w') : grown Tryd.prog w R ((execOp a.eval o).run Tryd.prog w) := by
  obtain ⟨i0, hi0, hz0, hz1, hz2⟩ := info_parts Tryd.info5
  have hS := hs.sl
  obtain ⟨g, k, cur, hv, hm, hg, hc, h0⟩ := hs
  obtain ⟨ax, cx, hxv, h1, h2, h3, h4⟩ := hx
  cases ax with
  | none => have := h3 rfl; simp at h1; omega
  | some ad =>
    by_cases hk : k = 0
    · subst hk
      obtain ⟨ao', c', he, g1, g2, g3, g4⟩ := hS
      rw [hv] at he
      injection he with e1 e2 e3
      subst e1
      obtain ⟨v', w', hrun, r1, r2⟩ := run_append_arg_grows (P := Tryd.prog) w 24 o.type 5 i0 (.int .u8 0) 1 1 Tryd.underlying24 hi0 hz0 hz1 hz2 rfl (by decide) ⟨g, 0, none⟩ bs.length (bs.length + 0) (bs.map (Value.int .u8)) (by simp) (g4 _ rfl) ad 1 cx ([0].map (Value.int .u8)) (by simp) (h4 ad rfl) (by omega) (by unfold maxLen; omega) (by omega)
      refine grown_run (v := v') (w' := w') ?_ ((Kp.refl [] w).grown r2 (by intro k hk; cases hk)) (hR _ _ ?_)
      · simp [execOp, ho, resolve, invoke, builtin, hv, hxv, Result.andThen] at hrun ⊢
        rw [hrun]
      · rw [← List.map_append] at r1
        have := Sl.of_owns (bs := bs ++ [0]) (by simpa using r1)
        exact this
    · have hcell : w.cell? ⟨g, bs.length, none⟩ = some (.int .u8 0) := by rw [cell_of_row w g _ _ _ _ hg]; exact h0 _ (Nat.le_refl _) (by omega)
      have hrun := run_append_room_cells (P := Tryd.prog) w 24 o.type 5 i0 Tryd.underlying24 hi0 g 0 bs.length (bs.length + k) ad 1 cx [.int .u8 0] (by simp [hz1]) (by simpa using h4 ad rfl) (by simp [Value.oneCell']) (by omega) (fun j hj => by
        have : j = 0 := by simpa using hj
        subst this
        rw [hz1]
        simp [hcell]) (fun j hj => frozen_of_row w g _ _ _ hg)
      have hset : cur.setIfInBounds bs.length (.int .u8 0) = cur := by
        have := h0 bs.length (Nat.le_refl _) (by omega)
        obtain ⟨hlt, he⟩ := Array.getElem?_eq_some_iff.1 this
        refine Array.ext (by simp) (fun i h1 h2 => ?_)
        rw [Array.getElem_setIfInBounds (by simpa using h1)]
        split
        · next e => subst e; exact he.symm
        · rfl
      have hg' : (w.setCell ⟨g, bs.length, none⟩ (.int .u8 0)).heap[g]? = some (.cells cur 5 (0, 0)) := by rw [heap_setCell_same w g _ _ _ _ hg, hset]
      have hK : Kp [] w (w.setCell ⟨g, bs.length, none⟩ (.int .u8 0)) := by
        have k1 := setCell_kp w g bs.length (.int .u8 0)
        refine ⟨k1.os, k1.tape, k1.output, k1.size, fun j hj _ => ?_⟩
        by_cases e : j = g
        · subst e; rw [hg', hg]
        · exact k1.block j hj (by simpa using e)
      refine grown_run (v := .slice (some ⟨g, 0, none⟩) (bs.length + 1) (bs.length + k)) (w' := w.setCell ⟨g, bs.length, none⟩ (.int .u8 0)) ?_ hK (hR _ _ ?_)
      · simp [World.setCells, hz1] at hrun
        simp [execOp, ho, resolve, invoke, builtin, hv, hxv, Result.andThen] at hrun ⊢
        rw [hrun]
      · have := ZRow.sl (bs := bs ++ [0]) (w := w.setCell ⟨g, bs.length, none⟩ (.int .u8 0)) (v := .slice (some ⟨g, 0, none⟩) (bs.length + 1) (bs.length + k)) ⟨g, k - 1, cur, by simp; omega, by simp; omega, hg', fun j u hu => ?_, fun j h5 h6 => h0 j (by simp at h5; omega) (by simp at h6; omega)⟩
        · exact this
        · by_cases hj : j < bs.length
          · exact hc j u (by rw [← hu, List.map_append, List.getElem?_append_left (by simpa using hj)])
          · have hj' : j = bs.length := by have := (List.getElem?_eq_some_iff.1 hu).1; simp at this; omega
            subst hj'
            simp at hu
            subst hu
            exact h0 _ (Nat.le_refl _) (by omega)
end Go.Proofs.YtdioaohejoflcaaDoor
