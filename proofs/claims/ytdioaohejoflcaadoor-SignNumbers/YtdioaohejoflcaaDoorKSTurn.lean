/-
  The contract of the law package's turned, over a signature of the right form.
-/
import Derived.Test.YtdioaohejoflcaaDoorKSTurnA
namespace Go.Proofs.YtdioaohejoflcaaDoor
open Go.RowKit
open Go.Proofs

/-- what turned tells of a signature. -/
def Trnd (w : World) (ps : List (List Int)) (how : Nat) (tn : Int) (v : Value) (w' : World) : Prop :=
  ∃ i' ps' qs', SigV w' v i' ps' qs' ∧ (-9223372036854775808 ≤ i' ∧ i' ≤ 9223372036854775807) ∧ (how = 1 → tn ≠ 0 → ps' ≠ ps) ∧ Kp [] w w'
theorem xor64_bd (x y : Int) : -9223372036854775808 ≤ bits .xor .i64 x y ∧ bits .xor .i64 x y ≤ 9223372036854775807 := by
  show -9223372036854775808 ≤ IntKind.i64.wrap _ ∧ IntKind.i64.wrap _ ≤ 9223372036854775807
  simp [IntKind.wrap, IntKind.signed, IntKind.bits]
  omega
theorem xor_ne (x y : Int) (hx : 0 ≤ x ∧ x ≤ 255) (hy : 0 ≤ y ∧ y ≤ 255) (h : y ≠ 0) : bits .xor .u8 x y ≠ x := by
  obtain ⟨m, rfl⟩ := Int.eq_ofNat_of_zero_le hx.1
  obtain ⟨n, rfl⟩ := Int.eq_ofNat_of_zero_le hy.1
  have hall : ∀ m ∈ List.range 256, ∀ n ∈ List.range 256, n ≠ 0 → bits .xor .u8 (m : Int) (n : Int) ≠ (m : Int) := by decide +kernel
  exact hall m (by simp; omega) n (by simp; omega) (by omega)
/-- the end of it: what was made is handed out. -/
theorem trnd_end {w wf w9 : World} {i' : Int} {ps ps' qs' : List (List Int)} {how : Nat} {tn : Int} {g8 : Nat} {vp vq : Value} (hP : Lz g8 wf vp ps') (hQ : Lz g8 wf vq qs') (hi : -9223372036854775808 ≤ i' ∧ i' ≤ 9223372036854775807) (hn : how = 1 → tn ≠ 0 → ps' ≠ ps) (k : Kp [g8] wf w9) (kw : Kp [] w wf) (hg : w.heap.size ≤ g8) : Trnd w ps how tn (.agg #[.int .i64 i', vp, vq]) w9 := by
  obtain ⟨l, h1, h2, h3, h4⟩ := hP.off k
  obtain ⟨m, k1, k2, k3, k4⟩ := hQ.off k
  exact ⟨i', ps', qs', ⟨vp, vq, l, m, rfl, h1, h2, k1, k2⟩, hi, hn, kw.then k (fun j hj => .inr (by simp at hj; omega))⟩

set_option maxRecDepth 100000 in
set_option maxHeartbeats 16000000 in
theorem turned_any (v : Value) (i : Int) (ps qs : List (List Int)) (how : Nat) (ax tn : Int) (w : World) (hV : SigV w v i ps qs) (hi : -9223372036854775808 ≤ i ∧ i ≤ 9223372036854775807) (hpl : ps.length = 64) (hp32 : ∀ x ∈ ps, x.length = 32) (hql : qs.length = 4) (hq32 : ∀ x ∈ qs, x.length = 32) (hhow : how ≤ 8) (hax : -9223372036854775808 ≤ ax ∧ ax ≤ 9223372036854775807) (htn : 0 ≤ tn ∧ tn ≤ 255) :
    Calls Tryd.prog 18 #[v, .int .i64 how, .int .i64 ax, .int .u8 tn] w fun e w' => ∃ v', e = .returned v' ∧ Trnd w ps how tn v' w' := by
  obtain ⟨ap, np, cp, aq, nq, cq, lp, lq, rfl, hP, hp, hQ, hq, hnp, hnq⟩ := hV.shape
  rw [hpl] at hnp
  rw [hql] at hnq
  subst hnp
  subst hnq
  have HP := hide hP
  have HQ := hide hQ
  have Hp := hide hp
  have Hq := hide hq
  have HPL := hide hpl
  have HQL := hide hql
  have HP32 := hide hp32
  have HQ32 := hide hq32
  have HAX := hide hax
  have HTN := hide htn
  have HI := hide hi
  obtain ⟨o1, ho1⟩ : ∃ o : Obj, o = (.cells #[.int .i64 i, .slice ap 64 cp, .slice aq 4 cq] 33) := ⟨_, rfl⟩
  obtain ⟨z, hz⟩ : ∃ o : Obj, o = (.cells #[.int .i64 0, .slice none 0 0, .slice none 0 0] 33) := ⟨_, rfl⟩
  have K2 : Kp [] w (((w.alloc o1).alloc z).alloc z) := (((Kp.refl [] w).alloc o1).alloc z).alloc z
  have hsz : ((w.alloc o1).alloc z).heap.size = w.heap.size + 1 + 1 := by simp
  have Ga : (((w.alloc o1).alloc z).alloc z).heap[w.heap.size + 1 + 1]? = some z := by rw [← hsz]; exact heap_alloc_new _ z
  have Gb : (((w.alloc o1).alloc z).alloc z).heap[w.heap.size]? = some o1 := (((Kp.refl [] ((w.alloc o1).alloc z)).alloc z)).heap (heap_alloc2_old w o1 z) (by simp)
  have Gc : (((w.alloc o1).alloc z).alloc z).heap[w.heap.size + 1]? = some z := (((Kp.refl [] ((w.alloc o1).alloc z)).alloc z)).heap (heap_alloc2_new w o1 z) (by simp)
  rw [ho1] at K2 Ga Gb Gc
  rw [hz] at K2 Ga Gb Gc
  have HK2 := hide K2
  have HGb := hide Gb
  have HGc := hide Gc
  clear hP hQ hp hq hpl hql hp32 hq32 hax htn hi hV ho1 hz hsz K2 Gb Gc
  go_enter Tryd.func18, Tryd.ntmps18
  go_wp2_with (refine wpList_store_sig rfl (.tmp 9) (.tmp 16) rfl (w.heap.size + 1 + 1) rfl _ _ _ _ _ _ Ga rfl ⟨rfl, rfl, rfl⟩ ?_; intro w3 G3 K3)
  obtain ⟨g9, h9⟩ : ∃ g, g = w.heap.size + 1 + 1 := ⟨_, rfl⟩
  rw [← h9] at G3 K3 ⊢
  obtain ⟨g8, h8⟩ : ∃ g, g = w.heap.size + 1 := ⟨_, rfl⟩
  rw [← h8] at HGc ⊢
  obtain ⟨g4, h4⟩ : ∃ g, g = w.heap.size := ⟨_, rfl⟩
  rw [← h4] at HGb ⊢
  have H9 := hide h9
  have H8 := hide h8
  have H4 := hide h4
  have HG3 := hide G3
  have HB3 := hide (K3.heap (unhide HGb) (by simp; omega))
  have HZ3 := hide (K3.heap (unhide HGc) (by simp; omega))
  have HK3 : Hid (Kp [] w w3) := (unhide HK2).then K3 (fun i hi => .inr (by simp at hi; omega))
  have hs3 : g9 < w3.heap.size := (Array.getElem?_eq_some_iff.1 G3).1
  clear G3 K3 Ga h9 h8 h4 HGb HGc HK2
  go_wp2_with fail
  go_loopw [10] (fun j wr => ∃ (k m cc : Nat) (ao : Option Addr), k ≤ 64 ∧ j = .int .i64 k ∧ AccP [g9] w3 (ps.take k) (.slice ao m cc) wr ∧ wr.heap[g9]? = some (.cells #[.int .i64 i, .slice ao m cc, .slice none 0 0] 33 (0, 0))) (fun j _ => 64 - (intOf j).toNat)
  case atStart => exact ⟨0, 0, 0, none, by omega, rfl, ⟨[], ⟨⟨rfl, .inl ⟨rfl, rfl⟩⟩, fun x hx => by cases hx⟩, rfl, Kp.refl _ _⟩, unhide HG3⟩
  case round =>
    clear HG3
    obtain ⟨k, m, cc, ao, hk, rfl, Ar, Gr⟩ := hrel
    have HA := hide Ar
    have HGr := hide Gr
    have HKr : Hid (Kp [] w wr) := (unhide HK3).then Ar.kp (fun i hi => .inr (by have := unhide H9; simp at hi; omega))
    have hc28 : wr.cell? ⟨g4, 1, none⟩ = some (.slice ap 64 cp) := by rw [cell_of_row wr g4 1 _ _ _ (Ar.kp.heap (unhide HB3) (by have := unhide H9; have := unhide H4; simp; omega))]; rfl
    clear Ar Gr
    by_cases hlt : k < 64
    · have hlt2 : (k : Int) < 64 := by omega
      have hkl : k < ps.length := by have := unhide HPL; omega
      obtain ⟨b, off, ax', nx, cx, rfl, hcx, hSx, hBx⟩ := lists_at (unhide HP) (unhide Hp) k hkl
      have h32 : (ps.getD k []).length = 32 := unhide HP32 _ (getD_mem hkl)
      have hE : ps.take (k + 1) = ps.take k ++ [ps.getD k []] := by rw [List.take_succ_eq_append_getElem hkl]; simp [List.getD, hkl]
      obtain ⟨X, hX⟩ : ∃ X, X = ps.getD k [] := ⟨_, rfl⟩
      rw [← hX] at hSx hBx h32 hE
      have HE := hide hE
      have HBx := hide hBx
      have H32 := hide h32
      have HLN : Hid ((ps.take k).length ≤ 1000000) := hide (by rw [List.length_take]; omega)
      have HSx := hide (hSx.kept (unhide HKr) (by simp))
      have hc31 : wr.cell? ⟨b, off + k, none⟩ = some (.slice ax' nx cx) := (unhide HKr).cell hcx (by simp)
      have hc25 : wr.cell? ⟨g9, 1, none⟩ = some (.slice ao m cc) := by rw [cell_of_row wr g9 1 _ _ _ (unhide HGr)]; rfl
      have al : ∀ (a : Addr) (u : Value), wr.cell? a = some u → ∀ o, (wr.alloc o).cell? a = some u := fun a u h o => (World.cell?_alloc_lt _ _ _ (by exact World.block_lt_of_cell? _ _ h)).trans h
      have e25 := al _ _ hc25
      have e28 := al _ _ hc28
      have e31 := al _ _ hc31
      have hg9r : g9 < wr.heap.size := (Array.getElem?_eq_some_iff.1 (unhide HGr)).1
      clear hcx hSx hBx h32 hE hX al
      go_wp2_with fail
      go_region_law (first
        | (refine step_append_row (by rfl) (.tmp 26) (.tmp 31) (by rfl) wr.heap.size (.slice (some ⟨wr.heap.size, 0, none⟩) 0 0) [] (by rfl) ((row_of_block (bs := []) (n := 0) (Nat.le_refl _) (heap_alloc_new wr _) rfl (by simp [maxLen])).kept (kp_drew _) (by simp)) (.slice ax' nx cx) X (by rfl) ((unhide HSx).kept (((Kp.refl [] wr).alloc _).drew) (by simp)) (by have := unhide H32; simp; omega) (by simp) ?_; intro a2 m2 c2 w2 R2 S2; have K2 : Kp [] wr w2 := ((((Kp.refl [] wr).alloc _).drew).then S2.1 (by simp [Value.ownBlock])); have hcy : w2.cell? ⟨g9, 1, none⟩ = some (.slice ao m cc) := K2.cell hc25 (by simp); have ey : ∀ o, (w2.alloc o).cell? ⟨g9, 1, none⟩ = some (.slice ao m cc) := (fun o => (World.cell?_alloc_lt _ _ _ (by exact World.block_lt_of_cell? _ _ hcy)).trans hcy); have HR2 := hide R2; have HK2 := hide K2; clear R2 S2 K2)
        | (refine step_accp (by rfl) (.tmp 25) (.tmp 33) (by rfl) (.slice ao m cc) _ (by rfl) (unhide HA) (unhide HLN) (.slice a2 m2 c2) ([] ++ X) (unhide HK2) (unhide HR2) (unhide HBx) w2.heap.size (by rfl) (by exact cell_of_one (heap_alloc_new w2 _)) ((Kp.refl [] w2).alloc _) ?_; intro ao5 m5 c5 w5 A5 S5; have G5 : w5.heap[g9]? = some _ := S5.1.heap (unhide HGr) (fun hm => by have := ((unhide HA).own g9 (by simpa using hm)).1; omega); have hc5 : w5.cell? ⟨g9, 1, none⟩ = some (.slice ao m cc) := (by rw [cell_of_row w5 g9 1 _ _ _ G5]; rfl); have hf5 : w5.frozen? ⟨g9, 1, none⟩ = false := frozen_of_row w5 g9 1 _ _ G5))
      all_goals
        have G6 := heap_setCell_same w5 g9 1 _ _ (.slice ao5 m5 c5) G5
        have A6 := A5.off (setCell_kp w5 g9 1 (.slice ao5 m5 c5)) (by simp) hs3
        rw [List.nil_append] at A6
        have HG6 := hide G6
        have HA6 := hide A6
        clear A5 S5 G5 G6 A6 hc25 hc28 hc31 e25 e28 e31 hcy ey hc5 hf5 HR2 HK2 HSx
        go_wp2_with fail
        go_roundw
        case rel => exact ⟨k + 1, m5, c5, ao5, by omega, by go_num, by rw [unhide HE]; exact unhide HA6, unhide HG6⟩
        case measure => simp [intOf]; omega
    · have hkn : k = 64 := by omega
      have hlt2 : ¬ (k : Int) < 64 := by omega
      have hT : ps.take k = ps := List.take_of_length_le (by have := unhide HPL; omega)
      rw [hT] at HA
      clear hkn hT
      obtain ⟨w5, hw5⟩ : ∃ w5, w5 = wr := ⟨_, rfl⟩
      subst hw5
      obtain ⟨pa, pm, pc, e5⟩ : ∃ a5 m5 c5, (Value.slice a5 m5 c5) = .slice ao m cc := ⟨_, _, _, rfl⟩
      injection e5 with f1 f2 f3
      subst f1
      subst f2
      subst f3
      have hpm : pm = 64 := by rw [(unhide HA).len]; exact unhide HPL
      subst hpm
      have HAP := hide (unhide HA)
      have HPX5 : Hid (∃ l, Lists w5 (.slice pa 64 pc) l ∧ l.map (·.2) = ps ∧ ∀ q, ((Value.slice pa 64 pc).ownBlock = some q ∨ ∃ x ∈ l, x.1.ownBlock = some q) → w3.heap.size ≤ q ∧ q < w5.heap.size) := by
        obtain ⟨l, p1, p2, _⟩ := unhide HA
        refine ⟨l, p1.lists (by rw [← List.length_map (f := (·.2)), p2]; have := unhide HPL; omega), p2, fun q hq => ?_⟩
        rcases hq with hq | ⟨x, hx, hq⟩
        · exact ⟨p1.1.own q hq, p1.1.lt hq⟩
        · exact ⟨(p1.2 x hx).1.own q hq, (p1.2 x hx).1.lt hq⟩
      have HK5 := hide (unhide HKr)
      have hs5 : g9 < w5.heap.size := (Array.getElem?_eq_some_iff.1 (unhide HGr)).1
      have HG5 := hide (unhide HGr)
      have HB5 := hide ((unhide HA).kp.heap (unhide HB3) (by have := unhide H9; have := unhide H4; simp; omega))
      have HZ5 := hide ((unhide HA).kp.heap (unhide HZ3) (by have := unhide H9; have := unhide H8; simp; omega))
      clear HA HGr HB3 HZ3 HKr
      go_wp2_with fail
      go_loopw [11] (fun j wr => ∃ (k m cc : Nat) (ao : Option Addr), k ≤ 4 ∧ j = .int .i64 k ∧ AccP [g9] w5 (qs.take k) (.slice ao m cc) wr ∧ wr.heap[g9]? = some (.cells #[.int .i64 i, .slice pa 64 pc, .slice ao m cc] 33 (0, 0))) (fun j _ => 4 - (intOf j).toNat)
      case atStart => exact ⟨0, 0, 0, none, by omega, rfl, ⟨[], ⟨⟨rfl, .inl ⟨rfl, rfl⟩⟩, fun x hx => by cases hx⟩, rfl, Kp.refl _ _⟩, unhide HG5⟩
      case round =>
        clear HG5
        obtain ⟨k, m, cc, ao, hk, rfl, Ar, Gr⟩ := hrel
        have HA := hide Ar
        have HGr := hide Gr
        have HKr : Hid (Kp [] w wr) := (unhide HK5).then Ar.kp (fun i hi => .inr (by have := unhide H9; simp at hi; omega))
        have hc28 : wr.cell? ⟨g4, 2, none⟩ = some (.slice aq 4 cq) := by rw [cell_of_row wr g4 2 _ _ _ (Ar.kp.heap (unhide HB5) (by have := unhide H9; have := unhide H4; simp; omega))]; rfl
        clear Ar Gr
        by_cases hlt : k < 4
        · have hlt2 : (k : Int) < 4 := by omega
          have hkl : k < qs.length := by have := unhide HQL; omega
          obtain ⟨b, off, ax', nx, cx, rfl, hcx, hSx, hBx⟩ := lists_at (unhide HQ) (unhide Hq) k hkl
          have h32 : (qs.getD k []).length = 32 := unhide HQ32 _ (getD_mem hkl)
          have hE : qs.take (k + 1) = qs.take k ++ [qs.getD k []] := by rw [List.take_succ_eq_append_getElem hkl]; simp [List.getD, hkl]
          obtain ⟨X, hX⟩ : ∃ X, X = qs.getD k [] := ⟨_, rfl⟩
          rw [← hX] at hSx hBx h32 hE
          have HE := hide hE
          have HBx := hide hBx
          have H32 := hide h32
          have HLN : Hid ((qs.take k).length ≤ 1000000) := hide (by rw [List.length_take]; omega)
          have HSx := hide (hSx.kept (unhide HKr) (by simp))
          have hc31 : wr.cell? ⟨b, off + k, none⟩ = some (.slice ax' nx cx) := (unhide HKr).cell hcx (by simp)
          have hc25 : wr.cell? ⟨g9, 2, none⟩ = some (.slice ao m cc) := by rw [cell_of_row wr g9 2 _ _ _ (unhide HGr)]; rfl
          have al : ∀ (a : Addr) (u : Value), wr.cell? a = some u → ∀ o, (wr.alloc o).cell? a = some u := fun a u h o => (World.cell?_alloc_lt _ _ _ (by exact World.block_lt_of_cell? _ _ h)).trans h
          have e25 := al _ _ hc25
          have e28 := al _ _ hc28
          have e31 := al _ _ hc31
          have hg9r : g9 < wr.heap.size := (Array.getElem?_eq_some_iff.1 (unhide HGr)).1
          clear hcx hSx hBx h32 hE hX al
          go_wp2_with fail
          go_region_law (first
            | (refine step_append_row (by rfl) (.tmp 45) (.tmp 50) (by rfl) wr.heap.size (.slice (some ⟨wr.heap.size, 0, none⟩) 0 0) [] (by rfl) ((row_of_block (bs := []) (n := 0) (Nat.le_refl _) (heap_alloc_new wr _) rfl (by simp [maxLen])).kept (kp_drew _) (by simp)) (.slice ax' nx cx) X (by rfl) ((unhide HSx).kept (((Kp.refl [] wr).alloc _).drew) (by simp)) (by have := unhide H32; simp; omega) (by simp) ?_; intro a2 m2 c2 w2 R2 S2; have K2 : Kp [] wr w2 := ((((Kp.refl [] wr).alloc _).drew).then S2.1 (by simp [Value.ownBlock])); have hcy : w2.cell? ⟨g9, 2, none⟩ = some (.slice ao m cc) := K2.cell hc25 (by simp); have ey : ∀ o, (w2.alloc o).cell? ⟨g9, 2, none⟩ = some (.slice ao m cc) := (fun o => (World.cell?_alloc_lt _ _ _ (by exact World.block_lt_of_cell? _ _ hcy)).trans hcy); have HR2 := hide R2; have HK2 := hide K2; clear R2 S2 K2)
            | (refine step_accp (by rfl) (.tmp 44) (.tmp 52) (by rfl) (.slice ao m cc) _ (by rfl) (unhide HA) (unhide HLN) (.slice a2 m2 c2) ([] ++ X) (unhide HK2) (unhide HR2) (unhide HBx) w2.heap.size (by rfl) (by exact cell_of_one (heap_alloc_new w2 _)) ((Kp.refl [] w2).alloc _) ?_; intro ao5 m5 c5 w5 A5 S5; have G5 : w5.heap[g9]? = some _ := S5.1.heap (unhide HGr) (fun hm => by have := ((unhide HA).own g9 (by simpa using hm)).1; omega); have hc5 : w5.cell? ⟨g9, 2, none⟩ = some (.slice ao m cc) := (by rw [cell_of_row w5 g9 2 _ _ _ G5]; rfl); have hf5 : w5.frozen? ⟨g9, 2, none⟩ = false := frozen_of_row w5 g9 2 _ _ G5))
          all_goals
            have G6 := heap_setCell_same w5 g9 2 _ _ (.slice ao5 m5 c5) G5
            have A6 := A5.off (setCell_kp w5 g9 2 (.slice ao5 m5 c5)) (by simp) hs5
            rw [List.nil_append] at A6
            have HG6 := hide G6
            have HA6 := hide A6
            clear A5 S5 G5 G6 A6 hc25 hc28 hc31 e25 e28 e31 hcy ey hc5 hf5 HR2 HK2 HSx
            go_wp2_with fail
            go_roundw
            case rel => exact ⟨k + 1, m5, c5, ao5, by omega, by go_num, by rw [unhide HE]; exact unhide HA6, unhide HG6⟩
            case measure => simp [intOf]; omega
        · have hkn : k = 4 := by omega
          have hlt2 : ¬ (k : Int) < 4 := by omega
          have hT : qs.take k = qs := List.take_of_length_le (by have := unhide HQL; omega)
          rw [hT] at HA
          clear hkn hT
          obtain ⟨w7, hw7⟩ : ∃ w7, w7 = wr := ⟨_, rfl⟩
          subst hw7
          obtain ⟨qa, qm, qc, e7⟩ : ∃ a5 m5 c5, (Value.slice a5 m5 c5) = .slice ao m cc := ⟨_, _, _, rfl⟩
          injection e7 with f1 f2 f3
          subst f1
          subst f2
          subst f3
          have hqm : qm = 4 := by rw [(unhide HA).len]; exact unhide HQL
          subst hqm
          have HAQ := hide (unhide HA)
          have HAP7 := hide ((unhide HAP).off (unhide HA).kp (by simp) hs3)
          have HPX7 : Hid (∃ l, Lists w7 (.slice pa 64 pc) l ∧ l.map (·.2) = ps ∧ ∀ q, ((Value.slice pa 64 pc).ownBlock = some q ∨ ∃ x ∈ l, x.1.ownBlock = some q) → w3.heap.size ≤ q ∧ q < w5.heap.size) := by
            obtain ⟨l, p1, p2, p3⟩ := unhide HPX5
            exact ⟨l, p1.off (unhide HA).kp (fun q hq => by have := p3 q (.inl hq); simp; omega) (fun y hy q hq => by have := p3 q (.inr ⟨y, hy, hq⟩); simp; omega), p2, p3⟩
          have HK7 := hide (unhide HKr)
          have HG7 := hide (unhide HGr)
          have HZ7 := hide ((unhide HA).kp.heap (unhide HZ5) (by have := unhide H9; have := unhide H8; simp; omega))
          have d1 : w7.cell? ⟨g9, 1, none⟩ = some (.slice pa 64 pc) := by rw [cell_of_row w7 g9 1 _ _ _ (unhide HGr)]; rfl
          have d2 : w7.cell? ⟨g9, 2, none⟩ = some (.slice qa 4 qc) := by rw [cell_of_row w7 g9 2 _ _ _ (unhide HGr)]; rfl
          have HC1 : Hid (∀ w', Kp [] w7.drew w' → w'.cell? ⟨g9, 1, none⟩ = some (.slice pa 64 pc)) := fun w' k' => ((kp_drew w7).trans k').cell d1 (by simp)
          have HC2 : Hid (∀ w', Kp [] w7.drew w' → w'.cell? ⟨g9, 2, none⟩ = some (.slice qa 4 qc)) := fun w' k' => ((kp_drew w7).trans k').cell d2 (by simp)
          clear HA HGr HKr HAP HZ5 HB5 HK5 HPX5
          go_wp2_with fail
          refine region_grow Tryd.mixed [Is (.int .i64 ax), Is (.pointer (some ⟨g9, 1, none⟩)), Is (.slice pa 64 pc), Is (.int .i64 64), Is (.int .i64 63), InT 64, Is (.int .i64 ax), Is (.pointer (some ⟨g9, 2, none⟩)), Is (.slice qa 4 qc), Is (.int .i64 4), Is (.int .i64 3), InT 4, InT 64, InT 4] [[(2, none)], [(9, none)], [(67, some 1)], [(68, some 2)], [(69, some 3)], [(66, some 0), (70, some 4)], [(2, none)], [(9, none)], [(73, some 7)], [(74, some 8)], [(75, some 9)], [(72, some 6), (76, some 10)], [(71, some 5)], [(77, some 11)]] (by kernel_rfl) ?_ ?_ ?_
          · simp only [List.mem_cons, List.not_mem_nil, or_false]
            intro R hR
            rcases hR with rfl | rfl | rfl | rfl | rfl | rfl | rfl | rfl | rfl | rfl | rfl | rfl | rfl | rfl <;> first | exact stable_is _ | exact stable_in _
          · refine steps_cons (fun a w hk hn => ?_) ?_
            · have h2 : a.eval (.tmp 2) = .int .i64 ax := hn.1
              clear hn
              refine wants_plain rfl ?_
              exact grown_move (.tmp 2) rfl h2
            refine steps_cons (fun a w hk hn => ?_) ?_
            · have h9 : a.eval (.tmp 9) = .pointer (some ⟨g9, 0, none⟩) := hn.1
              clear hn
              refine wants_plain rfl ?_
              refine grown_run (v := .pointer (some ⟨g9, 1, none⟩)) ?_ (Kp.refl _ _) rfl
              obtain ⟨ρ, hρ, hc, hf, hg⟩ := eval_is a
              rw [hρ] at h9 ⊢
              simp [go_sem, h9]
            refine steps_cons (fun a w hk hn => ?_) ?_
            · have h67 : a.eval (.tmp 67) = .pointer (some ⟨g9, 1, none⟩) := hn.1
              clear hn
              refine wants_plain rfl ?_
              refine grown_run (v := .slice pa 64 pc) ?_ (Kp.refl _ _) rfl
              have hcell := unhide HC1 w hk
              obtain ⟨ρ, hρ, hc, hf, hg⟩ := eval_is a
              rw [hρ] at h67 ⊢
              simp [go_sem, h67, hcell]
            refine steps_cons (fun a w hk hn => ?_) ?_
            · have h68 : a.eval (.tmp 68) = .slice pa 64 pc := hn.1
              clear hn
              refine wants_plain rfl ?_
              refine grown_run (v := .int .i64 64) ?_ (Kp.refl _ _) rfl
              obtain ⟨ρ, hρ, hc, hf, hg⟩ := eval_is a
              rw [hρ] at h68 ⊢
              simp [go_sem, h68]
            refine steps_cons (fun a w hk hn => ?_) ?_
            · have h69 : a.eval (.tmp 69) = .int .i64 64 := hn.1
              clear hn
              refine wants_plain rfl ?_
              refine grown_run (v := .int .i64 63) ?_ (Kp.refl _ _) rfl
              obtain ⟨ρ, hρ, hc, hf, hg⟩ := eval_is a
              rw [hρ] at h69 ⊢
              simp [go_sem, hc, h69]
              rfl
            refine steps_cons (fun a w hk hn => ?_) ?_
            · have h66 : a.eval (.tmp 66) = .int .i64 ax := hn.1
              have h70 : a.eval (.tmp 70) = .int .i64 63 := hn.2.1
              clear hn
              refine wants_plain rfl ?_
              refine grown_call (f := 23) rfl Tryd.func23 (by kernel_rfl) (by kernel_rfl) ?_
              simp only [List.map_toArray, List.map_cons, List.map_nil, h66, h70]
              refine (within_any ax 0 63 w (by omega) (by omega) (by omega) (unhide HAX)).mono ?_
              rintro e w' ⟨x, rfl, h0, h1, hw⟩
              subst w'
              obtain ⟨y, rfl⟩ := Int.eq_ofNat_of_zero_le h0
              exact ⟨_, rfl, Kp.refl _ _, y, rfl, by omega⟩
            refine steps_cons (fun a w hk hn => ?_) ?_
            · have h2 : a.eval (.tmp 2) = .int .i64 ax := hn.1
              clear hn
              refine wants_plain rfl ?_
              exact grown_move (.tmp 2) rfl h2
            refine steps_cons (fun a w hk hn => ?_) ?_
            · have h9 : a.eval (.tmp 9) = .pointer (some ⟨g9, 0, none⟩) := hn.1
              clear hn
              refine wants_plain rfl ?_
              refine grown_run (v := .pointer (some ⟨g9, 2, none⟩)) ?_ (Kp.refl _ _) rfl
              obtain ⟨ρ, hρ, hc, hf, hg⟩ := eval_is a
              rw [hρ] at h9 ⊢
              simp [go_sem, h9]
            refine steps_cons (fun a w hk hn => ?_) ?_
            · have h73 : a.eval (.tmp 73) = .pointer (some ⟨g9, 2, none⟩) := hn.1
              clear hn
              refine wants_plain rfl ?_
              refine grown_run (v := .slice qa 4 qc) ?_ (Kp.refl _ _) rfl
              have hcell := unhide HC2 w hk
              obtain ⟨ρ, hρ, hc, hf, hg⟩ := eval_is a
              rw [hρ] at h73 ⊢
              simp [go_sem, h73, hcell]
            refine steps_cons (fun a w hk hn => ?_) ?_
            · have h74 : a.eval (.tmp 74) = .slice qa 4 qc := hn.1
              clear hn
              refine wants_plain rfl ?_
              refine grown_run (v := .int .i64 4) ?_ (Kp.refl _ _) rfl
              obtain ⟨ρ, hρ, hc, hf, hg⟩ := eval_is a
              rw [hρ] at h74 ⊢
              simp [go_sem, h74]
            refine steps_cons (fun a w hk hn => ?_) ?_
            · have h75 : a.eval (.tmp 75) = .int .i64 4 := hn.1
              clear hn
              refine wants_plain rfl ?_
              refine grown_run (v := .int .i64 3) ?_ (Kp.refl _ _) rfl
              obtain ⟨ρ, hρ, hc, hf, hg⟩ := eval_is a
              rw [hρ] at h75 ⊢
              simp [go_sem, hc, h75]
              rfl
            refine steps_cons (fun a w hk hn => ?_) ?_
            · have h72 : a.eval (.tmp 72) = .int .i64 ax := hn.1
              have h76 : a.eval (.tmp 76) = .int .i64 3 := hn.2.1
              clear hn
              refine wants_plain rfl ?_
              refine grown_call (f := 23) rfl Tryd.func23 (by kernel_rfl) (by kernel_rfl) ?_
              simp only [List.map_toArray, List.map_cons, List.map_nil, h72, h76]
              refine (within_any ax 0 3 w (by omega) (by omega) (by omega) (unhide HAX)).mono ?_
              rintro e w' ⟨x, rfl, h0, h1, hw⟩
              subst w'
              obtain ⟨y, rfl⟩ := Int.eq_ofNat_of_zero_le h0
              exact ⟨_, rfl, Kp.refl _ _, y, rfl, by omega⟩
            refine steps_cons (fun a w hk hn => ?_) ?_
            · have h71 : (InT 64) (a.eval (.tmp 71)) w := hn.1
              clear hn
              refine wants_plain rfl ?_
              exact grown_assign (.tmp 71) rfl h71
            refine steps_cons (fun a w hk hn => ?_) ?_
            · have h77 : (InT 4) (a.eval (.tmp 77)) w := hn.1
              clear hn
              refine wants_plain rfl ?_
              exact grown_assign (.tmp 77) rfl h77
            exact trivial
          intro W1 hkW1
          rintro _ rfl
          rintro _ rfl
          rintro _ rfl
          rintro _ rfl
          rintro _ rfl
          intro v71 h71
          rintro _ rfl
          rintro _ rfl
          rintro _ rfl
          rintro _ rfl
          rintro _ rfl
          intro v77 h77
          intro v12 h12
          intro v13 h13
          refine fin_nil ?_
          simp only [Act.put, List.set_cons_zero, List.set_cons_succ, List.setIfInBounds_toArray]
          obtain ⟨pi, e12, hpi⟩ := h12
          obtain ⟨ki, e13, hki⟩ := h13
          subst e12
          subst e13
          have kkW := (kp_drew w7).trans hkW1
          have HAP1 := hide ((unhide HAP7).mid kkW)
          have HAQ1 := hide ((unhide HAQ).mid kkW)
          have HPXW : Hid (∃ l, Lists W1 (.slice pa 64 pc) l ∧ l.map (·.2) = ps ∧ ∀ q, ((Value.slice pa 64 pc).ownBlock = some q ∨ ∃ x ∈ l, x.1.ownBlock = some q) → w3.heap.size ≤ q ∧ q < w5.heap.size) := by
            obtain ⟨l, p1, p2, p3⟩ := unhide HPX7
            exact ⟨l, p1.kept kkW, p2, p3⟩
          have HKW := hide ((unhide HK7).trans kkW)
          have HGW := hide (kkW.heap (unhide HG7) (by simp))
          have HZW := hide (kkW.heap (unhide HZ7) (by simp))
          have HLP := hide ((unhide HAP1).lz (by have := unhide HPL; omega) g8 (by have := unhide H8; have := unhide H9; omega))
          have HLQ := hide ((unhide HAQ1).lz (by have := unhide HQL; omega) g8 (by have := unhide H8; have := unhide H9; omega))
          have hpx : pi < ps.length := by have := unhide HPL; omega
          have hkx : ki < qs.length := by have := unhide HQL; omega
          have hp32 := unhide HP32 _ (getD_mem hpx)
          have hq32 := unhide HQ32 _ (getD_mem hkx)
          obtain ⟨gr, b1, c1, epa, hb1, r1, r2, r3, r4, r5, r6, r7⟩ := (unhide HAP1).at pi hpx (by omega)
          obtain ⟨gq, b2, c2, eqa, hb2, s1, s2, s3, s4, s5, s6, s7⟩ := (unhide HAQ1).at ki hkx (by omega)
          subst epa
          subst eqa
          rw [hp32] at r1 r4
          rw [hq32] at s1 s4
          have HR4 := hide r4
          have HR5 := hide r5
          have HR6 := hide r6
          have hgr9 : gr ≠ g9 := fun e => by have := ((unhide HAP1).own gr rfl).1; omega
          have hb19 : b1 ≠ g9 := by omega
          have hb29 : b2 ≠ g9 := by omega
          have hpi64 : (pi : Int) < 64 := by omega
          have hki4 : (ki : Int) < 4 := by omega
          have D1 : W1.cell? ⟨g9, 1, none⟩ = some (.slice (some ⟨gr, 0, none⟩) 64 pc) := by rw [cell_of_row W1 g9 1 _ _ _ (unhide HGW)]; rfl
          have D2 : W1.cell? ⟨g9, 2, none⟩ = some (.slice (some ⟨gq, 0, none⟩) 4 qc) := by rw [cell_of_row W1 g9 2 _ _ _ (unhide HGW)]; rfl
          have D0 : W1.cell? ⟨g9, 0, none⟩ = some (.int .i64 i) := by rw [cell_of_row W1 g9 0 _ _ _ (unhide HGW)]; rfl
          have F0 : W1.frozen? ⟨g9, 0, none⟩ = false := frozen_of_row W1 g9 0 _ _ (unhide HGW)
          have F1 : W1.frozen? ⟨g9, 1, none⟩ = false := frozen_of_row W1 g9 1 _ _ (unhide HGW)
          have F2 : W1.frozen? ⟨g9, 2, none⟩ = false := frozen_of_row W1 g9 2 _ _ (unhide HGW)
          have hg8 : w.heap.size ≤ g8 := by have := unhide H8; omega
          have hg89 : g8 < g9 := by have := unhide H8; have := unhide H9; omega
          obtain ⟨B1, hB1⟩ : ∃ B, B = (ps.getD pi []).getD 0 0 := ⟨_, rfl⟩
          obtain ⟨B2, hB2⟩ : ∃ B, B = (qs.getD ki []).getD 0 0 := ⟨_, rfl⟩
          rw [← hB1] at r2
          rw [← hB2] at s2
          have HB1 := hide hB1
          have hB1b : 0 ≤ B1 ∧ B1 ≤ 255 := by rw [hB1]; exact r5.at 0
          have HB1b := hide hB1b
          have HP32p := hide hp32
          clear hB1 hB2 hB1b r4 r5 r6 s4 s5 s6 hp32 hq32 HAP7 HAQ HK7 HG7 HZ7 HC1 HC2 d1 d2 kkW hpx hkx HPX7
          rcases (by omega : how = 0 ∨ how = 1 ∨ how = 2 ∨ how = 3 ∨ how = 4 ∨ how = 5 ∨ how = 6 ∨ how = 7 ∨ how = 8) with rfl | rfl | rfl | rfl | rfl | rfl | rfl | rfl | rfl
          · have HGf := hide (unhide HGW)
            have HZf := hide (unhide HZW)
            go_wp2_with (refine wpList_load_row rfl 33 (.tmp 9) rfl g9 rfl 33 _ (0, 0) _ (unhide HGf) Tryd.underlying33 rfl Tryd.sigSize ?_; refine Hid.out ?_)
            refine hide ?_
            go_wp2_with (refine wpList_store_sig rfl (.tmp 8) (.tmp 169) rfl g8 rfl _ _ _ _ _ _ (unhide HZf) rfl ⟨rfl, rfl, rfl⟩ ?_; intro w9 G9 K9)
            refine bodyPost_ret (results_sig1 rfl _ _ g8 _ _ _ (0, 0) rfl G9) rfl ?_
            exact ⟨_, rfl, trnd_end (unhide HLP) (unhide HLQ) (unhide HI) (fun h => by omega) K9 (unhide HKW) hg8⟩
          · obtain ⟨y, hy⟩ : ∃ y, y = bits .xor .u8 B1 tn := ⟨_, rfl⟩
            have hyb : 0 ≤ y ∧ y ≤ 255 := by rw [hy]; exact xor_bd B1 tn
            have k' := setCell_kp W1 b1 0 (.int .u8 y)
            obtain ⟨ps', hLP'⟩ := (unhide HLP).poke y hyb.1 hyb.2 r2
            obtain ⟨qs', hLQ'⟩ := (unhide HLQ).poke y hyb.1 hyb.2 r2
            have HNE : Hid (tn ≠ 0 → ps' ≠ ps) := by
              intro ht e
              obtain ⟨l, q1, q2, _, _⟩ := hLP'
              rw [e] at q2
              obtain ⟨b', off', ay, ny, cy, e1, q3, q4, _⟩ := lists_at q1 q2 pi (by have := unhide HPL; omega)
              injection e1 with e1
              injection e1 with e2 e3
              subst e2
              subst e3
              rw [Nat.zero_add, cell_setCell_ne rfl (by intro h; have := congrArg Addr.block h; simp at this; omega) rfl, r1] at q3
              injection q3 with q3
              injection q3 with f1 f2 f3
              subst f1
              obtain ⟨ao', c', e4, _, _, _, q5⟩ := q4
              injection e4 with e4
              have hne : 0 < (ps.getD pi []).length := by have := unhide HP32p; omega
              have q6 := q5 ⟨b1, 0, none⟩ e4.symm 0 (.int .u8 ((ps.getD pi [])[0])) (by simp)
              rw [show (⟨b1, 0, none⟩ : Addr).add 0 = ⟨b1, 0, none⟩ from rfl, cell_setCell_same r2] at q6
              have q7 : y = (ps.getD pi [])[0] := by simpa using q6
              have q8 : B1 = (ps.getD pi [])[0] := by rw [unhide HB1, List.getD_eq_getElem?_getD (l := ps.getD pi []), List.getElem?_eq_getElem hne]; rfl
              exact xor_ne B1 tn (unhide HB1b) (unhide HTN) ht (by rw [← hy, q7, q8])
            have HLP' := hide hLP'
            have HLQ' := hide hLQ'
            have G' := k'.heap (unhide HGW) (by simp; omega)
            have Z' := k'.heap (unhide HZW) (by simp; omega)
            have HK' : Hid (Kp [] w (W1.setCell ⟨b1, 0, none⟩ (.int .u8 y))) := (unhide HKW).then k' (fun j hj => .inr (by have := unhide H9; simp at hj; omega))
            clear hLP' hLQ' k' hyb
            rw [hy] at G' Z' HLP' HLQ' HK'
            clear hy
            have HGf := hide G'
            have HZf := hide Z'
            go_wp2_with (refine wpList_load_row rfl 33 (.tmp 9) rfl g9 rfl 33 _ (0, 0) _ (unhide HGf) Tryd.underlying33 rfl Tryd.sigSize ?_; refine Hid.out ?_)
            refine hide ?_
            go_wp2_with (refine wpList_store_sig rfl (.tmp 8) (.tmp 169) rfl g8 rfl _ _ _ _ _ _ (unhide HZf) rfl ⟨rfl, rfl, rfl⟩ ?_; intro w9 G9 K9)
            refine bodyPost_ret (results_sig1 rfl _ _ g8 _ _ _ (0, 0) rfl G9) rfl ?_
            exact ⟨_, rfl, trnd_end (unhide HLP') (unhide HLQ') (unhide HI) (fun _ => unhide HNE) K9 (unhide HK') hg8⟩
          · obtain ⟨y, hy⟩ : ∃ y, y = bits .xor .u8 B2 tn := ⟨_, rfl⟩
            have hyb : 0 ≤ y ∧ y ≤ 255 := by rw [hy]; exact xor_bd B2 tn
            have k' := setCell_kp W1 b2 0 (.int .u8 y)
            obtain ⟨ps', hLP'⟩ := (unhide HLP).poke y hyb.1 hyb.2 s2
            obtain ⟨qs', hLQ'⟩ := (unhide HLQ).poke y hyb.1 hyb.2 s2
            have HLP' := hide hLP'
            have HLQ' := hide hLQ'
            have G' := k'.heap (unhide HGW) (by simp; omega)
            have Z' := k'.heap (unhide HZW) (by simp; omega)
            have HK' : Hid (Kp [] w (W1.setCell ⟨b2, 0, none⟩ (.int .u8 y))) := (unhide HKW).then k' (fun j hj => .inr (by have := unhide H9; simp at hj; omega))
            clear hLP' hLQ' k' hyb
            rw [hy] at G' Z' HLP' HLQ' HK'
            clear hy
            have HGf := hide G'
            have HZf := hide Z'
            go_wp2_with (refine wpList_load_row rfl 33 (.tmp 9) rfl g9 rfl 33 _ (0, 0) _ (unhide HGf) Tryd.underlying33 rfl Tryd.sigSize ?_; refine Hid.out ?_)
            refine hide ?_
            go_wp2_with (refine wpList_store_sig rfl (.tmp 8) (.tmp 169) rfl g8 rfl _ _ _ _ _ _ (unhide HZf) rfl ⟨rfl, rfl, rfl⟩ ?_; intro w9 G9 K9)
            refine bodyPost_ret (results_sig1 rfl _ _ g8 _ _ _ (0, 0) rfl G9) rfl ?_
            exact ⟨_, rfl, trnd_end (unhide HLP') (unhide HLQ') (unhide HI) (fun h => by omega) K9 (unhide HK') hg8⟩
          · have hwt : IntKind.i64.wrap tn = tn := wrap_at rfl (by have := unhide HTN; omega) (by have := unhide HTN; omega)
            have k' := setCell_kp W1 g9 0 (.int .i64 (bits .xor .i64 i tn))
            have G' := heap_setCell_same W1 g9 0 _ _ (.int .i64 (bits .xor .i64 i tn)) (unhide HGW)
            have Z' := k'.heap (unhide HZW) (by simp; omega)
            have HK' : Hid (Kp [] w (W1.setCell ⟨g9, 0, none⟩ (.int .i64 (bits .xor .i64 i tn)))) := (unhide HKW).then k' (fun j hj => .inr (by have := unhide H9; simp at hj; omega))
            have L9P := (unhide HAP1).lzoff k' hs3 (by have := unhide HPL; omega) g8 (by have := unhide H8; have := unhide H9; omega)
            have L9Q := (unhide HAQ1).lzoff k' hs5 (by have := unhide HQL; omega) g8 (by have := unhide H8; have := unhide H9; omega)
            have HLP' := hide (L9P)
            have HLQ' := hide (L9Q)
            clear k' L9P L9Q
            have HGf := hide G'
            have HZf := hide Z'
            go_wp2_with (refine wpList_load_row rfl 33 (.tmp 9) rfl g9 rfl 33 _ (0, 0) _ (unhide HGf) Tryd.underlying33 rfl Tryd.sigSize ?_; refine Hid.out ?_)
            refine hide ?_
            go_wp2_with (refine wpList_store_sig rfl (.tmp 8) (.tmp 169) rfl g8 rfl _ _ _ _ _ _ (unhide HZf) rfl ⟨rfl, rfl, rfl⟩ ?_; intro w9 G9 K9)
            refine bodyPost_ret (results_sig1 rfl _ _ g8 _ _ _ (0, 0) rfl G9) rfl ?_
            exact ⟨_, rfl, trnd_end (unhide HLP') (unhide HLQ') (xor64_bd i tn) (fun h => by omega) K9 (unhide HK') hg8⟩
          · have hpc : 64 ≤ pc := (unhide HAP1).cap
            have hrs := run_cut (some ⟨gr, 0, none⟩) 64 pc pi W1 (by omega) hpc (fun h => by cases h)
            have k' := setCell_kp W1 g9 1 (.slice (some ⟨gr, 0, none⟩) pi pc)
            have G' := heap_setCell_same W1 g9 1 _ _ (.slice (some ⟨gr, 0, none⟩) pi pc) (unhide HGW)
            have Z' := k'.heap (unhide HZW) (by simp; omega)
            have HK' : Hid (Kp [] w (W1.setCell ⟨g9, 1, none⟩ (.slice (some ⟨gr, 0, none⟩) pi pc))) := (unhide HKW).then k' (fun j hj => .inr (by have := unhide H9; simp at hj; omega))
            have L9P := (unhide HAP1).lzoff k' hs3 (by have := unhide HPL; omega) g8 (by have := unhide H8; have := unhide H9; omega)
            have L9Q := (unhide HAQ1).lzoff k' hs5 (by have := unhide HQL; omega) g8 (by have := unhide H8; have := unhide H9; omega)
            have HLP' := hide (L9P.take (k := pi) (by have := unhide HPL; omega))
            have HLQ' := hide (L9Q)
            clear k' L9P L9Q
            have HGf := hide G'
            have HZf := hide Z'
            go_wp2_with (refine wpList_load_row rfl 33 (.tmp 9) rfl g9 rfl 33 _ (0, 0) _ (unhide HGf) Tryd.underlying33 rfl Tryd.sigSize ?_; refine Hid.out ?_)
            refine hide ?_
            go_wp2_with (refine wpList_store_sig rfl (.tmp 8) (.tmp 169) rfl g8 rfl _ _ _ _ _ _ (unhide HZf) rfl ⟨rfl, rfl, rfl⟩ ?_; intro w9 G9 K9)
            refine bodyPost_ret (results_sig1 rfl _ _ g8 _ _ _ (0, 0) rfl G9) rfl ?_
            exact ⟨_, rfl, trnd_end (unhide HLP') (unhide HLQ') (unhide HI) (fun h => by omega) K9 (unhide HK') hg8⟩
          · have hqc : 4 ≤ qc := (unhide HAQ1).cap
            have hrs := run_cut (some ⟨gq, 0, none⟩) 4 qc ki W1 (by omega) hqc (fun h => by cases h)
            have k' := setCell_kp W1 g9 2 (.slice (some ⟨gq, 0, none⟩) ki qc)
            have G' := heap_setCell_same W1 g9 2 _ _ (.slice (some ⟨gq, 0, none⟩) ki qc) (unhide HGW)
            have Z' := k'.heap (unhide HZW) (by simp; omega)
            have HK' : Hid (Kp [] w (W1.setCell ⟨g9, 2, none⟩ (.slice (some ⟨gq, 0, none⟩) ki qc))) := (unhide HKW).then k' (fun j hj => .inr (by have := unhide H9; simp at hj; omega))
            have L9P := (unhide HAP1).lzoff k' hs3 (by have := unhide HPL; omega) g8 (by have := unhide H8; have := unhide H9; omega)
            have L9Q := (unhide HAQ1).lzoff k' hs5 (by have := unhide HQL; omega) g8 (by have := unhide H8; have := unhide H9; omega)
            have HLP' := hide (L9P)
            have HLQ' := hide (L9Q.take (k := ki) (by have := unhide HQL; omega))
            clear k' L9P L9Q
            have HGf := hide G'
            have HZf := hide Z'
            go_wp2_with (refine wpList_load_row rfl 33 (.tmp 9) rfl g9 rfl 33 _ (0, 0) _ (unhide HGf) Tryd.underlying33 rfl Tryd.sigSize ?_; refine Hid.out ?_)
            refine hide ?_
            go_wp2_with (refine wpList_store_sig rfl (.tmp 8) (.tmp 169) rfl g8 rfl _ _ _ _ _ _ (unhide HZf) rfl ⟨rfl, rfl, rfl⟩ ?_; intro w9 G9 K9)
            refine bodyPost_ret (results_sig1 rfl _ _ g8 _ _ _ (0, 0) rfl G9) rfl ?_
            exact ⟨_, rfl, trnd_end (unhide HLP') (unhide HLQ') (unhide HI) (fun h => by omega) K9 (unhide HK') hg8⟩
          · have hq16 : Int.tdiv (32 : Int) 2 = 16 := by decide
            have hc116 : 16 ≤ c1 := by have := (unhide HR4).sl; obtain ⟨_, _, e, h, _⟩ := this; injection e with _ _ e3; rw [unhide HP32p] at h; omega
            have hrs := run_cut1 (some ⟨b1, 0, none⟩) 32 c1 16 W1.drew (by omega) (by have := (unhide HR4).sl; obtain ⟨_, _, e, h, _⟩ := this; injection e with _ _ e3; rw [unhide HP32p] at h; omega) (fun h => by cases h)
            have Fg : W1.drew.frozen? ⟨gr, pi, none⟩ = false := unhide HR6 pi
            have k' := (setCell_kp W1.drew gr pi (.slice (some ⟨b1, 0, none⟩) 16 c1))
            have HLP' : Hid (Lz g8 (W1.drew.setCell ⟨gr, pi, none⟩ (.slice (some ⟨b1, 0, none⟩) 16 c1)) (.slice (some ⟨gr, 0, none⟩) 64 pc) (ps.set pi ((ps.getD pi []).take 16))) := (unhide HAP1).half pi (kp_drew W1) (unhide HR4) (unhide HR5) r7 (by have := unhide HPL; omega) g8 (by omega)
            have HLQ' : Hid (Lz g8 (W1.drew.setCell ⟨gr, pi, none⟩ (.slice (some ⟨b1, 0, none⟩) 16 c1)) (.slice (some ⟨gq, 0, none⟩) 4 qc) qs) := ((unhide HAQ1).mid (kp_drew W1)).lzoff k' (by obtain ⟨_, _, _, p3⟩ := unhide HPXW; exact (p3 gr (.inl rfl)).2) (by have := unhide HQL; omega) g8 (by omega)
            have G' := k'.heap ((kp_drew W1).heap (unhide HGW) (by simp)) (by simp; omega)
            have Z' := k'.heap ((kp_drew W1).heap (unhide HZW) (by simp)) (by have := ((unhide HAP1).own gr rfl).1; simp; omega)
            have HK' : Hid (Kp [] w (W1.drew.setCell ⟨gr, pi, none⟩ (.slice (some ⟨b1, 0, none⟩) 16 c1))) := ((unhide HKW).trans (kp_drew W1)).then k' (fun j hj => .inr (by have := ((unhide HAP1).own gr rfl).1; have := unhide H9; simp at hj; omega))
            clear k'
            have dD1 := (kp_drew W1).cell D1 (by simp)
            have dr1 := (kp_drew W1).cell r1 (by simp)
            go_wp2_with fail
            refine region_tail 17 Tryd.mixed (by kernel_rfl) ?_
            simp only [List.take_succ_cons, List.take_zero, List.drop_succ_cons, List.drop_zero]
            repeat (first | go_big_quiet_skip | (go_big_quiet_want; go_big_quiet_op; go_big_quiet_on))
            refine wpQuiet_nil ?_
            have HGf := hide G'
            have HZf := hide Z'
            go_wp2_with (refine wpList_load_row rfl 33 (.tmp 9) rfl g9 rfl 33 _ (0, 0) _ (unhide HGf) Tryd.underlying33 rfl Tryd.sigSize ?_; refine Hid.out ?_)
            refine hide ?_
            go_wp2_with (refine wpList_store_sig rfl (.tmp 8) (.tmp 169) rfl g8 rfl _ _ _ _ _ _ (unhide HZf) rfl ⟨rfl, rfl, rfl⟩ ?_; intro w9 G9 K9)
            refine bodyPost_ret (results_sig1 rfl _ _ g8 _ _ _ (0, 0) rfl G9) rfl ?_
            exact ⟨_, rfl, trnd_end (unhide HLP') (unhide HLQ') (unhide HI) (fun h => by omega) K9 (unhide HK') hg8⟩
          · obtain ⟨i0, hi0, hz0, hz1, hz2⟩ := info_parts Tryd.info5
            obtain ⟨wm, hmr, hm1, hm2⟩ := run_make_full (P := Tryd.prog) W1.drew W1.heap.size 24 5 i0 (.int .u8 0) 1 Tryd.underlying24 hi0 hz0 hz1 .i64 .i64 32 (by rw [hz2]; omega) (by unfold maxLen; omega) (Nat.le_refl _)
            rw [made_zero] at hm1
            have hmr' : (Instr.makeSlice 24 (.int .i64 32) (.int .i64 32)).run Tryd.prog W1.drew = .ok (.slice (some ⟨W1.heap.size, 0, none⟩) 32 32) wm := hmr
            clear hmr
            have RM : Row wm W1.heap.size (.slice (some ⟨W1.heap.size, 0, none⟩) 32 32) (List.replicate 32 (0 : Int)) := by unfold Row; rw [List.length_replicate]; exact hm1
            have KM : Kp [] W1 wm := (kp_drew W1).trans ((Kp.refl [] W1.drew).grown hm2 (by intro k hk; cases hk))
            have HRM := hide RM
            have HKM := hide KM
            have E2 : wm.cell? ⟨g9, 2, none⟩ = some (.slice (some ⟨gq, 0, none⟩) 4 qc) := KM.cell D2 (by simp)
            have E2a : ∀ o, (wm.alloc o).cell? ⟨g9, 2, none⟩ = some (.slice (some ⟨gq, 0, none⟩) 4 qc) := fun o => (World.cell?_alloc_lt _ _ _ (by exact World.block_lt_of_cell? _ _ E2)).trans E2
            have hbz : Bs (List.replicate 32 (0 : Int)) := fun b hb => by rw [List.eq_of_mem_replicate hb]; omega
            have HBZ := hide hbz
            have HLNq : Hid (qs.length ≤ 1000000) := hide (by have := unhide HQL; omega)
            clear hm1 hm2 RM KM hbz
            go_wp2_with fail
            go_region_law ((refine step_accp (by rfl) (.tmp 161) (.tmp 163) (by rfl) (.slice (some ⟨gq, 0, none⟩) 4 qc) _ (by rfl) (unhide HAQ1) (unhide HLNq) (.slice (some ⟨W1.heap.size, 0, none⟩) 32 32) (List.replicate 32 (0 : Int)) (unhide HKM) (unhide HRM) (unhide HBZ) wm.heap.size (by rfl) (by exact cell_of_one (heap_alloc_new wm _)) ((Kp.refl [] wm).alloc _) ?_; intro ao5 m5 c5 w8 A5 S5; have G5 : w8.heap[g9]? = some _ := S5.1.heap (unhide HGW) (fun hm => by have := ((unhide HAQ1).own g9 (by simpa using hm)).1; omega); have hc5 : w8.cell? ⟨g9, 2, none⟩ = some (.slice (some ⟨gq, 0, none⟩) 4 qc) := (by rw [cell_of_row w8 g9 2 _ _ _ G5]; rfl); have hf5 : w8.frozen? ⟨g9, 2, none⟩ = false := frozen_of_row w8 g9 2 _ _ G5))
            all_goals
              have k' := setCell_kp w8 g9 2 (.slice ao5 m5 c5)
              have G' := heap_setCell_same w8 g9 2 _ _ (.slice ao5 m5 c5) G5
              have hgqo := (unhide HAQ1).own
              have Z' := k'.heap (S5.1.heap (unhide HZW) (fun hm => by have := (hgqo g8 (by simpa using hm)).1; omega)) (by simp; omega)
              have HK' : Hid (Kp [] w (w8.setCell ⟨g9, 2, none⟩ (.slice ao5 m5 c5))) := ((unhide HKW).then S5.1 (fun j hj => .inr (by have := (hgqo j (by simpa using hj)).1; have := unhide H9; omega))).then k' (fun j hj => .inr (by have := unhide H9; simp at hj; omega))
              have HLQ' := hide (A5.lzoff k' hs5 (by have := unhide HQL; simp; omega) g8 (by omega))
              have HLP' : Hid (Lz g8 (w8.setCell ⟨g9, 2, none⟩ (.slice ao5 m5 c5)) (.slice (some ⟨gr, 0, none⟩) 64 pc) ps) := by
                obtain ⟨l, p1, p2, p3⟩ := unhide HPXW
                exact ⟨l, (p1.off S5.1 (fun q hq hm => by have := p3 q (.inl hq); have := (hgqo q (by simpa using hm)).1; omega) (fun y hy q hq hm => by have := p3 q (.inr ⟨y, hy, hq⟩); have := (hgqo q (by simpa using hm)).1; omega)).off k' (fun q hq => by have := p3 q (.inl hq); simp; omega) (fun y hy q hq => by have := p3 q (.inr ⟨y, hy, hq⟩); simp; omega), p2, fun q hq => by have := p3 q (.inl hq); omega, fun y hy q hq => by have := p3 q (.inr ⟨y, hy, hq⟩); omega⟩
              clear k' A5 S5 G5 hc5 hf5 hgqo E2 E2a hmr'
              have HGf := hide G'
              have HZf := hide Z'
              go_wp2_with (refine wpList_load_row rfl 33 (.tmp 9) rfl g9 rfl 33 _ (0, 0) _ (unhide HGf) Tryd.underlying33 rfl Tryd.sigSize ?_; refine Hid.out ?_)
              refine hide ?_
              go_wp2_with (refine wpList_store_sig rfl (.tmp 8) (.tmp 169) rfl g8 rfl _ _ _ _ _ _ (unhide HZf) rfl ⟨rfl, rfl, rfl⟩ ?_; intro w9 G9 K9)
              refine bodyPost_ret (results_sig1 rfl _ _ g8 _ _ _ (0, 0) rfl G9) rfl ?_
              exact ⟨_, rfl, trnd_end (unhide HLP') (unhide HLQ') (unhide HI) (fun h => by omega) K9 (unhide HK') hg8⟩
          · skip
            have k' := setCell_kp W1 g9 0 (.int .i64 (-1))
            have G' := heap_setCell_same W1 g9 0 _ _ (.int .i64 (-1)) (unhide HGW)
            have Z' := k'.heap (unhide HZW) (by simp; omega)
            have HK' : Hid (Kp [] w (W1.setCell ⟨g9, 0, none⟩ (.int .i64 (-1)))) := (unhide HKW).then k' (fun j hj => .inr (by have := unhide H9; simp at hj; omega))
            have L9P := (unhide HAP1).lzoff k' hs3 (by have := unhide HPL; omega) g8 (by have := unhide H8; have := unhide H9; omega)
            have L9Q := (unhide HAQ1).lzoff k' hs5 (by have := unhide HQL; omega) g8 (by have := unhide H8; have := unhide H9; omega)
            have HLP' := hide (L9P)
            have HLQ' := hide (L9Q)
            clear k' L9P L9Q
            have HGf := hide G'
            have HZf := hide Z'
            go_wp2_with (refine wpList_load_row rfl 33 (.tmp 9) rfl g9 rfl 33 _ (0, 0) _ (unhide HGf) Tryd.underlying33 rfl Tryd.sigSize ?_; refine Hid.out ?_)
            refine hide ?_
            go_wp2_with (refine wpList_store_sig rfl (.tmp 8) (.tmp 169) rfl g8 rfl _ _ _ _ _ _ (unhide HZf) rfl ⟨rfl, rfl, rfl⟩ ?_; intro w9 G9 K9)
            refine bodyPost_ret (results_sig1 rfl _ _ g8 _ _ _ (0, 0) rfl G9) rfl ?_
            exact ⟨_, rfl, trnd_end (unhide HLP') (unhide HLQ') (by omega) (fun h => by omega) K9 (unhide HK') hg8⟩
end Go.Proofs.YtdioaohejoflcaaDoor
