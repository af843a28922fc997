/-
  A signature that is written is read again: the plain form, and Decode with memory of its own; the law package's Sized at a signature's size.
-/
import Derived.Test.YtdjofooggofpkaaGreatDoorKSCode
import Derived.Test.YtdjofooggofpkaaGreatDoorKOMore
namespace Go.Proofs.YtdjofooggofpkaaGreatDoor
open Go.ChangeShapes Go.WideShapes Go.ChangeAt Go.RowKit
open Go.Deep
open Go.Proofs

theorem sb_flat_len (ps : List (List Int)) (h : ∀ x ∈ ps, x.length = 32) : ps.flatten.length = 32 * ps.length := by
  induction ps with
  | nil => rfl
  | cons a l ih => rw [List.flatten_cons, List.length_append, h a (by simp), ih (fun x hx => h x (by simp [hx])), List.length_cons]; omega
theorem sb_flat_drop (ps : List (List Int)) (h : ∀ x ∈ ps, x.length = 32) (r : List Int) : ∀ n, n ≤ ps.length → (ps.flatten ++ r).drop (32 * n) = (ps.drop n).flatten ++ r := by
  induction ps with
  | nil => intro n hn; have : n = 0 := by simpa using hn
           subst this; simp
  | cons a l ih =>
    intro n hn
    cases n with
    | zero => simp
    | succ n =>
      have ha : a.length = 32 := h a (by simp)
      rw [show 32 * (n + 1) = a.length + 32 * n by omega, List.flatten_cons, List.append_assoc, ← List.drop_drop, List.drop_left, ih (fun x hx => h x (by simp [hx])) n (by simpa using hn)]
      rfl
theorem sb_chP_flat (ps : List (List Int)) (h : ∀ x ∈ ps, x.length = 32) (r : List Int) (n : Nat) (hn : ps.length = n) : chP n (ps.flatten ++ r) = ps := by
  apply List.ext_getElem
  · rw [chP_len, hn]
  · intro j h1 h2
    have : (ps.drop j).flatten = ps[j] ++ (ps.drop (j + 1)).flatten := by rw [List.drop_eq_getElem_cons h2, List.flatten_cons]
    simp only [chP, List.getElem_map, List.getElem_range]
    rw [sb_flat_drop ps h r j (by omega), this, List.append_assoc, ← h ps[j] (List.getElem_mem h2), List.take_left]
theorem encP_len (i : Int) (ps qs : List (List Int)) (hr : rgtP i ps qs = true) : (encP i ps qs).length = 2180 := by
  obtain ⟨_, ⟨h1, h2⟩, h3, h4⟩ := (rgtP_iff _ _ _).1 hr
  unfold encP
  rw [List.length_append, List.length_append, be4_len, sb_flat_len _ h2, sb_flat_len _ h4, h1, h3]
theorem encP_back (i : Int) (ps qs : List (List Int)) (hr : rgtP i ps qs = true) : decOk (encP i ps qs) = true ∧ val ((encP i ps qs).take 4) = i ∧ chP 64 ((encP i ps qs).drop 4) = ps ∧ chP 4 ((encP i ps qs).drop 2052) = qs := by
  have hl := encP_len i ps qs hr
  obtain ⟨⟨hi0, hi1⟩, ⟨h1, h2⟩, h3, h4⟩ := (rgtP_iff _ _ _).1 hr
  have e1 : (encP i ps qs).take 4 = be4 i := by unfold encP; rw [← be4_len i, List.take_left]
  have e2 : (encP i ps qs).drop 4 = ps.flatten ++ qs.flatten := by unfold encP; rw [← be4_len i, List.drop_left]
  have e3 : (encP i ps qs).drop 2052 = qs.flatten ++ [] := by
    rw [show 2052 = 4 + 2048 from rfl, ← List.drop_drop, e2, show 2048 = ps.flatten.length by rw [sb_flat_len _ h2, h1], List.drop_left, List.append_nil]
  have e4 : val (be4 i) = i := by
    obtain ⟨k, rfl⟩ := Int.eq_ofNat_of_zero_le hi0
    have : k < 16 := by omega
    have key : ∀ k : Nat, k < 16 → val (be4 (k : Int)) = (k : Int) := by decide
    exact key k this
  refine ⟨?_, by rw [e1, e4], by rw [e2, sb_chP_flat _ h2 _ _ h1], by rw [e3, sb_chP_flat _ h4 _ _ h3]⟩
  unfold decOk
  rw [hl, e1, e4]
  simp [hi1]
theorem encP_bs (i : Int) (ps qs : List (List Int)) (hr : rgtP i ps qs = true) (hp : ∀ x ∈ ps, Bs x) (hq : ∀ x ∈ qs, Bs x) : Bs (encP i ps qs) := by
  obtain ⟨⟨hi0, hi1⟩, _, _⟩ := (rgtP_iff _ _ _).1 hr
  intro b hb
  unfold encP at hb
  rcases List.mem_append.1 hb with h | h
  · obtain ⟨k, rfl⟩ := Int.eq_ofNat_of_zero_le hi0
    have key : ∀ k : Nat, k < 16 → ∀ b ∈ be4 (k : Int), 0 ≤ b ∧ b ≤ 255 := by decide
    exact key k (by omega) b h
  · rcases List.mem_append.1 h with h | h
    · obtain ⟨x, hx, hb⟩ := List.mem_flatten.1 h; exact hp x hx b hb
    · obtain ⟨x, hx, hb⟩ := List.mem_flatten.1 h; exact hq x hx b hb

theorem made_sig : (madeCells (Value.int .u8 0).cells (2180 * 1)).toList = (List.replicate 2180 (0 : Int)).map (Value.int .u8) := by
  rw [List.map_replicate]
  exact toList_madeCells_one (.int .u8 0) 2180
theorem splice_sig (bs : List Int) : splice ((List.replicate 2180 (0 : Int)).map (Value.int .u8)) 0 ((bs.take 2180).map (Value.int .u8)) = (bs.take 2180 ++ List.replicate (2180 - (bs.take 2180).length) 0).map (Value.int .u8) := by
  unfold splice
  rw [List.take_zero, List.nil_append, List.map_append, ← List.map_drop, List.drop_replicate]
  congr 3
  simp

set_option maxRecDepth 100000 in
set_option maxHeartbeats 4000000 in
theorem decode_apart (vb : Value) (bs : List Int) (w : World) (hS : Sl w vb bs) (hB : Bs bs) (hok : decOk bs = true) :
    Calls Tryz.prog 33 #[vb] w fun e w' => ∃ v, e = .returned (.tuple #[v, .int .i64 0]) ∧ (∀ (S : List Nat) w2, (∀ q ∈ S, q < w.heap.size) → Kp S w' w2 → SigV w2 v (val (bs.take 4)) (chP 64 (bs.drop 4)) (chP 4 (bs.drop 2052))) ∧ Kp [] w w' := by
  have hl : bs.length = 2180 := by unfold decOk at hok; simp at hok; exact hok.1
  have HOK := hide hok
  have HB := hide hB
  have HL := hide hl
  clear hok
  obtain ⟨ob, hob⟩ : ∃ o : Obj, o = (.cells #[.int .i64 0, .slice none 0 0, .slice none 0 0] 24) := ⟨_, rfl⟩
  have K1 : Kp [] w (w.alloc ob) := (Kp.refl [] w).alloc ob
  have HRd := hide (read_any vb bs (w.alloc ob) (hS.kept K1 (by simp)) (by omega))
  have G1 : Hid ((w.alloc ob).heap[w.heap.size]? = some ob) := heap_alloc_new w ob
  rw [hob] at K1 HRd G1
  have HK1 := hide K1
  obtain ⟨ab, cb, hvb, _⟩ := hS
  rw [hl] at hvb
  subst hvb
  clear hob K1 hB hl
  go_enter Tryz.func33, Tryz.ntmps33
  go_wp2_with fail
  refine (unhide HRd).mono ?_
  rintro ee w2 ⟨q, v2, rfl, hq2, R2, hv2, K2⟩
  have HK2 := hide ((unhide HK1).trans K2)
  have HG2 := hide (K2.heap (unhide G1) (by simp))
  have HKa : Hid (Kp [] w2 (w2.alloc (.cells #[.int .i64 0, .slice none 0 0, .slice none 0 0] 24))) := (Kp.refl [] w2).alloc _
  have HR2 := hide (R2.kept (unhide HKa) (by simp) (by simp))
  have hqlt : q < w2.heap.size := lt_of_block R2.1
  have HV2 := hide hv2
  have hqw : w.heap.size < q := by have e : (w.alloc ob).heap.size = w.heap.size + 1 := by simp
                                   have e' : ∀ o : Obj, (w.alloc o).heap.size = w.heap.size + 1 := fun o => by simp
                                   rw [e'] at hq2; omega
  have HGa : Hid ((w2.alloc (.cells #[.int .i64 0, .slice none 0 0, .slice none 0 0] 24)).heap[w2.heap.size]? = some (.cells #[.int .i64 0, .slice none 0 0, .slice none 0 0] 24)) := heap_alloc_new w2 _
  have hRn := rnum_any q v2 false bs _ (unhide HR2) (unhide HB)
  rw [show tk false bs 4 = (bs.take 4, false, bs.drop 4) from tk_ok false bs 4 (by have := unhide HL; omega)] at hRn
  obtain ⟨x, hx⟩ : ∃ x, x = val (bs.take 4) := ⟨_, rfl⟩
  dsimp only at hRn
  rw [← hx] at hRn
  have hxb : 0 ≤ x ∧ x < 4294967296 := by
    have := val_bd (bs.take 4) ((unhide HB).take 4)
    rw [List.length_take, Nat.min_eq_left (by have := unhide HL; omega), ← hx] at this
    exact ⟨this.1, by simpa using this.2⟩
  have hwx : IntKind.i64.wrap x = x := wrap_at rfl (by omega) (by omega)
  have HX := hide hx
  have HXB := hide hxb
  have HRn := hide hRn
  clear hx hxb hRn
  clear HRd R2 hv2 K2 HK1 G1 hq2
  go_wp2_with fail
  refine (unhide HRn).mono ?_
  rintro ee w3 ⟨rfl, ⟨v3, R3, hv3⟩, K3⟩
  obtain ⟨g1, hg1⟩ : ∃ g, g = w2.heap.size := ⟨_, rfl⟩
  rw [← hg1] at HGa hqlt HV2 ⊢
  have hza : Hid (∀ o : Obj, (w2.alloc o).heap.size = g1 + 1) := fun o => by rw [hg1]; simp
  have G3 : w3.heap[g1]? = some (.cells #[.int .i64 0, .slice none 0 0, .slice none 0 0] 24) := K3.heap (unhide HGa) (by simp; omega)
  have hc3 : w3.cell? ⟨g1, 0, none⟩ = some (.int .i64 0) := by rw [cell_of_row w3 g1 0 _ _ _ G3]; rfl
  have hf3 : w3.frozen? ⟨g1, 0, none⟩ = false := frozen_of_row w3 g1 0 _ _ G3
  have HK3 : Hid (Kp [] w w3) := ((unhide HK2).trans (unhide HKa)).then K3 (fun i hi => .inr (by simp at hi; omega))
  have k4 := setCell_kp w3 g1 0 (.int .i64 x)
  have g4 := heap_setCell_same w3 g1 0 _ _ (.int .i64 x) G3
  have hv3' : ∀ k, v3.ownBlock = some k → k < g1 := fun k hk => (unhide HV2 k (hv3 k hk)).2
  have R4 := R3.kept k4 (by simp; omega) (fun i hi => by have := hv3' i hi; simp; omega)
  have hsz3 : g1 + 1 ≤ w3.heap.size := by have := K3.size; rw [unhide hza] at this; exact this
  have hsz4 : w3.heap.size ≤ (w3.setCell ⟨g1, 0, none⟩ (.int .i64 x)).heap.size := k4.size
  have HC4 := hide (reads_any q v3 (bs.drop 4) 64 _ R4 (fun k hk => by have := hv3' k hk; omega) ((unhide HB).drop 4) (by rw [List.length_drop]; have := unhide HL; omega) (by omega) (by rw [List.length_drop]; have := unhide HL; omega))
  have HK4 : Hid (Kp [] w (w3.setCell ⟨g1, 0, none⟩ (.int .i64 x))) := (unhide HK3).then k4 (fun i hi => .inr (by simp at hi; subst hi; have := (unhide HK2).size; omega))
  have HG4 := hide g4
  have HV3 := hide hv3'
  have HQ4 : Hid (Kp [q, g1] w2 (w3.setCell ⟨g1, 0, none⟩ (.int .i64 x))) := (((unhide HKa).mono (by simp)).trans (K3.mono (by simp))).trans (k4.mono (by simp))
  have HGW : Hid (w.heap.size < g1) := hide (by omega)
  clear G3 k4 g4 hv3' R4 R3 hv3 K3 HRn HR2 HGa HKa HK3 HV2 hg1
  go_wp2_with fail
  refine (unhide HC4).mono ?_
  rintro ee w5 ⟨a5, m5, c5, rfl, A5, v5, R5, hv5⟩
  have hA5 := A5.kp
  have HG5 : w5.heap[g1]? = some _ := hA5.heap (unhide HG4) (by simp; omega)
  have hc5 : w5.cell? ⟨g1, 1, none⟩ = some (.slice none 0 0) := by rw [cell_of_row w5 g1 1 _ _ _ HG5]; rfl
  have hf5 : w5.frozen? ⟨g1, 1, none⟩ = false := frozen_of_row w5 g1 1 _ _ HG5
  have k6 := setCell_kp w5 g1 1 (.slice a5 m5 c5)
  have g6 := heap_setCell_same w5 g1 1 _ _ (.slice a5 m5 c5) HG5
  have HL5 : Hid (∃ l, Lists w5 (.slice a5 m5 c5) l ∧ l.map (·.2) = chP 64 (bs.drop 4) ∧ (∀ q, (Value.slice a5 m5 c5).ownBlock = some q → g1 + 1 ≤ q) ∧ ∀ x ∈ l, ∀ q, x.1.ownBlock = some q → g1 + 1 ≤ q) := by
    obtain ⟨l, h1, h2, h3, h4⟩ := A5.lists (by rw [chP_len]; omega)
    exact ⟨l, h1, h2, fun q hq => by have := h3 q hq; omega, fun x hx q hq => by have := h4 x hx q hq; omega⟩
  have hv5' : ∀ k, v5.ownBlock = some k → k < g1 := fun k hk => unhide HV3 k (hv5 k hk)
  have hsz5 : g1 + 1 ≤ w5.heap.size := by have := hA5.size; omega
  have R6 := R5.kept k6 (by simp; omega) (fun i hi => by have := hv5' i hi; simp; omega)
  have hsz6 := k6.size
  rw [List.drop_drop] at R6
  have HC6 := hide (reads_any q v5 (bs.drop (4 + 32 * 64)) 4 _ R6 (fun k hk => by have := hv5' k hk; omega) ((unhide HB).drop _) (by rw [List.length_drop]; have := unhide HL; omega) (by omega) (by rw [List.length_drop]; have := unhide HL; omega))
  have HK5 : Hid (Kp [] w w5) := (unhide HK4).then hA5 (fun i hi => .inr (by simp at hi; omega))
  have HK6 : Hid (Kp [] w (w5.setCell ⟨g1, 1, none⟩ (.slice a5 m5 c5))) := (unhide HK5).then k6 (fun i hi => .inr (by simp at hi; subst hi; have := unhide HGW; omega))
  have HK56 := hide k6
  have HQ6 : Hid (Kp [q, g1] w2 (w5.setCell ⟨g1, 1, none⟩ (.slice a5 m5 c5))) := ((unhide HQ4).trans (hA5.mono (by simp))).trans (k6.mono (by simp))
  have HG6 := hide g6
  clear HG5 k6 g6 hv5' R6 R5 hv5 A5 hA5 HC4 HG4 HV3 HK4 HK5 hc3 hf3 hsz3 hsz4
  go_wp2_with fail
  refine (unhide HC6).mono ?_
  rintro ee w7 ⟨a7, m7, c7, rfl, A7, -⟩
  have hA7 := A7.kp
  have HG7 : w7.heap[g1]? = some _ := hA7.heap (unhide HG6) (by simp; omega)
  have hc7 : w7.cell? ⟨g1, 2, none⟩ = some (.slice none 0 0) := by rw [cell_of_row w7 g1 2 _ _ _ HG7]; rfl
  have hf7 : w7.frozen? ⟨g1, 2, none⟩ = false := frozen_of_row w7 g1 2 _ _ HG7
  have k8 := setCell_kp w7 g1 2 (.slice a7 m7 c7)
  have g8 := heap_setCell_same w7 g1 2 _ _ (.slice a7 m7 c7) HG7
  have HK7 : Hid (Kp [] w w7) := (unhide HK6).then hA7 (fun i hi => .inr (by simp at hi; omega))
  have HK8 : Hid (Kp [] w (w7.setCell ⟨g1, 2, none⟩ (.slice a7 m7 c7))) := (unhide HK7).then k8 (fun i hi => .inr (by simp at hi; subst hi; have := unhide HGW; omega))
  have HV8 : Hid (SigV (w7.setCell ⟨g1, 2, none⟩ (.slice a7 m7 c7)) (.agg #[.int .i64 x, .slice a5 m5 c5, .slice a7 m7 c7]) x (chP 64 (bs.drop 4)) (chP 4 (bs.drop 2052)) ∧ ∀ (S : List Nat) w9, (∀ q ∈ S, q ≤ w.heap.size) → Kp S (w7.setCell ⟨g1, 2, none⟩ (.slice a7 m7 c7)) w9 → SigV w9 (.agg #[.int .i64 x, .slice a5 m5 c5, .slice a7 m7 c7]) x (chP 64 (bs.drop 4)) (chP 4 (bs.drop 2052))) := by
    obtain ⟨lp, h1, h2, h3, h4⟩ := unhide HL5
    obtain ⟨lq, g1', g2, g3, g4⟩ := A7.lists (by rw [chP_len]; omega)
    have p6 := h1.off (unhide HK56) (fun q hq => by have := h3 q hq; simp; omega) (fun y hy q hq => by have := h4 y hy q hq; simp; omega)
    have p7 := p6.off hA7 (fun i hq => by have := h3 i hq; simp; omega) (fun y hy i hq => by have := h4 y hy i hq; simp; omega)
    have p8 := p7.off k8 (fun q hq => by have := h3 q hq; simp; omega) (fun y hy q hq => by have := h4 y hy q hq; simp; omega)
    have q8 := g1'.off k8 (fun q hq => by have := g3 q hq; simp; omega) (fun y hy q hq => by have := g4 y hy q hq; simp; omega)
    refine ⟨⟨_, _, lp, lq, rfl, p8, h2, q8, g2⟩, fun S w9 hS9 k9 => ⟨_, _, lp, lq, rfl, p8.off k9 (fun q hq => ?_) (fun y hy q hq => ?_), h2, q8.off k9 (fun q hq => ?_) (fun y hy q hq => ?_), g2⟩⟩
    · have h := h3 q hq; have := unhide HGW; exact fun hm => by have := hS9 _ hm; omega
    · have h := h4 y hy q hq; have := unhide HGW; exact fun hm => by have := hS9 _ hm; omega
    · have h := g3 q hq; have := unhide HGW; exact fun hm => by have := hS9 _ hm; omega
    · have h := g4 y hy q hq; have := unhide HGW; exact fun hm => by have := hS9 _ hm; omega
  obtain ⟨r, hr⟩ : ∃ r, r = rgtP x (chP 64 (bs.drop 4)) (chP 4 (bs.drop 2052)) := ⟨_, rfl⟩
  have hrd : r = decOk bs := by
    have hxb := unhide HXB
    by_cases h16 : x < 16
    · have e1 : rgtP x (chP 64 (bs.drop 4)) (chP 4 (bs.drop 2052)) = true := (rgtP_iff _ _ _).2 ⟨⟨hxb.1, h16⟩, ⟨chP_len _ _, chP_32 _ _ (by rw [List.length_drop]; have := unhide HL; omega)⟩, chP_len _ _, chP_32 _ _ (by rw [List.length_drop]; have := unhide HL; omega)⟩
      have e2 : decOk bs = true := by unfold decOk; rw [← unhide HX, unhide HL]; simp [h16]
      rw [hr, e1, e2]
    · have e1 : rgtP x (chP 64 (bs.drop 4)) (chP 4 (bs.drop 2052)) = false := by
        cases h : rgtP x (chP 64 (bs.drop 4)) (chP 4 (bs.drop 2052)) with
        | false => rfl
        | true => exact absurd ((rgtP_iff _ _ _).1 h).1.2 h16
      have e2 : decOk bs = false := by unfold decOk; rw [← unhide HX]; simp [h16]
      rw [hr, e1, e2]
  have HRi := hide (sright_any _ x _ _ r hr _ (unhide HV8).1)
  have HG8 := hide g8
  have HRD := hide hrd
  have HG0 : Hid ((w7.setCell ⟨g1, 2, none⟩ (.slice a7 m7 c7)).heap[w.heap.size]? = some (.cells #[.int .i64 0, .slice none 0 0, .slice none 0 0] 24)) := (((unhide HQ6).trans (hA7.mono (by simp))).trans (k8.mono (by simp))).heap (unhide HG2) (by have := unhide HGW; simp; omega)
  clear HG7 k8 g8 A7 hA7 HC6 HG6 HK6 HK7 HL5 HK56 hc5 hf5 hsz5 hsz6 hr hrd HQ4 HQ6
  go_wp2_with (refine wpList_load_row rfl 24 (.tmp 5) rfl g1 rfl 24 _ (0, 0) _ (unhide HG8) Tryz.underlying24 rfl Tryz.sigSize ?_)
  refine (unhide HRi).mono ?_
  rintro ee w9 ⟨rfl, K9⟩
  have HK9 := hide ((unhide HK8).trans K9)
  have G0 := K9.heap (unhide HG0) (by simp)
  have G9 := K9.heap (unhide HG8) (by simp)
  have HV9 : Hid (∀ (S : List Nat) w', (∀ q ∈ S, q ≤ w.heap.size) → Kp S w9 w' → SigV w' (.agg #[.int .i64 x, .slice a5 m5 c5, .slice a7 m7 c7]) x (chP 64 (bs.drop 4)) (chP 4 (bs.drop 2052))) := fun S w' hS' k' => (unhide HV8).2 S w' hS' ((K9.mono (by simp)).trans k')
  clear HRi K9 HG8 HG0 HK8 HV8 hc7 hf7
  have HG9 := hide G9
  clear G9
  cases r
  · exact absurd (unhide HRD) (by rw [unhide HOK]; decide)
  · go_wp2_with (refine wpList_load_row rfl 24 (.tmp 5) rfl g1 rfl 24 _ (0, 0) _ (unhide HG9) Tryz.underlying24 rfl Tryz.sigSize ?_; refine Hid.out ?_)
    refine hide ?_
    go_wp2_with (refine wpList_store_sig rfl (.tmp 2) (.tmp 26) rfl w.heap.size rfl _ _ _ _ _ _ G0 rfl ⟨rfl, rfl, rfl⟩ ?_; intro w4 G4 K4)
    refine bodyPost_ret (results_sig rfl _ _ w.heap.size _ _ _ (0, 0) rfl G4) rfl ?_
    refine ⟨_, rfl, fun S w' hS' k' => ?_, (unhide HK9).then K4 (by simp)⟩
    rw [← unhide HX]
    exact unhide HV9 (w.heap.size :: S) w' (fun q hq => by rcases List.mem_cons.1 hq with h | h; · omega
                                                           · exact Nat.le_of_lt (hS' q h)) ((K4.mono (by simp)).trans (k'.mono (by simp +contextual)))
end Go.Proofs.YtdjofooggofpkaaGreatDoor
