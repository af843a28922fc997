/-
  The contracts of Digest, of the program and of the reference.
-/
import Derived.Test.YtdioaohejoflcaaDoorM9
import Derived.Test.YtdioaohejoflcaaDoorM8
import Derived.Test.YtdioaohejoflcaaDoorM4
import Derived.Deep.RegionLaw
import Derived.Maps.AppendAt
import Derived.Test.YtdioaohejoflcaaDoorM5
import Derived.Deep.QuietTactic
import Derived.BigQuiet
namespace Go.Proofs.YtdioaohejoflcaaDoor
open Go.RowKit

theorem lists1 {w : World} {v : Value} {bs : List Int} (h : Sl w v bs) (hB : Bs bs) : Lists (w.alloc (.cells #[v] 24)) (.slice (some ⟨w.heap.size, 0, none⟩) 1 1) [(v, bs)] :=
  lists_of_block (l := [(v, bs)]) (t := 24) (fr := (0, 0)) (heap_alloc_new w _) (by simp) (fun x hx => by
    obtain rfl : x = (v, bs) := by simpa using hx
    exact ⟨h.kept ((Kp.refl [] w).alloc _) (by simp), hB⟩)
theorem cat1 (v : Value) (bs : List Int) : cat [(v, bs)] = bs := by simp [cat]
theorem val_take_succ (cs : List Int) (k : Nat) (h : k < cs.length) : val (cs.take (k + 1)) = val (cs.take k) * 256 + cs[k] := by
  rw [List.take_succ_eq_append_getElem h, val_snoc]
theorem val_small (cs : List Int) (hB : Bs cs) (h : cs.length ≤ 3) : val cs * 256 ≤ 4294967295 := by
  have h1 := val_bd cs hB
  have h2 : (256 : Nat) ^ cs.length ≤ 256 ^ 3 := Nat.pow_le_pow_right (by omega) h
  have h3 : (256 : Int) ^ cs.length = ((256 ^ cs.length : Nat) : Int) := by simp
  omega

set_option maxRecDepth 100000 in
set_option maxHeartbeats 1000000 in
theorem digest_any (vb : Value) (bs : List Int) (d : Int) (hd : d = digP bs) (w : World) (hS : Sl w vb bs) (hB : Bs bs) (hl : bs.length ≤ 1000000) (hG : Gl w) :
    Calls Tryd.prog 58 #[vb] w fun e w' => e = .returned (.int .u32 d) ∧ Kp [] w w' := by
  have HL := hide (lists1 hS hB)
  have HG := hide hG
  have HD := hide hd
  obtain ⟨ab, cb, hvb, _⟩ := hS
  obtain ⟨nb, hnb⟩ : ∃ n, n = bs.length := ⟨_, rfl⟩
  rw [← hnb] at hvb
  subst hvb
  obtain ⟨r, hr⟩ : ∃ r, r = sha (13 :: cat [(Value.slice ab nb cb, bs)]) := ⟨_, rfl⟩
  have HR := hide hr
  have HRL : Hid (r.length = 32) := by rw [hr]; exact sha_len _
  have HRB : Hid (Bs r) := by rw [hr]; exact sha_bs _
  have HRD : Hid (d = val (r.take 4)) := by rw [hr, hd, cat1]; rfl
  clear hG hd hr hnb hB
  go_enter Tryd.func58, Tryd.ntmps58
  go_wp2_with (go_at_call 79; refine (tagged_any 13 _ _ r (unhide HR) _ (unhide HL) (by omega) (by omega) (by simp) (by simpa using hl) ((unhide HG).kept ((Kp.refl [] w).alloc _) (by simp))).mono ?_; rintro ee w2 ⟨ao2, m2, c2, rfl, R2, K2⟩; obtain rfl : m2 = 32 := R2.len.trans (unhide HRL); have hc2 : 32 ≤ c2 := (by obtain ⟨_, _, e, h', _⟩ := R2.sl; injection e with e1 e2 e3; have := unhide HRL; omega); have hc3 : (4 : Int) ≤ (c2 : Int) := by omega)
  obtain ⟨a2, c2', e2, hc4, hc5, hcell⟩ := R2.sl.at (unhide HRL) (by omega)
  injection e2 with e3 e4 e5
  subst e3
  subst e5
  have HK := hide (((Kp.refl [] w).alloc (.cells #[.slice ab nb cb] 24)).trans K2)
  have HC := hide hcell
  clear R2 K2 hcell HL HR
  go_loopw [3, 11] (fun x i wr => ∃ k : Nat, k ≤ 4 ∧ i = .int .i64 k ∧ x = .int .u32 (val (r.take k)) ∧ wr = w2) (fun _ i _ => 4 - (intOf i).toNat)
  case atStart => exact ⟨0, by omega, rfl, rfl, rfl⟩
  case round =>
    obtain ⟨k, hk, rfl, rfl, hw⟩ := hrel
    subst wr
    by_cases hlt : k < 4
    · have hlt2 : (k : Int) < 4 := by omega
      have hc := unhide HC k (by omega)
      have hkr : k < r.length := by have := unhide HRL; omega
      have hb1 := unhide HRB r[k] (List.getElem_mem hkr)
      have hvb := val_bd (r.take k) ((unhide HRB).take k)
      have hv1 := val_small (r.take k) ((unhide HRB).take k) (by simp; omega)
      rw [show r.getD k 0 = r[k] by simp [List.getElem?_eq_getElem hkr]] at hc
      obtain ⟨x, hx⟩ : ∃ x, x = val (r.take k) := ⟨_, rfl⟩
      obtain ⟨y, hy⟩ : ∃ y, y = r[k] := ⟨_, rfl⟩
      have HX : Hid (val (r.take (k + 1)) = x * 256 + y) := by rw [hx, hy]; exact val_take_succ r k hkr
      rw [← hx] at hvb hv1
      rw [← hx]
      rw [← hy] at hc hb1
      obtain ⟨hb1, hb2⟩ := hb1
      obtain ⟨hx0, _⟩ := hvb
      have hor := bits_or_byte x y hx0 hv1 hb1 hb2
      clear hx hy
      go_wp2_with fail
      go_roundw
      case rel => exact ⟨k + 1, by omega, by go_num, by rw [unhide HX], by trivial⟩
      case measure => simp [intOf]; omega
    · obtain rfl : k = 4 := by omega
      go_wp2_with fail
      go_ret
      exact ⟨by rw [unhide HRD]; rfl, unhide HK⟩
end Go.Proofs.YtdioaohejoflcaaDoor

/-
  The contracts of the program's Secret, Shown, and what they call.
-/
namespace Go.Proofs.YtdioaohejoflcaaDoor
open Go.RowKit

theorem lists2 {w : World} {v u : Value} {bs cs : List Int} (h : Sl w v bs) (hB : Bs bs) (k : Sl w u cs) (hC : Bs cs) : Lists (w.alloc (.cells #[v, u] 24)) (.slice (some ⟨w.heap.size, 0, none⟩) 2 2) [(v, bs), (u, cs)] :=
  lists_of_block (l := [(v, bs), (u, cs)]) (t := 24) (fr := (0, 0)) (heap_alloc_new w _) (by simp) (fun x hx => by
    rcases (by simpa using hx : x = (v, bs) ∨ x = (u, cs)) with rfl | rfl
    · exact ⟨h.kept ((Kp.refl [] w).alloc _) (by simp), hB⟩
    · exact ⟨k.kept ((Kp.refl [] w).alloc _) (by simp), hC⟩)
theorem cat2 (v u : Value) (bs cs : List Int) : cat [(v, bs), (u, cs)] = bs ++ cs := by simp [cat]
theorem row_new {w w0 w' : World} {v : Value} {bs : List Int} (h : Row w' w0.heap.size v bs) (k : Kp [] w w0) : Row w' w.heap.size v bs :=
  owns_rebase h (fun i hi => Nat.le_trans k.size (Row.own h i hi))

set_option maxRecDepth 100000 in
set_option maxHeartbeats 1000000 in
theorem secret_any (vb : Value) (bs : List Int) (key bit side : Int) (r : List Int) (hr : r = secP bs key bit side) (w : World) (hS : Sl w vb bs) (hB : Bs bs) (hl : bs.length ≤ 1000) (hG : Gl w) :
    Calls Tryd.prog 80 #[vb, .int .i64 key, .int .i64 bit, .int .i64 side] w fun e w' => ∃ ao m c, e = .returned (.slice ao m c) ∧ Row w' w.heap.size (.slice ao m c) r ∧ Kp [] w w' := by
  obtain ⟨ob, hob⟩ : ∃ o : Obj, o = (.cells #[.int .u8 (key / 16777216 % 256), .int .u8 (key / 65536 % 256), .int .u8 (key / 256 % 256), .int .u8 (key % 256), .int .u8 (bit % 256), .int .u8 (side % 256)] 5) := ⟨_, rfl⟩
  have hP : Sl (w.alloc ob) (.slice (some ⟨w.heap.size, 0, none⟩) 6 6) (be4 key ++ [bit % 256, side % 256]) := by
    rw [hob]; exact Sl.block (cs := be4 key ++ [bit % 256, side % 256]) (t := 5) (fr := (0, 0)) (heap_alloc_new w _) (by simp [be4, maxLen])
  have hPB : Bs (be4 key ++ [bit % 256, side % 256]) := by
    intro b hb
    rcases List.mem_append.1 hb with h | h
    · exact be4_bs key b h
    · simp only [List.mem_cons, List.not_mem_nil, or_false] at h
      rcases h with rfl | rfl <;> omega
  have HL0 := lists2 (hS.kept ((Kp.refl [] w).alloc ob) (by simp)) hB hP hPB
  rw [show (w.alloc ob).heap.size = w.heap.size + 1 by simp] at HL0
  have HL := hide HL0
  clear HL0
  have HG := hide hG
  have HO := hide hob
  have HK := hide (((Kp.refl [] w).alloc ob).alloc (.cells #[vb, .slice (some ⟨w.heap.size, 0, none⟩) 6 6] 24))
  have hm : Hid (∀ x ∈ [(vb, bs), (Value.slice (some ⟨w.heap.size, 0, none⟩) 6 6, be4 key ++ [bit % 256, side % 256])], x.2.length ≤ 1000000) := by
    intro x hx
    rcases (by simpa using hx : x = (vb, bs) ∨ x = (Value.slice (some ⟨w.heap.size, 0, none⟩) 6 6, be4 key ++ [bit % 256, side % 256])) with rfl | rfl
    · simp; omega
    · simp [be4]
  have HR : Hid (r = sha (10 :: cat [(vb, bs), (Value.slice (some ⟨w.heap.size, 0, none⟩) 6 6, be4 key ++ [bit % 256, side % 256])])) := by rw [hr, cat2]; rfl
  obtain ⟨ab, cb, hvb, _⟩ := hS
  obtain ⟨nb, hnb⟩ : ∃ n, n = bs.length := ⟨_, rfl⟩
  rw [← hnb] at hvb
  subst hvb
  clear hG hr hnb hB hob hP hPB
  go_enter Tryd.func80, Tryd.ntmps80
  go_wp2_with fail
  rw [← unhide HO]
  refine (tagged_any 10 _ _ r (unhide HR) _ (unhide HL) (by omega) (by omega) (by simp) (unhide hm) ((unhide HG).kept (unhide HK) (by simp))).mono ?_
  rintro ee w2 ⟨ao2, m2, c2, rfl, R2, K2⟩
  have HR2 := hide (row_new R2 (unhide HK))
  have HK2 := hide ((unhide HK).trans K2)
  clear HL HK hm HR HO R2 K2
  go_wp2_with fail
  go_ret
  exact ⟨ao2, m2, c2, rfl, unhide HR2, unhide HK2⟩

set_option maxHeartbeats 1000000 in
theorem shownOf_any (vb : Value) (bs : List Int) (r : List Int) (hr : r = sha (11 :: bs)) (w : World) (hS : Sl w vb bs) (hB : Bs bs) (hl : bs.length ≤ 1000) (hG : Gl w) :
    Calls Tryd.prog 67 #[vb] w fun e w' => ∃ ao m c, e = .returned (.slice ao m c) ∧ Row w' w.heap.size (.slice ao m c) r ∧ Kp [] w w' := by
  have HL := hide (lists1 hS hB)
  have HG := hide hG
  have HR : Hid (r = sha (11 :: cat [(vb, bs)])) := hide (by rw [hr, cat1])
  have HK := hide ((Kp.refl [] w).alloc (.cells #[vb] 24))
  obtain ⟨ab, cb, hvb, _⟩ := hS
  obtain ⟨nb, hnb⟩ : ∃ n, n = bs.length := ⟨_, rfl⟩
  rw [← hnb] at hvb
  subst hvb
  clear hG hr hnb hB
  go_enter Tryd.func67, Tryd.ntmps67
  go_wp2_with fail
  refine (tagged_any 11 _ _ r (unhide HR) _ (unhide HL) (by omega) (by omega) (by simp) (by simp; omega) ((unhide HG).kept (unhide HK) (by simp))).mono ?_
  rintro ee w2 ⟨ao2, m2, c2, rfl, R2, K2⟩
  have HR2 := hide (row_new R2 (unhide HK))
  have HK2 := hide ((unhide HK).trans K2)
  clear HL HK HR R2 K2
  go_wp2_with fail
  go_ret
  exact ⟨ao2, m2, c2, rfl, unhide HR2, unhide HK2⟩

set_option maxHeartbeats 1000000 in
theorem publicOf_any (vl : Value) (l : List (Value × List Int)) (r : List Int) (hr : r = sha (12 :: cat l)) (w : World) (hL : Lists w vl l) (hn : l.length ≤ 100000) (hm : ∀ x ∈ l, x.2.length ≤ 1000000) (hG : Gl w) :
    Calls Tryd.prog 68 #[vl] w fun e w' => ∃ ao m c, e = .returned (.slice ao m c) ∧ Row w' w.heap.size (.slice ao m c) r ∧ Kp [] w w' := by
  have HC := hide (tagged_any 12 vl l r hr w hL (by omega) (by omega) hn hm hG)
  obtain ⟨al, cl, rfl, _⟩ := hL
  clear hr hm hG
  go_enter Tryd.func68, Tryd.ntmps68
  go_wp2_with fail
  refine (unhide HC).mono ?_
  rintro ee w2 ⟨ao2, m2, c2, rfl, R2, K2⟩
  clear HC
  go_wp2_with fail
  go_ret
  exact ⟨ao2, m2, c2, rfl, R2, K2⟩

set_option maxHeartbeats 1000000 in
theorem shown_any (vb : Value) (bs : List Int) (key bit side : Int) (r : List Int) (hr : r = shnP bs key bit side) (w : World) (hS : Sl w vb bs) (hB : Bs bs) (hl : bs.length ≤ 1000) (hG : Gl w) :
    Calls Tryd.prog 83 #[vb, .int .i64 key, .int .i64 bit, .int .i64 side] w fun e w' => ∃ ao m c, e = .returned (.slice ao m c) ∧ Row w' w.heap.size (.slice ao m c) r ∧ Kp [] w w' := by
  obtain ⟨q, hq⟩ : ∃ q, q = secP bs key bit side := ⟨_, rfl⟩
  have HC := hide (secret_any vb bs key bit side q hq w hS hB hl hG)
  have HQL : Hid (q.length = 32) := by rw [hq]; exact secP_len _ _ _ _
  have HQB : Hid (Bs q) := by rw [hq]; exact sha_bs _
  have HR : Hid (r = sha (11 :: q)) := by rw [hr, hq]; rfl
  have HG := hide hG
  obtain ⟨ab, cb, hvb, _⟩ := hS
  obtain ⟨nb, hnb⟩ : ∃ n, n = bs.length := ⟨_, rfl⟩
  rw [← hnb] at hvb
  subst hvb
  clear hG hr hnb hB hq
  go_enter Tryd.func83, Tryd.ntmps83
  go_wp2_with fail
  refine (unhide HC).mono ?_
  rintro ee w2 ⟨ao2, m2, c2, rfl, R2, K2⟩
  have HR2 := hide R2
  have HK2 := hide K2
  clear HC R2 K2
  go_wp2_with fail
  refine (shownOf_any _ q r (unhide HR) w2 (unhide HR2).sl (unhide HQB) (by have := unhide HQL; omega) ((unhide HG).kept (unhide HK2) (by simp))).mono ?_
  rintro ee w3 ⟨ao3, m3, c3, rfl, R3, K3⟩
  have HR3 := hide (row_new R3 (unhide HK2))
  have HK3 := hide ((unhide HK2).trans K3)
  clear HR2 HK2 R3 K3
  go_wp2_with fail
  go_ret
  exact ⟨ao3, m3, c3, rfl, unhide HR3, unhide HK3⟩
end Go.Proofs.YtdioaohejoflcaaDoor

/-
  The contract of the reference's Digest.
-/
namespace Go.Proofs.YtdioaohejoflcaaDoor
open Go.RowKit

set_option maxRecDepth 100000 in
set_option maxHeartbeats 1000000 in
theorem refdigest_any (vb : Value) (bs : List Int) (d : Int) (hd : d = digP bs) (w : World) (hS : Sl w vb bs) (hB : Bs bs) (hl : bs.length ≤ 1000000) :
    Calls Tryd.prog 62 #[vb] w fun e w' => e = .returned (.int .u32 d) ∧ Kp [] w w' := by
  have HL := hide (lists1 hS hB)
  obtain ⟨ab, cb, hvb, _⟩ := hS
  obtain ⟨nb, hnb⟩ : ∃ n, n = bs.length := ⟨_, rfl⟩
  rw [← hnb] at hvb
  subst hvb
  obtain ⟨r, hr⟩ : ∃ r, r = sha (13 :: cat [(Value.slice ab nb cb, bs)]) := ⟨_, rfl⟩
  have HR := hide hr
  have HRL : Hid (r.length = 32) := by rw [hr]; exact sha_len _
  have HRB : Bs r := by rw [hr]; exact sha_bs _
  have HRD : d = val (r.take 4) := by rw [hr, hd, cat1]; rfl
  obtain ⟨x0, x1, x2, x3, tl, hrx⟩ : ∃ x0 x1 x2 x3 tl, r = x0 :: x1 :: x2 :: x3 :: tl := by
    match r, unhide HRL with
    | x0 :: x1 :: x2 :: x3 :: tl, _ => exact ⟨_, _, _, _, _, rfl⟩
  have b0 : 0 ≤ x0 ∧ x0 ≤ 255 := HRB x0 (by simp [hrx])
  have b1 : 0 ≤ x1 ∧ x1 ≤ 255 := HRB x1 (by simp [hrx])
  have b2 : 0 ≤ x2 ∧ x2 ≤ 255 := HRB x2 (by simp [hrx])
  have b3 : 0 ≤ x3 ∧ x3 ≤ 255 := HRB x3 (by simp [hrx])
  have HW : Hid (wd x0 x1 x2 x3 = d) := by rw [wd_val _ _ _ _ b0 b1 b2 b3, HRD, hrx]; rfl
  have HX := hide hrx
  obtain ⟨y0, y0'⟩ := b0
  obtain ⟨y1, y1'⟩ := b1
  obtain ⟨y2, y2'⟩ := b2
  obtain ⟨y3, y3'⟩ := b3
  clear hd hr hnb hB HRB HRD hrx
  go_enter Tryd.func62, Tryd.ntmps62
  go_wp2_with (go_at_call 29; refine (reftagged_any 13 _ _ r (unhide HR) _ (unhide HL) (by omega) (by omega) (by simp) (by simpa using hl)).mono ?_; rintro ee w2 ⟨ao2, m2, c2, rfl, R2, K2⟩; obtain rfl : m2 = 32 := R2.len.trans (unhide HRL))
  obtain ⟨b2, o2, rfl, hnn, hcell⟩ := R2.sl.spot (by omega)
  clear hnn
  have HK := hide (((Kp.refl [] w).alloc (.cells #[.slice ab nb cb] 24)).trans K2)
  have hq : ∀ k x, (x0 :: x1 :: x2 :: x3 :: tl)[k]? = some x → w2.cell? ⟨b2, o2 + k, none⟩ = some (.int .u8 x) := fun k x hx => by
    have e := unhide HX
    have hk : k < r.length := by rw [e]; exact (List.getElem?_eq_some_iff.1 hx).1
    rw [hcell k hk]
    have : r[k] = x := by
      have h1 : r[k]? = some x := by rw [e]; exact hx
      rw [List.getElem?_eq_getElem hk] at h1
      exact Option.some.inj h1
    rw [this]
  have q0 := hq 0 x0 rfl
  have q1 := hq 1 x1 rfl
  have q2 := hq 2 x2 rfl
  have q3 := hq 3 x3 rfl
  rw [Nat.add_zero] at q0
  clear R2 K2 hcell HL HR HX HRL hq
  go_quiet (fail)
  go_wp2_with fail
  go_ret
  exact ⟨congrArg (fun x => Ending.returned (Value.int .u32 x)) (unhide HW), (unhide HK).trans (kp_drewN _ _)⟩
end Go.Proofs.YtdioaohejoflcaaDoor

/-
  The contracts of package wire's writer over this seat's program: New, number, Num: what a call writes behind what there was, and what it leaves alone.
-/
namespace Go.Proofs.YtdioaohejoflcaaDoor
open Go.RowKit
/-- A writer: its one cell at block p holds the slice v, which owns the bytes bs. -/
def Wr (w : World) (p : Nat) (v : Value) (bs : List Int) : Prop :=
  w.heap[p]? = some (.cells #[v] 99 (0, 0)) ∧ w.ownsRow (p + 1) 5 1 v bs.length (bs.map (Value.int .u8))

/-- One step of a writer: besides its cell and its row nothing old was changed; its row is the old one, or new. -/
def Step (p : Nat) (w : World) (v : Value) (w' : World) (v' : Value) : Prop :=
  Kp (p :: v.ownBlock.toList) w w' ∧ ∀ k, v'.ownBlock = some k → v.ownBlock = some k ∨ w.heap.size ≤ k

theorem Step.refl (p : Nat) (w : World) (v : Value) : Step p w v w v := ⟨Kp.refl _ _, fun _ h => .inl h⟩
theorem Step.trans {p : Nat} {a b c : World} {u v x : Value} (h : Step p a u b v) (k : Step p b v c x) : Step p a u c x := by
  refine ⟨h.1.then k.1 (fun i hi => ?_), fun i hi => ?_⟩
  · simp only [List.mem_cons, Option.mem_toList] at hi ⊢
    rcases hi with rfl | hi
    · exact .inl (.inl rfl)
    · rcases h.2 i hi with h1 | h1
      · exact .inl (.inr h1)
      · exact .inr h1
  · rcases k.2 i hi with h1 | h1
    · exact h.2 i h1
    · exact .inr (Nat.le_trans h.1.size h1)

theorem Wr.cell {w : World} {p : Nat} {v : Value} {bs : List Int} (h : Wr w p v bs) : w.cell? ⟨p, 0, none⟩ = some v := cell_of_one h.1
theorem Wr.free {w : World} {p : Nat} {v : Value} {bs : List Int} (h : Wr w p v bs) : w.frozen? ⟨p, 0, none⟩ = false := free_of_one h.1
theorem Wr.lt {w : World} {p : Nat} {v : Value} {bs : List Int} (h : Wr w p v bs) : p < w.heap.size := lt_of_block h.1
theorem Wr.ne {w : World} {p : Nat} {v : Value} {bs : List Int} (h : Wr w p v bs) : v.ownBlock ≠ some p := fun e => by have := h.2.lt p e; omega
theorem Wr.kept {w w' : World} {p : Nat} {v : Value} {bs : List Int} {S : List Nat} (h : Wr w p v bs) (k : Kp S w w') (hp : p ∉ S) (hv : ∀ i, v.ownBlock = some i → i ∉ S) : Wr w' p v bs :=
  ⟨k.heap h.1 hp, k.owns h.2 hv⟩

/-- behind an append and the store of its slice. -/
theorem wr_step {wr w0 w1 : World} {p g cap : Nat} {v : Value} {bs new : List Int} (h : Wr wr p v bs) (h0 : Kp [] wr w0)
    (hown : w1.ownsRow (p + 1) 5 1 (.slice (some ⟨g, 0, none⟩) (bs.length + new.length) cap) (bs.length + new.length) (bs.map (Value.int .u8) ++ new.map (Value.int .u8)))
    (hgrow : w0.grownBy w1 v.ownBlock) (hat : v.ownBlock = some g ∨ wr.heap.size ≤ g) :
    Wr (w1.setCell ⟨p, 0, none⟩ (.slice (some ⟨g, 0, none⟩) (bs.length + new.length) cap)) p (.slice (some ⟨g, 0, none⟩) (bs.length + new.length) cap) (bs ++ new) ∧
      Step p wr v (w1.setCell ⟨p, 0, none⟩ (.slice (some ⟨g, 0, none⟩) (bs.length + new.length) cap)) (.slice (some ⟨g, 0, none⟩) (bs.length + new.length) cap) := by
  have h1 : w1.heap[p]? = some (.cells #[v] 99 (0, 0)) := by
    rw [hgrow.block p (Nat.lt_of_lt_of_le h.lt h0.size) (Ne.symm h.ne)]
    exact h0.heap h.1 (by simp)
  refine ⟨⟨one_setCell h1, ?_⟩, ?_, ?_⟩
  · have := ownsRow_setCell_below hown (a := ⟨p, 0, none⟩) (by simp) (.slice (some ⟨g, 0, none⟩) (bs.length + new.length) cap)
    simpa using this
  · have k1 : Kp (p :: v.ownBlock.toList) wr w0 := h0.mono (by simp)
    have k2 := k1.grown hgrow (fun k hk => .inl (by simp [hk]))
    exact k2.setCell (p := ⟨p, 0, none⟩) (.inl (by simp)) _
  · intro k hk
    simp only [Value.ownBlock, Option.some.injEq] at hk
    subst hk
    exact hat

/-- Byte number j of n, counted from the lowest. -/
def byteAt (n : Int) (j : Nat) : Int := n / 256 ^ j % 256
/-- The lowest size bytes of n from the highest on, down to byte k. -/
def be (n : Int) (size k : Nat) : List Int := (List.range (size - k)).map fun t => byteAt n (size - 1 - t)
theorem be_none (n : Int) (size : Nat) : be n size size = [] := by simp [be]
theorem be_step (n : Int) (size j : Nat) (h : j + 1 ≤ size) : be n size j = be n size (j + 1) ++ [byteAt n j] := by
  unfold be
  rw [show size - j = (size - (j + 1)) + 1 from by omega, List.range_succ, List.map_append]
  simp only [List.map_cons, List.map_nil]
  rw [show size - 1 - (size - (j + 1)) = j from by omega]
theorem be_length (n : Int) (size k : Nat) : (be n size k).length = size - k := by simp [be]
theorem byte_wrap (n : Int) (j : Nat) : IntKind.u8.wrap (n / 2 ^ (8 * (j : Int)).toNat) = byteAt n j := by
  have e : (8 * (j : Int)).toNat = 8 * j := by omega
  rw [e, Int.pow_mul]
  simp [IntKind.wrap, IntKind.signed, IntKind.bits, byteAt]

theorem new_any (w : World) : Calls Tryd.prog 46 #[] w fun e w' => e = .returned (.pointer (some ⟨w.heap.size, 0, none⟩)) ∧ w' = w.alloc (.cells #[.slice none 0 0] 99) := by
  go_enter Tryd.func46, Tryd.ntmps46
  go_wp2
  go_ret
  exact ⟨rfl, rfl⟩
theorem wr_new (w : World) : Wr (w.alloc (.cells #[.slice none 0 0] 99)) w.heap.size (.slice none 0 0) [] :=
  ⟨heap_alloc_new w _, World.ownsRow_nil _ _ _ _⟩
/-- New, told without its world. -/
theorem new_abs (w : World) : Calls Tryd.prog 46 #[] w fun e w' => ∃ p, e = .returned (.pointer (some ⟨p, 0, none⟩)) ∧ Wr w' p (.slice none 0 0) [] ∧ w.heap.size ≤ p ∧ Kp [] w w' :=
  (new_any w).mono fun _ _ ⟨h1, h2⟩ => ⟨w.heap.size, h1, h2 ▸ wr_new w, Nat.le_refl _, h2 ▸ (Kp.refl [] w).alloc _⟩

set_option maxHeartbeats 400000 in
theorem number_any (p : Nat) (n : Int) (size : Nat) (v : Value) (bs : List Int) (w : World) (hw : Wr w p v bs) (hs : size ≤ 4) (hb : bs.length ≤ 100000000000000) :
    Calls Tryd.prog 74 #[.pointer (some ⟨p, 0, none⟩), .int .u32 n, .int .i64 size] w fun e w' => e = .returned (.tuple #[]) ∧ ∃ v', Wr w' p v' (bs ++ be n size 0) ∧ Step p w v w' v' := by
  obtain ⟨i0, hi0, hz0, hz1, hz2⟩ := info_parts Tryd.info5
  go_enter Tryd.func74, Tryd.ntmps74
  go_wp2
  go_loopw [6] (fun i wr => ∃ k : Nat, k ≤ size ∧ i = .int .i64 ((k : Int) - 1) ∧ ∃ v', Wr wr p v' (bs ++ be n size k) ∧ Step p w v wr v') (fun i _ => (intOf i + 1).toNat)
  case atStart => exact ⟨size, Nat.le_refl _, rfl, v, by rw [be_none, List.append_nil]; exact hw, Step.refl _ _ _⟩
  case round =>
    obtain ⟨k, hk, rfl, v', hw', hst⟩ := hrel
    by_cases hk0 : 0 < k
    · obtain ⟨j, rfl⟩ : ∃ j : Nat, k = j + 1 := ⟨k - 1, by omega⟩
      obtain ⟨cs, hcs⟩ : ∃ cs, cs = bs ++ be n size (j + 1) := ⟨_, rfl⟩
      rw [← hcs] at hw'
      have hlen : cs.length ≤ 100000000000004 := by rw [hcs, List.length_append, be_length]; omega
      have HC : Hid (cs = bs ++ be n size (j + 1)) := hcs
      clear hcs
      have hc := hw'.cell
      have hf := hw'.free
      have hown := hw'.2
      have hlt := hw'.lt
      have hfa : ∀ o, (wr.alloc o).frozen? ⟨p, 0, none⟩ = false := fun o => by rw [World.frozen?_alloc_old _ _ _ (by simp; omega)]; exact hf
      have hca : ∀ o, (wr.alloc o).cell? ⟨p, 0, none⟩ = some v' := fun o => (World.cell?_alloc_lt _ _ _ (by exact hlt)).trans hc
      have hne := hw'.ne
      have hwrp : IntKind.i64.wrap (8 * (j : Int)) = 8 * (j : Int) := by simp [IntKind.wrap, IntKind.signed, IntKind.bits]; omega
      have hj0 : (0 : Int) ≤ 8 * (j : Int) := by omega
      have hj1 : 8 * (j : Int) ≤ 32 := by omega
      have hbw := byte_wrap n j
      go_wp2
      go_region_law ((refine step_append_lies _ (by rfl) _ _ _ (by rfl) (p + 1) 5 i0 _ 1 1 Tryd.underlying24 hi0 hz0 hz1 hz2 rfl (by omega) v' _ _ (by rfl) ((hown.alloc _).drew) ⟨wr.heap.size, 0, none⟩ 1 1 [.int .u8 (byteAt n j)] (by rfl) (by rfl) (World.news_of_block (cs := #[.int .u8 (byteAt n j)]) (t := 5) (fr := (0, 0)) (heap_alloc_new wr _)) (by simp [Value.oneCell']) (by omega) (by unfold maxLen; omega) (by omega) (by simp; omega) (wr.heap.size + 1) (by simp) ?_; intro gg cap w1 hown1 hgrow hat hltg; have hc1 : w1.cell? ⟨p, 0, none⟩ = some v' := (by rw [hgrow.cell_far _ (by simp; omega) (Ne.symm hne)]; simpa using hca _); have hf1 : w1.frozen? ⟨p, 0, none⟩ = false := (by rw [hgrow.frozen_far _ (by simp; omega) (Ne.symm hne)]; simpa using hfa _)))
      all_goals
        have R := wr_step (new := [byteAt n j]) hw' (((Kp.refl [] wr).alloc _).drew) hown1 hgrow (hat.imp id (fun e => by omega))
        clear hown1 hgrow hat hltg hown hc hf hfa hca hne hc1 hf1
        go_wp2
        go_roundw
        case rel => exact ⟨j, by omega, by go_num, _, by rw [be_step n size j hk, ← List.append_assoc, ← HC.out]; exact R.1, hst.trans R.2⟩
        case measure => simp [intOf]
    · obtain rfl : k = 0 := by omega
      go_wp2
      go_end0
      exact ⟨rfl, v', hw', hst⟩

theorem num_any (p : Nat) (n : Int) (v : Value) (bs : List Int) (w : World) (hw : Wr w p v bs) (hb : bs.length ≤ 100000000000000) :
    Calls Tryd.prog 47 #[.pointer (some ⟨p, 0, none⟩), .int .u32 n] w fun e w' => e = .returned (.tuple #[]) ∧ ∃ v', Wr w' p v' (bs ++ be n 4 0) ∧ Step p w v w' v' := by
  go_enter Tryd.func47, Tryd.ntmps47
  go_wp2_with (go_at_call 74; refine (number_any p n 4 v bs _ hw (by omega) hb).mono ?_; rintro e w' ⟨rfl, v', h1, h2⟩)
  go_end0
  exact ⟨rfl, v', h1, h2⟩
end Go.Proofs.YtdioaohejoflcaaDoor

/-
  The contracts of package wire's copies and of its reader over this seat's program: copyOf, Done, Read, take, spoil, number, Num, End, Bad.
-/
namespace Go.Proofs.YtdioaohejoflcaaDoor
open Go.RowKit

/-- A reader: its two cells at block q hold the slice v, which reads as the bytes bs, and whether it is bad. -/
def Rd (w : World) (q : Nat) (v : Value) (bad : Bool) (bs : List Int) : Prop :=
  w.heap[q]? = some (.cells #[v, .bool bad] 97 (0, 0)) ∧ Sl w v bs ∧ v.ownBlock ≠ some q

theorem cell_of_two {w : World} {b : Nat} {v u : Value} {t : TypeId} (h : w.heap[b]? = some (.cells #[v, u] t (0, 0))) : w.cell? ⟨b, 0, none⟩ = some v ∧ w.cell? ⟨b, 1, none⟩ = some u :=
  ⟨by rw [cell_of_row w b 0 _ t _ h]; rfl, by rw [cell_of_row w b 1 _ t _ h]; rfl⟩
theorem free_of_two {w : World} {b : Nat} {c : Array Value} {t : TypeId} (h : w.heap[b]? = some (.cells c t (0, 0))) (j : Nat) : w.frozen? ⟨b, j, none⟩ = false := by
  simp [World.frozen?, h]
theorem two_setCell0 {w : World} {b : Nat} {v u x : Value} {t : TypeId} (h : w.heap[b]? = some (.cells #[v, u] t (0, 0))) : (w.setCell ⟨b, 0, none⟩ x).heap[b]? = some (.cells #[x, u] t (0, 0)) := by
  have hlt := lt_of_block h
  have h' : w.heap[b] = .cells #[v, u] t (0, 0) := by simpa [Array.getElem?_eq_getElem hlt] using h
  show (w.heap.modify b _)[b]? = _
  rw [Array.getElem?_eq_getElem (by simpa using hlt), Array.getElem_modify_self, h']
  rfl
theorem two_setCell1 {w : World} {b : Nat} {v u x : Value} {t : TypeId} (h : w.heap[b]? = some (.cells #[v, u] t (0, 0))) : (w.setCell ⟨b, 1, none⟩ x).heap[b]? = some (.cells #[v, x] t (0, 0)) := by
  have hlt := lt_of_block h
  have h' : w.heap[b] = .cells #[v, u] t (0, 0) := by simpa [Array.getElem?_eq_getElem hlt] using h
  show (w.heap.modify b _)[b]? = _
  rw [Array.getElem?_eq_getElem (by simpa using hlt), Array.getElem_modify_self, h']
  rfl
theorem Rd.kept {w w' : World} {q : Nat} {v : Value} {bad : Bool} {bs : List Int} {S : List Nat} (h : Rd w q v bad bs) (k : Kp S w w') (hp : q ∉ S) (hv : ∀ i, v.ownBlock = some i → i ∉ S) : Rd w' q v bad bs :=
  ⟨k.heap h.1 hp, h.2.1.kept k hv, h.2.2⟩

theorem copy_any (v : Value) (bs : List Int) (w : World) (h : Sl w v bs) (hb : bs.length ≤ 140737488355328) :
    Calls Tryd.prog 71 #[v] w fun e w' => ∃ ao c, e = .returned (.slice ao bs.length c) ∧ w'.ownsRow w.heap.size 5 1 (.slice ao bs.length c) bs.length (bs.map (Value.int .u8)) ∧ Kp [] w w' := by
  obtain ⟨i0, hi0, hz0, hz1, hz2⟩ := info_parts Tryd.info5
  obtain ⟨ao, c, rfl, h1, h2, h3, h4⟩ := h
  cases ao with
  | none =>
    have : bs = [] := List.eq_nil_of_length_eq_zero (by have := h3 rfl; omega)
    subst this
    obtain rfl := h3 rfl
    go_enter Tryd.func71, Tryd.ntmps71
    go_wp2_with (at_builtin; refine wpList_append_own_none rfl _ _ 24 rfl w.heap.size 5 i0 1 Tryd.underlying24 hi0 (.slice none 0 0) 0 [] rfl (World.ownsRow_nil _ _ _ _) rfl ?_)
    go_ret
    exact ⟨_, _, rfl, World.ownsRow_nil _ _ _ _, Kp.refl _ _⟩
  | some a =>
    go_enter Tryd.func71, Tryd.ntmps71
    go_wp2_with (at_builtin; refine wpList_append_own _ rfl _ _ 24 rfl w.heap.size 5 i0 (.int .u8 0) 1 1 Tryd.underlying24 hi0 hz0 hz1 hz2 rfl (by decide) (.slice none 0 0) 0 [] rfl (World.ownsRow_nil _ _ _ _) a bs.length c (bs.map (Value.int .u8)) rfl (by simp) (h4 a rfl) (by simp [Value.oneCell']) (by omega) (by omega) (Nat.le_refl _) ?_; intro v' w1 hown hgrow _)
    go_ret
    have hown' : w1.ownsRow w.heap.size 5 1 v' bs.length (bs.map (Value.int .u8)) := by simpa using hown
    obtain ⟨ao, c', rfl⟩ := owns_shape hown'
    exact ⟨ao, c', rfl, hown', (Kp.refl [] w).grown hgrow (fun k hk => by cases hk)⟩

theorem done_any (p : Nat) (v : Value) (bs : List Int) (w : World) (h : Wr w p v bs) (hb : bs.length ≤ 140737488355328) :
    Calls Tryd.prog 49 #[.pointer (some ⟨p, 0, none⟩)] w fun e w' => ∃ ao c, e = .returned (.slice ao bs.length c) ∧ w'.ownsRow w.heap.size 5 1 (.slice ao bs.length c) bs.length (bs.map (Value.int .u8)) ∧ Kp [] w w' := by
  have hc := h.cell
  have hs := Sl.of_owns h.2
  go_enter Tryd.func49, Tryd.ntmps49
  go_wp2_with (go_at_call 71; refine (copy_any v bs _ hs hb).mono ?_; rintro e w' ⟨ao, c, rfl, h1, h2⟩)
  go_ret
  exact ⟨ao, c, rfl, h1, h2⟩

theorem read_any (v : Value) (bs : List Int) (w : World) (h : Sl w v bs) (hb : bs.length ≤ 140737488355328) :
    Calls Tryd.prog 43 #[v] w fun e w' => ∃ q v', e = .returned (.pointer (some ⟨q, 0, none⟩)) ∧ w.heap.size ≤ q ∧ Rd w' q v' false bs ∧ (∀ k, v'.ownBlock = some k → w.heap.size ≤ k ∧ k < w'.heap.size) ∧ Kp [] w w' := by
  go_enter Tryd.func43, Tryd.ntmps43
  go_wp2_with (go_at_call 71; refine (copy_any v bs _ h hb).mono ?_; rintro e w' ⟨ao, c, rfl, h1, h2⟩)
  go_ret
  have hlt := h1.lt
  exact ⟨w'.heap.size, _, rfl, h2.size, ⟨heap_alloc_new w' _, (Sl.of_owns h1).kept ((Kp.refl [] w').alloc _) (by simp), fun e => by have := (hlt _ e).2; omega⟩, fun k hk => ⟨(hlt k hk).1, by have := (hlt k hk).2; simp; omega⟩, h2.alloc _⟩

theorem spoil_any (q : Nat) (v : Value) (bad : Bool) (bs : List Int) (w : World) (h : Rd w q v bad bs) :
    Calls Tryd.prog 85 #[.pointer (some ⟨q, 0, none⟩)] w fun e w' => e = .returned (.tuple #[]) ∧ Rd w' q (.slice none 0 0) true [] ∧ Kp [q] w w' := by
  have hc := cell_of_two h.1
  have hc0 := hc.1
  have hc1 := hc.2
  have hf := free_of_two h.1
  have hf0 := hf 0
  have hf1 := hf 1
  clear hc hf
  go_enter Tryd.func85, Tryd.ntmps85
  go_wp2
  go_end0
  refine ⟨rfl, ⟨two_setCell1 (two_setCell0 h.1), Sl.nil _, by simp [Value.ownBlock]⟩, ((Kp.refl [q] w).setCell (p := ⟨q, 0, none⟩) (.inl (by simp)) _).setCell (p := ⟨q, 1, none⟩) (.inl (by simp)) _⟩

/-- what take leaves of a reader where there is enough: the piece r, and the rest. -/
def Took (w : World) (q n : Nat) (v : Value) (bad : Bool) (bs : List Int) (r : Value) (w' : World) : Prop :=
  Sl w' r (bs.take n) ∧ (∃ v2, Rd w' q v2 bad (bs.drop n) ∧ ∀ k, v2.ownBlock = some k → v.ownBlock = some k) ∧ Kp [q] w w' ∧ ∀ k, r.ownBlock = some k → v.ownBlock = some k

theorem take_end {w : World} {q : Nat} {ao : Option Addr} {c : Nat} {bad : Bool} {bs : List Int} {n : Nat} (h : Rd w q (.slice ao bs.length c) bad bs) (hn : n ≤ bs.length) (x : Option Addr) (l cc : Nat)
    (hx : x = if c = n then ao else ao.map (·.add n)) (hl : l = bs.length - n) (hcc : cc = c - n) : Took w q n (.slice ao bs.length c) bad bs (.slice ao n c) (w.setCell ⟨q, 0, none⟩ (.slice x l cc)) := by
  subst hl hcc hx
  have hk : Kp [q] w (w.setCell ⟨q, 0, none⟩ (.slice (if c = n then ao else ao.map (·.add n)) (bs.length - n) (c - n))) := (Kp.refl [q] w).setCell (p := ⟨q, 0, none⟩) (.inl (by simp)) _
  have ho : ∀ k, (Value.slice (if c = n then ao else ao.map (·.add n)) (bs.length - n) (c - n)).ownBlock = some k → (Value.slice ao bs.length c).ownBlock = some k := by
    intro k
    split
    · cases ao with
      | none => exact id
      | some a => exact id
    · cases ao with
      | none => exact id
      | some a => simp [Value.ownBlock, add_block]
  have hq : ∀ k, (Value.slice ao bs.length c).ownBlock = some k → k ∉ [q] := fun k hk1 hm => by
    simp only [List.mem_singleton] at hm; subst hm; exact h.2.2 hk1
  have hao : ∀ k, (Value.slice ao n c).ownBlock = some k → (Value.slice ao bs.length c).ownBlock = some k := fun k hk1 => by
    cases ao with
    | none => cases hk1
    | some a => exact hk1
  exact ⟨(h.2.1.take n hn).kept hk (fun k hk => hq k (hao k hk)), ⟨_, ⟨two_setCell0 h.1, (h.2.1.drop n hn).kept hk (fun k hk => hq k (ho k hk)), fun e => hq q (ho q e) (by simp)⟩, ho⟩, hk, hao⟩

set_option maxHeartbeats 400000 in
theorem take_ok (q : Nat) (v : Value) (bad : Bool) (bs : List Int) (n : Nat) (w : World) (hR : Rd w q v bad bs) (hn : n ≤ bs.length) :
    Calls Tryd.prog 81 #[.pointer (some ⟨q, 0, none⟩), .int .i64 n] w fun e w' => ∃ ao c, e = .returned (.slice ao n c) ∧ Took w q n v bad bs (.slice ao n c) w' := by
  obtain ⟨ao, c, rfl, h1, h2, h3, h4⟩ := hR.2.1
  have hc0 := (cell_of_two hR.1).1
  have hf0 := free_of_two hR.1 0
  have hlt : ¬ (n : Int) < 0 := by omega
  have hle : (n : Int) ≤ (bs.length : Int) := by omega
  have hle2 : (n : Int) ≤ (c : Int) := by omega
  unfold maxLen at h2
  clear h4 h3
  by_cases hcn : c = n
  · subst hcn
    go_enter Tryd.func81, Tryd.ntmps81
    go_wp2
    go_ret
    refine ⟨_, _, rfl, take_end hR hn _ _ _ ?_ ?_ ?_⟩
    · simp
    · omega
    · omega
  · go_enter Tryd.func81, Tryd.ntmps81
    go_wp2
    go_ret
    refine ⟨_, _, rfl, take_end hR hn _ _ _ ?_ ?_ ?_⟩
    · simp [hcn]
    · rfl
    · rfl

theorem take_bad (q : Nat) (v : Value) (bad : Bool) (bs : List Int) (n : Int) (w : World) (h : Rd w q v bad bs) (hn : n < 0 ∨ (bs.length : Int) < n) :
    Calls Tryd.prog 81 #[.pointer (some ⟨q, 0, none⟩), .int .i64 n] w fun e w' => e = .returned (.slice none 0 0) ∧ Rd w' q (.slice none 0 0) true [] ∧ Kp [q] w w' := by
  have h0 := h
  obtain ⟨ao, c, rfl, h1, h2, h3, h4⟩ := h.2.1
  have hc0 := (cell_of_two h.1).1
  clear h4 h3 h
  rcases Int.lt_or_le n 0 with hlt | hlt
  · go_enter Tryd.func81, Tryd.ntmps81
    go_wp2_with (go_at_call 85; refine (spoil_any q _ bad bs _ h0).mono ?_; rintro e w' ⟨rfl, k1, k2⟩)
    go_ret
    exact ⟨rfl, k1, k2⟩
  · have hgt : (bs.length : Int) < n := by omega
    go_enter Tryd.func81, Tryd.ntmps81
    go_wp2_with (go_at_call 85; refine (spoil_any q _ bad bs _ h0).mono ?_; rintro e w' ⟨rfl, k1, k2⟩)
    go_ret
    exact ⟨rfl, k1, k2⟩

theorem Sl.at2 {w : World} {ao : Option Addr} {n c : Nat} {bs : List Int} (h : Sl w (.slice ao n c) bs) (h0 : 0 < n) :
    ∃ b off, ao = some ⟨b, off, none⟩ ∧ n = bs.length ∧ ∀ k (hk : k < bs.length), w.cell? ⟨b, off + k, none⟩ = some (.int .u8 bs[k]) := by
  obtain ⟨ao', c', he, h1, h2, h3, h4⟩ := h
  injection he with e1 e2 e3
  subst e1 e2 e3
  cases ao with
  | none => have := h3 rfl; omega
  | some a =>
    obtain ⟨b, off, spot⟩ := a
    have hc := h4 _ rfl 0 (.int .u8 bs[0]) (by simp [List.getElem?_eq_getElem h0])
    have hspot : spot = none := by simpa [Addr.add] using World.cell?_spot hc
    subst hspot
    refine ⟨b, off, rfl, rfl, fun k hk => ?_⟩
    have := h4 _ rfl k (.int .u8 bs[k]) (by simp [List.getElem?_eq_getElem hk])
    rwa [Addr.add_lit] at this

theorem Bs.append {bs cs : List Int} (h : Bs bs) (k : Bs cs) : Bs (bs ++ cs) := fun b hb => by
  rcases List.mem_append.1 hb with h1 | h1
  · exact h b h1
  · exact k b h1

set_option maxHeartbeats 400000 in
theorem rnumber_ok (q : Nat) (v : Value) (bad : Bool) (bs : List Int) (n : Nat) (w : World) (hR : Rd w q v bad bs) (hn : n ≤ bs.length) (h0 : 0 < n) (h4 : n ≤ 4) (hB : Bs bs) :
    Calls Tryd.prog 72 #[.pointer (some ⟨q, 0, none⟩), .int .i64 n] w fun e w' => e = .returned (.int .u32 (val (bs.take n))) ∧ ∃ r, Took w q n v bad bs r w' := by
  go_enter Tryd.func72, Tryd.ntmps72
  go_wp2_with (go_at_call 81; refine (take_ok q v bad bs n _ hR hn).mono ?_; rintro e w1 ⟨ao, c, rfl, hT⟩)
  obtain ⟨b, off, rfl, hl, hcell⟩ := hT.1.at2 h0
  obtain ⟨cs, hcs⟩ : ∃ cs, cs = bs.take n := ⟨_, rfl⟩
  have hBc : Bs cs := hcs ▸ hB.take n
  rw [← hcs] at hl hcell
  have HC : Hid (cs = bs.take n) := hcs
  have HT : Hid (∃ r, Took w q n v bad bs r w1) := ⟨_, hT⟩
  clear hcs hT hB hR hn
  subst hl
  go_loop [5, 12] (fun x i => ∃ k : Nat, k ≤ cs.length ∧ i = .int .i64 k ∧ x = .int .u32 (val (cs.take k))) (fun _ i => cs.length - (intOf i).toNat)
  case atStart => exact ⟨0, Nat.zero_le _, rfl, rfl⟩
  case round =>
    obtain ⟨k, hk, rfl, rfl⟩ := hrel
    by_cases hlt : k < cs.length
    · have hc := hcell k hlt
      have hb1 := hBc cs[k] (List.getElem_mem hlt)
      have hvb := val_bd (cs.take k) (hBc.take k)
      have hlen : (cs.take k).length ≤ 3 := by simp; omega
      have hv1 := val_small (cs.take k) (hBc.take k) hlen
      obtain ⟨x, hx⟩ : ∃ x, x = val (cs.take k) := ⟨_, rfl⟩
      obtain ⟨y, hy⟩ : ∃ y, y = cs[k] := ⟨_, rfl⟩
      have HX : Hid (val (cs.take (k + 1)) = x * 256 + y) := by rw [hx, hy]; exact val_take_succ cs k hlt
      rw [← hx] at hvb hv1
      rw [← hx]
      rw [← hy] at hc hb1
      obtain ⟨hb1, hb2⟩ := hb1
      obtain ⟨hx0, _⟩ := hvb
      have hor := bits_or_byte x y hx0 hv1 hb1 hb2
      clear hx hy hlen hBc hcell
      go_wp2
      go_round
      case rel => exact ⟨k + 1, by omega, by go_num, by rw [HX.out]⟩
      case measure => simp [intOf]; omega
    · obtain rfl : k = cs.length := by omega
      go_wp2
      go_ret
      exact ⟨congrArg (fun l => Ending.returned (.int .u32 (val l))) HC.out, HT.out⟩

set_option maxHeartbeats 400000 in
theorem rnumber_bad (q : Nat) (v : Value) (bad : Bool) (bs : List Int) (n : Nat) (w : World) (hR : Rd w q v bad bs) (hn : bs.length < n) :
    Calls Tryd.prog 72 #[.pointer (some ⟨q, 0, none⟩), .int .i64 n] w fun e w' => e = .returned (.int .u32 0) ∧ Rd w' q (.slice none 0 0) true [] ∧ Kp [q] w w' := by
  go_enter Tryd.func72, Tryd.ntmps72
  go_wp2_with (go_at_call 81; refine (take_bad q v bad bs n _ hR (by omega)).mono ?_; rintro e w1 ⟨rfl, h1, h2⟩)
  refine wp_loop_rounds 1 ?_
  rw [rounds_succ]
  go_wp2
  go_ret
  exact ⟨rfl, h1, h2⟩

theorem rnum_ok (q : Nat) (v : Value) (bad : Bool) (bs : List Int) (w : World) (hR : Rd w q v bad bs) (hn : 4 ≤ bs.length) (hB : Bs bs) :
    Calls Tryd.prog 44 #[.pointer (some ⟨q, 0, none⟩)] w fun e w' => e = .returned (.int .u32 (val (bs.take 4))) ∧ ∃ r, Took w q 4 v bad bs r w' := by
  go_enter Tryd.func44, Tryd.ntmps44
  go_wp2_with (go_at_call 72; refine (rnumber_ok q v bad bs 4 _ hR hn (by omega) (by omega) hB).mono ?_; rintro e w1 ⟨rfl, h1⟩)
  go_ret
  exact ⟨rfl, h1⟩
theorem rnum_bad (q : Nat) (v : Value) (bad : Bool) (bs : List Int) (w : World) (hR : Rd w q v bad bs) (hn : bs.length < 4) :
    Calls Tryd.prog 44 #[.pointer (some ⟨q, 0, none⟩)] w fun e w' => e = .returned (.int .u32 0) ∧ Rd w' q (.slice none 0 0) true [] ∧ Kp [q] w w' := by
  go_enter Tryd.func44, Tryd.ntmps44
  go_wp2_with (go_at_call 72; refine (rnumber_bad q v bad bs 4 _ hR hn).mono ?_; rintro e w1 ⟨rfl, h1, h2⟩)
  go_ret
  exact ⟨rfl, h1, h2⟩
end Go.Proofs.YtdioaohejoflcaaDoor

/-
  The contracts of package wire's Raw and Bytes of a writer over this seat's program.
-/
namespace Go.Proofs.YtdioaohejoflcaaDoor
open Go.RowKit

theorem wr_step' {wr w0 w1 : World} {p : Nat} {v v' : Value} {bs new : List Int} (h : Wr wr p v bs) (h0 : Kp [] wr w0)
    (hown : w1.ownsRow (p + 1) 5 1 v' (bs.length + new.length) (bs.map (Value.int .u8) ++ new.map (Value.int .u8)))
    (hgrow : w0.grownBy w1 v.ownBlock) (hat : ∀ k, v'.ownBlock = some k → v.ownBlock = some k ∨ wr.heap.size ≤ k) :
    Wr (w1.setCell ⟨p, 0, none⟩ v') p v' (bs ++ new) ∧ Step p wr v (w1.setCell ⟨p, 0, none⟩ v') v' := by
  have h1 : w1.heap[p]? = some (.cells #[v] 99 (0, 0)) := by
    rw [hgrow.block p (Nat.lt_of_lt_of_le h.lt h0.size) (Ne.symm h.ne)]
    exact h0.heap h.1 (by simp)
  refine ⟨⟨one_setCell h1, ?_⟩, ?_, hat⟩
  · have := ownsRow_setCell_below hown (a := ⟨p, 0, none⟩) (by simp) v'
    simpa using this
  · have k1 : Kp (p :: v.ownBlock.toList) wr w0 := h0.mono (by simp)
    have k2 := k1.grown hgrow (fun k hk => .inl (by simp [hk]))
    exact k2.setCell (p := ⟨p, 0, none⟩) (.inl (by simp)) _
theorem wr_same {w : World} {p : Nat} {v : Value} {bs : List Int} (h : Wr w p v bs) : Wr (w.setCell ⟨p, 0, none⟩ v) p v bs ∧ Step p w v (w.setCell ⟨p, 0, none⟩ v) v :=
  ⟨⟨one_setCell h.1, ownsRow_setCell_below h.2 (a := ⟨p, 0, none⟩) (by simp) v⟩, (Kp.refl _ w).setCell (p := ⟨p, 0, none⟩) (.inl (by simp)) _, fun _ hk => .inl hk⟩

set_option maxHeartbeats 400000 in
theorem raw_any (p : Nat) (v : Value) (bs : List Int) (vb : Value) (cs : List Int) (w : World) (hw : Wr w p v bs) (hs : Sl w vb cs) (hb : bs.length + cs.length ≤ 140737488355328) :
    Calls Tryd.prog 75 #[.pointer (some ⟨p, 0, none⟩), vb] w fun e w' => e = .returned (.tuple #[]) ∧ ∃ v', Wr w' p v' (bs ++ cs) ∧ Step p w v w' v' := by
  obtain ⟨i0, hi0, hz0, hz1, hz2⟩ := info_parts Tryd.info5
  obtain ⟨ao, c, rfl, h1, h2, h3, h4⟩ := hs
  obtain ⟨av, cv, rfl⟩ := owns_shape hw.2
  have hc := hw.cell
  have hf := hw.free
  have hown := hw.2
  have hne := hw.ne
  have hlt := hw.lt
  cases ao with
  | none =>
    have : cs = [] := List.eq_nil_of_length_eq_zero (by have := h3 rfl; omega)
    subst this
    obtain rfl := h3 rfl
    have R := wr_same hw
    go_enter Tryd.func75, Tryd.ntmps75
    go_wp2_with (at_builtin; refine wpList_append_own_none rfl _ _ 24 rfl (p + 1) 5 i0 1 Tryd.underlying24 hi0 _ _ _ rfl hown rfl ?_)
    go_end0
    exact ⟨rfl, _, by simpa using R.1, R.2⟩
  | some a =>
    go_enter Tryd.func75, Tryd.ntmps75
    go_wp2_with (at_builtin; (refine wpList_append_own_at _ rfl _ _ 24 rfl (p + 1) 5 i0 (.int .u8 0) 1 1 Tryd.underlying24 hi0 hz0 hz1 hz2 rfl (by decide) (.slice av bs.length cv) bs.length (bs.map (Value.int .u8)) rfl hown a cs.length c (cs.map (Value.int .u8)) rfl (by simp) (h4 a rfl) (by simp [Value.oneCell']) (by unfold maxLen; omega) (by omega) (by omega) ?_; intro v' w1 hown1 hgrow _ hat; obtain ⟨av', cv', rfl⟩ := owns_shape hown1; have hc1 : w1.cell? ⟨p, 0, none⟩ = some (.slice av bs.length cv) := (by rw [hgrow.cell_far _ hlt (Ne.symm hne)]; exact hc); have hf1 : w1.frozen? ⟨p, 0, none⟩ = false := (by rw [hgrow.frozen_far _ hlt (Ne.symm hne)]; exact hf)))
    have R := wr_step' (new := cs) hw (Kp.refl [] w) hown1 hgrow (fun k hk => by rcases hat with e | e; exact .inl (e ▸ hk); exact .inr (by rw [e] at hk; cases hk; exact Nat.le_refl _))
    go_end0
    exact ⟨rfl, _, R.1, R.2⟩

end Go.Proofs.YtdioaohejoflcaaDoor

/-
  Plain facts on the four bytes of a number: they make the number, and they stand in order as the numbers do.
-/
namespace Go.Proofs.YtdioaohejoflcaaDoor
open Go.RowKit

theorem be_four (n : Int) (h0 : 0 ≤ n) (h1 : n ≤ 4294967295) : be n 4 0 = [n / 16777216, n / 65536 % 256, n / 256 % 256, n % 256] := by
  simp [be, byteAt, List.range_succ]
  omega
theorem be_bs (n : Int) (size k : Nat) : Bs (be n size k) := by
  intro b hb
  simp only [be, List.mem_map] at hb
  obtain ⟨t, _, rfl⟩ := hb
  unfold byteAt
  omega
theorem val_be4 (n : Int) (h0 : 0 ≤ n) (h1 : n ≤ 4294967295) : val (be n 4 0) = n := by
  rw [be_four n h0 h1]
  simp [val]
  omega
theorem toNat_of (x : Int) (h0 : 0 ≤ x) (h1 : x ≤ 255) : ((UInt8.ofNat x.toNat).toNat : Int) = x := by
  simp; omega
theorem str_toList (bs : List Int) : (strOfNums bs).toList = bs.map fun n => UInt8.ofNat n.toNat := by
  rw [ByteArray.toList_eq]; rfl
theorem of_lt (x y : Int) (hx : 0 ≤ x ∧ x ≤ 255) (hy : 0 ≤ y ∧ y ≤ 255) : (UInt8.ofNat x.toNat < UInt8.ofNat y.toNat) ↔ x < y := by
  rw [UInt8.lt_iff_toNat_lt]
  have := toNat_of x hx.1 hx.2
  have := toNat_of y hy.1 hy.2
  omega
theorem of_eq (x y : Int) (hx : 0 ≤ x ∧ x ≤ 255) (hy : 0 ≤ y ∧ y ≤ 255) : (UInt8.ofNat x.toNat = UInt8.ofNat y.toNat) ↔ x = y := by
  constructor
  · intro h
    have := toNat_of x hx.1 hx.2
    have := toNat_of y hy.1 hy.2
    rw [h] at *
    omega
  · intro h; rw [h]
theorem less_four (a b : Int) (a0 : 0 ≤ a) (a1 : a ≤ 4294967295) (b0 : 0 ≤ b) (b1 : b ≤ 4294967295) :
    Op.bytesLess (strOfNums (be a 4 0)).toList (strOfNums (be b 4 0)).toList = decide (a < b) := by
  rw [str_toList, str_toList, be_four a a0 a1, be_four b b0 b1, Bool.eq_iff_iff]
  simp only [List.map_cons, List.map_nil, Op.bytesLess, Bool.or_eq_true, Bool.and_eq_true, decide_eq_true_eq, beq_iff_eq]
  rw [of_lt _ _ (by omega) (by omega), of_lt _ _ (by omega) (by omega), of_lt _ _ (by omega) (by omega), of_lt _ _ (by omega) (by omega), of_eq _ _ (by omega) (by omega), of_eq _ _ (by omega) (by omega), of_eq _ _ (by omega) (by omega), of_eq _ _ (by omega) (by omega)]
  simp only [Bool.false_eq_true, and_false, or_false]
  omega
theorem str_inj (bs cs : List Int) (hb : Bs bs) (hc : Bs cs) (h : (strOfNums bs).toList = (strOfNums cs).toList) : bs = cs := by
  rw [str_toList, str_toList] at h
  induction bs generalizing cs with
  | nil => cases cs with
    | nil => rfl
    | cons c cs => simp at h
  | cons b bs ih => cases cs with
    | nil => simp at h
    | cons c cs =>
      simp only [List.map_cons, List.cons.injEq] at h
      rw [(of_eq b c (hb b (by simp)) (hc c (by simp))).1 h.1, ih cs (fun x hx => hb x (by simp [hx])) (fun x hx => hc x (by simp [hx])) h.2]
theorem str_beq (bs cs : List Int) (hb : Bs bs) (hc : Bs cs) : ((strOfNums bs).toList == (strOfNums cs).toList) = decide (bs = cs) := by
  rw [Bool.eq_iff_iff]
  simp only [beq_iff_eq, decide_eq_true_eq]
  exact ⟨str_inj bs cs hb hc, fun h => by rw [h]⟩
theorem eq_four (a b : Int) (a0 : 0 ≤ a) (a1 : a ≤ 4294967295) (b0 : 0 ≤ b) (b1 : b ≤ 4294967295) :
    ((strOfNums (be a 4 0)).toList == (strOfNums (be b 4 0)).toList) = (a == b) := by
  rw [str_beq _ _ (be_bs _ _ _) (be_bs _ _ _), Bool.eq_iff_iff]
  simp only [decide_eq_true_eq, beq_iff_eq]
  refine ⟨fun h => ?_, fun h => by rw [h]⟩
  rw [← val_be4 a a0 a1, h, val_be4 b b0 b1]
/-- a string of bytes turned into a slice. -/
theorem Sl.ofString {w : World} {bs : List Int} (hB : Bs bs) (e : TypeId) (cap : Nat) (hcap : bs.length ≤ cap) (hm : cap ≤ maxLen) (fr : Nat × Nat) :
    Sl (w.alloc (.cells (bytesRow (strOfNums bs) cap) e fr)) (.slice (some ⟨w.heap.size, 0, none⟩) (strOfNums bs).size cap) bs := by
  refine ⟨some ⟨w.heap.size, 0, none⟩, cap, by rw [strOfNums_size], hcap, hm, (fun h => by cases h), fun a ha j u hu => ?_⟩
  cases ha
  rw [Addr.add_lit, Nat.zero_add, World.cell?_alloc_mark]
  have hj : j < bs.length := by have := (List.getElem?_eq_some_iff.1 hu).1; simpa using this
  simp [List.getElem?_eq_getElem hj] at hu
  subst hu
  have hb := hB bs[j] (List.getElem_mem hj)
  have : (bytesRow (strOfNums bs) cap)[j]? = some (.int .u8 ((UInt8.ofNat bs[j].toNat).toNat : Int)) := by
    unfold bytesRow
    rw [Array.getElem?_append_left (by simp [strOfNums]; omega)]
    simp [strOfNums, hj]
  rw [this, toNat_of _ hb.1 hb.2]
end Go.Proofs.YtdioaohejoflcaaDoor

/-
  The contracts of package wire's reader for every call, by one plain function of what is left: Raw, Byte, Num, Bytes, Left; and of the helpers Cut and Within.
-/
namespace Go.Proofs.YtdioaohejoflcaaDoor
open Go.RowKit

/-- n bytes off the bytes bs: what is told, whether it is bad now, what is left. -/
def tk (bad : Bool) (bs : List Int) (n : Int) : List Int × Bool × List Int :=
  if 0 ≤ n ∧ n ≤ (bs.length : Int) then (bs.take n.toNat, bad, bs.drop n.toNat) else ([], true, [])
/-- a text behind its length. -/
def tkb (bad : Bool) (bs : List Int) (most : Int) : List Int × Bool × List Int :=
  if max most 0 < val (tk bad bs 2).1 then ([], true, []) else tk (tk bad bs 2).2.1 (tk bad bs 2).2.2 (val (tk bad bs 2).1)
theorem tk_ok (bad : Bool) (bs : List Int) (n : Nat) (h : n ≤ bs.length) : tk bad bs n = (bs.take n, bad, bs.drop n) := by
  unfold tk; rw [if_pos (by omega)]; simp
theorem tk_no (bad : Bool) (bs : List Int) (n : Int) (h : n < 0 ∨ (bs.length : Int) < n) : tk bad bs n = ([], true, []) := by
  unfold tk; rw [if_neg (by omega)]
theorem tk_bs1 {bad : Bool} {bs : List Int} {n : Int} (h : Bs bs) : Bs (tk bad bs n).1 := by
  unfold tk; split
  · exact h.take _
  · intro b hb; cases hb
theorem tk_bs2 {bad : Bool} {bs : List Int} {n : Int} (h : Bs bs) : Bs (tk bad bs n).2.2 := by
  unfold tk; split
  · exact h.drop _
  · intro b hb; cases hb
theorem tk_len {bad : Bool} {bs : List Int} {n : Int} : (tk bad bs n).1.length + (tk bad bs n).2.2.length ≤ bs.length := by
  unfold tk; split
  · simp; omega
  · simp
theorem tk_len1 {bad : Bool} {bs : List Int} {n : Nat} : (tk bad bs n).1.length ≤ n := by
  unfold tk; split
  · simp; omega
  · simp
theorem tkb_bs2 {bad : Bool} {bs : List Int} {n : Int} (h : Bs bs) : Bs (tkb bad bs n).2.2 := by
  unfold tkb; split
  · intro b hb; cases hb
  · exact tk_bs2 (tk_bs2 h)
theorem tkb_bs1 {bad : Bool} {bs : List Int} {n : Int} (h : Bs bs) : Bs (tkb bad bs n).1 := by
  unfold tkb; split
  · intro b hb; cases hb
  · exact tk_bs1 (tk_bs2 h)
theorem tkb_len {bad : Bool} {bs : List Int} {n : Int} : (tkb bad bs n).1.length + (tkb bad bs n).2.2.length ≤ bs.length := by
  unfold tkb; split
  · simp
  · have h1 := @tk_len bad bs 2
    have h2 := @tk_len (tk bad bs 2).2.1 (tk bad bs 2).2.2 (val (tk bad bs 2).1)
    omega
/-- a bad reader has nothing left. -/
def St (s : Bool × List Int) : Prop := s.1 = true → s.2 = []
theorem tk_st {bad : Bool} {bs : List Int} {n : Int} (h : St (bad, bs)) : St (tk bad bs n).2 := by
  intro hb
  unfold tk at hb ⊢
  split at hb
  · rename_i hc; rw [if_pos hc]; have := h hb; simp only at this; simp [this]
  · rename_i hc; rw [if_neg hc]
theorem tkb_st {bad : Bool} {bs : List Int} {n : Int} (h : St (bad, bs)) : St (tkb bad bs n).2 := by
  unfold tkb
  split
  · intro _; rfl
  · exact tk_st (bad := (tk bad bs 2).2.1) (bs := (tk bad bs 2).2.2) (tk_st h)

/-- what a call of a reader leaves: the state s, besides its two cells nothing old changed. -/
def Left (w : World) (q : Nat) (v : Value) (s : Bool × List Int) (w' : World) : Prop :=
  (∃ v2, Rd w' q v2 s.1 s.2 ∧ ∀ k, v2.ownBlock = some k → v.ownBlock = some k) ∧ Kp [q] w w'
theorem Left.trans {a b c : World} {q : Nat} {v : Value} {s t : Bool × List Int} (h : Left a q v s b) (k : ∀ v2, Rd b q v2 s.1 s.2 → Left b q v2 t c) : Left a q v t c := by
  obtain ⟨⟨v2, r2, o2⟩, k2⟩ := h
  obtain ⟨⟨v3, r3, o3⟩, k3⟩ := k v2 r2
  exact ⟨⟨v3, r3, fun i hi => o2 i (o3 i hi)⟩, k2.trans k3⟩
theorem Took.left {w w' : World} {q n : Nat} {v : Value} {bad : Bool} {bs : List Int} {r : Value} (h : Took w q n v bad bs r w') : Left w q v (bad, bs.drop n) w' := ⟨h.2.1, h.2.2.1⟩
theorem Left.bad {w w' : World} {q : Nat} {v : Value} (h : Rd w' q (.slice none 0 0) true []) (k : Kp [q] w w') : Left w q v (true, []) w' := ⟨⟨_, h, fun _ hk => by cases hk⟩, k⟩

theorem rnumber_any (q : Nat) (v : Value) (bad : Bool) (bs : List Int) (n : Nat) (w : World) (hR : Rd w q v bad bs) (h0 : 0 < n) (h4 : n ≤ 4) (hB : Bs bs) :
    Calls Tryd.prog 72 #[.pointer (some ⟨q, 0, none⟩), .int .i64 n] w fun e w' => e = .returned (.int .u32 (val (tk bad bs n).1)) ∧ Left w q v (tk bad bs n).2 w' := by
  rcases Nat.lt_or_ge bs.length n with h | h
  · rw [tk_no bad bs n (.inr (by omega))]
    exact (rnumber_bad q v bad bs n w hR h).mono fun _ _ ⟨h1, h2, h3⟩ => ⟨h1, Left.bad h2 h3⟩
  · rw [tk_ok bad bs n h]
    exact (rnumber_ok q v bad bs n w hR h h0 h4 hB).mono fun _ _ ⟨h1, r, h2⟩ => ⟨h1, h2.left⟩

theorem rnum_any (q : Nat) (v : Value) (bad : Bool) (bs : List Int) (w : World) (hR : Rd w q v bad bs) (hB : Bs bs) :
    Calls Tryd.prog 44 #[.pointer (some ⟨q, 0, none⟩)] w fun e w' => e = .returned (.int .u32 (val (tk bad bs 4).1)) ∧ Left w q v (tk bad bs 4).2 w' := by
  go_enter Tryd.func44, Tryd.ntmps44
  go_wp2_with (go_at_call 72; refine (rnumber_any q v bad bs 4 _ hR (by omega) (by omega) hB).mono ?_; rintro e w1 ⟨rfl, h1⟩)
  go_ret
  exact ⟨rfl, h1⟩
theorem val_one (cs : List Int) (h : Bs cs) (hl : cs.length ≤ 1) : IntKind.u8.wrap (val cs) = val cs := by
  have h1 := val_bd cs h
  have : cs.length = 0 ∨ cs.length = 1 := by omega
  have h2 : 0 ≤ val cs ∧ val cs ≤ 255 := by rcases this with e | e <;> rw [e] at h1 <;> omega
  simp [IntKind.wrap, IntKind.signed, IntKind.bits]
  omega
/-- a slice r of the call's own that reads as bs. -/
def Own (w w' : World) (r : Value) (bs : List Int) : Prop := Sl w' r bs ∧ ∀ k, r.ownBlock = some k → w.heap.size ≤ k

theorem raw_ok (q : Nat) (v : Value) (bad : Bool) (bs : List Int) (n : Int) (w : World) (hR : Rd w q v bad bs) (hb : bs.length ≤ 140737488355328) :
    Calls Tryd.prog 73 #[.pointer (some ⟨q, 0, none⟩), .int .i64 n] w fun e w' => ∃ ao c, e = .returned (.slice ao (tk bad bs n).1.length c) ∧ Own w w' (.slice ao (tk bad bs n).1.length c) (tk bad bs n).1 ∧ Left w q v (tk bad bs n).2 w' := by
  by_cases hn : 0 ≤ n ∧ n ≤ (bs.length : Int)
  · obtain ⟨m, rfl⟩ := Int.eq_ofNat_of_zero_le hn.1
    have hm : m ≤ bs.length := by omega
    rw [tk_ok bad bs m hm]
    have hl : (bs.take m).length = m := by simp; omega
    obtain ⟨cs, hcs⟩ : ∃ cs, cs = bs.take m := ⟨_, rfl⟩
    simp only
    rw [← hcs] at hl ⊢
    have HC : Hid (cs = bs.take m) := hcs
    clear hcs hn
    subst hl
    go_enter Tryd.func73, Tryd.ntmps73
    go_wp2_with fail
    refine (take_ok q v bad bs cs.length _ hR hm).mono ?_
    rintro e w1 ⟨ao, c, rfl, hT⟩
    have hS : Sl w1 (.slice ao cs.length c) cs := by have := hT.1; rwa [← HC.out] at this
    have hL := hT.left
    clear hT
    go_wp2_with fail
    refine (copy_any _ cs _ hS (by omega)).mono ?_
    rintro e w2 ⟨ao2, c2, rfl, h1, h2⟩
    go_wp2_with fail
    go_ret
    refine ⟨ao2, c2, rfl, ⟨Sl.of_owns h1, fun k hk => Nat.le_trans hL.2.size (h1.lt k hk).1⟩, ?_⟩
    obtain ⟨⟨v2, r2, o2⟩, k2⟩ := hL
    exact ⟨⟨v2, r2.kept h2 (by simp) (by simp), o2⟩, k2.trans (h2.mono (by simp))⟩
  · have hn' : n < 0 ∨ (bs.length : Int) < n := by omega
    rw [tk_no bad bs n hn']
    go_enter Tryd.func73, Tryd.ntmps73
    go_wp2_with fail
    refine (take_bad q v bad bs n _ hR hn').mono ?_
    rintro e w1 ⟨rfl, h1, h2⟩
    go_wp2_with fail
    refine (copy_any _ [] _ (Sl.nil w1) (by simp)).mono ?_
    rintro e w2 ⟨ao2, c2, rfl, h3, h4⟩
    go_wp2_with fail
    go_ret
    exact ⟨ao2, c2, rfl, ⟨Sl.of_owns h3, fun k hk => Nat.le_trans h2.size (h3.lt k hk).1⟩, Left.bad (h1.kept h4 (by simp) (by simp)) (h2.trans (h4.mono (by simp)))⟩

end Go.Proofs.YtdioaohejoflcaaDoor

/-
  The contracts of the reference reader over this seat's program: Raw, Number, Bytes, End, Left, by the same plain function of what is left as the program's own reader.
-/
namespace Go.Proofs.YtdioaohejoflcaaDoor
open Go.RowKit

/-- A reference reader: its three cells at block q: all bytes B, how far it is, whether it is bad. -/
def RR (w : World) (q : Nat) (v : Value) (i : Nat) (bad : Bool) (B : List Int) : Prop :=
  w.heap[q]? = some (.cells #[v, .int .i64 i, .bool bad] 80 (0, 0)) ∧ Sl w v B ∧ v.ownBlock ≠ some q ∧ i ≤ B.length
/-- what is left of it. -/
def rest (i : Nat) (bad : Bool) (B : List Int) : List Int := if bad then [] else B.drop i

theorem cell_of_three {w : World} {b : Nat} {v u x : Value} {t : TypeId} (h : w.heap[b]? = some (.cells #[v, u, x] t (0, 0))) : w.cell? ⟨b, 0, none⟩ = some v ∧ w.cell? ⟨b, 1, none⟩ = some u ∧ w.cell? ⟨b, 2, none⟩ = some x :=
  ⟨by rw [cell_of_row w b 0 _ t _ h]; rfl, by rw [cell_of_row w b 1 _ t _ h]; rfl, by rw [cell_of_row w b 2 _ t _ h]; rfl⟩
theorem three_setCell1 {w : World} {b : Nat} {v u x y : Value} {t : TypeId} (h : w.heap[b]? = some (.cells #[v, u, x] t (0, 0))) : (w.setCell ⟨b, 1, none⟩ y).heap[b]? = some (.cells #[v, y, x] t (0, 0)) := by
  have hlt := lt_of_block h
  have h' : w.heap[b] = .cells #[v, u, x] t (0, 0) := by simpa [Array.getElem?_eq_getElem hlt] using h
  show (w.heap.modify b _)[b]? = _
  rw [Array.getElem?_eq_getElem (by simpa using hlt), Array.getElem_modify_self, h']
  rfl
theorem three_setCell2 {w : World} {b : Nat} {v u x y : Value} {t : TypeId} (h : w.heap[b]? = some (.cells #[v, u, x] t (0, 0))) : (w.setCell ⟨b, 2, none⟩ y).heap[b]? = some (.cells #[v, u, y] t (0, 0)) := by
  have hlt := lt_of_block h
  have h' : w.heap[b] = .cells #[v, u, x] t (0, 0) := by simpa [Array.getElem?_eq_getElem hlt] using h
  show (w.heap.modify b _)[b]? = _
  rw [Array.getElem?_eq_getElem (by simpa using hlt), Array.getElem_modify_self, h']
  rfl
theorem RR.kept {w w' : World} {q : Nat} {v : Value} {i : Nat} {bad : Bool} {B : List Int} {S : List Nat} (h : RR w q v i bad B) (k : Kp S w w') (hp : q ∉ S) (hv : ∀ i, v.ownBlock = some i → i ∉ S) : RR w' q v i bad B :=
  ⟨k.heap h.1 hp, h.2.1.kept k hv, h.2.2.1, h.2.2.2⟩
theorem rr_bad {w : World} {q : Nat} {v : Value} {i : Nat} {bad : Bool} {B : List Int} (h : RR w q v i bad B) : RR (w.setCell ⟨q, 2, none⟩ (.bool true)) q v i true B ∧ Kp [q] w (w.setCell ⟨q, 2, none⟩ (.bool true)) := by
  have k : Kp [q] w (w.setCell ⟨q, 2, none⟩ (.bool true)) := (Kp.refl [q] w).setCell (p := ⟨q, 2, none⟩) (.inl (by simp)) _
  exact ⟨⟨three_setCell2 h.1, h.2.1.kept k (fun j hj hm => by simp only [List.mem_singleton] at hm; subst hm; exact h.2.2.1 hj), h.2.2.1, h.2.2.2⟩, k⟩
theorem rr_go {w : World} {q : Nat} {v : Value} {i : Nat} {bad : Bool} {B : List Int} (h : RR w q v i bad B) (j : Nat) (hj : j ≤ B.length) : RR (w.setCell ⟨q, 1, none⟩ (.int .i64 j)) q v j bad B ∧ Kp [q] w (w.setCell ⟨q, 1, none⟩ (.int .i64 j)) := by
  have k : Kp [q] w (w.setCell ⟨q, 1, none⟩ (.int .i64 j)) := (Kp.refl [q] w).setCell (p := ⟨q, 1, none⟩) (.inl (by simp)) _
  exact ⟨⟨three_setCell1 h.1, h.2.1.kept k (fun j hj hm => by simp only [List.mem_singleton] at hm; subst hm; exact h.2.2.1 hj), h.2.2.1, hj⟩, k⟩

theorem rest_tk (i : Nat) (B : List Int) (n : Nat) (h : i + n ≤ B.length) : tk false (B.drop i) n = ((B.drop i).take n, false, B.drop (i + n)) := by
  rw [tk_ok false _ n (by rw [List.length_drop]; omega), List.drop_drop]

/-- what a call of a reference reader leaves. -/
def RLeft (w : World) (q : Nat) (v : Value) (B : List Int) (s : Bool × List Int) (w' : World) : Prop :=
  ∃ i bad, RR w' q v i bad B ∧ s = (bad, rest i bad B) ∧ Kp [q] w w'

set_option maxRecDepth 100000 in
set_option maxHeartbeats 2000000 in
theorem rraw_any (q : Nat) (v : Value) (i : Nat) (bad : Bool) (B : List Int) (n : Int) (w : World) (hR : RR w q v i bad B) (hb : B.length ≤ 140737488355328) (hn : -9223372036854775808 ≤ n ∧ n ≤ 9223372036854775807) :
    Calls Tryd.prog 52 #[.pointer (some ⟨q, 0, none⟩), .int .i64 n] w fun e w' => ∃ ao m c, e = .returned (.slice ao m c) ∧ Own w w' (.slice ao m c) (tk bad (rest i bad B) n).1 ∧ RLeft w q v B (tk bad (rest i bad B) n).2 w' := by
  obtain ⟨ao, c, rfl, h1, h2, h3, h4⟩ := hR.2.1
  obtain ⟨hc0, hc1, hc2⟩ := cell_of_three hR.1
  have hf := free_of_two hR.1
  have hf1 := hf 1
  have hf2 := hf 2
  have hi := hR.2.2.2
  clear hf h4
  have hi1 : (0 : Int) ≤ (i : Int) := by omega
  have hi2 : (i : Int) ≤ (B.length : Int) := by omega
  cases bad with
  | true =>
    have hB := rr_bad hR
    have ht : tk true (rest i true B) n = ([], true, []) := by
      show tk true [] n = _
      unfold tk; split <;> simp
    rw [ht]
    go_enter Tryd.func52, Tryd.ntmps52
    go_wp2_with fail
    go_quiet (fail)
    go_wp2_with fail
    go_ret
    exact ⟨none, 0, 0, rfl, ⟨Sl.nil _, by intro k hk; cases hk⟩, i, true, hB.1.kept (kp_drewN _ _) (by simp) (by simp), rfl, hB.2.trans ((kp_drewN _ _).mono (by simp))⟩
  | false =>
    have hr : rest i false B = B.drop i := rfl
    rw [hr]
    by_cases hn0 : n < 0
    · have hB := rr_bad hR
      rw [tk_no false _ n (.inl hn0)]
      have hd : decide (n < 0) = true := by simpa using hn0
      go_enter Tryd.func52, Tryd.ntmps52
      go_wp2_with fail
      go_quiet (fail)
      go_wp2_with fail
      go_ret
      exact ⟨none, 0, 0, rfl, ⟨Sl.nil _, by intro k hk; cases hk⟩, i, true, hB.1.kept (kp_drewN _ _) (by simp) (by simp), rfl, hB.2.trans ((kp_drewN _ _).mono (by simp))⟩
    · obtain ⟨m, rfl⟩ := Int.eq_ofNat_of_zero_le (show 0 ≤ n by omega)
      have hd : decide ((m : Int) < 0) = false := by simp
      by_cases hbig : B.length - i < m
      · have hB := rr_bad hR
        rw [tk_no false _ m (.inr (by rw [List.length_drop]; omega))]
        have hd2 : decide ((B.length : Int) - (i : Int) < (m : Int)) = true := by simp; omega
        have hd3 : (B.length : Int) - (i : Int) < (m : Int) := by omega
        go_enter Tryd.func52, Tryd.ntmps52
        go_wp2_with fail
        go_quiet (fail)
        go_wp2_with fail
        go_ret
        exact ⟨none, 0, 0, rfl, ⟨Sl.nil _, by intro k hk; cases hk⟩, i, true, hB.1.kept (kp_drewN _ _) (by simp) (by simp), rfl, hB.2.trans ((kp_drewN _ _).mono (by simp))⟩
      · have hG := rr_go hR (i + m) (by omega)
        rw [rest_tk i B m (by omega)]
        have hd2 : decide ((B.length : Int) - (i : Int) < (m : Int)) = false := by simp; omega
        have hd3 : ¬ (B.length : Int) - (i : Int) < (m : Int) := by omega
        go_enter Tryd.func52, Tryd.ntmps52
        go_wp2_with fail
        go_quiet (fail)
        go_wp2_with fail
        have G : RR ((w.drewN nq).setCell ⟨q, 1, none⟩ (.int .i64 ((i : Int) + (m : Int)))) q (.slice ao B.length c) (i + m) false B ∧ Kp [q] w ((w.drewN nq).setCell ⟨q, 1, none⟩ (.int .i64 ((i : Int) + (m : Int)))) := by
          have e : ((i + m : Nat) : Int) = (i : Int) + (m : Int) := by omega
          rw [← e]
          exact ⟨hG.1.kept (kp_drewN _ nq) (by simp) (by simp), hG.2.trans ((kp_drewN _ nq).mono (by simp))⟩
        clear hG hc0 hc1 hc2 hf1 hf2 hd hd2 hd3 hR hr
        generalize (w.drewN nq).setCell ⟨q, 1, none⟩ (.int .i64 ((i : Int) + (m : Int))) = W at G ⊢
        obtain ⟨gR, gK⟩ := G
        obtain ⟨hc0, hc1, hc2⟩ := cell_of_three gR.1
        have hc1' : W.cell? ⟨q, 1, none⟩ = some (.int .i64 ((i : Int) + (m : Int))) := by rw [hc1]; rfl
        have hq := lt_of_block gR.1
        have hlo : (i : Int) + (m : Int) ≤ (c : Int) := by omega
        have h2' : (c : Int) ≤ 9223372036854775807 := by unfold maxLen at h2; omega
        have hw1 : IntKind.i64.wrap ((i : Int) + (m : Int) - (m : Int)) = i := by simp [IntKind.wrap, IntKind.signed, IntKind.bits]; omega
        have hw2 : IntKind.i64.wrap (i : Int) = i := by simp [IntKind.wrap, IntKind.signed, IntKind.bits]; omega
        have hne1 := World.new_ne W ⟨q, 0, none⟩ hc0
        have hne2 := World.new_ne W ⟨q, 1, none⟩ hc1
        obtain ⟨X, hX⟩ : ∃ X, X = if c = i then ao else ao.map (·.add i) := ⟨_, rfl⟩
        obtain ⟨cs, hcs⟩ : ∃ cs, cs = (B.drop i).take m := ⟨_, rfl⟩
        have hcl : cs.length ≤ 140737488355328 := by rw [hcs, List.length_take, List.length_drop]; omega
        have hS : Sl W (.slice X m (c - i)) cs := by
          rw [hX, hcs]
          exact (gR.2.1.drop i hi).take m (by rw [List.length_drop]; omega)
        have hrs : ∀ w', (Instr.slice 24 (.slice ao B.length c) (some (.int .i64 (i : Int))) (some (.int .i64 ((i : Int) + (m : Int)))) none).run Tryd.prog w' = .ok (.slice X m (c - i)) w' := fun w' => by
          rw [run_slice_lh (P := Tryd.prog) w' 24 ao B.length c (by kernel_rfl) .i64 .i64 _ _ (by omega) (by omega) (by omega)]
          rw [hX]
          have e1 : ((i : Int) + (m : Int)).toNat = i + m := by omega
          obtain ⟨i0, hi0, hz0, hz1, hz2⟩ := info_parts Tryd.info5
          simp [sizeOf, typeInfo, show Tryd.prog.elem 24 = 5 from by kernel_rfl, sliced, e1, hi0, hz1, Result.andThen]
        have hrow0 : Row (W.alloc (.cells #[] 5)).drew W.heap.size (.slice (some ⟨W.heap.size, 0, none⟩) 0 0) [] := (World.ownsRow_made W #[] 0 (Nat.le_refl _) (by simp [maxLen]) rfl).drew
        have hSa : Sl (W.alloc (.cells #[] 5)).drew (.slice X m (c - i)) cs := hS.kept (((Kp.refl [] W).alloc _).drew) (by simp)
        have HF : Hid ((B.drop i).take m = cs) := hcs.symm
        have HS := hide hS
        have HR := hide gR
        clear hc1 hc2 h2 hX hcs hS gR
        go_region_held3 (fun w' => w'.cell? ⟨q, 0, none⟩ = some (.slice ao B.length c) ∧ w'.cell? ⟨q, 1, none⟩ = some (.int .i64 ((i : Int) + (m : Int))))
          (first
            | go_keep
            | (go_split_ands
               refine ⟨?_, ?_⟩
               · exact s1.1.cell (by assumption) (by simp [Value.ownBlock]; omega)
               · exact s1.1.cell (by assumption) (by simp [Value.ownBlock]; omega)))
          ((refine step_append_row (by rfl) (.tmp 39) (.tmp 54) (by rfl) W.heap.size _ [] (by rfl) hrow0 _ cs (by rfl) hSa (by simpa using hcl) (by simp) ?_; intro ao2 m2 c2 w1 r1 s1))
        go_wp2_with fail
        go_ret
        rw [unhide HF]
        have kW : Kp [] W w1 := (((Kp.refl [] W).alloc (.cells #[] 5)).drew).then s1.1 (fun k hk => by simp [Value.ownBlock] at hk; exact .inr (by omega))
        exact ⟨ao2, m2, c2, rfl, ⟨by simpa using r1.sl, fun k hk => Nat.le_trans gK.size (r1.lt k hk).1⟩, i + m, false, (unhide HR).kept kW (by simp) (by simp), rfl, gK.trans (kW.mono (by simp))⟩

theorem rest_bs {i : Nat} {bad : Bool} {B : List Int} (h : Bs B) : Bs (rest i bad B) := by
  unfold rest; split
  · intro b hb; cases hb
  · exact h.drop _

set_option maxHeartbeats 400000 in
theorem rnumb_any (q : Nat) (v : Value) (i : Nat) (bad : Bool) (B : List Int) (n : Nat) (w : World) (hR : RR w q v i bad B) (hb : B.length ≤ 140737488355328) (h4 : n ≤ 4) (hB : Bs B) :
    Calls Tryd.prog 51 #[.pointer (some ⟨q, 0, none⟩), .int .i64 n] w fun e w' => e = .returned (.int .u32 (val (tk bad (rest i bad B) n).1)) ∧ RLeft w q v B (tk bad (rest i bad B) n).2 w' := by
  have hBc : Bs (tk bad (rest i bad B) n).1 := tk_bs1 (rest_bs hB)
  have hl4 : (tk bad (rest i bad B) n).1.length ≤ 4 := Nat.le_trans tk_len1 h4
  obtain ⟨cs, hcs⟩ : ∃ cs, cs = (tk bad (rest i bad B) n).1 := ⟨_, rfl⟩
  go_enter Tryd.func51, Tryd.ntmps51
  go_wp2_with fail
  refine (rraw_any q v i bad B n _ hR hb (by omega)).mono ?_
  rintro e w1 ⟨ao, m, c, rfl, hO, hL⟩
  rw [← hcs] at hO hBc hl4
  have HC := hide hcs
  have HL := hide hL
  have hS := hO.1
  clear hcs hL hR hO
  obtain ⟨ao', c', he, hS1, hS2, hS3, hS4⟩ := hS
  injection he with e1 e2 e3
  subst e1 e2 e3
  go_wp2_with fail
  go_loop [5, 12] (fun x j => ∃ k : Nat, k ≤ cs.length ∧ j = .int .i64 k ∧ x = .int .u32 (val (cs.take k))) (fun _ j => cs.length - (intOf j).toNat)
  case atStart => exact ⟨0, Nat.zero_le _, rfl, rfl⟩
  case round =>
    obtain ⟨k, hk, rfl, rfl⟩ := hrel
    by_cases hlt : k < cs.length
    · have hSl : Sl w1 (.slice ao cs.length c) cs := ⟨ao, c, rfl, hS1, hS2, hS3, hS4⟩
      obtain ⟨b, off, rfl, _, hcell⟩ := hSl.at2 (by omega)
      have hc := hcell k hlt
      have hb1 := hBc cs[k] (List.getElem_mem hlt)
      have hvb := val_bd (cs.take k) (hBc.take k)
      have hlen : (cs.take k).length ≤ 3 := by simp; omega
      have hv1 := val_small (cs.take k) (hBc.take k) hlen
      obtain ⟨x, hx⟩ : ∃ x, x = val (cs.take k) := ⟨_, rfl⟩
      obtain ⟨y, hy⟩ : ∃ y, y = cs[k] := ⟨_, rfl⟩
      have HX : Hid (val (cs.take (k + 1)) = x * 256 + y) := by rw [hx, hy]; exact val_take_succ cs k hlt
      rw [← hx] at hvb hv1
      rw [← hx]
      rw [← hy] at hc hb1
      obtain ⟨hb1, hb2⟩ := hb1
      obtain ⟨hx0, _⟩ := hvb
      have hor := bits_or_byte x y hx0 hv1 hb1 hb2
      clear hx hy hlen hBc hcell hSl hS3 hS4
      go_wp2
      go_round
      case rel => exact ⟨k + 1, by omega, by go_num, by rw [HX.out]⟩
      case measure => simp [intOf]; omega
    · obtain rfl : k = cs.length := by omega
      clear hS3 hS4
      go_wp2
      go_ret
      exact ⟨congrArg (fun l => Ending.returned (.int .u32 (val l))) (unhide HC), unhide HL⟩

end Go.Proofs.YtdioaohejoflcaaDoor
