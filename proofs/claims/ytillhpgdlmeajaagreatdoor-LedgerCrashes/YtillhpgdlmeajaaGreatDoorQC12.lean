/-
  The contracts of the program's Tagged and Same.
-/
import Derived.Test.YtillhpgdlmeajaaGreatDoorQC6
import Derived.Test.YtillhpgdlmeajaaGreatDoorQC10
import Derived.Test.YtillhpgdlmeajaaGreatDoorQC3
namespace Go.Proofs.YtillhpgdlmeajaaGreatDoor
open Go.RowKit
set_option maxRecDepth 100000 in
set_option maxHeartbeats 1000000 in
theorem tagged_any (tag : Int) (vl : Value) (l : List (Value × List Int)) (r : List Int) (hr : r = sha (tag :: cat l)) (w : World) (hL : Lists w vl l) (h0 : 0 ≤ tag) (h1 : tag ≤ 255) (hn : l.length ≤ 100000) (hm : ∀ x ∈ l, x.2.length ≤ 1000000) (hG : Gl w) :
    Calls Tryz.prog 144 #[.int .u8 tag, vl] w fun e w' => ∃ ao m c, e = .returned (.slice ao m c) ∧ Row w' w.heap.size (.slice ao m c) r ∧ Kp [] w w' := by
  have HG := hide hG
  have hBl := hL.bs
  have HBl := hide hBl
  have HR := hide hr
  have HM := hide hm
  obtain ⟨al, cl, rfl, hll, hcell⟩ := hL
  have hlen : (l.length : Int) ≤ 100000 := by omega
  have HC := hide hcell
  clear hcell hG hr hm hBl hll
  go_enter Tryz.func144, Tryz.ntmps144
  go_wp2_with fail
  have R0 : Row (w.alloc (.cells #[.int .u8 tag] 5)) w.heap.size (.slice (some ⟨w.heap.size, 0, none⟩) 1 1) [tag] := row_of_block (bs := [tag]) (Nat.le_refl _) (heap_alloc_new w _) rfl (by simp [maxLen])
  have hR0 := hide R0
  clear R0
  go_loopw [5, 12] (fun v i wr => ∃ (k m c : Nat) (ao : Option Addr), k ≤ l.length ∧ v = .slice ao m c ∧ i = .int .i64 k ∧ Row wr w.heap.size v (tag :: cat (l.take k)) ∧ Kp [] w wr) (fun _ i _ => l.length - (intOf i).toNat)
  case atStart => exact ⟨0, 1, 1, some ⟨w.heap.size, 0, none⟩, Nat.zero_le _, rfl, rfl, by simpa [cat] using unhide hR0, (Kp.refl [] w).alloc _⟩
  case round =>
    obtain ⟨k, m, c, ao, hk, rfl, rfl, Rr, Kr⟩ := hrel
    by_cases hlt : k < l.length
    · have hlt2 : (k : Int) < (l.length : Int) := by omega
      obtain ⟨b, off, rfl, hc, hS, hB⟩ := unhide HC k hlt
      have hcl : (cat (l.take k)).length ≤ 100000 * 1000000 := by
        have e1 := cat_len (l.take k) 1000000 (fun x hx => unhide HM x (List.mem_of_mem_take hx))
        have e2 : (l.take k).length ≤ 100000 := by simp; omega
        exact Nat.le_trans e1 (Nat.mul_le_mul_right _ e2)
      have hxl := unhide HM l[k] (List.getElem_mem hlt)
      have hE := cat_take l k hlt
      obtain ⟨x, hx⟩ : ∃ x, x = l[k] := ⟨_, rfl⟩
      rw [← hx] at hc hS hxl hE
      have hcw := Kr.cell hc (by simp)
      have hSw := hS.kept Kr (by simp)
      obtain ⟨ax, cx, hxv⟩ : ∃ ax cx, x.1 = .slice ax x.2.length cx := by obtain ⟨ax, cx, e, _⟩ := hS; exact ⟨ax, cx, e⟩
      have HE := hide hE
      rw [hxv] at hSw hcw
      have HSw := hide hSw
      obtain ⟨nx, hnx⟩ : ∃ nx, nx = x.2.length := ⟨_, rfl⟩
      rw [← hnx] at HSw hcw
      clear hE hx hc hS hB hSw hxv HC hnx
      go_wp2_with (at_builtin; refine wpList_append_row rfl (.tmp 16) (.tmp 17) rfl w.heap.size _ _ rfl Rr _ x.2 rfl (unhide HSw) (by simp only [List.length_cons]; omega) Kr.size ?_; intro ao2 m2 c2 w2 r2 s2)
      go_roundw
      case rel =>
        refine ⟨k + 1, m2, c2, ao2, by omega, rfl, by go_num, ?_, Rr.step Kr s2⟩
        rw [unhide HE]; exact r2
      case measure => simp [intOf]; omega
    · obtain rfl : k = l.length := by omega
      rw [List.take_length] at Rr
      have hcl := cat_len l 1000000 (unhide HM)
      have hmul := Nat.mul_le_mul_right 1000000 hn
      have hRr := hide Rr
      have hKr := hide Kr
      have hBt : Hid (Bs (tag :: cat l)) := fun b hb => by
        rcases List.mem_cons.1 hb with rfl | hb
        · exact ⟨h0, h1⟩
        · exact cat_bs l (unhide HBl) b hb
      clear Rr Kr HC
      go_wp2_with (go_at_call 107; refine (sum_at _ (tag :: cat l) r (unhide HR) _ (unhide hRr).sl (unhide hBt) (by simp only [List.length_cons]; omega) ((unhide HG).kept (unhide hKr) (by simp))).mono ?_; rintro ee w3 ⟨ao3, m3, c3, rfl, R3, K3⟩)
      go_ret
      exact ⟨ao3, m3, c3, rfl, owns_rebase R3 (fun i hi => Nat.le_trans (unhide hKr).size (R3.own i hi)), (unhide hKr).trans K3⟩
end Go.Proofs.YtillhpgdlmeajaaGreatDoor

/-
  What chapter 4 fixes, as plain functions of lists of numbers.
-/
namespace Go.Proofs.YtillhpgdlmeajaaGreatDoor
open Go.RowKit
def be4 (n : Int) : List Int := [n / 16777216 % 256, n / 65536 % 256, n / 256 % 256, n % 256]
theorem be4_bs (n : Int) : Bs (be4 n) := by
  intro b hb
  simp only [be4, List.mem_cons, List.not_mem_nil, or_false] at hb
  rcases hb with rfl | rfl | rfl | rfl <;> omega
def secP (seed : List Int) (key bit side : Int) : List Int := sha (10 :: (seed ++ (be4 key ++ [bit % 256, side % 256])))
def shnP (seed : List Int) (key bit side : Int) : List Int := sha (11 :: secP seed key bit side)
def digP (msg : List Int) : Int := val ((sha (13 :: msg)).take 4)
/-- which side of bit j a digest has. -/
def sdP (d : Int) (j : Nat) : Nat := (d / 2 ^ (31 - j) % 2).toNat
theorem sdP_lt (d : Int) (j : Nat) : sdP d j < 2 := by unfold sdP; omega
/-- the part at place i of a key: its secret where c says so. -/
def ptP (seed : List Int) (key : Int) (c : Nat → Nat → Bool) (i : Nat) : List Int :=
  if c (i / 2) (i % 2) then secP seed key (i / 2 : Nat) (i % 2 : Nat) else shnP seed key (i / 2 : Nat) (i % 2 : Nat)
def ptsP (seed : List Int) (key : Int) (c : Nat → Nat → Bool) (n : Nat) : List (List Int) := (List.range n).map (ptP seed key c)
theorem ptsP_succ (seed : List Int) (key : Int) (c : Nat → Nat → Bool) (n : Nat) : ptsP seed key c (n + 1) = ptsP seed key c n ++ [ptP seed key c n] := by
  simp [ptsP, List.range_succ]
def noneC (_ _ : Nat) : Bool := false
def digC (d : Int) (j s : Nat) : Bool := sdP d j == s
def pubP (seed : List Int) (key : Int) : List Int := sha (12 :: (ptsP seed key noneC 64).flatten)
def sgnP (seed : List Int) (key : Int) (d : Int) : List (List Int) := ptsP seed key (digC d) 64
/-- is this what a signature's parts look like? -/
def areP (l : List (List Int)) : Bool := l.length == 64 && l.all (fun x => x.length == 32)
theorem secP_len (seed : List Int) (key bit side : Int) : (secP seed key bit side).length = 32 := sha_len _
theorem shnP_len (seed : List Int) (key bit side : Int) : (shnP seed key bit side).length = 32 := sha_len _
theorem ptP_len (seed : List Int) (key : Int) (c : Nat → Nat → Bool) (i : Nat) : (ptP seed key c i).length = 32 := by
  unfold ptP; split
  · exact secP_len _ _ _ _
  · exact shnP_len _ _ _ _
theorem ptP_bs (seed : List Int) (key : Int) (c : Nat → Nat → Bool) (i : Nat) : Bs (ptP seed key c i) := by
  unfold ptP secP shnP; split <;> exact sha_bs _
theorem pubP_len (seed : List Int) (key : Int) : (pubP seed key).length = 32 := sha_len _
theorem ptsP_len (seed : List Int) (key : Int) (c : Nat → Nat → Bool) (n : Nat) : (ptsP seed key c n).length = n := by simp [ptsP]
theorem digP_bd (msg : List Int) : 0 ≤ digP msg ∧ digP msg ≤ 4294967295 := by
  have h := val_bd ((sha (13 :: msg)).take 4) (fun b hb => sha_bs _ b (List.mem_of_mem_take hb))
  rw [show ((sha (13 :: msg)).take 4).length = 4 by simp [sha_len]] at h
  unfold digP
  omega
end Go.Proofs.YtillhpgdlmeajaaGreatDoor

/-
  The contracts of the reference's Tagged and of the law package's hex.
-/
namespace Go.Proofs.YtillhpgdlmeajaaGreatDoor
open Go.RowKit
set_option maxRecDepth 100000 in
set_option maxHeartbeats 1000000 in
theorem reftagged_any (tag : Int) (vl : Value) (l : List (Value × List Int)) (r : List Int) (hr : r = sha (tag :: cat l)) (w : World) (hL : Lists w vl l) (h0 : 0 ≤ tag) (h1 : tag ≤ 255) (hn : l.length ≤ 100000) (hm : ∀ x ∈ l, x.2.length ≤ 1000000) :
    Calls Tryz.prog 40 #[.int .u8 tag, vl] w fun e w' => ∃ ao m c, e = .returned (.slice ao m c) ∧ Row w' w.heap.size (.slice ao m c) r ∧ Kp [] w w' := by
  have hBl := hL.bs
  have HBl := hide hBl
  have HR := hide hr
  have HM := hide hm
  obtain ⟨al, cl, rfl, hll, hcell⟩ := hL
  have hlen : (l.length : Int) ≤ 100000 := by omega
  have HC := hide hcell
  clear hcell hr hm hBl hll
  go_enter Tryz.func40, Tryz.ntmps40
  go_wp2_with fail
  have R0 : Row (w.alloc (.cells #[.int .u8 tag] 5)) w.heap.size (.slice (some ⟨w.heap.size, 0, none⟩) 1 1) [tag] := row_of_block (bs := [tag]) (Nat.le_refl _) (heap_alloc_new w _) rfl (by simp [maxLen])
  have hR0 := hide R0
  clear R0
  go_loopw [5, 6] (fun v i wr => ∃ (k m c : Nat) (ao : Option Addr), k ≤ l.length ∧ v = .slice ao m c ∧ i = .int .i64 k ∧ Row wr w.heap.size v (tag :: cat (l.take k)) ∧ Kp [] w wr) (fun _ i _ => l.length - (intOf i).toNat)
  case atStart => exact ⟨0, 1, 1, some ⟨w.heap.size, 0, none⟩, Nat.zero_le _, rfl, rfl, by simpa [cat] using unhide hR0, (Kp.refl [] w).alloc _⟩
  case round =>
    obtain ⟨k, m, c, ao, hk, rfl, rfl, Rr, Kr⟩ := hrel
    by_cases hlt : k < l.length
    · have hlt2 : (k : Int) < (l.length : Int) := by omega
      obtain ⟨b, off, rfl, hc, hS, hB⟩ := unhide HC k hlt
      have hcl : (cat (l.take k)).length ≤ 100000 * 1000000 := by
        have e1 := cat_len (l.take k) 1000000 (fun x hx => unhide HM x (List.mem_of_mem_take hx))
        have e2 : (l.take k).length ≤ 100000 := by simp; omega
        exact Nat.le_trans e1 (Nat.mul_le_mul_right _ e2)
      have hxl := unhide HM l[k] (List.getElem_mem hlt)
      have hE := cat_take l k hlt
      obtain ⟨x, hx⟩ : ∃ x, x = l[k] := ⟨_, rfl⟩
      rw [← hx] at hc hS hxl hE
      have hcw := Kr.cell hc (by simp)
      have hSw := hS.kept Kr (by simp)
      obtain ⟨ax, cx, hxv⟩ : ∃ ax cx, x.1 = .slice ax x.2.length cx := by obtain ⟨ax, cx, e, _⟩ := hS; exact ⟨ax, cx, e⟩
      have HE := hide hE
      rw [hxv] at hSw hcw
      have HSw := hide hSw
      obtain ⟨nx, hnx⟩ : ∃ nx, nx = x.2.length := ⟨_, rfl⟩
      rw [← hnx] at HSw hcw
      clear hE hx hc hS hB hSw hxv HC hnx
      go_wp2_with (at_builtin; refine wpList_append_row rfl (.tmp 15) (.tmp 19) rfl w.heap.size _ _ rfl Rr _ x.2 rfl (unhide HSw) (by simp only [List.length_cons]; omega) Kr.size ?_; intro ao2 m2 c2 w2 r2 s2)
      go_roundw
      case rel =>
        refine ⟨k + 1, m2, c2, ao2, by omega, rfl, by go_num, ?_, Rr.step Kr s2⟩
        rw [unhide HE]; exact r2
      case measure => simp [intOf]; omega
    · obtain rfl : k = l.length := by omega
      rw [List.take_length] at Rr
      have hcl := cat_len l 1000000 (unhide HM)
      have hmul := Nat.mul_le_mul_right 1000000 hn
      have hRr := hide Rr
      have hKr := hide Kr
      have hBt : Hid (Bs (tag :: cat l)) := fun b hb => by
        rcases List.mem_cons.1 hb with rfl | hb
        · exact ⟨h0, h1⟩
        · exact cat_bs l (unhide HBl) b hb
      clear Rr Kr HC
      go_wp2_with (go_at_call 69; refine (refsum_at _ (tag :: cat l) r (unhide HR) _ (unhide hRr).sl (unhide hBt) (by simp only [List.length_cons]; omega)).mono ?_; rintro ee w3 ⟨ao3, m3, c3, rfl, R3, K3⟩)
      go_ret
      exact ⟨ao3, m3, c3, rfl, owns_rebase R3 (fun i hi => Nat.le_trans (unhide hKr).size (R3.own i hi)), (unhide hKr).trans K3⟩
end Go.Proofs.YtillhpgdlmeajaaGreatDoor

/-
  Checkpoints: which are right, their bodies; checkpoints (api.Checkpoint) as values.
-/
namespace Go.Proofs.YtillhpgdlmeajaaGreatDoor
open Go.RowKit
open Go.Proofs
/-- the letters that stand ahead of what a log signs. -/
def letC : List Int := [98, 114, 111, 97, 100, 115, 104, 101, 101, 116, 32, 99, 104, 101, 99, 107]
def rgtC (n : Int) (r : List Int) : Bool := decide (0 ≤ n ∧ n ≤ 256) && (r.length == 32)
def bodC (n : Int) (r : List Int) : List Int := if rgtC n r then letC ++ (be4 n ++ r) else []
theorem rgtC_iff (n : Int) (r : List Int) : rgtC n r = true ↔ (0 ≤ n ∧ n ≤ 256) ∧ r.length = 32 := by simp [rgtC]
theorem Tryz.chkSize : (Tryz.prog.info? 68).map (·.size) = some 2 := by kernel_rfl
theorem sl_nlenf {w : World} {ao : Option Addr} {n c : Nat} {bs : List Int} (h : Sl w (.slice ao n c) bs) : n = bs.length := by
  obtain ⟨_, _, e, _⟩ := h
  injection e
/-- v is the checkpoint of these. -/
def CkV (w : World) (v : Value) (n : Int) (r : List Int) : Prop := ∃ a m c, v = .agg #[.int .i64 n, .slice a m c] ∧ Sl w (.slice a m c) r ∧ Bs r
theorem CkV.kept {w w' : World} {v : Value} {n : Int} {r : List Int} (h : CkV w v n r) (k : Kp [] w w') : CkV w' v n r := by
  obtain ⟨a, m, c, e, h1, h2⟩ := h
  exact ⟨a, m, c, e, h1.kept k (by simp), h2⟩
/-- what an operation of a region yields. -/
def CkT (n : Int) (r : List Int) : Tell := fun v w => CkV w v n r
end Go.Proofs.YtillhpgdlmeajaaGreatDoor

/-
  The contracts of Right of a checkpoint: package check's, and the reference's.
-/
namespace Go.Proofs.YtillhpgdlmeajaaGreatDoor
open Go.RowKit
open Go.Proofs
set_option maxRecDepth 100000 in
set_option maxHeartbeats 1000000 in
theorem ckright_any (v : Value) (n : Int) (r : List Int) (b : Bool) (hb : b = rgtC n r) (w : World) (hV : CkV w v n r) :
    Calls Tryz.prog 146 #[v] w fun e w' => e = .returned (.bool b) ∧ Kp [] w w' := by
  obtain ⟨a, m, c, rfl, hS, -⟩ := hV
  have hm := sl_nlenf hS
  have hb2 : b = (decide (0 ≤ n ∧ n ≤ 256) && ((m : Int) == 32)) := by
    rw [hb, hm]
    unfold rgtC
    congr 1
    rw [Bool.eq_iff_iff]
    simp only [beq_iff_eq]
    omega
  have HB := hide hb2
  have HK1 : Hid (Kp [] w (w.alloc (.cells #[.int .i64 n, .slice a m c] 68))) := (Kp.refl [] w).alloc _
  clear hb hb2 hS hm
  by_cases h0 : 0 ≤ n
  · by_cases h1 : n ≤ 256
    · have HE : Hid (b = ((m : Int) == 32)) := hide (by rw [unhide HB]; simp [h0, h1])
      clear HB
      go_enter Tryz.func146, Tryz.ntmps146
      go_wp2_with fail
      go_ret
      exact ⟨by rw [unhide HE]; rfl, unhide HK1⟩
    · have HE : Hid (b = false) := hide (by rw [unhide HB]; simp [h1])
      clear HB
      go_enter Tryz.func146, Tryz.ntmps146
      go_wp2_with fail
      go_ret
      exact ⟨by rw [unhide HE]; rfl, unhide HK1⟩
  · have HE : Hid (b = false) := hide (by rw [unhide HB]; simp [h0])
    clear HB
    go_enter Tryz.func146, Tryz.ntmps146
    go_wp2_with fail
    go_ret
    exact ⟨by rw [unhide HE]; rfl, unhide HK1⟩
end Go.Proofs.YtillhpgdlmeajaaGreatDoor

/-
  What chapter 5 fixes, as plain functions of lists of numbers.
-/
namespace Go.Proofs.YtillhpgdlmeajaaGreatDoor
open Go.RowKit
/-- the node above two. -/
def nodeP (a b : List Int) : List Int := sha (14 :: (a ++ b))
/-- the level above one. -/
def abvP (l : List (List Int)) : List (List Int) := (List.range (l.length / 2)).map fun i => nodeP (l.getD (2 * i) []) (l.getD (2 * i + 1) [])
def lvsP (seed : List Int) (n : Nat) : List (List Int) := (List.range n).map fun i => pubP seed (i : Nat)
/-- an owner's nodes, level for level. -/
def lvP (seed : List Int) : Nat → List (List Int)
  | 0 => lvsP seed 16
  | h + 1 => abvP (lvP seed h)
def sibP (i : Nat) : Nat := if i % 2 = 0 then i + 1 else i - 1
/-- the way up from the leaf i, its first n hashes. -/
def pthP (seed : List Int) (i n : Nat) : List (List Int) := (List.range n).map fun h => (lvP seed h).getD (sibP (i / 2 ^ h)) []
theorem lvsP_succ (seed : List Int) (n : Nat) : lvsP seed (n + 1) = lvsP seed n ++ [pubP seed (n : Nat)] := by simp [lvsP, List.range_succ]
theorem lvsP_len (seed : List Int) (n : Nat) : (lvsP seed n).length = n := by simp [lvsP]
theorem abvP_len (l : List (List Int)) : (abvP l).length = l.length / 2 := by simp [abvP]
theorem nodeP_len (a b : List Int) : (nodeP a b).length = 32 := sha_len _
theorem nodeP_bs (a b : List Int) : Bs (nodeP a b) := sha_bs _
theorem pubP_bs (seed : List Int) (key : Int) : Bs (pubP seed key) := sha_bs _
theorem pthP_succ (seed : List Int) (i n : Nat) : pthP seed i (n + 1) = pthP seed i n ++ [(lvP seed n).getD (sibP (i / 2 ^ n)) []] := by simp [pthP, List.range_succ]
theorem pthP_len (seed : List Int) (i n : Nat) : (pthP seed i n).length = n := by simp [pthP]
theorem lvP_len (seed : List Int) (h : Nat) : (lvP seed h).length = 16 / 2 ^ h := by
  induction h with
  | zero => exact lvsP_len _ _
  | succ h ih => rw [lvP, abvP_len, ih, Nat.pow_succ, Nat.div_div_eq_div_mul]
theorem lvP_all (seed : List Int) (h : Nat) : ∀ x ∈ lvP seed h, x.length = 32 ∧ Bs x := by
  cases h with
  | zero =>
    intro x hx
    obtain ⟨i, _, rfl⟩ := List.mem_map.1 hx
    exact ⟨pubP_len _ _, pubP_bs _ _⟩
  | succ h =>
    intro x hx
    obtain ⟨i, _, rfl⟩ := List.mem_map.1 hx
    exact ⟨nodeP_len _ _, nodeP_bs _ _⟩
theorem getD_mem {l : List (List Int)} {i : Nat} (h : i < l.length) : l.getD i [] ∈ l := by
  rw [List.getD_eq_getElem?_getD, List.getElem?_eq_getElem h]; exact List.getElem_mem h
theorem sib_lt {i m : Nat} (h : i < 2 * m) : sibP i < 2 * m := by unfold sibP; split <;> omega
theorem div_pow_lt {i h : Nat} (hi : i < 16) (hh : h ≤ 4) : i / 2 ^ h < 16 / 2 ^ h := by
  rcases (by omega : h = 0 ∨ h = 1 ∨ h = 2 ∨ h = 3 ∨ h = 4) with rfl | rfl | rfl | rfl | rfl <;> simp <;> omega
theorem sib_lv {i h : Nat} (hi : i < 16) (hh : h < 4) : sibP (i / 2 ^ h) < 16 / 2 ^ h := by
  have := div_pow_lt hi (Nat.le_of_lt hh)
  rcases (by omega : h = 0 ∨ h = 1 ∨ h = 2 ∨ h = 3) with rfl | rfl | rfl | rfl
  · exact sib_lt (m := 8) this
  · exact sib_lt (m := 4) this
  · exact sib_lt (m := 2) this
  · exact sib_lt (m := 1) this
theorem pthP_all (seed : List Int) (i n : Nat) (hi : i < 16) (hn : n ≤ 4) : ∀ x ∈ pthP seed i n, x.length = 32 ∧ Bs x := by
  intro x hx
  obtain ⟨h, hh, rfl⟩ := List.mem_map.1 hx
  have hh2 : h < n := by simpa using hh
  exact lvP_all seed h _ (getD_mem (by rw [lvP_len]; exact sib_lv hi (by omega)))
/-- has a signature its form? -/
def rgtP (i : Int) (ps qs : List (List Int)) : Bool := decide (0 ≤ i ∧ i < 16) && (areP ps && (qs.length == 4 && qs.all (fun x => x.length == 32)))
theorem rgtP_iff (i : Int) (ps qs : List (List Int)) : rgtP i ps qs = true ↔ (0 ≤ i ∧ i < 16) ∧ (ps.length = 64 ∧ ∀ x ∈ ps, x.length = 32) ∧ (qs.length = 4 ∧ ∀ x ∈ qs, x.length = 32) := by
  simp [rgtP, areP]
theorem rgtP_sgn (seed : List Int) (i : Nat) (hi : i < 16) (d : Int) : rgtP (i : Int) (sgnP seed (i : Int) d) (pthP seed i 4) = true := by
  rw [rgtP_iff]
  refine ⟨by omega, ⟨ptsP_len _ _ _ _, fun x hx => ?_⟩, pthP_len _ _ _, fun x hx => (pthP_all seed i 4 hi (Nat.le_refl _) x hx).1⟩
  unfold sgnP ptsP at hx
  obtain ⟨k, _, rfl⟩ := List.mem_map.1 hx
  exact ptP_len _ _ _ _
end Go.Proofs.YtillhpgdlmeajaaGreatDoor
