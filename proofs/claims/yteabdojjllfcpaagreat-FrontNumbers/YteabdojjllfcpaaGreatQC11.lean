/-
  What chapter 4 fixes, as plain functions of lists of numbers.
-/
import Derived.Test.YteabdojjllfcpaaGreatQC6
import Derived.Test.YteabdojjllfcpaaGreatQC9
import Derived.Test.YteabdojjllfcpaaGreatQC3
namespace Go.Proofs.YteabdojjllfcpaaGreat
open Go.RowKit
def be4 (n : Int) : List Int := [n / 16777216 % 256, n / 65536 % 256, n / 256 % 256, n % 256]
theorem be4_bs (n : Int) : Bs (be4 n) := by
  intro b hb
  simp only [be4, List.mem_cons, List.not_mem_nil, or_false] at hb
  rcases hb with rfl | rfl | rfl | rfl <;> omega
def secP (seed : List Int) (key bit side : Int) : List Int := sha (10 :: (seed ++ (be4 key ++ [bit % 256, side % 256])))
def shnP (seed : List Int) (key bit side : Int) : List Int := sha (11 :: secP seed key bit side)
def digP (msg : List Int) : Int := val ((sha (13 :: msg)).take 4)
/-- which side of bit j a digest has. -/
def sdP (d : Int) (j : Nat) : Nat := (d / 2 ^ (31 - j) % 2).toNat
/-- the part at place i of a key: its secret where c says so. -/
def ptP (seed : List Int) (key : Int) (c : Nat → Nat → Bool) (i : Nat) : List Int :=
  if c (i / 2) (i % 2) then secP seed key (i / 2 : Nat) (i % 2 : Nat) else shnP seed key (i / 2 : Nat) (i % 2 : Nat)
def ptsP (seed : List Int) (key : Int) (c : Nat → Nat → Bool) (n : Nat) : List (List Int) := (List.range n).map (ptP seed key c)
theorem ptsP_succ (seed : List Int) (key : Int) (c : Nat → Nat → Bool) (n : Nat) : ptsP seed key c (n + 1) = ptsP seed key c n ++ [ptP seed key c n] := by
  simp [ptsP, List.range_succ]
def noneC (_ _ : Nat) : Bool := false
def digC (d : Int) (j s : Nat) : Bool := sdP d j == s
def pubP (seed : List Int) (key : Int) : List Int := sha (12 :: (ptsP seed key noneC 64).flatten)
def sgnP (seed : List Int) (key : Int) (d : Int) : List (List Int) := ptsP seed key (digC d) 64
theorem secP_len (seed : List Int) (key bit side : Int) : (secP seed key bit side).length = 32 := sha_len _
theorem shnP_len (seed : List Int) (key bit side : Int) : (shnP seed key bit side).length = 32 := sha_len _
theorem ptP_len (seed : List Int) (key : Int) (c : Nat → Nat → Bool) (i : Nat) : (ptP seed key c i).length = 32 := by
  unfold ptP; split
  · exact secP_len _ _ _ _
  · exact shnP_len _ _ _ _
theorem ptP_bs (seed : List Int) (key : Int) (c : Nat → Nat → Bool) (i : Nat) : Bs (ptP seed key c i) := by
  unfold ptP secP shnP; split <;> exact sha_bs _
theorem pubP_len (seed : List Int) (key : Int) : (pubP seed key).length = 32 := sha_len _
end Go.Proofs.YteabdojjllfcpaaGreat

/-
  The contracts of the reference's Tagged and of the law package's hex.
-/
namespace Go.Proofs.YteabdojjllfcpaaGreat
open Go.RowKit
set_option maxRecDepth 100000 in
set_option maxHeartbeats 1000000 in
theorem reftagged_any (tag : Int) (vl : Value) (l : List (Value × List Int)) (r : List Int) (hr : r = sha (tag :: cat l)) (w : World) (hL : Lists w vl l) (h0 : 0 ≤ tag) (h1 : tag ≤ 255) (hn : l.length ≤ 100000) (hm : ∀ x ∈ l, x.2.length ≤ 1000000) :
    Calls Tryz.prog 37 #[.int .u8 tag, vl] w fun e w' => ∃ ao m c, e = .returned (.slice ao m c) ∧ Row w' w.heap.size (.slice ao m c) r ∧ Kp [] w w' := by
  have hBl := hL.bs
  have HBl := hide hBl
  have HR := hide hr
  have HM := hide hm
  obtain ⟨al, cl, rfl, hll, hcell⟩ := hL
  have hlen : (l.length : Int) ≤ 100000 := by omega
  have HC := hide hcell
  clear hcell hr hm hBl hll
  go_enter Tryz.func37, Tryz.ntmps37
  go_wp2_with fail
  have R0 : Row (w.alloc (.cells #[.int .u8 tag] 5)) w.heap.size (.slice (some ⟨w.heap.size, 0, none⟩) 1 1) [tag] := row_of_block (bs := [tag]) (Nat.le_refl _) (heap_alloc_new w _) rfl (by simp [maxLen])
  have hR0 := hide R0
  clear R0
  go_loopw [5, 6] (fun v i wr => ∃ (k m c : Nat) (ao : Option Addr), k ≤ l.length ∧ v = .slice ao m c ∧ i = .int .i64 k ∧ Row wr w.heap.size v (tag :: cat (l.take k)) ∧ Kp [] w wr) (fun _ i _ => l.length - (intOf i).toNat)
  case atStart => exact ⟨0, 1, 1, some ⟨w.heap.size, 0, none⟩, Nat.zero_le _, rfl, rfl, by simpa [cat] using unhide hR0, (Kp.refl [] w).alloc _⟩
  case round =>
    obtain ⟨k, m, c, ao, hk, rfl, rfl, Rr, Kr⟩ := hrel
    by_cases hlt : k < l.length
    · have hlt2 : (k : Int) < (l.length : Int) := by omega
      obtain ⟨b, off, rfl, hc, hS, hB⟩ := unhide HC k hlt
      have hcl : (cat (l.take k)).length ≤ 100000 * 1000000 := by
        have e1 := cat_len (l.take k) 1000000 (fun x hx => unhide HM x (List.mem_of_mem_take hx))
        have e2 : (l.take k).length ≤ 100000 := by simp; omega
        exact Nat.le_trans e1 (Nat.mul_le_mul_right _ e2)
      have hxl := unhide HM l[k] (List.getElem_mem hlt)
      have hE := cat_take l k hlt
      obtain ⟨x, hx⟩ : ∃ x, x = l[k] := ⟨_, rfl⟩
      rw [← hx] at hc hS hxl hE
      have hcw := Kr.cell hc (by simp)
      have hSw := hS.kept Kr (by simp)
      obtain ⟨ax, cx, hxv⟩ : ∃ ax cx, x.1 = .slice ax x.2.length cx := by obtain ⟨ax, cx, e, _⟩ := hS; exact ⟨ax, cx, e⟩
      have HE := hide hE
      rw [hxv] at hSw hcw
      have HSw := hide hSw
      obtain ⟨nx, hnx⟩ : ∃ nx, nx = x.2.length := ⟨_, rfl⟩
      rw [← hnx] at HSw hcw
      clear hE hx hc hS hB hSw hxv HC hnx
      go_wp2_with (at_builtin; refine wpList_append_row rfl (.tmp 15) (.tmp 19) rfl w.heap.size _ _ rfl Rr _ x.2 rfl (unhide HSw) (by simp only [List.length_cons]; omega) Kr.size ?_; intro ao2 m2 c2 w2 r2 s2)
      go_roundw
      case rel =>
        refine ⟨k + 1, m2, c2, ao2, by omega, rfl, by go_num, ?_, Rr.step Kr s2⟩
        rw [unhide HE]; exact r2
      case measure => simp [intOf]; omega
    · obtain rfl : k = l.length := by omega
      rw [List.take_length] at Rr
      have hcl := cat_len l 1000000 (unhide HM)
      have hmul := Nat.mul_le_mul_right 1000000 hn
      have hRr := hide Rr
      have hKr := hide Kr
      have hBt : Hid (Bs (tag :: cat l)) := fun b hb => by
        rcases List.mem_cons.1 hb with rfl | hb
        · exact ⟨h0, h1⟩
        · exact cat_bs l (unhide HBl) b hb
      clear Rr Kr HC
      go_wp2_with (go_at_call 76; refine (refsum_at _ (tag :: cat l) r (unhide HR) _ (unhide hRr).sl (unhide hBt) (by simp only [List.length_cons]; omega)).mono ?_; rintro ee w3 ⟨ao3, m3, c3, rfl, R3, K3⟩)
      go_ret
      exact ⟨ao3, m3, c3, rfl, owns_rebase R3 (fun i hi => Nat.le_trans (unhide hKr).size (R3.own i hi)), (unhide hKr).trans K3⟩
end Go.Proofs.YteabdojjllfcpaaGreat

/-
  Checkpoints: which are right, their bodies; checkpoints (api.Checkpoint) as values.
-/
namespace Go.Proofs.YteabdojjllfcpaaGreat
open Go.RowKit
open Go.Proofs
/-- the letters that stand ahead of what a log signs. -/
def letC : List Int := [98, 114, 111, 97, 100, 115, 104, 101, 101, 116, 32, 99, 104, 101, 99, 107]
def rgtC (n : Int) (r : List Int) : Bool := decide (0 ≤ n ∧ n ≤ 256) && (r.length == 32)
def bodC (n : Int) (r : List Int) : List Int := if rgtC n r then letC ++ (be4 n ++ r) else []
/-- v is the checkpoint of these. -/
def CkV (w : World) (v : Value) (n : Int) (r : List Int) : Prop := ∃ a m c, v = .agg #[.int .i64 n, .slice a m c] ∧ Sl w (.slice a m c) r ∧ Bs r
theorem CkV.kept {w w' : World} {v : Value} {n : Int} {r : List Int} (h : CkV w v n r) (k : Kp [] w w') : CkV w' v n r := by
  obtain ⟨a, m, c, e, h1, h2⟩ := h
  exact ⟨a, m, c, e, h1.kept k (by simp), h2⟩
end Go.Proofs.YteabdojjllfcpaaGreat

/-
  What chapter 5 fixes, as plain functions of lists of numbers.
-/
namespace Go.Proofs.YteabdojjllfcpaaGreat
open Go.RowKit
/-- the node above two. -/
def nodeP (a b : List Int) : List Int := sha (14 :: (a ++ b))
/-- the level above one. -/
def abvP (l : List (List Int)) : List (List Int) := (List.range (l.length / 2)).map fun i => nodeP (l.getD (2 * i) []) (l.getD (2 * i + 1) [])
def lvsP (seed : List Int) (n : Nat) : List (List Int) := (List.range n).map fun i => pubP seed (i : Nat)
/-- an owner's nodes, level for level. -/
def lvP (seed : List Int) : Nat → List (List Int)
  | 0 => lvsP seed 16
  | h + 1 => abvP (lvP seed h)
def sibP (i : Nat) : Nat := if i % 2 = 0 then i + 1 else i - 1
/-- the way up from the leaf i, its first n hashes. -/
def pthP (seed : List Int) (i n : Nat) : List (List Int) := (List.range n).map fun h => (lvP seed h).getD (sibP (i / 2 ^ h)) []
theorem lvsP_succ (seed : List Int) (n : Nat) : lvsP seed (n + 1) = lvsP seed n ++ [pubP seed (n : Nat)] := by simp [lvsP, List.range_succ]
theorem lvsP_len (seed : List Int) (n : Nat) : (lvsP seed n).length = n := by simp [lvsP]
theorem abvP_len (l : List (List Int)) : (abvP l).length = l.length / 2 := by simp [abvP]
theorem nodeP_len (a b : List Int) : (nodeP a b).length = 32 := sha_len _
theorem nodeP_bs (a b : List Int) : Bs (nodeP a b) := sha_bs _
theorem pubP_bs (seed : List Int) (key : Int) : Bs (pubP seed key) := sha_bs _
theorem lvP_len (seed : List Int) (h : Nat) : (lvP seed h).length = 16 / 2 ^ h := by
  induction h with
  | zero => exact lvsP_len _ _
  | succ h ih => rw [lvP, abvP_len, ih, Nat.pow_succ, Nat.div_div_eq_div_mul]
theorem lvP_all (seed : List Int) (h : Nat) : ∀ x ∈ lvP seed h, x.length = 32 ∧ Bs x := by
  cases h with
  | zero =>
    intro x hx
    obtain ⟨i, _, rfl⟩ := List.mem_map.1 hx
    exact ⟨pubP_len _ _, pubP_bs _ _⟩
  | succ h =>
    intro x hx
    obtain ⟨i, _, rfl⟩ := List.mem_map.1 hx
    exact ⟨nodeP_len _ _, nodeP_bs _ _⟩
theorem getD_mem {l : List (List Int)} {i : Nat} (h : i < l.length) : l.getD i [] ∈ l := by
  rw [List.getD_eq_getElem?_getD, List.getElem?_eq_getElem h]; exact List.getElem_mem h
end Go.Proofs.YteabdojjllfcpaaGreat
