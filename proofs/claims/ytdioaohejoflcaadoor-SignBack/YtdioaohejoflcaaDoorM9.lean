/-
  The contracts of the program's Tagged and Same.
-/
import Derived.Test.YtdioaohejoflcaaDoorM7
import Derived.Test.YtdioaohejoflcaaDoorM6
import Derived.Test.YtdioaohejoflcaaDoorM5
namespace Go.Proofs.YtdioaohejoflcaaDoor
open Go.RowKit

set_option maxRecDepth 100000 in
set_option maxHeartbeats 1000000 in
theorem tagged_any (tag : Int) (vl : Value) (l : List (Value × List Int)) (r : List Int) (hr : r = sha (tag :: cat l)) (w : World) (hL : Lists w vl l) (h0 : 0 ≤ tag) (h1 : tag ≤ 255) (hn : l.length ≤ 100000) (hm : ∀ x ∈ l, x.2.length ≤ 1000000) (hG : Gl w) :
    Calls Tryd.prog 79 #[.int .u8 tag, vl] w fun e w' => ∃ ao m c, e = .returned (.slice ao m c) ∧ Row w' w.heap.size (.slice ao m c) r ∧ Kp [] w w' := by
  have HG := hide hG
  have hBl := hL.bs
  have HBl := hide hBl
  have HR := hide hr
  have HM := hide hm
  obtain ⟨al, cl, rfl, hll, hcell⟩ := hL
  have hlen : (l.length : Int) ≤ 100000 := by omega
  have HC := hide hcell
  clear hcell hG hr hm hBl hll
  go_enter Tryd.func79, Tryd.ntmps79
  go_wp2_with fail
  have R0 : Row (w.alloc (.cells #[.int .u8 tag] 5)) w.heap.size (.slice (some ⟨w.heap.size, 0, none⟩) 1 1) [tag] := row_of_block (bs := [tag]) (Nat.le_refl _) (heap_alloc_new w _) rfl (by simp [maxLen])
  have hR0 := hide R0
  clear R0
  go_loopw [5, 12] (fun v i wr => ∃ (k m c : Nat) (ao : Option Addr), k ≤ l.length ∧ v = .slice ao m c ∧ i = .int .i64 k ∧ Row wr w.heap.size v (tag :: cat (l.take k)) ∧ Kp [] w wr) (fun _ i _ => l.length - (intOf i).toNat)
  case atStart => exact ⟨0, 1, 1, some ⟨w.heap.size, 0, none⟩, Nat.zero_le _, rfl, rfl, by simpa [cat] using unhide hR0, (Kp.refl [] w).alloc _⟩
  case round =>
    obtain ⟨k, m, c, ao, hk, rfl, rfl, Rr, Kr⟩ := hrel
    by_cases hlt : k < l.length
    · have hlt2 : (k : Int) < (l.length : Int) := by omega
      obtain ⟨b, off, rfl, hc, hS, hB⟩ := unhide HC k hlt
      have hcl : (cat (l.take k)).length ≤ 100000 * 1000000 := by
        have e1 := cat_len (l.take k) 1000000 (fun x hx => unhide HM x (List.mem_of_mem_take hx))
        have e2 : (l.take k).length ≤ 100000 := by simp; omega
        exact Nat.le_trans e1 (Nat.mul_le_mul_right _ e2)
      have hxl := unhide HM l[k] (List.getElem_mem hlt)
      have hE := cat_take l k hlt
      obtain ⟨x, hx⟩ : ∃ x, x = l[k] := ⟨_, rfl⟩
      rw [← hx] at hc hS hxl hE
      have hcw := Kr.cell hc (by simp)
      have hSw := hS.kept Kr (by simp)
      obtain ⟨ax, cx, hxv⟩ : ∃ ax cx, x.1 = .slice ax x.2.length cx := by obtain ⟨ax, cx, e, _⟩ := hS; exact ⟨ax, cx, e⟩
      have HE := hide hE
      rw [hxv] at hSw hcw
      have HSw := hide hSw
      obtain ⟨nx, hnx⟩ : ∃ nx, nx = x.2.length := ⟨_, rfl⟩
      rw [← hnx] at HSw hcw
      clear hE hx hc hS hB hSw hxv HC hnx
      go_wp2_with (at_builtin; refine wpList_append_row rfl (.tmp 16) (.tmp 17) rfl w.heap.size _ _ rfl Rr _ x.2 rfl (unhide HSw) (by simp only [List.length_cons]; omega) Kr.size ?_; intro ao2 m2 c2 w2 r2 s2)
      go_roundw
      case rel =>
        refine ⟨k + 1, m2, c2, ao2, by omega, rfl, by go_num, ?_, Rr.step Kr s2⟩
        rw [unhide HE]; exact r2
      case measure => simp [intOf]; omega
    · obtain rfl : k = l.length := by omega
      rw [List.take_length] at Rr
      have hcl := cat_len l 1000000 (unhide HM)
      have hmul := Nat.mul_le_mul_right 1000000 hn
      have hRr := hide Rr
      have hKr := hide Kr
      have hBt : Hid (Bs (tag :: cat l)) := fun b hb => by
        rcases List.mem_cons.1 hb with rfl | hb
        · exact ⟨h0, h1⟩
        · exact cat_bs l (unhide HBl) b hb
      clear Rr Kr HC
      go_wp2_with (go_at_call 84; refine (sum_at _ (tag :: cat l) r (unhide HR) _ (unhide hRr).sl (unhide hBt) (by simp only [List.length_cons]; omega) ((unhide HG).kept (unhide hKr) (by simp))).mono ?_; rintro ee w3 ⟨ao3, m3, c3, rfl, R3, K3⟩)
      go_ret
      exact ⟨ao3, m3, c3, rfl, owns_rebase R3 (fun i hi => Nat.le_trans (unhide hKr).size (R3.own i hi)), (unhide hKr).trans K3⟩

theorem equal_any (v1 v2 : Value) (bs cs : List Int) (S T : ByteArray) (hs : S = strOfNums bs) (ht : T = strOfNums cs) (w : World) (h1 : Sl w v1 bs) (h2 : Sl w v2 cs) :
    Calls Tryd.prog 69 #[v1, v2] w fun e w' => e = .returned (.bool (S.toList == T.toList)) ∧ w' = w := by
  have c1 := h1.conv (P := Tryd.prog) 24 9 5 Tryd.underlying24 Tryd.underlying5 Tryd.underlying9
  have c2 := h2.conv (P := Tryd.prog) 24 9 5 Tryd.underlying24 Tryd.underlying5 Tryd.underlying9
  rw [← hs] at c1
  rw [← ht] at c2
  clear hs ht
  obtain ⟨a1, x1, rfl, _⟩ := h1
  obtain ⟨a2, x2, rfl, _⟩ := h2
  go_enter Tryd.func69, Tryd.ntmps69
  go_wp2_with fail
  go_ret
  exact ⟨rfl, rfl⟩
theorem samehash_any (v1 v2 : Value) (bs cs : List Int) (S T : ByteArray) (hs : S = strOfNums bs) (ht : T = strOfNums cs) (w : World) (h1 : Sl w v1 bs) (h2 : Sl w v2 cs) :
    Calls Tryd.prog 39 #[v1, v2] w fun e w' => e = .returned (.bool (S.toList == T.toList)) ∧ w' = w := by
  have HC := hide (equal_any v1 v2 bs cs S T hs ht w h1 h2)
  clear h1 h2 hs ht
  go_enter Tryd.func39, Tryd.ntmps39
  go_wp2_with (go_at_call 69; refine (unhide HC).mono ?_; rintro ee w2 ⟨rfl, hw⟩; subst w2)
  go_ret
  exact ⟨rfl, rfl⟩
end Go.Proofs.YtdioaohejoflcaaDoor

/-
  What chapter 4 fixes, as plain functions of lists of numbers.
-/
namespace Go.Proofs.YtdioaohejoflcaaDoor
open Go.RowKit

def be4 (n : Int) : List Int := [n / 16777216 % 256, n / 65536 % 256, n / 256 % 256, n % 256]
theorem be4_bs (n : Int) : Bs (be4 n) := by
  intro b hb
  simp only [be4, List.mem_cons, List.not_mem_nil, or_false] at hb
  rcases hb with rfl | rfl | rfl | rfl <;> omega
def secP (seed : List Int) (key bit side : Int) : List Int := sha (10 :: (seed ++ (be4 key ++ [bit % 256, side % 256])))
def shnP (seed : List Int) (key bit side : Int) : List Int := sha (11 :: secP seed key bit side)
def digP (msg : List Int) : Int := val ((sha (13 :: msg)).take 4)
/-- which side of bit j a digest has. -/
def sdP (d : Int) (j : Nat) : Nat := (d / 2 ^ (31 - j) % 2).toNat
theorem sdP_lt (d : Int) (j : Nat) : sdP d j < 2 := by unfold sdP; omega
/-- the part at place i of a key: its secret where c says so. -/
def ptP (seed : List Int) (key : Int) (c : Nat → Nat → Bool) (i : Nat) : List Int :=
  if c (i / 2) (i % 2) then secP seed key (i / 2 : Nat) (i % 2 : Nat) else shnP seed key (i / 2 : Nat) (i % 2 : Nat)
def ptsP (seed : List Int) (key : Int) (c : Nat → Nat → Bool) (n : Nat) : List (List Int) := (List.range n).map (ptP seed key c)
theorem ptsP_succ (seed : List Int) (key : Int) (c : Nat → Nat → Bool) (n : Nat) : ptsP seed key c (n + 1) = ptsP seed key c n ++ [ptP seed key c n] := by
  simp [ptsP, List.range_succ]
def noneC (_ _ : Nat) : Bool := false
def digC (d : Int) (j s : Nat) : Bool := sdP d j == s
def pubP (seed : List Int) (key : Int) : List Int := sha (12 :: (ptsP seed key noneC 64).flatten)
def sgnP (seed : List Int) (key : Int) (d : Int) : List (List Int) := ptsP seed key (digC d) 64
/-- a part as Root takes it. -/
def rtP (d : Int) (i : Nat) (x : List Int) : List Int := if digC d (i / 2) (i % 2) then sha (11 :: x) else x
def rtsP (d : Int) (l : List (List Int)) : List (List Int) := l.mapIdx (rtP d)
def rootP (d : Int) (l : List (List Int)) : List Int := sha (12 :: (rtsP d l).flatten)
/-- is this what a signature's parts look like? -/
def areP (l : List (List Int)) : Bool := l.length == 64 && l.all (fun x => x.length == 32)

theorem secP_len (seed : List Int) (key bit side : Int) : (secP seed key bit side).length = 32 := sha_len _
theorem shnP_len (seed : List Int) (key bit side : Int) : (shnP seed key bit side).length = 32 := sha_len _
theorem ptP_len (seed : List Int) (key : Int) (c : Nat → Nat → Bool) (i : Nat) : (ptP seed key c i).length = 32 := by
  unfold ptP; split
  · exact secP_len _ _ _ _
  · exact shnP_len _ _ _ _
theorem ptP_bs (seed : List Int) (key : Int) (c : Nat → Nat → Bool) (i : Nat) : Bs (ptP seed key c i) := by
  unfold ptP secP shnP; split <;> exact sha_bs _
theorem pubP_len (seed : List Int) (key : Int) : (pubP seed key).length = 32 := sha_len _
theorem ptsP_len (seed : List Int) (key : Int) (c : Nat → Nat → Bool) (n : Nat) : (ptsP seed key c n).length = n := by simp [ptsP]
theorem rtsP_sgn (seed : List Int) (key d : Int) : rtsP d (sgnP seed key d) = ptsP seed key noneC 64 := by
  unfold rtsP sgnP ptsP
  apply List.ext_getElem
  · simp
  · intro i h1 h2
    simp only [List.getElem_mapIdx, List.getElem_map, List.getElem_range]
    unfold rtP ptP noneC
    by_cases h : digC d (i / 2) (i % 2)
    · simp [h, shnP]
    · simp [h]
theorem rootP_sgn (seed : List Int) (key d : Int) : rootP d (sgnP seed key d) = pubP seed key := by
  unfold rootP pubP
  rw [rtsP_sgn]
theorem areP_sgn (seed : List Int) (key d : Int) : areP (sgnP seed key d) = true := by
  unfold areP sgnP
  simp [ptsP_len]
  simp [ptsP, ptP_len]
theorem digP_bd (msg : List Int) : 0 ≤ digP msg ∧ digP msg ≤ 4294967295 := by
  have h := val_bd ((sha (13 :: msg)).take 4) (fun b hb => sha_bs _ b (List.mem_of_mem_take hb))
  rw [show ((sha (13 :: msg)).take 4).length = 4 by simp [sha_len]] at h
  unfold digP
  omega

theorem or_nat (k x y : Nat) (hy : y < 2 ^ k) (hx : 2 ^ k * x + y < 4294967296) : bits .or .u32 ((2 ^ k * x : Nat) : Int) (y : Int) = ((2 ^ k * x + y : Nat) : Int) := by
  have e1 : (BitVec.ofInt 32 ((2 ^ k * x : Nat) : Int)).toNat = 2 ^ k * x := by
    rw [BitVec.ofInt_natCast, BitVec.toNat_ofNat]; exact Nat.mod_eq_of_lt (by omega)
  have e2 : (BitVec.ofInt 32 (y : Int)).toNat = y := by
    rw [BitVec.ofInt_natCast, BitVec.toNat_ofNat]; exact Nat.mod_eq_of_lt (by omega)
  show IntKind.u32.wrap ((BitVec.ofInt 32 ((2 ^ k * x : Nat) : Int) ||| BitVec.ofInt 32 (y : Int)).toNat : Int) = _
  rw [BitVec.toNat_or, e1, e2, ← Nat.two_pow_add_eq_or_of_lt hy x]
  obtain ⟨z, hz⟩ : ∃ z, z = 2 ^ k * x + y := ⟨_, rfl⟩
  rw [← hz] at hx ⊢
  simp [IntKind.wrap, IntKind.signed, IntKind.bits]
  omega
theorem val4 (a b c d : Int) : val [a, b, c, d] = a * 16777216 + b * 65536 + c * 256 + d := by simp [val]; omega
theorem wd_val (a b c d : Int) (ha : 0 ≤ a ∧ a ≤ 255) (hb : 0 ≤ b ∧ b ≤ 255) (hc : 0 ≤ c ∧ c ≤ 255) (hd : 0 ≤ d ∧ d ≤ 255) : wd a b c d = val [a, b, c, d] := by
  obtain ⟨x, rfl⟩ := Int.eq_ofNat_of_zero_le ha.1
  obtain ⟨y, rfl⟩ := Int.eq_ofNat_of_zero_le hb.1
  obtain ⟨z, rfl⟩ := Int.eq_ofNat_of_zero_le hc.1
  obtain ⟨u, rfl⟩ := Int.eq_ofNat_of_zero_le hd.1
  rw [val4]
  unfold wd
  have e1 := or_nat 24 x (y * 65536) (by omega) (by omega)
  have e2 := or_nat 16 (x * 256 + y) (z * 256) (by omega) (by omega)
  have e3 := or_nat 8 (x * 65536 + y * 256 + z) u (by omega) (by omega)
  rw [show ((x : Int) * 16777216) = ((2 ^ 24 * x : Nat) : Int) by omega, show ((y : Int) * 65536) = ((y * 65536 : Nat) : Int) by omega, e1,
    show ((2 ^ 24 * x + y * 65536 : Nat) : Int) = ((2 ^ 16 * (x * 256 + y) : Nat) : Int) by omega, show ((z : Int) * 256) = ((z * 256 : Nat) : Int) by omega, e2,
    show ((2 ^ 16 * (x * 256 + y) + z * 256 : Nat) : Int) = ((2 ^ 8 * (x * 65536 + y * 256 + z) : Nat) : Int) by omega, e3]
  omega
end Go.Proofs.YtdioaohejoflcaaDoor

/-
  What chapter 5 fixes, as plain functions of lists of numbers.
-/
namespace Go.Proofs.YtdioaohejoflcaaDoor
open Go.RowKit

/-- the node above two. -/
def nodeP (a b : List Int) : List Int := sha (14 :: (a ++ b))
/-- the level above one. -/
def abvP (l : List (List Int)) : List (List Int) := (List.range (l.length / 2)).map fun i => nodeP (l.getD (2 * i) []) (l.getD (2 * i + 1) [])
def lvsP (seed : List Int) (n : Nat) : List (List Int) := (List.range n).map fun i => pubP seed (i : Nat)
/-- an owner's nodes, level for level. -/
def lvP (seed : List Int) : Nat → List (List Int)
  | 0 => lvsP seed 16
  | h + 1 => abvP (lvP seed h)
def topP (seed : List Int) : List Int := (lvP seed 4).getD 0 []
def sibP (i : Nat) : Nat := if i % 2 = 0 then i + 1 else i - 1
/-- the way up from the leaf i, its first n hashes. -/
def pthP (seed : List Int) (i n : Nat) : List (List Int) := (List.range n).map fun h => (lvP seed h).getD (sibP (i / 2 ^ h)) []
/-- what a leaf is led up to. -/
def ledP (x : List Int) (i : Nat) : List (List Int) → List Int
  | [] => x
  | o :: l => ledP (if i % 2 = 0 then nodeP x o else nodeP o x) (i / 2) l

theorem lvsP_succ (seed : List Int) (n : Nat) : lvsP seed (n + 1) = lvsP seed n ++ [pubP seed (n : Nat)] := by simp [lvsP, List.range_succ]
theorem lvsP_len (seed : List Int) (n : Nat) : (lvsP seed n).length = n := by simp [lvsP]
theorem abvP_len (l : List (List Int)) : (abvP l).length = l.length / 2 := by simp [abvP]
theorem nodeP_len (a b : List Int) : (nodeP a b).length = 32 := sha_len _
theorem nodeP_bs (a b : List Int) : Bs (nodeP a b) := sha_bs _
theorem pubP_bs (seed : List Int) (key : Int) : Bs (pubP seed key) := sha_bs _
theorem pthP_succ (seed : List Int) (i n : Nat) : pthP seed i (n + 1) = pthP seed i n ++ [(lvP seed n).getD (sibP (i / 2 ^ n)) []] := by simp [pthP, List.range_succ]
theorem pthP_len (seed : List Int) (i n : Nat) : (pthP seed i n).length = n := by simp [pthP]
theorem lvP_len (seed : List Int) (h : Nat) : (lvP seed h).length = 16 / 2 ^ h := by
  induction h with
  | zero => exact lvsP_len _ _
  | succ h ih => rw [lvP, abvP_len, ih, Nat.pow_succ, Nat.div_div_eq_div_mul]
theorem lvP_all (seed : List Int) (h : Nat) : ∀ x ∈ lvP seed h, x.length = 32 ∧ Bs x := by
  cases h with
  | zero =>
    intro x hx
    obtain ⟨i, _, rfl⟩ := List.mem_map.1 hx
    exact ⟨pubP_len _ _, pubP_bs _ _⟩
  | succ h =>
    intro x hx
    obtain ⟨i, _, rfl⟩ := List.mem_map.1 hx
    exact ⟨nodeP_len _ _, nodeP_bs _ _⟩
theorem getD_mem {l : List (List Int)} {i : Nat} (h : i < l.length) : l.getD i [] ∈ l := by
  rw [List.getD_eq_getElem?_getD, List.getElem?_eq_getElem h]; exact List.getElem_mem h
theorem topP_ok (seed : List Int) : (topP seed).length = 32 ∧ Bs (topP seed) := lvP_all seed 4 _ (getD_mem (by rw [lvP_len]; decide))
theorem sib_lt {i m : Nat} (h : i < 2 * m) : sibP i < 2 * m := by unfold sibP; split <;> omega
theorem div_pow_lt {i h : Nat} (hi : i < 16) (hh : h ≤ 4) : i / 2 ^ h < 16 / 2 ^ h := by
  rcases (by omega : h = 0 ∨ h = 1 ∨ h = 2 ∨ h = 3 ∨ h = 4) with rfl | rfl | rfl | rfl | rfl <;> simp <;> omega
theorem sib_lv {i h : Nat} (hi : i < 16) (hh : h < 4) : sibP (i / 2 ^ h) < 16 / 2 ^ h := by
  have := div_pow_lt hi (Nat.le_of_lt hh)
  rcases (by omega : h = 0 ∨ h = 1 ∨ h = 2 ∨ h = 3) with rfl | rfl | rfl | rfl
  · exact sib_lt (m := 8) this
  · exact sib_lt (m := 4) this
  · exact sib_lt (m := 2) this
  · exact sib_lt (m := 1) this
theorem pthP_all (seed : List Int) (i n : Nat) (hi : i < 16) (hn : n ≤ 4) : ∀ x ∈ pthP seed i n, x.length = 32 ∧ Bs x := by
  intro x hx
  obtain ⟨h, hh, rfl⟩ := List.mem_map.1 hx
  have hh2 : h < n := by simpa using hh
  exact lvP_all seed h _ (getD_mem (by rw [lvP_len]; exact sib_lv hi (by omega)))
theorem ledP_snoc (x : List Int) (i : Nat) (l : List (List Int)) (o : List Int) : ledP x i (l ++ [o]) = if i / 2 ^ l.length % 2 = 0 then nodeP (ledP x i l) o else nodeP o (ledP x i l) := by
  induction l generalizing x i with
  | nil => simp [ledP]
  | cons a l ih =>
    rw [List.cons_append, ledP, ih, List.length_cons, Nat.pow_succ, Nat.mul_comm, ← Nat.div_div_eq_div_mul]
    rfl
theorem abvP_at (l : List (List Int)) (j : Nat) (h : j < l.length / 2) : (abvP l).getD j [] = nodeP (l.getD (2 * j) []) (l.getD (2 * j + 1) []) := by
  rw [List.getD_eq_getElem?_getD]
  simp [abvP, List.getElem?_range h]
/-- P5.3: a key's public is led up to the owner's. -/
theorem ledP_top (seed : List Int) (i : Nat) (hi : i < 16) : ∀ n, n ≤ 4 → ledP (pubP seed (i : Nat)) i (pthP seed i n) = (lvP seed n).getD (i / 2 ^ n) [] := by
  intro n
  induction n with
  | zero =>
    intro _
    show pubP seed (i : Nat) = (lvsP seed 16).getD (i / 1) []
    rw [Nat.div_one, List.getD_eq_getElem?_getD]
    simp [lvsP, List.getElem?_range hi]
  | succ n ih =>
    intro hn
    rw [pthP_succ, ledP_snoc, ih (by omega), pthP_len]
    have hd := div_pow_lt hi hn
    have hl := lvP_len seed n
    have e : i / 2 ^ (n + 1) = i / 2 ^ n / 2 := by rw [Nat.pow_succ, Nat.div_div_eq_div_mul]
    have e2 : 16 / 2 ^ (n + 1) = 16 / 2 ^ n / 2 := by rw [Nat.pow_succ, Nat.div_div_eq_div_mul]
    rw [e, e2] at hd
    rw [lvP, e, abvP_at _ _ (by rw [hl]; exact hd)]
    generalize i / 2 ^ n = j at *
    unfold sibP
    by_cases h : j % 2 = 0
    · rw [if_pos h, if_pos h]
      rw [show 2 * (j / 2) = j by omega]
    · rw [if_neg h, if_neg h]
      rw [show 2 * (j / 2) = j - 1 by omega, show j - 1 + 1 = j by omega]

/-- has a signature its form? -/
def rgtP (i : Int) (ps qs : List (List Int)) : Bool := decide (0 ≤ i ∧ i < 16) && (areP ps && (qs.length == 4 && qs.all (fun x => x.length == 32)))
theorem rgtP_iff (i : Int) (ps qs : List (List Int)) : rgtP i ps qs = true ↔ (0 ≤ i ∧ i < 16) ∧ (ps.length = 64 ∧ ∀ x ∈ ps, x.length = 32) ∧ (qs.length = 4 ∧ ∀ x ∈ qs, x.length = 32) := by
  simp [rgtP, areP]
def verP (pub ms : List Int) (i : Int) (ps qs : List (List Int)) : Bool := rgtP i ps qs && decide (ledP (rootP (digP ms) ps) i.toNat qs = pub)
def encP (i : Int) (ps qs : List (List Int)) : List Int := be4 i ++ (ps.flatten ++ qs.flatten)
def chP (n : Nat) (b : List Int) : List (List Int) := (List.range n).map fun i => (b.drop (32 * i)).take 32
def decOk (b : List Int) : Bool := b.length == 2180 && decide (val (b.take 4) < 16)
theorem rgtP_sgn (seed : List Int) (i : Nat) (hi : i < 16) (d : Int) : rgtP (i : Int) (sgnP seed (i : Int) d) (pthP seed i 4) = true := by
  rw [rgtP_iff]
  refine ⟨by omega, ⟨ptsP_len _ _ _ _, fun x hx => ?_⟩, pthP_len _ _ _, fun x hx => (pthP_all seed i 4 hi (Nat.le_refl _) x hx).1⟩
  unfold sgnP ptsP at hx
  obtain ⟨k, _, rfl⟩ := List.mem_map.1 hx
  exact ptP_len _ _ _ _
theorem verP_sgn (seed ms : List Int) (i : Nat) (hi : i < 16) : verP (topP seed) ms (i : Int) (sgnP seed (i : Int) (digP ms)) (pthP seed i 4) = true := by
  unfold verP
  rw [rgtP_sgn seed i hi, rootP_sgn]
  have h := ledP_top seed i hi 4 (Nat.le_refl _)
  rw [show i / 2 ^ 4 = 0 by simp; omega] at h
  simp only [Int.toNat_natCast, Bool.true_and, decide_eq_true_eq]
  exact h
end Go.Proofs.YtdioaohejoflcaaDoor

/-
  The contracts of the reference's Tagged and of the law package's hex.
-/
namespace Go.Proofs.YtdioaohejoflcaaDoor
open Go.RowKit

set_option maxRecDepth 100000 in
set_option maxHeartbeats 1000000 in
theorem reftagged_any (tag : Int) (vl : Value) (l : List (Value × List Int)) (r : List Int) (hr : r = sha (tag :: cat l)) (w : World) (hL : Lists w vl l) (h0 : 0 ≤ tag) (h1 : tag ≤ 255) (hn : l.length ≤ 100000) (hm : ∀ x ∈ l, x.2.length ≤ 1000000) :
    Calls Tryd.prog 29 #[.int .u8 tag, vl] w fun e w' => ∃ ao m c, e = .returned (.slice ao m c) ∧ Row w' w.heap.size (.slice ao m c) r ∧ Kp [] w w' := by
  have hBl := hL.bs
  have HBl := hide hBl
  have HR := hide hr
  have HM := hide hm
  obtain ⟨al, cl, rfl, hll, hcell⟩ := hL
  have hlen : (l.length : Int) ≤ 100000 := by omega
  have HC := hide hcell
  clear hcell hr hm hBl hll
  go_enter Tryd.func29, Tryd.ntmps29
  go_wp2_with fail
  have R0 : Row (w.alloc (.cells #[.int .u8 tag] 5)) w.heap.size (.slice (some ⟨w.heap.size, 0, none⟩) 1 1) [tag] := row_of_block (bs := [tag]) (Nat.le_refl _) (heap_alloc_new w _) rfl (by simp [maxLen])
  have hR0 := hide R0
  clear R0
  go_loopw [5, 6] (fun v i wr => ∃ (k m c : Nat) (ao : Option Addr), k ≤ l.length ∧ v = .slice ao m c ∧ i = .int .i64 k ∧ Row wr w.heap.size v (tag :: cat (l.take k)) ∧ Kp [] w wr) (fun _ i _ => l.length - (intOf i).toNat)
  case atStart => exact ⟨0, 1, 1, some ⟨w.heap.size, 0, none⟩, Nat.zero_le _, rfl, rfl, by simpa [cat] using unhide hR0, (Kp.refl [] w).alloc _⟩
  case round =>
    obtain ⟨k, m, c, ao, hk, rfl, rfl, Rr, Kr⟩ := hrel
    by_cases hlt : k < l.length
    · have hlt2 : (k : Int) < (l.length : Int) := by omega
      obtain ⟨b, off, rfl, hc, hS, hB⟩ := unhide HC k hlt
      have hcl : (cat (l.take k)).length ≤ 100000 * 1000000 := by
        have e1 := cat_len (l.take k) 1000000 (fun x hx => unhide HM x (List.mem_of_mem_take hx))
        have e2 : (l.take k).length ≤ 100000 := by simp; omega
        exact Nat.le_trans e1 (Nat.mul_le_mul_right _ e2)
      have hxl := unhide HM l[k] (List.getElem_mem hlt)
      have hE := cat_take l k hlt
      obtain ⟨x, hx⟩ : ∃ x, x = l[k] := ⟨_, rfl⟩
      rw [← hx] at hc hS hxl hE
      have hcw := Kr.cell hc (by simp)
      have hSw := hS.kept Kr (by simp)
      obtain ⟨ax, cx, hxv⟩ : ∃ ax cx, x.1 = .slice ax x.2.length cx := by obtain ⟨ax, cx, e, _⟩ := hS; exact ⟨ax, cx, e⟩
      have HE := hide hE
      rw [hxv] at hSw hcw
      have HSw := hide hSw
      obtain ⟨nx, hnx⟩ : ∃ nx, nx = x.2.length := ⟨_, rfl⟩
      rw [← hnx] at HSw hcw
      clear hE hx hc hS hB hSw hxv HC hnx
      go_wp2_with (at_builtin; refine wpList_append_row rfl (.tmp 15) (.tmp 19) rfl w.heap.size _ _ rfl Rr _ x.2 rfl (unhide HSw) (by simp only [List.length_cons]; omega) Kr.size ?_; intro ao2 m2 c2 w2 r2 s2)
      go_roundw
      case rel =>
        refine ⟨k + 1, m2, c2, ao2, by omega, rfl, by go_num, ?_, Rr.step Kr s2⟩
        rw [unhide HE]; exact r2
      case measure => simp [intOf]; omega
    · obtain rfl : k = l.length := by omega
      rw [List.take_length] at Rr
      have hcl := cat_len l 1000000 (unhide HM)
      have hmul := Nat.mul_le_mul_right 1000000 hn
      have hRr := hide Rr
      have hKr := hide Kr
      have hBt : Hid (Bs (tag :: cat l)) := fun b hb => by
        rcases List.mem_cons.1 hb with rfl | hb
        · exact ⟨h0, h1⟩
        · exact cat_bs l (unhide HBl) b hb
      clear Rr Kr HC
      go_wp2_with (go_at_call 55; refine (refsum_at _ (tag :: cat l) r (unhide HR) _ (unhide hRr).sl (unhide hBt) (by simp only [List.length_cons]; omega)).mono ?_; rintro ee w3 ⟨ao3, m3, c3, rfl, R3, K3⟩)
      go_ret
      exact ⟨ao3, m3, c3, rfl, owns_rebase R3 (fun i hi => Nat.le_trans (unhide hKr).size (R3.own i hi)), (unhide hKr).trans K3⟩
end Go.Proofs.YtdioaohejoflcaaDoor
