/-
  Slices of slices of bytes: how they are read.
-/
import Derived.Test.YtillhpgdlmeajaaGreatDoorKHSums
import Derived.Deep.Slices
import Derived.ProofKit
import Derived.Lib.SlBytesConst
namespace Go.Proofs.YtillhpgdlmeajaaGreatDoor
open Go.RowKit

/-- v is a slice of slices: each with its value and its bytes. -/
def Lists (w : World) (v : Value) (l : List (Value × List Int)) : Prop :=
  ∃ ao c, v = .slice ao l.length c ∧ l.length ≤ 9223372036854775807 ∧ ∀ i (h : i < l.length), ∃ b off, ao = some ⟨b, off, none⟩ ∧ w.cell? ⟨b, off + i, none⟩ = some l[i].1 ∧ Sl w l[i].1 l[i].2 ∧ Bs l[i].2
theorem Lists.kept {w w' : World} {v : Value} {l : List (Value × List Int)} (h : Lists w v l) (k : Kp [] w w') : Lists w' v l := by
  obtain ⟨ao, c, rfl, h1, h2⟩ := h
  refine ⟨ao, c, rfl, h1, fun i hi => ?_⟩
  obtain ⟨b, off, e, h3, h4, h5⟩ := h2 i hi
  exact ⟨b, off, e, k.cell h3 (by simp), h4.kept k (by simp), h5⟩
theorem lists_nil (w : World) (ao : Option Addr) (c : Nat) : Lists w (.slice ao 0 c) [] := ⟨ao, c, rfl, by simp, fun i hi => by cases hi⟩
theorem lists_of_block {w : World} {g : Nat} {l : List (Value × List Int)} {t : TypeId} {fr : Nat × Nat} (hg : w.heap[g]? = some (.cells (l.map (·.1)).toArray t fr)) (hl : l.length ≤ 1000) (hS : ∀ x ∈ l, Sl w x.1 x.2 ∧ Bs x.2) : Lists w (.slice (some ⟨g, 0, none⟩) l.length l.length) l := by
  refine ⟨_, _, rfl, by omega, fun i hi => ⟨g, 0, rfl, ?_, (hS _ (List.getElem_mem hi)).1, (hS _ (List.getElem_mem hi)).2⟩⟩
  rw [cell_of_row w g (0 + i) _ t fr hg]
  simp [List.getElem?_eq_getElem hi]

/-- all bytes of the parts, one behind the other. -/
def cat (l : List (Value × List Int)) : List Int := (l.map (·.2)).flatten
theorem cat_take (l : List (Value × List Int)) (k : Nat) (h : k < l.length) : cat (l.take (k + 1)) = cat (l.take k) ++ l[k].2 := by
  unfold cat
  rw [List.take_succ_eq_append_getElem h, List.map_append, List.flatten_append]
  simp
theorem cat_len (l : List (Value × List Int)) (m : Nat) (hm : ∀ x ∈ l, x.2.length ≤ m) : (cat l).length ≤ l.length * m := by
  unfold cat
  induction l with
  | nil => simp
  | cons a l ih =>
    have h1 := ih (fun x hx => hm x (by simp [hx]))
    have h2 := hm a (by simp)
    simp only [List.map_cons, List.flatten_cons, List.length_append, List.length_cons]
    rw [Nat.add_mul]
    omega
theorem cat_bs (l : List (Value × List Int)) (hB : ∀ x ∈ l, Bs x.2) : Bs (cat l) := by
  intro b hb
  simp only [cat, List.mem_flatten, List.mem_map] at hb
  obtain ⟨y, ⟨x, hx, rfl⟩, hb⟩ := hb
  exact hB x hx b hb
theorem Lists.bs {w : World} {v : Value} {l : List (Value × List Int)} (h : Lists w v l) : ∀ x ∈ l, Bs x.2 := by
  obtain ⟨_, _, _, _, h2⟩ := h
  intro x hx
  obtain ⟨i, hi, rfl⟩ := List.getElem_of_mem hx
  obtain ⟨_, _, _, _, _, h5⟩ := h2 i hi
  exact h5
/-- a block of bytes that was made whole is a row. -/
theorem row_of_block {w : World} {base g n : Nat} {bs : List Int} (hb : base ≤ g) (h : w.heap[g]? = some (.cells (bs.map (Value.int .u8)).toArray 5 (0, 0))) (hn : bs.length = n) (hm : n ≤ maxLen) : Row w base (.slice (some ⟨g, 0, none⟩) n n) bs := by
  subst hn
  exact ⟨by simp, .inr ⟨g, bs.length, _, rfl, hb, h, Nat.le_refl _, hm, by simp, by rw [Nat.mul_one]; exact List.take_of_length_le (by simp)⟩⟩
end Go.Proofs.YtillhpgdlmeajaaGreatDoor

/-
  The contract of the law package's known: two sums that are written down.
-/
namespace Go.Proofs.YtillhpgdlmeajaaGreatDoor
open Go.RowKit

theorem sha_len (bs : List Int) : (sha bs).length = 32 := by
  unfold sha fin8
  rw [lay8_len, blks_len _ _ (blks_len _ _ rfl _)]
theorem lay8_bs (s : List Int) : Bs (lay8 s) := by
  intro b hb
  unfold lay8 at hb
  obtain ⟨x, _, hx⟩ := List.mem_flatMap.1 hb
  simp only [List.mem_cons, List.not_mem_nil, or_false] at hx
  rcases hx with rfl | rfl | rfl | rfl <;> omega
theorem sha_bs (bs : List Int) : Bs (sha bs) := lay8_bs _
theorem known_abc : strOfNums (hexs (sha [97, 98, 99])) = ⟨#[98, 97, 55, 56, 49, 54, 98, 102, 56, 102, 48, 49, 99, 102, 101, 97, 52, 49, 52, 49, 52, 48, 100, 101, 53, 100, 97, 101, 50, 50, 50, 51, 98, 48, 48, 51, 54, 49, 97, 51, 57, 54, 49, 55, 55, 97, 57, 99, 98, 52, 49, 48, 102, 102, 54, 49, 102, 50, 48, 48, 49, 53, 97, 100]⟩ := by rw [sha_abc]; decide +kernel
theorem known_nil : (strOfNums (hexs (sha []))).size = 64 ∧ (strOfNums (hexs (sha []))).extract 0 8 = ⟨#[101, 51, 98, 48, 99, 52, 52, 50]⟩ := by rw [sha_nil]; decide +kernel

theorem sum_at (vb : Value) (bs r : List Int) (hr : r = sha bs) (w : World) (hS : Sl w vb bs) (hB : Bs bs) (hl : bs.length ≤ 1000000000000) (hG : Gl w) :
    Calls Tryz.prog 107 #[vb] w fun e w' => ∃ ao m c, e = .returned (.slice ao m c) ∧ Row w' w.heap.size (.slice ao m c) r ∧ Kp [] w w' := by
  subst hr
  exact sum_any vb bs w hS hB hl hG
/-- what is known of the two sums. -/
theorem known_facts : ∃ (rA rN : List Int) (SA SN : ByteArray), rA = sha [97, 98, 99] ∧ rN = sha [] ∧ SA = strOfNums (hexs rA) ∧ SN = strOfNums (hexs rN) ∧ rA.length = 32 ∧ rN.length = 32 ∧ Bs rA ∧ Bs rN ∧
    SA = ⟨#[98, 97, 55, 56, 49, 54, 98, 102, 56, 102, 48, 49, 99, 102, 101, 97, 52, 49, 52, 49, 52, 48, 100, 101, 53, 100, 97, 101, 50, 50, 50, 51, 98, 48, 48, 51, 54, 49, 97, 51, 57, 54, 49, 55, 55, 97, 57, 99, 98, 52, 49, 48, 102, 102, 54, 49, 102, 50, 48, 48, 49, 53, 97, 100]⟩ ∧ SN.size = 64 ∧ SN.extract 0 8 = ⟨#[101, 51, 98, 48, 99, 52, 52, 50]⟩ :=
  ⟨_, _, _, _, rfl, rfl, rfl, rfl, sha_len _, sha_len _, sha_bs _, sha_bs _, known_abc, known_nil.1, known_nil.2⟩

end Go.Proofs.YtillhpgdlmeajaaGreatDoor

/-
  The contracts of the program's Tagged and Same.
-/
namespace Go.Proofs.YtillhpgdlmeajaaGreatDoor
open Go.RowKit

set_option maxRecDepth 100000 in
set_option maxHeartbeats 1000000 in
theorem tagged_any (tag : Int) (vl : Value) (l : List (Value × List Int)) (r : List Int) (hr : r = sha (tag :: cat l)) (w : World) (hL : Lists w vl l) (h0 : 0 ≤ tag) (h1 : tag ≤ 255) (hn : l.length ≤ 100000) (hm : ∀ x ∈ l, x.2.length ≤ 1000000) (hG : Gl w) :
    Calls Tryz.prog 144 #[.int .u8 tag, vl] w fun e w' => ∃ ao m c, e = .returned (.slice ao m c) ∧ Row w' w.heap.size (.slice ao m c) r ∧ Kp [] w w' := by
  have HG := hide hG
  have hBl := hL.bs
  have HBl := hide hBl
  have HR := hide hr
  have HM := hide hm
  obtain ⟨al, cl, rfl, hll, hcell⟩ := hL
  have hlen : (l.length : Int) ≤ 100000 := by omega
  have HC := hide hcell
  clear hcell hG hr hm hBl hll
  go_enter Tryz.func144, Tryz.ntmps144
  go_wp2_with fail
  have R0 : Row (w.alloc (.cells #[.int .u8 tag] 5)) w.heap.size (.slice (some ⟨w.heap.size, 0, none⟩) 1 1) [tag] := row_of_block (bs := [tag]) (Nat.le_refl _) (heap_alloc_new w _) rfl (by simp [maxLen])
  have hR0 := hide R0
  clear R0
  go_loopw [5, 12] (fun v i wr => ∃ (k m c : Nat) (ao : Option Addr), k ≤ l.length ∧ v = .slice ao m c ∧ i = .int .i64 k ∧ Row wr w.heap.size v (tag :: cat (l.take k)) ∧ Kp [] w wr) (fun _ i _ => l.length - (intOf i).toNat)
  case atStart => exact ⟨0, 1, 1, some ⟨w.heap.size, 0, none⟩, Nat.zero_le _, rfl, rfl, by simpa [cat] using unhide hR0, (Kp.refl [] w).alloc _⟩
  case round =>
    obtain ⟨k, m, c, ao, hk, rfl, rfl, Rr, Kr⟩ := hrel
    by_cases hlt : k < l.length
    · have hlt2 : (k : Int) < (l.length : Int) := by omega
      obtain ⟨b, off, rfl, hc, hS, hB⟩ := unhide HC k hlt
      have hcl : (cat (l.take k)).length ≤ 100000 * 1000000 := by
        have e1 := cat_len (l.take k) 1000000 (fun x hx => unhide HM x (List.mem_of_mem_take hx))
        have e2 : (l.take k).length ≤ 100000 := by simp; omega
        exact Nat.le_trans e1 (Nat.mul_le_mul_right _ e2)
      have hxl := unhide HM l[k] (List.getElem_mem hlt)
      have hE := cat_take l k hlt
      obtain ⟨x, hx⟩ : ∃ x, x = l[k] := ⟨_, rfl⟩
      rw [← hx] at hc hS hxl hE
      have hcw := Kr.cell hc (by simp)
      have hSw := hS.kept Kr (by simp)
      obtain ⟨ax, cx, hxv⟩ : ∃ ax cx, x.1 = .slice ax x.2.length cx := by obtain ⟨ax, cx, e, _⟩ := hS; exact ⟨ax, cx, e⟩
      have HE := hide hE
      rw [hxv] at hSw hcw
      have HSw := hide hSw
      obtain ⟨nx, hnx⟩ : ∃ nx, nx = x.2.length := ⟨_, rfl⟩
      rw [← hnx] at HSw hcw
      clear hE hx hc hS hB hSw hxv HC hnx
      go_wp2_with (at_builtin; refine wpList_append_row rfl (.tmp 16) (.tmp 17) rfl w.heap.size _ _ rfl Rr _ x.2 rfl (unhide HSw) (by simp only [List.length_cons]; omega) Kr.size ?_; intro ao2 m2 c2 w2 r2 s2)
      go_roundw
      case rel =>
        refine ⟨k + 1, m2, c2, ao2, by omega, rfl, by go_num, ?_, Rr.step Kr s2⟩
        rw [unhide HE]; exact r2
      case measure => simp [intOf]; omega
    · obtain rfl : k = l.length := by omega
      rw [List.take_length] at Rr
      have hcl := cat_len l 1000000 (unhide HM)
      have hmul := Nat.mul_le_mul_right 1000000 hn
      have hRr := hide Rr
      have hKr := hide Kr
      have hBt : Hid (Bs (tag :: cat l)) := fun b hb => by
        rcases List.mem_cons.1 hb with rfl | hb
        · exact ⟨h0, h1⟩
        · exact cat_bs l (unhide HBl) b hb
      clear Rr Kr HC
      go_wp2_with (go_at_call 107; refine (sum_at _ (tag :: cat l) r (unhide HR) _ (unhide hRr).sl (unhide hBt) (by simp only [List.length_cons]; omega) ((unhide HG).kept (unhide hKr) (by simp))).mono ?_; rintro ee w3 ⟨ao3, m3, c3, rfl, R3, K3⟩)
      go_ret
      exact ⟨ao3, m3, c3, rfl, owns_rebase R3 (fun i hi => Nat.le_trans (unhide hKr).size (R3.own i hi)), (unhide hKr).trans K3⟩

end Go.Proofs.YtillhpgdlmeajaaGreatDoor

/-
  What chapter 4 fixes, as plain functions of lists of numbers.
-/
namespace Go.Proofs.YtillhpgdlmeajaaGreatDoor
open Go.RowKit

def be4 (n : Int) : List Int := [n / 16777216 % 256, n / 65536 % 256, n / 256 % 256, n % 256]
theorem be4_bs (n : Int) : Bs (be4 n) := by
  intro b hb
  simp only [be4, List.mem_cons, List.not_mem_nil, or_false] at hb
  rcases hb with rfl | rfl | rfl | rfl <;> omega
def secP (seed : List Int) (key bit side : Int) : List Int := sha (10 :: (seed ++ (be4 key ++ [bit % 256, side % 256])))
def shnP (seed : List Int) (key bit side : Int) : List Int := sha (11 :: secP seed key bit side)
def digP (msg : List Int) : Int := val ((sha (13 :: msg)).take 4)
/-- which side of bit j a digest has. -/
def sdP (d : Int) (j : Nat) : Nat := (d / 2 ^ (31 - j) % 2).toNat
theorem sdP_lt (d : Int) (j : Nat) : sdP d j < 2 := by unfold sdP; omega
/-- the part at place i of a key: its secret where c says so. -/
def ptP (seed : List Int) (key : Int) (c : Nat → Nat → Bool) (i : Nat) : List Int :=
  if c (i / 2) (i % 2) then secP seed key (i / 2 : Nat) (i % 2 : Nat) else shnP seed key (i / 2 : Nat) (i % 2 : Nat)
def ptsP (seed : List Int) (key : Int) (c : Nat → Nat → Bool) (n : Nat) : List (List Int) := (List.range n).map (ptP seed key c)
theorem ptsP_succ (seed : List Int) (key : Int) (c : Nat → Nat → Bool) (n : Nat) : ptsP seed key c (n + 1) = ptsP seed key c n ++ [ptP seed key c n] := by
  simp [ptsP, List.range_succ]
def noneC (_ _ : Nat) : Bool := false
def digC (d : Int) (j s : Nat) : Bool := sdP d j == s
def pubP (seed : List Int) (key : Int) : List Int := sha (12 :: (ptsP seed key noneC 64).flatten)
def sgnP (seed : List Int) (key : Int) (d : Int) : List (List Int) := ptsP seed key (digC d) 64
/-- a part as Root takes it. -/
def rtP (d : Int) (i : Nat) (x : List Int) : List Int := if digC d (i / 2) (i % 2) then sha (11 :: x) else x
def rtsP (d : Int) (l : List (List Int)) : List (List Int) := l.mapIdx (rtP d)
def rootP (d : Int) (l : List (List Int)) : List Int := sha (12 :: (rtsP d l).flatten)
/-- is this what a signature's parts look like? -/
def areP (l : List (List Int)) : Bool := l.length == 64 && l.all (fun x => x.length == 32)

theorem secP_len (seed : List Int) (key bit side : Int) : (secP seed key bit side).length = 32 := sha_len _
theorem shnP_len (seed : List Int) (key bit side : Int) : (shnP seed key bit side).length = 32 := sha_len _
theorem ptP_len (seed : List Int) (key : Int) (c : Nat → Nat → Bool) (i : Nat) : (ptP seed key c i).length = 32 := by
  unfold ptP; split
  · exact secP_len _ _ _ _
  · exact shnP_len _ _ _ _
theorem ptP_bs (seed : List Int) (key : Int) (c : Nat → Nat → Bool) (i : Nat) : Bs (ptP seed key c i) := by
  unfold ptP secP shnP; split <;> exact sha_bs _
theorem pubP_len (seed : List Int) (key : Int) : (pubP seed key).length = 32 := sha_len _
theorem ptsP_len (seed : List Int) (key : Int) (c : Nat → Nat → Bool) (n : Nat) : (ptsP seed key c n).length = n := by simp [ptsP]
theorem rtsP_sgn (seed : List Int) (key d : Int) : rtsP d (sgnP seed key d) = ptsP seed key noneC 64 := by
  unfold rtsP sgnP ptsP
  apply List.ext_getElem
  · simp
  · intro i h1 h2
    simp only [List.getElem_mapIdx, List.getElem_map, List.getElem_range]
    unfold rtP ptP noneC
    by_cases h : digC d (i / 2) (i % 2)
    · simp [h, shnP]
    · simp [h]
theorem rootP_sgn (seed : List Int) (key d : Int) : rootP d (sgnP seed key d) = pubP seed key := by
  unfold rootP pubP
  rw [rtsP_sgn]
theorem areP_sgn (seed : List Int) (key d : Int) : areP (sgnP seed key d) = true := by
  unfold areP sgnP
  simp [ptsP_len]
  simp [ptsP, ptP_len]
theorem digP_bd (msg : List Int) : 0 ≤ digP msg ∧ digP msg ≤ 4294967295 := by
  have h := val_bd ((sha (13 :: msg)).take 4) (fun b hb => sha_bs _ b (List.mem_of_mem_take hb))
  rw [show ((sha (13 :: msg)).take 4).length = 4 by simp [sha_len]] at h
  unfold digP
  omega

theorem or_nat (k x y : Nat) (hy : y < 2 ^ k) (hx : 2 ^ k * x + y < 4294967296) : bits .or .u32 ((2 ^ k * x : Nat) : Int) (y : Int) = ((2 ^ k * x + y : Nat) : Int) := by
  have e1 : (BitVec.ofInt 32 ((2 ^ k * x : Nat) : Int)).toNat = 2 ^ k * x := by
    rw [BitVec.ofInt_natCast, BitVec.toNat_ofNat]; exact Nat.mod_eq_of_lt (by omega)
  have e2 : (BitVec.ofInt 32 (y : Int)).toNat = y := by
    rw [BitVec.ofInt_natCast, BitVec.toNat_ofNat]; exact Nat.mod_eq_of_lt (by omega)
  show IntKind.u32.wrap ((BitVec.ofInt 32 ((2 ^ k * x : Nat) : Int) ||| BitVec.ofInt 32 (y : Int)).toNat : Int) = _
  rw [BitVec.toNat_or, e1, e2, ← Nat.two_pow_add_eq_or_of_lt hy x]
  obtain ⟨z, hz⟩ : ∃ z, z = 2 ^ k * x + y := ⟨_, rfl⟩
  rw [← hz] at hx ⊢
  simp [IntKind.wrap, IntKind.signed, IntKind.bits]
  omega
theorem val4 (a b c d : Int) : val [a, b, c, d] = a * 16777216 + b * 65536 + c * 256 + d := by simp [val]; omega
theorem wd_val (a b c d : Int) (ha : 0 ≤ a ∧ a ≤ 255) (hb : 0 ≤ b ∧ b ≤ 255) (hc : 0 ≤ c ∧ c ≤ 255) (hd : 0 ≤ d ∧ d ≤ 255) : wd a b c d = val [a, b, c, d] := by
  obtain ⟨x, rfl⟩ := Int.eq_ofNat_of_zero_le ha.1
  obtain ⟨y, rfl⟩ := Int.eq_ofNat_of_zero_le hb.1
  obtain ⟨z, rfl⟩ := Int.eq_ofNat_of_zero_le hc.1
  obtain ⟨u, rfl⟩ := Int.eq_ofNat_of_zero_le hd.1
  rw [val4]
  unfold wd
  have e1 := or_nat 24 x (y * 65536) (by omega) (by omega)
  have e2 := or_nat 16 (x * 256 + y) (z * 256) (by omega) (by omega)
  have e3 := or_nat 8 (x * 65536 + y * 256 + z) u (by omega) (by omega)
  rw [show ((x : Int) * 16777216) = ((2 ^ 24 * x : Nat) : Int) by omega, show ((y : Int) * 65536) = ((y * 65536 : Nat) : Int) by omega, e1,
    show ((2 ^ 24 * x + y * 65536 : Nat) : Int) = ((2 ^ 16 * (x * 256 + y) : Nat) : Int) by omega, show ((z : Int) * 256) = ((z * 256 : Nat) : Int) by omega, e2,
    show ((2 ^ 16 * (x * 256 + y) + z * 256 : Nat) : Int) = ((2 ^ 8 * (x * 65536 + y * 256 + z) : Nat) : Int) by omega, e3]
  omega
end Go.Proofs.YtillhpgdlmeajaaGreatDoor
