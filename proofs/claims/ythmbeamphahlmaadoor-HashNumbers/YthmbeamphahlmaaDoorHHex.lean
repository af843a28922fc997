/-
  The contract of the program's Hex.
-/
import Derived.Test.YthmbeamphahlmaaDoorHSum
import Derived.Deep.RegionLaw
namespace Go.Proofs.YthmbeamphahlmaaDoor
open Go.RowKit

/-- append at a step of a region that draws its order. -/
theorem step_append_row {w : World} {ops : Array Oper} {o : Oper} {a : Act} {K : Act → World → Prop} {Q : Exit → Act → World → Prop} {E : Prop} (hgd : o.guard = none) (s x : Operand)
    (ho : o.op = .call { callee := .builtin .append, args := #[s, x], argTypes := #[22, 22] }) (base : Nat) (v : Value) (bs : List Int) (hs : a.eval s = v) (hrow : Row w base v bs)
    (vx : Value) (cs : List Int) (hx : a.eval x = vx) (hS : Sl w vx cs) (hb : bs.length + cs.length ≤ 140737488355328) (hbase : base ≤ w.heap.size)
    (h : ∀ ao m c w', Row w' base (.slice ao m c) (bs ++ cs) → RStep w v w' (.slice ao m c) → K (a.put o.dst (.slice ao m c)) w') :
    if Region.wanted o (yielded ops a.tmps) = true then Oper.wp Tryd.prog o a w K Q else E := by
  have hw : Region.wanted o (yielded ops a.tmps) = true := by simp [Region.wanted, hgd]
  rw [if_pos hw]
  obtain ⟨i0, hi0, hz0, hz1, hz2⟩ := info_parts Tryd.info5
  obtain ⟨av, cv, rfl⟩ := hrow.shape
  obtain ⟨ax, cx, rfl, h1, h2, h3, h4⟩ := hS
  cases ax with
  | none =>
    have : cs = [] := List.eq_nil_of_length_eq_zero (by have := h3 rfl; omega)
    subst this
    obtain rfl := h3 rfl
    have hrun := run_append_owned_none (P := Tryd.prog) (w := w) base 22 o.type 5 i0 1 Tryd.underlying22 hi0 _ _ _ hrow
    have hK := h av bs.length cv w
    simp only [List.append_nil] at hK
    unfold Oper.wp
    simp [execOp, ho, resolve, invoke, builtin, hs, hx, hrun, Result.andThen]
    exact hK hrow (RStep.refl _ _)
  | some a' =>
    obtain ⟨v', w1, hr, hown1, hgrow, _, hat⟩ := run_append_own_at (P := Tryd.prog) w base 22 o.type 5 i0 (.int .u8 0) 1 1 Tryd.underlying22 hi0 hz0 hz1 hz2 rfl (by decide) _ bs.length (bs.map (Value.int .u8)) hrow a' cs.length cx (cs.map (Value.int .u8)) (by simp) (h4 a' rfl) (by simp [Value.oneCell']) (by unfold maxLen; omega) (by omega) hbase
    have R := row_step (new := cs) (Kp.refl [] w) hown1 hgrow hat
    obtain ⟨ao', c', hv⟩ := R.1.shape
    subst hv
    have hK := h ao' _ c' w1 R.1 R.2
    unfold Oper.wp execOp
    simp only [ho, resolve, invoke, builtin, Sem.run_bind, Sem.run_pure, Result.andThen_ok, List.map_toArray, List.map_cons, List.map_nil, hs, hx, hr]
    exact hK


def digs : ByteArray := ⟨#[48, 49, 50, 51, 52, 53, 54, 55, 56, 57, 97, 98, 99, 100, 101, 102]⟩
/-- The sign of a half byte. -/
def sg (i : Int) : Int := (digs.data.getD i.toNat 0).toNat
def hexs (bs : List Int) : List Int := bs.flatMap fun x => [sg (x / 16), sg (x % 16)]
theorem hexs_snoc (bs : List Int) (k : Nat) (hk : k < bs.length) : hexs (bs.take (k + 1)) = hexs (bs.take k) ++ [sg (bs.getD k 0 / 16), sg (bs.getD k 0 % 16)] := by
  unfold hexs
  rw [List.take_succ_eq_append_getElem hk, List.flatMap_append]
  simp [List.getElem?_eq_getElem hk]
theorem hexs_len (bs : List Int) : (hexs bs).length = 2 * bs.length := by
  unfold hexs
  induction bs with
  | nil => rfl
  | cons a s ih => simp only [List.flatMap_cons, List.length_append, ih, List.length_cons, List.length_nil]; omega
theorem sg_eq (i : Int) (h : i.toNat < digs.size) : ((digs[i.toNat]'h).toNat : Int) = sg i := by
  have e : digs.data.getD i.toNat 0 = digs[i.toNat]'h := by
    have h' : i.toNat < digs.data.size := h
    rw [Array.getD_eq_getD_getElem?, Array.getElem?_eq_getElem h']
    rfl
  unfold sg
  rw [e]
theorem and15 (x : Int) (h0 : 0 ≤ x) (h1 : x ≤ 255) : bits .and .u8 x 15 = x % 16 := by
  obtain ⟨m, rfl⟩ := Int.eq_ofNat_of_zero_le h0
  have h : ∀ m ∈ List.range 256, bits .and .u8 (m : Int) 15 = (m : Int) % 16 := by decide +kernel
  exact h m (by simp; omega)

set_option maxRecDepth 100000 in
set_option maxHeartbeats 2000000 in
theorem hex_any (vb : Value) (bs : List Int) (w : World) (hS : Sl w vb bs) (hB : Bs bs) (hl : bs.length ≤ 1000000) :
    Calls Tryd.prog 12 #[vb] w fun e w' => e = .returned (.string (strOfNums (hexs bs))) ∧ Kp [] w w' := by
  obtain ⟨i0, hi0, hz0, hz1, hz2⟩ := info_parts Tryd.info5
  have HSl : Hid (Sl w vb bs) := hS
  obtain ⟨ab, cb, rfl, h1, h2, h3, h4⟩ := hS
  obtain ⟨N, hN⟩ : ∃ N, N = bs.length := ⟨_, rfl⟩
  have HC : Hid (∀ a, ab = some a → ∀ j u, (bs.map (Value.int .u8))[j]? = some u → w.cell? (a.add j) = some u) := h4
  rw [← hN] at h1 hl HSl ⊢
  have HN := hide hN
  have hN2 : (N : Int) ≤ 1000000 := by omega
  clear hN h4
  go_enter Tryd.func12, Tryd.ntmps12
  go_wp2_with (at_make; refine wpList_make_own _ rfl _ _ 22 rfl w.heap.size 5 i0 (.int .u8 0) 1 Tryd.underlying22 hi0 hz0 hz1 .i64 .i64 _ (2 * N) rfl rfl (by omega) (by rw [hz2]; omega) (by unfold maxLen; omega) (Nat.le_refl _) ?_; intro w1 o1 g1; have K1 : Kp [] w w1 := (Kp.refl [] w).grown g1 (by intro k hk; cases hk); have R1 : Row w1 w.heap.size _ [] := o1)
  have hR := hide R1
  have hK := hide K1
  clear o1 g1 R1 K1
  go_loopw [3, 12] (fun v i wr => ∃ (k m c : Nat) (ao : Option Addr), k ≤ N ∧ v = .slice ao m c ∧ i = .int .i64 k ∧ Row wr w.heap.size v (hexs (bs.take k)) ∧ Kp [] w wr) (fun _ i _ => N - (intOf i).toNat)
  case atStart => exact ⟨0, 0, 2 * N, some ⟨w.heap.size, 0, none⟩, by omega, rfl, rfl, unhide hR, unhide hK⟩
  case round =>
    obtain ⟨k, m, c, ao, hk, rfl, rfl, Rr, Kr⟩ := hrel
    by_cases hlt : k < N
    · have hlt2 : (k : Int) < (N : Int) := by omega
      have hkb : k < bs.length := by have := unhide HN; omega
      cases ab with
      | none => have := h3 rfl; omega
      | some ab =>
      have hcell := Kr.cell (unhide HC ab rfl k (.int .u8 (bs.getD k 0)) (by simp [List.getElem?_eq_getElem hkb])) (by simp)
      have hsn := hexs_snoc bs k hkb
      have hxb := hB.at k
      obtain ⟨x, hx⟩ : ∃ x, x = bs.getD k 0 := ⟨_, rfl⟩
      rw [← hx] at hcell hsn hxb
      obtain ⟨hx0, hx1⟩ := hxb
      have hand := and15 x hx0 hx1
      have hd1 : 0 ≤ x / 16 := by omega
      have hd2 : x / 16 < 16 := by omega
      have hd3 : 0 ≤ x % 16 := by omega
      have hd4 : x % 16 < 16 := by omega
      have hg1 : ∀ h, (((⟨#[48, 49, 50, 51, 52, 53, 54, 55, 56, 57, 97, 98, 99, 100, 101, 102]⟩ : ByteArray)[(x / 16).toNat]'h).toNat : Int) = sg (x / 16) := fun h => sg_eq _ h
      have hg2 : ∀ h, (((⟨#[48, 49, 50, 51, 52, 53, 54, 55, 56, 57, 97, 98, 99, 100, 101, 102]⟩ : ByteArray)[(x % 16).toNat]'h).toNat : Int) = sg (x % 16) := fun h => sg_eq _ h
      have HS := hide hsn
      have hll : (hexs (bs.take k)).length ≤ 2000000 := by rw [hexs_len]; simp; omega
      have hRr := hide Rr
      have hKr := hide Kr
      clear hx hsn Rr Kr
      go_wp2_with fail
      go_region_law ((refine step_append_row (by rfl) (.tmp 16) (.tmp 23) (by rfl) w.heap.size _ _ (by rfl) ((unhide hRr).kept ((Kp.refl [] wr).alloc _).drew (by simp)) _ [_, _] (by rfl) (Sl.block (cs := [_, _]) (t := 5) (heap_alloc_new wr _) (by simp [maxLen])) (by simp only [List.length_cons, List.length_nil]; omega) (by have := (unhide hKr).size; simp; omega) ?_; intro ao2 m2 c2 w2 r2 s2))
      all_goals go_wp2_with fail
      all_goals go_roundw
      case rel =>
        refine ⟨k + 1, m2, c2, ao2, by omega, rfl, by go_num, ?_, (unhide hRr).step (unhide hKr) (s2.after ((Kp.refl [] wr).alloc _).drew)⟩
        rw [unhide HS]; exact r2
      case measure => simp [intOf]; omega
      case rel =>
        refine ⟨k + 1, m2, c2, ao2, by omega, rfl, by go_num, ?_, (unhide hRr).step (unhide hKr) (s2.after ((Kp.refl [] wr).alloc _).drew)⟩
        rw [unhide HS]; exact r2
      case measure => simp [intOf]; omega
    · obtain rfl : k = N := by omega
      rw [List.take_of_length_le (by have := unhide HN; omega)] at Rr
      have hcv := Rr.sl.conv (P := Tryd.prog) 22 9 5 Tryd.underlying22 Tryd.underlying5 Tryd.underlying9
      have hKr := hide Kr
      clear Rr Kr
      go_wp2_with fail
      go_ret
      exact ⟨rfl, unhide hKr⟩
end Go.Proofs.YthmbeamphahlmaaDoor
