/-
  The statement HashGivenCardSaid: for every row of bytes the law function HashGiven returns true and leaves its argument as it was; the table hash.roundWords starts as the program's text lays it (tied). No other condition.
-/
import Derived.Test.YthmbeamphahlmaaDoorHAux
import Derived.Test.YthmbeamphahlmaaDoorTie
import Derived.Test.YthmbeamphahlmaaDoorCards
import Derived.SevenTiedAt
import Derived.Laws.OwnMore
namespace Go.Proofs.YthmbeamphahlmaaDoor.hashGiven
open Go.ChangeShapes Go.WideShapes Go.ChangeAt Go.RowKit
open Go.Proofs.YthmbeamphahlmaaDoor
set_option linter.unusedVariables false

theorem str_back (l : List Int) (h : Bs l) : (l.map fun n => UInt8.ofNat n.toNat).map (fun u => (u.toNat : Int)) = l := by
  induction l with
  | nil => rfl
  | cons a l ih =>
    have ha := h a (by simp)
    have e : ((UInt8.ofNat a.toNat).toNat : Int) = a := by
      rw [UInt8.toNat_ofNat']
      omega
    rw [List.map_cons, List.map_cons, ih (fun b hb => h b (by simp [hb])), e]
theorem str_inj {a b : List Int} (ha : Bs a) (hb : Bs b) (h : strOfNums a = strOfNums b) : a = b := by
  have h2 : (a.map fun n => UInt8.ofNat n.toNat) = (b.map fun n => UInt8.ofNat n.toNat) := by
    rw [← strOfNums_data, ← strOfNums_data, h]
  rw [← str_back a ha, ← str_back b hb, h2]
def inc (x : Int) : Int := (x + 1) % 256
theorem inc_bs (l : List Int) : Bs (l.map inc) := by
  intro b hb
  obtain ⟨x, _, rfl⟩ := List.mem_map.1 hb
  unfold inc; omega
theorem inc_ne {l : List Int} (hl : l.length = 32) (hB : Bs l) : strOfNums (l.map inc) ≠ strOfNums l := by
  intro h
  have h2 := str_inj (inc_bs l) hB h
  match l, hl with
  | a :: l, _ =>
    simp only [List.map_cons, List.cons.injEq] at h2
    have := hB a (by simp)
    have := h2.1
    unfold inc at this
    omega
theorem inc_step (r : List Int) (k : Nat) (hk : k < r.length) : (((r.take k).map inc ++ r.drop k).map (Value.int .u8)).set k (.int .u8 (inc (r.getD k 0))) = ((r.take (k + 1)).map inc ++ r.drop (k + 1)).map (Value.int .u8) := by
  have hz : ((r.take k).map inc).length = k := by simp; omega
  rw [← List.map_set, List.set_append_right _ _ (by omega), hz, Nat.sub_self, List.drop_eq_getElem_cons hk, List.set_cons_zero, List.take_succ_eq_append_getElem hk]
  simp only [List.map_append, List.map_cons, List.map_nil, List.append_assoc, List.cons_append, List.nil_append, List.getD_eq_getElem?_getD, List.getElem?_eq_getElem hk, Option.getD_some]

set_option maxRecDepth 100000 in
set_option maxHeartbeats 2000000 in
theorem walk (v0 : Value) (bs : List Int) (w : World) (hG : Gl w) (h0 : Sl w v0 bs) (hB : Bs bs) :
    Calls Tryd.prog 6 #[v0] w fun e w' => e = .returned (.bool true) ∧ Below w.heap.size w w' := by
  have HG := hide hG
  have hpos := hG.pos
  obtain ⟨cs, hcs⟩ : ∃ cs, cs = bs.take 200 := ⟨_, rfl⟩
  have hcl : cs.length ≤ 200 := by rw [hcs]; simp; omega
  have HBc : Hid (Bs cs) := by rw [hcs]; exact hB.take _
  have hc := cut_any v0 bs 200 w h0
  rw [← hcs] at hc
  obtain ⟨r, hr⟩ : ∃ r, r = sha cs := ⟨_, rfl⟩
  have hrl : r.length = 32 := by rw [hr]; exact sha_len _
  have HRB : Hid (Bs r) := by rw [hr]; exact sha_bs _
  have HR := hide hr
  have HC := hide hc
  have H0 := hide h0
  obtain ⟨S, hS⟩ : ∃ S, S = strOfNums r := ⟨_, rfl⟩
  obtain ⟨S2, hS2⟩ : ∃ S2, S2 = strOfNums (r.map inc) := ⟨_, rfl⟩
  have hne : ¬ S2.toList = S.toList := fun h => inc_ne hrl (unhide HRB) (by
    rw [← hS, ← hS2]
    rw [ByteArray.toList_eq, ByteArray.toList_eq] at h
    exact ByteArray.ext (Array.ext' h))
  have hbl : (S2.toList == S.toList) = false := beq_eq_false_iff_ne.2 hne
  obtain ⟨S3, hS3⟩ : ∃ S3, S3 = strOfNums (hexs (r.map inc)) := ⟨_, rfl⟩
  have h64 : S3.size = 64 := by rw [hS3, strOfNums_size, hexs_len]; simp; omega
  have HS := hide hS
  have HS2 := hide hS2
  have HS3 := hide hS3
  clear hG hcs hc hr h0 hS hS2 hS3 hB
  go_enter Tryd.func6, Tryd.ntmps6
  go_wp2_with fail
  refine (unhide HC).mono ?_
  rintro ee w1 ⟨ao, c, rfl, hT, hw⟩
  subst w1
  have S1 := hide (hT _ (unhide H0))
  obtain ⟨m, hm⟩ : ∃ m, m = cs.length := ⟨_, rfl⟩
  rw [← hm] at S1 ⊢
  clear hm hT HC
  go_wp2_with fail
  refine (sum_at _ cs r (unhide HR) w (unhide S1) (unhide HBc) (by omega) (unhide HG)).mono ?_
  rintro ee w2 ⟨ao2, m2, c2, rfl, R2, K2⟩
  have hcv := R2.sl.conv (P := Tryd.prog) 22 9 5 Tryd.underlying22 Tryd.underlying5 Tryd.underlying9
  rw [← unhide HS] at hcv
  obtain rfl : m2 = 32 := by rw [R2.len, hrl]
  rcases R2.2 with ⟨e, _⟩ | ⟨g, cap, cur, e, hgb, _⟩
  · cases e
  obtain ⟨rfl, rfl⟩ : ao2 = some ⟨g, 0, none⟩ ∧ c2 = cap := by injection e with e1 e2 e3; exact ⟨e1, e3⟩
  clear e
  have R3 : w2.ownsRow w.heap.size 5 1 (.slice (some ⟨g, 0, none⟩) 32 c2) 32 (((r.take 0).map inc ++ r.drop 0).map (Value.int .u8)) := by
    have := R2
    unfold Row at this
    rw [hrl] at this
    simpa using this
  have hR := hide R3
  have hK := hide K2
  clear R2 R3 K2
  go_wp2_with fail
  clear hcv
  go_loopw [5] (fun i wr => ∃ k : Nat, k ≤ 32 ∧ i = .int .i64 k ∧ Kp [] w wr ∧ wr.ownsRow w.heap.size 5 1 (.slice (some ⟨g, 0, none⟩) 32 c2) 32 (((r.take k).map inc ++ r.drop k).map (Value.int .u8))) (fun i _ => 32 - (intOf i).toNat)
  case atStart => exact ⟨0, by omega, rfl, unhide hK, unhide hR⟩
  case round =>
    obtain ⟨k, hk, rfl, Kr, Rr⟩ := hrel
    by_cases hlt : k < 32
    · have hlt2 : (k : Int) < 32 := by omega
      have hcj := Rr.cellAt k (by omega)
      have hz : ((r.take k).map inc).length = k := by simp; omega
      rw [List.getElem?_map, List.getElem?_append_right (by omega), hz, Nat.sub_self, List.getElem?_drop, Nat.add_zero, List.getElem?_eq_getElem (show k < r.length by omega), Option.map_some] at hcj
      have hfj := Rr.frozenAt k
      have hst := (Rr.stored k (.int .u8 (inc (r.getD k 0)))).1
      rw [inc_step r k (by omega)] at hst
      have hrk : r.getD k 0 = r[k] := by simp [List.getElem?_eq_getElem (show k < r.length by omega)]
      rw [hrk] at hst
      obtain ⟨x, hx⟩ : ∃ x, x = r[k] := ⟨_, rfl⟩
      have hxb := unhide HRB r[k] (List.getElem_mem _)
      rw [← hx] at hst hcj hxb
      have HST : Hid _ := hide hst
      have hKr := hide Kr
      have hinc : inc x = (x + 1) % 256 := rfl
      obtain ⟨hxb0, hxb1⟩ := hxb
      clear hst Rr Kr hx hrk hz
      go_wp2_with fail
      go_roundw
      case rel => exact ⟨k + 1, by omega, by go_num, (unhide hKr).setCell (p := ⟨g, k, none⟩) (.inr hgb) _, unhide HST⟩
      case measure => simp [intOf]; omega
    · obtain rfl : k = 32 := by omega
      rw [List.take_of_length_le (by omega), List.drop_of_length_le (by omega), List.append_nil] at Rr
      have R4 : Row wr w.heap.size (.slice (some ⟨g, 0, none⟩) 32 c2) (r.map inc) := by unfold Row; rw [List.length_map, hrl]; exact Rr
      have S4 := R4.sl
      have HS4 := hide S4
      have hKr := hide Kr
      clear Rr Kr R4 S4 hR hK
      go_wp2_with fail
      refine (sum_at _ cs r (unhide HR) wr ((unhide S1).kept (unhide hKr) (by simp)) (unhide HBc) (by omega) ((unhide HG).kept (unhide hKr) (by simp))).mono ?_
      rintro ee w5 ⟨ao5, m5, c5, rfl, R5, K5⟩
      have hcv5 := R5.sl.conv (P := Tryd.prog) 22 9 5 Tryd.underlying22 Tryd.underlying5 Tryd.underlying9
      have S5 := (unhide HS4).kept K5 (by simp)
      have hcv6 := S5.conv (P := Tryd.prog) 22 9 5 Tryd.underlying22 Tryd.underlying5 Tryd.underlying9
      rw [← unhide HS] at hcv5
      rw [← unhide HS2] at hcv6
      have HS5 := hide S5
      have hK5 := hide ((unhide hKr).trans K5)
      clear R5 K5 S5 HS4 hKr
      go_wp2_with fail
      clear hcv5 hcv6
      refine (hex_at _ (r.map inc) S3 (unhide HS3) w5 (unhide HS5) (inc_bs r) (by simp; omega)).mono ?_
      rintro ee w6 ⟨rfl, K6⟩
      have hK6 := hide ((unhide hK5).trans K6)
      clear K6 hK5 HS5
      go_wp2_with fail
      refine (known_any w6 ((unhide HG).kept (unhide hK6) (by simp))).mono ?_
      rintro ee w7 ⟨rfl, K7⟩
      go_wp2_with fail
      go_ret
      exact ⟨rfl, ((unhide hK6).trans K7).below (Nat.le_refl _) (by simp)⟩

set_option maxRecDepth 100000 in
theorem lifted (os : Os) (started : os.Started) (H : Type) (enc : TypeId × Value → H) :
    ReturnsInHanded {} Tryd.checked os 6 .any (fun w args => (Rows.hashGivenSpec.pre enc Tryd.prog Tryd.f6 [] false w args ∧ laidMetH Tryd.prog laid1 w) ∧ sizedMet enc Tryd.prog Tryd.f6 (OpenSpec.ofChange Rows.hashGivenSpec) false w args) (Rows.hashGivenSpec.post enc Tryd.prog Tryd.f6 false true false false) := by
  refine returnsInHanded_of_change_and (C := Tryd.checked) (X := fun w _ => laidMetH Tryd.prog laid1 w) (fun _ _ _ hh h => h.of_heap hh) own started (by kernel_rfl) Tryd.func6
    (ChangeSpec.witness_shaped (enc := enc) (C := Tryd.checked) (os := os) (X := fun w _ => laidMetH Tryd.prog laid1 w) false (World.doorLaid Tryd.prog 400 os) #[.slice none 0 0] 8 rfl (World.shaped_of_RefB (by kernel_rfl) (by kernel_rfl)) (by kernel_rfl) (by kernel_rfl) (by kernel_rfl) (door_met os _)) ?_
  intro W base args ds gs before hval0 hW hcnd hsz0 hL _
  have hG := gl_of_laid hL
  have hval : ∀ (j : Nat) t v, Tryd.f6.params[j]? = some t → args[j]? = some v → Value.okWide Tryd.prog W .any base t v := hval0
  have hW' := hW
  obtain ⟨p, q, hA0, hV, rfl, hfz, hnd⟩ := hW
  have hA : DataW.TrodAll enc Tryd.prog W 0 (fun _ => true) true Tryd.f6.params.toList args.toList ds p := hA0
  rw [Tryd.params6] at hA hval
  obtain ⟨v0, vs0, d0, ds0, p0, q0, hargs, rfl, rfl, h0, r0⟩ := trodAll_cons hA
  obtain ⟨rfl, rfl, rfl⟩ := trodAll_nil r0
  obtain rfl : args = #[v0] := by cases args; simp_all
  obtain ⟨rfl, rfl⟩ := trodVars_none hV
  obtain ⟨a0, len0, cap0, rfl⟩ := okWide_slice Tryd.underlying22 (hval 0 22 v0 rfl rfl)
  have k0 := h0
  have lt0 : ∀ x ∈ p0, x.block < W.heap.size := by obtain ⟨m, hm⟩ := k0; exact DataW.trod_lt m _ _ _ hm
  obtain ⟨l0, s0, b0⟩ : ∃ bs, Sl W (.slice a0 len0 cap0) bs ∧ Bs bs := by
    obtain ⟨fuel, hf⟩ := h0
    exact bytes_of_trod (by simpa [Value.cells] using hf)
  clear hA0 hval0
  refine (walk (.slice a0 len0 cap0) l0 W hG s0 b0).mono fun e W' ⟨he, bel⟩ => ?_
  subst he
  exact ⟨_, rfl, _, _, _, [], _, [], hW', trodAll_mk1 (shut_bool Tryd.underlying4 _), (trodAll_cons_mk (Below.trod laidOut (by kernel_rfl) (of_decide_eq_true (by kernel_rfl)) k0 bel lt0) trodAll_mk0), rfl, bel.frame _, fun h => by cases h⟩

theorem over : Rows.hashGivenRow.holds Tryd.pinned (OpenSpec.ofChange Rows.hashGivenSpec) :=
  OpenClaim.holds_of_wide 6 Tryd.f6 rfl rfl rfl rfl rfl rfl rfl ⟨rfl, rfl, rfl, rfl, rfl⟩ rfl rfl rfl rfl rfl (by kernel_rfl) Tryd.func6 (by kernel_rfl)
    (of_decide_eq_true (by kernel_rfl)) (by unfold Func.isWrapper; first | (rw [if_pos (by decide +kernel)]; kernel_rfl) | (rw [if_neg (by decide +kernel)]; exact ⟨rfl, rfl⟩))
    (fun os started H enc _ => lifted os started H enc)
end Go.Proofs.YthmbeamphahlmaaDoor.hashGiven

namespace Go.Proofs.YthmbeamphahlmaaDoor
/-- The given statement: the tied card. -/
theorem HashGiven_holds : Rows.HashGivenCardSaid :=
  Claim7.holds_tied_plain_at .later [] [.data] true Rows.hashGivenCard.stood.harness false
    hashGiven.over (fun _ h => by cases h) (by kernel_rfl) (fun _ h => by cases h) hashGiven_row_tie rfl ⟨rfl, rfl⟩ (by kernel_rfl) rfl
    (fun f fn hf hfn => by
      obtain rfl : f = 6 := Option.some.inj ((show Tryd.prog.funcNamed "broadsheet/broadsheetlaw2.HashGiven" = some 6 by kernel_rfl).symm.trans hf) |>.symm
      obtain rfl : fn = Tryd.f6 := (Option.some.inj (Tryd.func6.symm.trans hfn)).symm
      exact ⟨by kernel_rfl, fun j t ht => by
        rw [Tryd.params6] at ht
        have hm : t ∈ ([22] : List TypeId) := by simpa using Array.mem_of_getElem? ht
        have hall : (([22] : List TypeId).all fun u => !Tryd.prog.wantsStandIn u) = true := by kernel_rfl
        exact (show Tryd.prog.wantsStandIn t = false by simpa using List.all_eq_true.1 hall t hm)⟩)
    (by kernel_rfl)
#print axioms HashGiven_holds
end Go.Proofs.YthmbeamphahlmaaDoor
