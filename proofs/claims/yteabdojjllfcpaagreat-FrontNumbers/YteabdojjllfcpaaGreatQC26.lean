/-
  The law package's known.
-/
import Derived.Test.YteabdojjllfcpaaGreatQC25
namespace Go.Proofs.YteabdojjllfcpaaGreat
open Go.RowKit
open Go.Proofs
set_option linter.unusedVariables false
theorem Sl.stp {F F' : Nat → Prop} {w w' : World} {v : Value} {b : List Int} (h : Sl w v b) (T : Stp F w w' F') (hn : ∀ i, v.ownBlock = some i → ¬ F i) : Sl w' v b := by
  obtain ⟨⟨S, hS, k⟩, _⟩ := T
  exact h.kept k (fun i hi hm => hn i hi (hS i hm))
/-- a value that lies elsewhere: its block was there, and lies not in F. -/
def Els (F : Nat → Prop) (w : World) (v : Value) : Prop := ∀ i, v.ownBlock = some i → i < w.heap.size ∧ ¬ F i
theorem Els.stp {F F' : Nat → Prop} {w w' : World} {v : Value} (h : Els F w v) (T : Stp F w w' F') : Els F' w' v := fun i hi => ⟨Nat.lt_of_lt_of_le (h i hi).1 T.size, T.off (h i hi).1 (h i hi).2⟩
theorem Els.on {F : Nat → Prop} {w w' : World} {v : Value} (h : Els F w v) (k : Kp [] w w') : Els F w' v := fun i hi => ⟨Nat.lt_of_lt_of_le (h i hi).1 k.size, (h i hi).2⟩
theorem Els.no {F : Nat → Prop} {w : World} {v : Value} (h : Els F w v) : ∀ i, v.ownBlock = some i → ¬ F i := fun i hi => (h i hi).2
theorem Els.sl {F F' : Nat → Prop} {w w' : World} {v : Value} {b : List Int} (h : Els F w v) (hS : Sl w v b) (T : Stp F w w' F') : Sl w' v b := hS.stp T h.no
theorem els_row {F : Nat → Prop} {w w' : World} {v : Value} {b : List Int} (R : Row w' w.heap.size v b) (hF : ∀ i, F i → i < w.heap.size) : Els F w' v := fun i hi => ⟨R.lt hi, fun e => by have := hF i e; have := R.own i hi; omega⟩
theorem Wz.low {w0 w : World} {x p l pd pl pk : Nat} {S : FS} {L : LS} {g f : Fps} {vw vrc vq : Value} (h : Wz w0 w x p l pd pl pk S L g f vw vrc vq) : ∀ i, two2 g f i → i < w.heap.size := fun i hi => (h.bo.lt i hi).2
/-- the bytes of a manifest that is asked. -/
def itF (a v f : Int) : List Int := encM (mkM a v f)
theorem itF_ok (a v f : Int) : okM (itF a v f) = true := (dec_enc _ (mkM_ok a v f) (mkM_rgt a v f)).2
theorem itF_bs (a v f : Int) : Bs (itF a v f) := encM_bs _ (mkM_ok a v f)
theorem itF_len (a v f : Int) : (itF a v f).length ≤ 125 := okM_short (itF_bs a v f) (itF_ok a v f)
/-- a new manifest, with power and room. -/
theorem subP_new {its : List (List Int)} {S : FS} {b D : List Int} {now : Int} (hok : okM b = true) (h1 : b ∉ its) (h2 : S.ms.any (sameI b) = false) (h3 : (S.ms.length : Int) < S.room) (hd : S.d = dkOn D) (hl : D.length + (recP b).length ≤ 1048576) :
    subP its S b now = (1, (S.rc.length : Int), S.put (dkOn (D ++ recP b)) b now) := by
  unfold subP
  rw [if_neg (by rw [hok]; decide), if_neg h1, if_neg (by rw [h2]; decide), if_neg (by omega), hd, Dk.add_on _ _ hl, if_pos rfl]
theorem ans_cells {w : World} {g : Nat} {k n : Int} (h : w.heap[g]? = some (.cells #[.int .i64 k, .int .i64 n] 57 (0, 0))) : w.cell? ⟨g, 0, none⟩ = some (.int .i64 k) ∧ w.cell? ⟨g, 1, none⟩ = some (.int .i64 n) := by
  constructor
  · rw [cell_of_row w g 0 _ _ _ h]; rfl
  · rw [cell_of_row w g 1 _ _ _ h]; rfl
set_option maxRecDepth 100000 in
set_option maxHeartbeats 16000000 in
theorem fknown_any (w : World) : Calls Tryz.prog 19 #[] w fun e w' => e = .returned (.bool true) ∧ Kp [] w w' := by
  have HO := hide (open0_any 4 1 5 w (by omega) (by omega) (by omega) (by omega) (by omega) (by omega))
  go_enter Tryz.func19, Tryz.ntmps19
  go_wp2_with fail
  refine HO.out.mono ?_
  rintro ee w1 ⟨x, p, l, pd, pl, pk, g, f, pw, rfl, Z1, -⟩
  have HZ1 := hide Z1
  have HI := hide (kitem_any 0 1 1 w1)
  clear HO Z1
  go_wp2_with fail
  refine HI.out.mono ?_
  rintro ee w2 ⟨a2, m2, c2, rfl, R2, K2⟩
  obtain ⟨b, hb⟩ : ∃ b, b = itF 0 1 1 := ⟨_, rfl⟩
  have R2 : Row w2 w1.heap.size (.slice a2 m2 c2) b := by rw [hb]; exact R2
  have Hbo : Hid (okM b = true) := by rw [hb]; exact itF_ok 0 1 1
  have HbB : Hid (Bs b) := by rw [hb]; exact itF_bs 0 1 1
  have Hbl : Hid (b.length ≤ 125) := by rw [hb]; exact itF_len 0 1 1
  have Z2 := HZ1.out.on K2
  have HZ2 := hide Z2
  have HS2 := hide R2.sl
  have HO2 := hide (els_row R2 HZ1.out.low)
  have hc0 := Z2.at_.c0
  have hs1 : subP (ls0 (seedX 0)).its (fs0 4 1 5) b 0 = (1, 0, (fs0 4 1 5).put (dkOn ([] ++ recP b)) b 0) := subP_new (D := []) Hbo.out (by simp [ls0]) rfl (by decide) rfl (by rw [recP_len]; have := Hbl.out; simp; omega)
  have HSub := hide (wz_sub Z2 (.slice a2 m2 c2) b R2.sl HbB.out (by have := Hbl.out; omega) (fun i hi e => HO2.out.no i hi (.inl e)) 0 (by omega) (by omega) (by simp [fs0]) (by simp [fs0]) _ _ _ hs1)
  clear HI R2 K2 Z2 hb hs1 HZ1
  go_wp2_with fail
  refine HSub.out.mono ?_
  rintro ee w3 ⟨rfl, g3, Z3, T3⟩
  have HZ3 := hide Z3
  have HS3 := hide (HO2.out.sl HS2.out T3)
  have HO3 := hide (HO2.out.stp T3)
  clear HSub Z3 T3 hc0 HZ2 HS2 HO2
  go_wp2_with (refine wpList_store_flat rfl 57 (.tmp 3) (.tmp 17) rfl w3.heap.size 0 rfl _ _ [.int .i64 1, .int .i64 0] (heap_alloc_new w3 _) rfl (by simp) Tryz.ansSize (by simp [Value.oneCell']) #[.int .i64 1, .int .i64 0] rfl ?_; intro w4 G4 K4; refine Hid.out ?_)
  have k4 : Kp [] w3 w4 := ((Kp.refl [] w3).alloc _).then K4 (fun i hi => .inr (by simp at hi; omega))
  have sz4 : w3.heap.size < w4.heap.size := by have := K4.size; simp at this; omega
  have Z4 := HZ3.out.on k4
  have HZ4 := hide Z4
  have HS4 := hide (HS3.out.kept k4 (by simp))
  have HO4 := hide (HO3.out.on k4)
  have HG4 := hide G4
  have Hsz4 := hide sz4
  have HX4 : Hid (¬ two2 g3 f w3.heap.size) := fun e => by have := HZ3.out.low _ e; omega
  have hc0 := Z4.at_.c0
  have hadd : (ls0 (seedX 0)).dd.add (recP (batU [b])) = (true, dkOn ([] ++ recP (batU [b]))) := Dk.add_on [] _ (by
    rw [recP_len]
    have h2 := batU_len [b] 125 (fun x hx => by obtain rfl : x = b := by simpa using hx
                                                exact Hbl.out)
    simp only [List.length_cons, List.length_nil] at h2 ⊢
    omega)
  have hst := wz_step Z4 0 (by omega) (by omega) (by show Qd.due ⟨4, 1, 5, [⟨b, 0⟩]⟩ 0 = true; simp [Qd.due]) 1 rfl (by omega) [b] rfl (by simp [ls0]) (by simp [ls0]) (by simp [ls0]) (by simp [FS.put, fs0]) true _ hadd 0 rfl ⟨4, 1, 5, [], [b], dkOn ([] ++ recP b), 1⟩ rfl ⟨[b], 0, seedX 0, none, dkOn ([] ++ recP (batU [b])), dkOn [], 1, 0⟩ rfl
  have HSt := hide hst
  clear K4 k4 Z4 G4 sz4 hadd hst HZ3 HS3 HO3
  refine hide ?_
  go_wp2_with fail
  refine HSt.out.mono ?_
  rintro ee w5 ⟨u, rfl, hu, g5, f5, Z5, T5, hou⟩
  have hu : RowI w5 w4.heap.size u [0] := hu
  have HU := hide hu
  have HOu : Hid (Els (two2 g5 f5) w5 u) := fun i hi => ⟨(hu.lt hi).2, hou i hi⟩
  have HZ5 := hide Z5
  have HS5 := hide (HO4.out.sl HS4.out T5)
  have HO5 := hide (HO4.out.stp T5)
  have HG5 : Hid (w5.heap[w3.heap.size]? = some (.cells #[.int .i64 1, .int .i64 0] 57 (0, 0))) := T5.heap HG4.out HX4.out
  have HX5 := hide (T5.off Hsz4.out HX4.out)
  have Hsz5 : Hid (w3.heap.size < w5.heap.size) := hide (Nat.lt_of_lt_of_le Hsz4.out T5.size)
  have hc0 := Z5.at_.c0
  have hs2 : subP [b] ⟨4, 1, 5, [], [b], dkOn ([] ++ recP b), 1⟩ b 1 = (2, 0, ⟨4, 1, 5, [], [b], dkOn ([] ++ recP b), 1⟩) := by
    unfold subP
    rw [if_neg (by rw [Hbo.out]; decide), if_pos (by simp)]
    simp
  have HSub := hide (wz_sub Z5 (.slice a2 m2 c2) b HS5.out HbB.out (by have := Hbl.out; omega) (fun i hi e => HO5.out.no i hi (.inl e)) 1 (by omega) (by omega) (by simp) (by simp) _ _ _ hs2)
  obtain ⟨au, cu, hus⟩ : ∃ au cu, u = .slice au 1 cu := by obtain ⟨au, cu, e, -⟩ := hu.ints (by simp); exact ⟨au, cu, e⟩
  subst hus
  clear HSt hu hou Z5 T5 hs2 HZ4 HS4 HO4 HG4 HX4 Hsz4
  go_wp2_with fail
  refine HSub.out.mono ?_
  rintro ee w6 ⟨rfl, g6, Z6, T6⟩
  have HZ6 := hide Z6
  have HU6 : Hid (RowI w6 w4.heap.size (.slice au 1 cu) [0]) := by
    obtain ⟨T, hT, kT⟩ := T6.kp
    exact HU.out.kept kT (fun i hi hm => HOu.out.no i hi (hT i hm))
  have HOu6 := hide (HOu.out.stp T6)
  have HG6 : Hid (w6.heap[w3.heap.size]? = some (.cells #[.int .i64 1, .int .i64 0] 57 (0, 0))) := T6.heap HG5.out HX5.out
  have HX6 := hide (T6.off Hsz5.out HX5.out)
  have Hsz6 : Hid (w3.heap.size < w6.heap.size) := hide (Nat.lt_of_lt_of_le Hsz5.out T6.size)
  clear HSub Z6 T6 hc0 HZ5 HS5 HO5 HU HOu HG5 HX5 Hsz5
  go_wp2_with (refine wpList_store_flat rfl 57 (.tmp 6) (.tmp 31) rfl w6.heap.size 0 rfl _ _ [.int .i64 2, .int .i64 0] (heap_alloc_new w6 _) rfl (by simp) Tryz.ansSize (by simp [Value.oneCell']) #[.int .i64 2, .int .i64 0] rfl ?_; intro w7 G7 K7; refine Hid.out ?_)
  have k7 : Kp [] w6 w7 := ((Kp.refl [] w6).alloc _).then K7 (fun i hi => .inr (by simp at hi; omega))
  have sz7 : w6.heap.size < w7.heap.size := by have := K7.size; simp at this; omega
  obtain ⟨ob, hob⟩ : ∃ ob : Obj, ob = .cells #[.int .u8 114, .int .u8 117, .int .u8 98, .int .u8 98, .int .u8 105, .int .u8 115, .int .u8 104] 5 (7, 8) := ⟨_, rfl⟩
  have hcv : (convert 28 28 (.slice (some ⟨w7.heap.size, 0, none⟩) 7 7)).run Tryz.prog (w7.alloc (.cells #[.int .u8 114, .int .u8 117, .int .u8 98, .int .u8 98, .int .u8 105, .int .u8 115, .int .u8 104] 5)) = .ok (.slice (some ⟨w7.heap.size, 0, none⟩) 7 7) (w7.alloc ob) := by rw [hob]; exact lit_cv w7 [114, 117, 98, 98, 105, 115, 104] 7 rfl
  have k8 : Kp [] w7 (w7.alloc ob) := (Kp.refl [] w7).alloc _
  have Z8 := HZ6.out.on (k7.trans k8)
  have HU8 := hide (HU6.out.kept (k7.trans k8) (by simp))
  have HOu8 := hide (HOu6.out.on (k7.trans k8))
  have HG8 := hide ((k7.trans k8).heap HG6.out (by simp))
  have HH8 := hide (k8.heap G7 (by simp))
  have Hsz8 : Hid (w6.heap.size < (w7.alloc ob).heap.size) := hide (Nat.lt_of_lt_of_le sz7 k8.size)
  have HY8 : Hid (¬ two2 g6 f5 w6.heap.size) := fun e => by have := HZ6.out.low _ e; omega
  have hR8 : Sl (w7.alloc ob) (.slice (some ⟨w7.heap.size, 0, none⟩) 7 7) [114, 117, 98, 98, 105, 115, 104] := by rw [hob]; exact lit_sl w7 [114, 117, 98, 98, 105, 115, 104] 7 (7, 8) rfl (by omega)
  have hs3 : subP [b] ⟨4, 1, 5, [], [b], dkOn ([] ++ recP b), 1⟩ [114, 117, 98, 98, 105, 115, 104] 1 = (4, 0, ⟨4, 1, 5, [], [b], dkOn ([] ++ recP b), 1⟩) := by
    unfold subP
    rw [if_pos (by decide)]
  have hc7 := (HZ6.out.on k7).at_.c0
  have hc0 := Z8.at_.c0
  have hno : ∀ i, (Value.slice (some ⟨w7.heap.size, 0, none⟩) 7 7).ownBlock = some i → ¬ g6.tot i := fun i hi e => by
    have hi2 : w7.heap.size = i := by simpa [Value.ownBlock] using hi
    have := HZ6.out.low i (.inl e)
    omega
  have HSub := hide (wz_sub Z8 (.slice (some ⟨w7.heap.size, 0, none⟩) 7 7) _ hR8 (fun b hb => by simp at hb; omega) (by simp) (fun i hi e => hno i hi e) 1 (by omega) (by omega) (by simp) (by simp) _ _ _ hs3)
  have HZ8 := hide Z8
  clear K7 k7 sz7 G7 k8 Z8 hR8 hs3 hno hob
  refine hide ?_
  go_wp2_with fail
  refine HSub.out.mono ?_
  rintro ee w9 ⟨rfl, g9, Z9, T9⟩
  have HK9 : Hid (Kp [] w w9) := Z9.bo.kp
  have HU9 : Hid (RowI w9 w4.heap.size (.slice au 1 cu) [0]) := by
    obtain ⟨T, hT, kT⟩ := T9.kp
    exact HU8.out.kept kT (fun i hi hm => HOu8.out.no i hi (hT i hm))
  have HG9 : Hid (w9.heap[w3.heap.size]? = some (.cells #[.int .i64 1, .int .i64 0] 57 (0, 0))) := T9.heap HG8.out HX6.out
  have HH9 : Hid (w9.heap[w6.heap.size]? = some (.cells #[.int .i64 2, .int .i64 0] 57 (0, 0))) := T9.heap HH8.out HY8.out
  clear HSub Z9 T9 hc0 hc7 hcv
  go_wp2_with (refine wpList_store_flat rfl 57 (.tmp 7) (.tmp 38) rfl w9.heap.size 0 rfl _ _ [.int .i64 4, .int .i64 0] (heap_alloc_new w9 _) rfl (by simp) Tryz.ansSize (by simp [Value.oneCell']) #[.int .i64 4, .int .i64 0] rfl ?_; intro w10 G10 K10; refine Hid.out ?_)
  have k10 : Kp [] w9 w10 := ((Kp.refl [] w9).alloc _).then K10 (fun i hi => .inr (by simp at hi; omega))
  have q1 := k10.heap HG9.out (by simp)
  have q2 := k10.heap HH9.out (by simp)
  have a10 := ans_cells q1
  have a20 := ans_cells q2
  have a30 := ans_cells G10
  obtain ⟨a10, a11⟩ := a10
  obtain ⟨a20, a21⟩ := a20
  obtain ⟨a30, a31⟩ := a30
  have HKa := hide (HK9.out.trans k10)
  have HUa := hide (HU9.out.kept k10 (by simp))
  clear K10 G10 k10 HG9 HH9 q1 q2
  refine hide ?_
  go_wp2_with fail
  have kb : Kp [] w10 (w10.alloc (.cells #[.int .i64 0] 3)) := (Kp.refl [] w10).alloc _
  have HSame := hide (isame_any (.slice au 1 cu) (.slice (some ⟨w10.heap.size, 0, none⟩) 1 1) [0] [0] _ ((HUa.out.kept kb (by simp)).ints (by simp)) (ints_block (l := [0]) (heap_alloc_new w10 _) (by simp)) (by simp) (by simp))
  refine HSame.out.mono ?_
  rintro ee w11 ⟨rfl, K11⟩
  have k11 := kb.trans K11
  have b20 := k11.cell a20 (by simp)
  have b21 := k11.cell a21 (by simp)
  have b30 := k11.cell a30 (by simp)
  have b31 := k11.cell a31 (by simp)
  have hdec : decide (([0] : List Int) = [0]) = true := rfl
  have HKb := hide (HKa.out.trans k11)
  rw [hdec]
  clear HSame K11 kb k11 a10 a11 a20 a21 a30 a31 hdec
  go_wp2_with fail
  go_ret
  exact ⟨rfl, HKb.out⟩
end Go.Proofs.YteabdojjllfcpaaGreat

/-
  Manifests that are asked one by one: each unlike the others.
-/
namespace Go.Proofs.YteabdojjllfcpaaGreat
open Go.RowKit
open Go.Proofs
set_option linter.unusedVariables false
theorem any_same {l : List It} {b : List Int} : l.any (sameI b) = decide (b ∈ l.map It.bs) := by
  rw [Bool.eq_iff_iff]
  simp only [List.any_eq_true, decide_eq_true_eq, List.mem_map, sameI]
end Go.Proofs.YteabdojjllfcpaaGreat
