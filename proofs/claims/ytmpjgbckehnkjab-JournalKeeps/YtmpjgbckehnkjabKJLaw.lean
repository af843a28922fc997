/-
  The law's helpers: on, opens, known.
-/
import Derived.Test.YtmpjgbckehnkjabKJPut
import Derived.Test.YtmpjgbckehnkjabKJRef
import Derived.Test.YtmpjgbckehnkjabKRGrowC
namespace Go.Proofs.Ytmpjgbckehnkjab
open Go.ChangeShapes Go.WideShapes Go.ChangeAt Go.RowKit
open Go.Proofs
open Go.Deep
set_option linter.unusedVariables false

/-- Open, by the bytes. -/
theorem open_at {w0 w : World} {p : Nat} {v : Value} {d : Dk} (h : Nw w0 w p v d) (hd : d.down = false) (ha : d.arm ≤ 0) (b : List Int) (hb : d.bs = b) :
    Calls Try.prog 6 #[.pointer (some ⟨p, 0, none⟩)] w fun e w' =>
      ((opnP b).2.2 = true ∧ ∃ j v' ao m c l, e = .returned (.tuple #[.pointer (some ⟨j, 0, none⟩), .slice ao m c, .int .i64 0]) ∧ Jn w0 w' p v' d.opn j (opnP b).1.length ∧ w.heap.size ≤ j ∧ DSt p w v w' v' ∧ Pj w' w.heap.size (.slice ao m c) l p j v' ∧ l.map (·.2) = (opnP b).1 ∧ m = (opnP b).1.length) ∨
      ((opnP b).2.2 = false ∧ e = .returned (.tuple #[.pointer none, .slice none 0 0, .int .i64 14]) ∧ Nw w0 w' p v d ∧ Kp [] w w') := by
  subst hb
  exact open_any h hd ha
/-- a disk with these bytes, synced. -/
def dkOn (b : List Int) : Dk := ⟨b, b.length, 1048576, 0, false⟩
set_option maxRecDepth 100000 in
set_option maxHeartbeats 2000000 in
theorem on_any (vb : Value) (b : List Int) (w : World) (hS : Sl w vb b) (hB : Bs b) (hl : b.length ≤ 1048576) :
    Calls Try.prog 5 #[vb] w fun e w' => ∃ p v, e = .returned (.pointer (some ⟨p, 0, none⟩)) ∧ Nw w w' p v (dkOn b) := by
  have hN := hide (nw_new 1048576 w (by omega) (by omega))
  have HA : Hid ((dk0 1048576).app b = (true, ⟨b, 0, 1048576, 0, false⟩)) := by
    have h1 := Dk.app_plain (d := dk0 1048576) rfl (Int.le_refl 0) b (by show ((0 + b.length : Nat) : Int) ≤ 1048576; omega)
    exact h1
  have HY : Hid ((⟨b, 0, 1048576, 0, false⟩ : Dk).sync = (true, dkOn b)) := Dk.sync_plain (d := ⟨b, 0, 1048576, 0, false⟩) rfl (Int.le_refl 0)
  have HS := hide (fun w' (k : Kp [] w w') => hS.kept k (by simp))
  have HB := hide hB
  clear hS hB hl
  go_enter Try.func5, Try.ntmps5
  go_wp2_with (first
    | (go_at_call 12; refine hN.out.mono ?_; rintro e w1 ⟨p, rfl, N1⟩; clear hN; have HN1 := hide N1; clear N1)
    | (go_at_call 13; refine (nw_append HN1.out (HS.out w1 HN1.out.kp) HB.out true HA.out 0 rfl).mono ?_; rintro e w2 ⟨rfl, v2, N2, -⟩; have HN2 := hide N2; clear HN1 N2)
    | (go_at_call 14; refine (nw_sync HN2.out true HY.out 0 rfl).mono ?_; rintro e w3 ⟨rfl, N3, -⟩; have HN3 := hide N3; clear HN2 N3))
  go_ret
  exact ⟨p, v2, rfl, HN3.out⟩
theorem open_ok {w0 w : World} {p : Nat} {v : Value} {d d' : Dk} (h : Nw w0 w p v d) (hd : d.down = false) (ha : d.arm ≤ 0) {b : List Int} (hb : d.bs = b) {rs : List (List Int)} {at_ : Nat} (ho : opnP b = (rs, at_, true)) (hd' : d.opn = d') :
    Calls Try.prog 6 #[.pointer (some ⟨p, 0, none⟩)] w fun e w' =>
      ∃ j v' ao c l, e = .returned (.tuple #[.pointer (some ⟨j, 0, none⟩), .slice ao rs.length c, .int .i64 0]) ∧ Jn w0 w' p v' d' j rs.length ∧ w.heap.size ≤ j ∧ DSt p w v w' v' ∧ Pj w' w.heap.size (.slice ao rs.length c) l p j v' ∧ l.map (·.2) = rs := by
  refine (open_at h hd ha b hb).mono ?_
  rw [ho, hd']
  rintro e w' (⟨-, j, v', ao, m, c, l, rfl, h1, h2, h3, h4, h5, rfl⟩ | ⟨hf, -⟩)
  · exact ⟨j, v', ao, c, l, rfl, h1, h2, h3, h4, h5⟩
  · cases hf
/-- on the empty disk. -/
theorem opn0 : (dkOn []).opn = dkOn [] := rfl
set_option maxRecDepth 100000 in
set_option maxHeartbeats 4000000 in
theorem jknown_any (w : World) : Calls Try.prog 10 #[] w fun e w' => e = .returned (.bool true) ∧ Kp [] w w' := by
  have HOn := hide (on_any (.slice none 0 0) [] w (Sl.nil w) (fun b hb => by cases hb) (by simp))
  have hB1 : Hid (Bs [97]) := fun b hb => by simp at hb; omega
  have hB2 : Hid (Bs [98]) := fun b hb => by simp at hb; omega
  have HA1 : Hid ((dkOn []).add (recP [97]) = (true, dkOn (recP [97]))) := rfl
  have HA2 : Hid ((dkOn (recP [97])).app (recP [98]) = (true, ⟨recP [97] ++ recP [98], 9, 1048576, 0, false⟩)) := rfl
  have HC : Hid ((⟨recP [97] ++ recP [98], 9, 1048576, 0, false⟩ : Dk).crash 3 = ⟨(recP [97] ++ recP [98]).take 12, 12, 1048576, 0, false⟩) := rfl
  have HO : Hid (opnP ((recP [97] ++ recP [98]).take 12) = ([[97]], 9, true)) := by
    have := opnP_rec [97] ([0, 0, 0]) (by simp)
    rw [opnP_short (b := [0, 0, 0]) (by simp)] at this
    exact this
  have HO2 : Hid ((⟨(recP [97] ++ recP [98]).take 12, 12, 1048576, 0, false⟩ : Dk).opn = dkOn (recP [97])) := by
    have e := HO.out
    show Dk.opn _ = _
    unfold Dk.opn
    simp only [e]
    rfl
  go_enter Try.func10, Try.ntmps10
  go_wp2_with fail
  refine HOn.out.mono ?_
  rintro ee w1 ⟨p, v1, rfl, N1⟩
  have HOp := hide (open_ok N1 rfl (Int.le_refl 0) rfl opnP_nil opn0)
  simp only [List.length_nil] at HOp
  clear N1 HOn
  go_wp2_with fail
  refine HOp.out.mono ?_
  rintro ee w2 ⟨j, v2, al, cl, l, rfl, J2, -, -, -, -⟩
  have HJ2 := hide J2
  clear J2 HOp
  have cv1 := lit_cv w2 [97] 1 rfl
  simp only [List.map_cons, List.map_nil] at cv1
  have HAd := hide (jadd_any (HJ2.out.on ((Kp.refl [] w2).alloc (.cells #[.int .u8 97] 5 (1, 2)))) (lit_sl w2 [97] 1 (1, 2) rfl (by omega)) hB1.out (by simp) (by omega) true HA1.out 0 rfl 1 rfl)
  go_wp2_with (first
    | (go_at_call 7; refine HAd.out.mono ?_; rintro ee w3 ⟨rfl, v3, J3, -⟩; have HJ3 := hide J3; clear HAd J3 HJ2 cv1; have cv2 := lit_cv w3 [98] 1 rfl; simp only [List.map_cons, List.map_nil] at cv2; have HPd := hide (jput_any (HJ3.out.on ((Kp.refl [] w3).alloc (.cells #[.int .u8 98] 5 (1, 2)))) (lit_sl w3 [98] 1 (1, 2) rfl (by omega)) hB2.out (by simp) (by omega) true HA2.out 0 rfl 2 rfl))
    | (go_at_call 19; refine HPd.out.mono ?_; rintro ee w4 ⟨rfl, v4, J4, -⟩; have HJ4 := hide J4; clear HPd J4 HJ3 cv2)
    | (go_at_call 22; refine (jcount_any HJ4.out).mono ?_; rintro ee w5 ⟨rfl, hw⟩; subst w5)
    | (go_at_call 23; refine (nw_crash HJ4.out.nw 3 HC.out).mono ?_; rintro ee w5 ⟨rfl, v5, N5, -⟩; have HN5 := hide N5; clear N5 HJ4; have HOp2 := hide (open_ok HN5.out rfl (Int.le_refl 0) rfl HO.out HO2.out); simp only [List.length_cons, List.length_nil, Nat.zero_add] at HOp2))
  refine HOp2.out.mono ?_
  rintro ee w6 ⟨j6, v6, a6, c6, l6, rfl, J6, -, -, P6, hl6⟩
  have HJ6 := hide J6
  have hL := P6.parts.lists (by have := congrArg List.length hl6; simp at this; omega)
  obtain ⟨x, rfl⟩ : ∃ x, l6 = [(x, [97])] := by
    cases l6 with
    | nil => simp at hl6
    | cons y t =>
      simp only [List.map_cons, List.cons.injEq, List.map_eq_nil_iff] at hl6
      obtain ⟨h1, rfl⟩ := hl6
      exact ⟨y.1, by rw [← h1]⟩
  obtain ⟨al', cl', e', -, hcell⟩ := hL
  injection e' with e1 e2 e3
  subst e1
  obtain ⟨b6, o6, rfl, hc6, hS6, -⟩ := hcell 0 (by simp)
  simp only [List.getElem_cons_zero, Nat.add_zero] at hc6 hS6
  have cv6 := hS6.conv 30 9 5 Try.underlying30 Try.underlying5 Try.underlying9
  rw [show strOfNums [97] = ⟨#[97]⟩ from rfl] at cv6
  obtain ⟨ax, cx, rfl, -⟩ := hS6
  simp only [List.length_cons, List.length_nil, Nat.zero_add] at hc6 cv6
  have HSz := hide (sizen_any p v6 _ _ w6 HJ6.out.nw.dk 9 rfl)
  clear J6 P6 hl6 hcell HOp2 e2 e3 HN5 HC HO HO2
  go_wp2_with (go_at_call 16; refine HSz.out.mono ?_; rintro ee w7 ⟨rfl, hw⟩; subst w7; clear HSz)
  go_ret
  exact ⟨rfl, HJ6.out.nw.kp⟩
end Go.Proofs.Ytmpjgbckehnkjab
