/-
  The contract of the law package's helper 'write' over this seat's program: all asks are written by the program and by the reference alike.
-/
import Derived.Test.YthpekclkclpbpaaRefs
import Derived.Deep.RegionWith
namespace Go.Proofs.Ythpekclkclpbpaa
open Go.RowKit

/-- a writer and a row of the call's own, apart from one another, of the same bytes. -/
structure Duo (base : Nat) (w : World) (p : Nat) (v vb : Value) (bs : List Int) : Prop where
  wr : Wr w p v bs
  row : Row w base vb bs
  ne1 : vb.ownBlock ≠ some p
  ne2 : ∀ k, v.ownBlock = some k → vb.ownBlock ≠ some k
theorem Row.lt {w : World} {base : Nat} {v : Value} {bs : List Int} (h : Row w base v bs) : ∀ k, v.ownBlock = some k → base ≤ k ∧ k < w.heap.size := World.ownsRow.lt h
theorem Duo.kept {base : Nat} {w w' : World} {p : Nat} {v vb : Value} {bs : List Int} (h : Duo base w p v vb bs) (k : Kp [] w w') : Duo base w' p v vb bs :=
  ⟨h.wr.kept k (by simp) (by simp), h.row.kept k (by simp), h.ne1, h.ne2⟩
/-- behind a step of the writer the row is as it was. -/
theorem Duo.mid {base : Nat} {w w1 : World} {p : Nat} {v vb v1 : Value} {bs : List Int} (h : Duo base w p v vb bs) (s1 : Step p w v w1 v1) : Row w1 base vb bs :=
  h.row.kept s1.1 (fun i hi hm => by
    simp only [List.mem_cons, Option.mem_toList] at hm
    rcases hm with rfl | hm
    · exact h.ne1 hi
    · exact h.ne2 i hm hi)
theorem Duo.next {base : Nat} {w w1 w2 : World} {p : Nat} {v vb v1 vb2 : Value} {bs cs : List Int} (h : Duo base w p v vb bs) (a1 : Wr w1 p v1 cs) (s1 : Step p w v w1 v1) (r2 : Row w2 base vb2 cs) (s2 : RStep w1 vb w2 vb2) : Duo base w2 p v1 vb2 cs := by
  have hlt := h.row.lt
  have hp := h.wr.lt
  have hv := h.wr.2.lt
  have a1lt := a1.2.lt
  have ap := a1.lt
  have e1 : ∀ k, v1.ownBlock = some k → vb.ownBlock ≠ some k := fun k hk e => by
    rcases s1.2 k hk with e2 | e2
    · exact h.ne2 k e2 e
    · have := (hlt k e).2; omega
  refine ⟨a1.kept s2.1 (by simp; exact fun e => h.ne1 e) (fun i hi hm => by simp only [Option.mem_toList] at hm; exact e1 i hi hm), r2, fun e => ?_, fun k hk e => ?_⟩
  · rcases s2.2 p e with e2 | e2
    · exact h.ne1 e2
    · omega
  · rcases s2.2 k e with e2 | e2
    · exact e1 k hk e2
    · have := (a1lt k hk).2; omega
theorem Duo.kp {base : Nat} {w0 w w1 w2 : World} {p : Nat} {v vb v1 vb2 : Value} {bs : List Int} (h : Duo base w p v vb bs) (k : Kp [] w0 w) (hp : w0.heap.size ≤ p) (hb : w0.heap.size ≤ base) (s1 : Step p w v w1 v1) (s2 : RStep w1 vb w2 vb2) : Kp [] w0 w2 := by
  have k1 : Kp [] w0 w1 := k.then s1.1 (fun i hi => by
    simp only [List.mem_cons, Option.mem_toList] at hi
    rcases hi with rfl | hi
    · exact .inr hp
    · have := (h.wr.2.lt i hi).1; exact .inr (by omega))
  exact k1.then s2.1 (fun i hi => by
    simp only [Option.mem_toList] at hi
    have := (h.row.lt i hi).1
    exact .inr (by omega))
theorem Duo.kp1 {base : Nat} {w0 w w1 : World} {p : Nat} {v vb : Value} {bs : List Int} (h : Duo base w p v vb bs) (k : Kp [] w0 w) (hp : w0.heap.size ≤ p) (s1 : Kp (p :: v.ownBlock.toList) w w1) : Kp [] w0 w1 :=
  k.then s1 (fun i hi => by
    simp only [List.mem_cons, Option.mem_toList] at hi
    rcases hi with rfl | hi
    · exact .inr hp
    · have := (h.wr.2.lt i hi).1; exact .inr (by omega))

/-- what an ask writes. -/
def wr1 (x : AskD) : List Int :=
  if x.kind = 1 then [x.n % 256] else if x.kind = 2 then be x.n 4 0 else if x.kind = 3 then be (x.bs.take 300).length 2 0 ++ x.bs.take 300 else x.bs.take 300
def wrs (l : List AskD) : List Int := (l.map wr1).flatten
theorem wrs_take (l : List AskD) (k : Nat) (h : k < l.length) : wrs (l.take (k + 1)) = wrs (l.take k) ++ wr1 l[k] := by
  rw [List.take_succ_eq_append_getElem h]
  unfold wrs
  rw [List.map_append, List.flatten_append]
  simp
theorem wr1_len (x : AskD) : (wr1 x).length ≤ 302 := by
  unfold wr1
  split
  · simp
  · split
    · rw [be_length]; omega
    · split
      · rw [List.length_append, be_length, List.length_take]; omega
      · rw [List.length_take]; omega
theorem wrs_len (l : List AskD) (k : Nat) : (wrs (l.take k)).length ≤ k * 302 := by
  induction k with
  | zero => simp [wrs]
  | succ k ih =>
    rcases Nat.lt_or_ge k l.length with h | h
    · rw [wrs_take l k h, List.length_append]
      have := wr1_len l[k]
      omega
    · have e1 : l.take k = l := List.take_of_length_le h
      have e2 : l.take (k + 1) = l := List.take_of_length_le (Nat.le_succ_of_le h)
      rw [e1] at ih
      rw [e2]
      exact Nat.le_trans ih (Nat.mul_le_mul_right _ (Nat.le_succ k))

theorem cmp_eq (bs : List Int) : ((strOfNums bs).toList != (strOfNums bs).toList) = false := by simp

set_option maxRecDepth 100000 in
set_option maxHeartbeats 4000000 in
theorem write_any (vl : Value) (l : List AskD) (w : World) (hl : Asks w vl l) :
    Calls Try.prog 13 #[vl] w fun e w' => ∃ ao m c, e = .returned (.tuple #[.slice ao m c, .bool true]) ∧ Row w' w.heap.size (.slice ao m c) (wrs (l.take 40)) ∧ Kp [] w w' := by
  obtain ⟨al, cl, rfl, hll, hask⟩ := hl
  go_enter Try.func13, Try.ntmps13
  go_wp2_with fail
  refine (new_abs _).mono ?_
  rintro e w1 ⟨p, rfl, a1, hp, k1⟩
  go_wp2_with fail
  go_loopw [5, 6] (fun b i wr => ∃ k : Nat, k ≤ 40 ∧ k ≤ l.length ∧ i = .int .i64 k ∧ (∃ ab mb cb, b = .slice ab mb cb) ∧ ∃ v', Duo w.heap.size wr p v' b (wrs (l.take k)) ∧ Kp [] w wr) (fun _ i _ => 40 - (intOf i).toNat)
  case atStart => exact ⟨0, by omega, by omega, rfl, ⟨_, _, _, rfl⟩, _, ⟨by simpa [wrs] using a1, World.ownsRow_nil w1 w.heap.size 5 1, by simp [Value.ownBlock], by simp [Value.ownBlock]⟩, k1⟩
  case round =>
    obtain ⟨k, hk1, hk2, rfl, ⟨ab, mb, cb, rfl⟩, v', hD, hK⟩ := hrel
    clear a1 k1
    by_cases hlt : k < l.length ∧ k < 40
    · obtain ⟨hlt1, hlt2⟩ := hlt
      have hlt3 : (k : Int) < (l.length : Int) := by omega
      obtain ⟨bl, off, rfl, hA⟩ := hask k hlt1
      have hW := wrs_take l k hlt1
      obtain ⟨x, hx⟩ : ∃ x, x = l[k] := ⟨_, rfl⟩
      rw [← hx] at hA hW
      obtain ⟨B, hBe⟩ : ∃ B, B = wrs (l.take k) := ⟨_, rfl⟩
      have hBl : B.length ≤ 12080 := by have := wrs_len l k; rw [hBe]; omega
      rw [← hBe] at hD hW
      have HW := hide hW
      obtain ⟨q0, q1, q2, q3, qs, qB, ⟨qn0, qn1⟩, _⟩ := hA
      have d0 := hK.cell q0 (by simp)
      have d2 := hK.cell q2 (by simp)
      have d3 := hK.cell q3 (by simp)
      have ds := qs.kept hK (by simp)
      have HQ0 := hide q0
      have HQ2 := hide q2
      have HQ3 := hide q3
      have HQS := hide qs
      clear q0 q1 q2 q3 hW hx hBe hask
      go_wp2_with fail
      refine (cut_any x.v x.bs 300 _ ds).mono ?_
      rintro e w2 ⟨ay, cy, rfl, hT, hw⟩
      subst w2
      obtain ⟨y, hy⟩ : ∃ y, y = x.bs.take 300 := ⟨_, rfl⟩
      have hyl : y.length ≤ 300 := by rw [hy, List.length_take]; omega
      rw [← hy] at hT ⊢
      have hTw := hT _ (unhide HQS)
      have hTr := hT _ ds
      have HT := hide hTw
      have HY := hide hy
      clear hT hTw hy ds
      have hbase := hK.size
      by_cases e1 : x.kind = 1
      · have eq1 : wr1 x = [x.n % 256] := by unfold wr1; rw [if_pos e1]
        have t1 : (x.kind == 1) = true := beq_iff_eq.2 e1
        have hwr : IntKind.u8.wrap x.n = x.n % 256 := by simp [IntKind.wrap, IntKind.signed, IntKind.bits]
        have EQ := hide eq1
        clear e1 eq1 hTr
        go_wp2_with fail
        refine (wbyte_any p (x.n % 256) v' B _ hD.wr (by omega) (by omega) (by omega)).mono ?_
        rintro e w3 ⟨rfl, v3, a3, s3⟩
        have d23 := (hD.kp1 hK hp s3.1).cell (unhide HQ2) (by simp)
        have rm := hD.mid s3
        have hsl : Sl (w3.alloc (.cells #[.int .u8 (x.n % 256)] 5)) (.slice (some ⟨w3.heap.size, 0, none⟩) 1 1) [x.n % 256] := Sl.block (cs := [x.n % 256]) (t := 5) (heap_alloc_new w3 _) (by simp [maxLen])
        have hb3 := s3.1.size
        go_wp2_with (at_builtin; refine wpList_append_row rfl _ _ rfl w.heap.size _ B rfl (rm.kept ((Kp.refl [] w3).alloc _) (by simp)) _ [x.n % 256] rfl hsl (by simp; omega) (by simp; omega) ?_; intro ao4 m4 c4 w4 r4 s4)
        have s4' := s4.after ((Kp.refl [] w3).alloc _)
        have D2 := hD.next a3 s3 r4 s4'
        have K2 := hD.kp hK hp (Nat.le_refl _) s3 s4'
        rw [← unhide EQ, ← unhide HW] at D2
        obtain ⟨B2, hB2⟩ : ∃ B2, B2 = wrs (l.take (k + 1)) := ⟨_, rfl⟩
        rw [← hB2] at D2
        have hB2l : B2.length ≤ 140737488355328 := by have := wrs_len l (k + 1); rw [hB2]; omega
        have HB2 := hide hB2
        have c1 : ∀ W ao c, Sl W (.slice ao B2.length c) B2 → (convert 25 9 (.slice ao B2.length c)).run Try.prog W = .ok (.string (strOfNums B2)) W := fun W ao c h => h.conv 25 9 5 Try.underlying25 Try.underlying5 Try.underlying9
        have c2 : ∀ W, Sl W (.slice ao4 m4 c4) B2 → (convert 25 9 (.slice ao4 m4 c4)).run Try.prog W = .ok (.string (strOfNums B2)) W := fun W h => h.conv 25 9 5 Try.underlying25 Try.underlying5 Try.underlying9
        have z2 : Sl w4.drew (.slice ao4 m4 c4) B2 := D2.row.sl.kept (Kp.refl [] _).drew (by simp)
        have DD : Hid (∀ W, Kp [] w4 W → Calls Try.prog 11 #[.pointer (some ⟨p, 0, none⟩)] W fun e w' => ∃ ao c, e = .returned (.slice ao B2.length c) ∧ Sl w' (.slice ao B2.length c) B2 ∧ Sl w' (.slice ao4 m4 c4) B2 ∧ Duo w.heap.size w' p v3 (.slice ao4 m4 c4) B2 ∧ Kp [] w w') := fun W hW => (done_any p v3 B2 W (D2.wr.kept hW (by simp) (by simp)) hB2l).mono fun e w' ⟨ao, c, h1, h2, h3⟩ => ⟨ao, c, h1, Sl.of_owns h2, D2.row.sl.kept (hW.trans h3) (by simp), D2.kept (hW.trans h3), K2.trans (hW.trans h3)⟩
        clear hD hK d0 d2 d3 hB2 D2 K2 a3 s3 r4 s4 s4' d23 rm hsl
        go_wp2_with fail
        go_region_with (go_at_call 11; refine (unhide DD _ ?_).mono ?_; (first | exact (Kp.refl [] _).drew | exact Kp.refl [] _); rintro e w9 ⟨ao9, c9, rfl, z9, z9b, D9, K9⟩)
        all_goals
          go_wp2_with fail
          go_roundw
          case rel => exact ⟨k + 1, by omega, by omega, by go_num, ⟨_, _, _, rfl⟩, v3, by rw [← unhide HB2]; exact D9, K9⟩
          case measure => simp [intOf]; omega
      · by_cases e2 : x.kind = 2
        · have eq1 : wr1 x = be x.n 4 0 := by unfold wr1; rw [if_neg e1, if_pos e2]
          have t1 : (x.kind == 1) = false := beq_eq_false_iff_ne.2 e1
          have t2 : (x.kind == 2) = true := beq_iff_eq.2 e2
          have EQ := hide eq1
          clear e1 e2 eq1 hTr
          go_wp2_with fail
          refine (num_any p x.n v' B _ hD.wr (by omega)).mono ?_
          rintro e w3 ⟨rfl, v3, a3, s3⟩
          have d23 := (hD.kp1 hK hp s3.1).cell (unhide HQ2) (by simp)
          have rm := hD.mid s3
          have hb3 := s3.1.size
          go_wp2_with fail
          refine (refnum_any _ B x.n w.heap.size _ rm (by omega) (by omega)).mono ?_
          rintro e w4 ⟨ao4, m4, c4, rfl, r4, s4⟩
          have D2 := hD.next a3 s3 r4 s4
          have K2 := hD.kp hK hp (Nat.le_refl _) s3 s4
          rw [← unhide EQ, ← unhide HW] at D2
          obtain ⟨B2, hB2⟩ : ∃ B2, B2 = wrs (l.take (k + 1)) := ⟨_, rfl⟩
          rw [← hB2] at D2
          have hB2l : B2.length ≤ 140737488355328 := by have := wrs_len l (k + 1); rw [hB2]; omega
          have HB2 := hide hB2
          have c1 : ∀ W ao c, Sl W (.slice ao B2.length c) B2 → (convert 25 9 (.slice ao B2.length c)).run Try.prog W = .ok (.string (strOfNums B2)) W := fun W ao c h => h.conv 25 9 5 Try.underlying25 Try.underlying5 Try.underlying9
          have c2 : ∀ W, Sl W (.slice ao4 m4 c4) B2 → (convert 25 9 (.slice ao4 m4 c4)).run Try.prog W = .ok (.string (strOfNums B2)) W := fun W h => h.conv 25 9 5 Try.underlying25 Try.underlying5 Try.underlying9
          have z2 : Sl w4.drew (.slice ao4 m4 c4) B2 := D2.row.sl.kept (Kp.refl [] _).drew (by simp)
          have DD : Hid (∀ W, Kp [] w4 W → Calls Try.prog 11 #[.pointer (some ⟨p, 0, none⟩)] W fun e w' => ∃ ao c, e = .returned (.slice ao B2.length c) ∧ Sl w' (.slice ao B2.length c) B2 ∧ Sl w' (.slice ao4 m4 c4) B2 ∧ Duo w.heap.size w' p v3 (.slice ao4 m4 c4) B2 ∧ Kp [] w w') := fun W hW => (done_any p v3 B2 W (D2.wr.kept hW (by simp) (by simp)) hB2l).mono fun e w' ⟨ao, c, h1, h2, h3⟩ => ⟨ao, c, h1, Sl.of_owns h2, D2.row.sl.kept (hW.trans h3) (by simp), D2.kept (hW.trans h3), K2.trans (hW.trans h3)⟩
          clear hD hK d0 d2 d3 hB2 D2 K2 a3 s3 r4 s4 d23 rm
          go_wp2_with fail
          go_region_with (go_at_call 11; refine (unhide DD _ ?_).mono ?_; (first | exact (Kp.refl [] _).drew | exact Kp.refl [] _); rintro e w9 ⟨ao9, c9, rfl, z9, z9b, D9, K9⟩)
          all_goals
            go_wp2_with fail
            go_roundw
            case rel => exact ⟨k + 1, by omega, by omega, by go_num, ⟨_, _, _, rfl⟩, v3, by rw [← unhide HB2]; exact D9, K9⟩
            case measure => simp [intOf]; omega
        · by_cases e3 : x.kind = 3
          · have eq1 : wr1 x = be y.length 2 0 ++ y := by unfold wr1; rw [if_neg e1, if_neg e2, if_pos e3, ← unhide HY]
            have t1 : (x.kind == 1) = false := beq_eq_false_iff_ne.2 e1
            have t2 : (x.kind == 2) = false := beq_eq_false_iff_ne.2 e2
            have t3 : (x.kind == 3) = true := beq_iff_eq.2 e3
            have EQ := hide eq1
            have hk3 : Hid (∀ w1, Kp (p :: v'.ownBlock.toList) wr w1 → Sl w1 (.slice ay y.length cy) y) := fun w1 h1 => (unhide HT).kept (hD.kp1 hK hp h1) (by simp)
            clear e1 e2 e3 eq1
            go_wp2_with fail
            refine (bytes_ok p v' B _ y _ hD.wr hTr (unhide hk3) (by omega) (by omega)).mono ?_
            rintro e w3 ⟨rfl, v3, a3, s3⟩
            have rm := hD.mid s3
            have hb3 := s3.1.size
            have K3 := hD.kp1 hK hp s3.1
            have hk4 : Hid (∀ w1, Kp (Value.slice ab mb cb).ownBlock.toList w3 w1 → Sl w1 (.slice ay y.length cy) y) := fun w1 h1 => (unhide HT).kept (K3.then h1 (fun i hi => by
              simp only [Option.mem_toList] at hi
              exact .inr (hD.row.lt i hi).1)) (by simp)
            have hT3 := (unhide HT).kept K3 (by simp)
            go_wp2_with fail
            refine (refbytes_any _ B _ y w.heap.size _ rm (by omega) (by omega) hT3 (unhide hk4)).mono ?_
            rintro e w4 ⟨ao4, m4, c4, rfl, r4, s4⟩
            have D2 := hD.next a3 s3 r4 s4
            have K2 := hD.kp hK hp (Nat.le_refl _) s3 s4
            rw [List.append_assoc, ← unhide EQ, ← unhide HW] at D2
            obtain ⟨B2, hB2⟩ : ∃ B2, B2 = wrs (l.take (k + 1)) := ⟨_, rfl⟩
            rw [← hB2] at D2
            have hB2l : B2.length ≤ 140737488355328 := by have := wrs_len l (k + 1); rw [hB2]; omega
            have HB2 := hide hB2
            have c1 : ∀ W ao c, Sl W (.slice ao B2.length c) B2 → (convert 25 9 (.slice ao B2.length c)).run Try.prog W = .ok (.string (strOfNums B2)) W := fun W ao c h => h.conv 25 9 5 Try.underlying25 Try.underlying5 Try.underlying9
            have c2 : ∀ W, Sl W (.slice ao4 m4 c4) B2 → (convert 25 9 (.slice ao4 m4 c4)).run Try.prog W = .ok (.string (strOfNums B2)) W := fun W h => h.conv 25 9 5 Try.underlying25 Try.underlying5 Try.underlying9
            have z2 : Sl w4.drew (.slice ao4 m4 c4) B2 := D2.row.sl.kept (Kp.refl [] _).drew (by simp)
            have DD : Hid (∀ W, Kp [] w4 W → Calls Try.prog 11 #[.pointer (some ⟨p, 0, none⟩)] W fun e w' => ∃ ao c, e = .returned (.slice ao B2.length c) ∧ Sl w' (.slice ao B2.length c) B2 ∧ Sl w' (.slice ao4 m4 c4) B2 ∧ Duo w.heap.size w' p v3 (.slice ao4 m4 c4) B2 ∧ Kp [] w w') := fun W hW => (done_any p v3 B2 W (D2.wr.kept hW (by simp) (by simp)) hB2l).mono fun e w' ⟨ao, c, h1, h2, h3⟩ => ⟨ao, c, h1, Sl.of_owns h2, D2.row.sl.kept (hW.trans h3) (by simp), D2.kept (hW.trans h3), K2.trans (hW.trans h3)⟩
            clear hD hK d0 d2 d3 hB2 D2 K2 a3 s3 r4 s4 rm K3 hT3 hTr
            go_wp2_with fail
            go_region_with (go_at_call 11; refine (unhide DD _ ?_).mono ?_; (first | exact (Kp.refl [] _).drew | exact Kp.refl [] _); rintro e w9 ⟨ao9, c9, rfl, z9, z9b, D9, K9⟩)
            all_goals
              go_wp2_with fail
              go_roundw
              case rel => exact ⟨k + 1, by omega, by omega, by go_num, ⟨_, _, _, rfl⟩, v3, by rw [← unhide HB2]; exact D9, K9⟩
              case measure => simp [intOf]; omega
          · have eq1 : wr1 x = y := by unfold wr1; rw [if_neg e1, if_neg e2, if_neg e3, ← unhide HY]
            have t1 : (x.kind == 1) = false := beq_eq_false_iff_ne.2 e1
            have t2 : (x.kind == 2) = false := beq_eq_false_iff_ne.2 e2
            have t3 : (x.kind == 3) = false := beq_eq_false_iff_ne.2 e3
            have EQ := hide eq1
            clear e1 e2 e3 eq1
            go_wp2_with fail
            refine (raw_any p v' B _ y _ hD.wr hTr (by omega)).mono ?_
            rintro e w3 ⟨rfl, v3, a3, s3⟩
            have rm := hD.mid s3
            have hb3 := s3.1.size
            have K3 := hD.kp1 hK hp s3.1
            have hT3 := (unhide HT).kept K3 (by simp)
            go_wp2_with (at_builtin; refine wpList_append_row rfl _ _ rfl w.heap.size _ B rfl rm _ y rfl hT3 (by omega) (by omega) ?_; intro ao4 m4 c4 w4 r4 s4)
            have D2 := hD.next a3 s3 r4 s4
            have K2 := hD.kp hK hp (Nat.le_refl _) s3 s4
            rw [← unhide EQ, ← unhide HW] at D2
            obtain ⟨B2, hB2⟩ : ∃ B2, B2 = wrs (l.take (k + 1)) := ⟨_, rfl⟩
            rw [← hB2] at D2
            have hB2l : B2.length ≤ 140737488355328 := by have := wrs_len l (k + 1); rw [hB2]; omega
            have HB2 := hide hB2
            have c1 : ∀ W ao c, Sl W (.slice ao B2.length c) B2 → (convert 25 9 (.slice ao B2.length c)).run Try.prog W = .ok (.string (strOfNums B2)) W := fun W ao c h => h.conv 25 9 5 Try.underlying25 Try.underlying5 Try.underlying9
            have c2 : ∀ W, Sl W (.slice ao4 m4 c4) B2 → (convert 25 9 (.slice ao4 m4 c4)).run Try.prog W = .ok (.string (strOfNums B2)) W := fun W h => h.conv 25 9 5 Try.underlying25 Try.underlying5 Try.underlying9
            have z2 : Sl w4.drew (.slice ao4 m4 c4) B2 := D2.row.sl.kept (Kp.refl [] _).drew (by simp)
            have DD : Hid (∀ W, Kp [] w4 W → Calls Try.prog 11 #[.pointer (some ⟨p, 0, none⟩)] W fun e w' => ∃ ao c, e = .returned (.slice ao B2.length c) ∧ Sl w' (.slice ao B2.length c) B2 ∧ Sl w' (.slice ao4 m4 c4) B2 ∧ Duo w.heap.size w' p v3 (.slice ao4 m4 c4) B2 ∧ Kp [] w w') := fun W hW => (done_any p v3 B2 W (D2.wr.kept hW (by simp) (by simp)) hB2l).mono fun e w' ⟨ao, c, h1, h2, h3⟩ => ⟨ao, c, h1, Sl.of_owns h2, D2.row.sl.kept (hW.trans h3) (by simp), D2.kept (hW.trans h3), K2.trans (hW.trans h3)⟩
            clear hD hK d0 d2 d3 hB2 D2 K2 a3 s3 r4 s4 rm K3 hT3 hTr
            go_wp2_with fail
            go_region_with (go_at_call 11; refine (unhide DD _ ?_).mono ?_; (first | exact (Kp.refl [] _).drew | exact Kp.refl [] _); rintro e w9 ⟨ao9, c9, rfl, z9, z9b, D9, K9⟩)
            all_goals
              go_wp2_with fail
              go_roundw
              case rel => exact ⟨k + 1, by omega, by omega, by go_num, ⟨_, _, _, rfl⟩, v3, by rw [← unhide HB2]; exact D9, K9⟩
              case measure => simp [intOf]; omega
    · have hmin : l.take 40 = l.take k := by
        rcases Nat.lt_or_ge k l.length with h | h
        · have : k = 40 := by omega
          rw [this]
        · rw [List.take_of_length_le h, List.take_of_length_le (by omega)]
      clear hask
      rw [← hmin] at hD
      go_wp2_with fail
      all_goals
        go_ret2
        exact ⟨ab, mb, cb, rfl, hD.row, hK⟩
end Go.Proofs.Ythpekclkclpbpaa
