/-
  AgendaTakes: taken in pieces, up to one time and then up to another, all comes as at once.
-/
import Derived.Test.YtlmbheobaiibeaaAgTwo
namespace Go.Proofs.Ytlmbheobaiibeaa
open Go.RowKit Go.Sort Go.Lib

theorem ints_at'' {w : World} {v : Value} {l : List Int} (h : IntsA w v l) : ∃ ao c, v = .slice ao l.length c ∧ ∀ i, i < l.length → ∃ a, ao = some a ∧ w.cell? (a.add i) = some (.int .i64 (l.getD i 0)) := by
  obtain ⟨ao, c, rfl, _, h2⟩ := h
  refine ⟨ao, c, rfl, fun i hi => ?_⟩
  obtain ⟨a, e, hc⟩ := h2 i hi
  exact ⟨a, e, by rw [hc]; simp [hi]⟩

/-- A row of ints that was made since w0. -/
structure Row3 (w0 w : World) (v : Value) (l : List Int) : Prop where
  own : w.ownsRow 0 3 1 v l.length (l.map (Value.int .i64))
  fr : ∀ i, v.ownBlock = some i → w0.heap.size ≤ i
/-- v's block is none of these. -/
def Dj (v : Value) (S : List Nat) : Prop := ∀ i, v.ownBlock = some i → i ∉ S
section
variable {w0 w w' : World} {v v' : Value} {l : List Int}
theorem Row3.kept (h : Row3 w0 w v l) {S : List Nat} (k : Kp S w w') (hd : Dj v S) : Row3 w0 w' v l := ⟨k.owns h.own hd, h.fr⟩
theorem Row3.keptN (h : Row3 w0 w v l) (k : Kp [] w w') : Row3 w0 w' v l := h.kept k (fun _ _ => by simp)
theorem Row3.lt (h : Row3 w0 w v l) : ∀ i, v.ownBlock = some i → i < w.heap.size := fun i hi => (h.own.lt i hi).2
theorem Row3.shape (h : Row3 w0 w v l) : ∃ ao c, v = .slice ao l.length c := by
  rcases h.own.2 with ⟨rfl, h0⟩ | ⟨g, cap, cur, rfl, _⟩
  · rw [h0]; exact ⟨_, _, rfl⟩
  · exact ⟨_, _, rfl⟩
theorem Row3.ints (h : Row3 w0 w v l) (hl : l.length ≤ 1000) : IntsA w v l := ints_of_owns h.own (by unfold maxLen; omega)
theorem Dj.step {S S' : List Nat} (h : Dj v S) (hl : ∀ i, v.ownBlock = some i → i < w.heap.size) (hs : ∀ i ∈ S', i ∈ S ∨ w.heap.size ≤ i) : Dj v S' := fun i hi hn => by
  rcases hs i hn with h1 | h1
  · exact h i hi h1
  · have := hl i hi; omega
/-- behind an append: the row, and what it may have changed. -/
theorem Row3.app {w1 : World} {x : Int} (h : Row3 w0 w v l) (k0 : Kp [] w0 w) (k1 : Kp [] w w1) (ho : w'.ownsRow 0 3 1 v' (l.length + 1) (l.map (Value.int .i64) ++ [.int .i64 x])) (hg : w1.grownBy w' v.ownBlock) (hat : v'.ownBlock = v.ownBlock ∨ v'.ownBlock = some w1.heap.size) :
    Row3 w0 w' v' (l ++ [x]) ∧ Kp v.ownBlock.toList w w' ∧ ∀ i, v'.ownBlock = some i → v.ownBlock = some i ∨ w.heap.size ≤ i := by
  refine ⟨⟨?_, fun i hi => ?_⟩, ?_, fun i hi => ?_⟩
  · rw [List.length_append, List.map_append]; exact ho
  · rcases hat with e | e
    · exact h.fr i (e ▸ hi)
    · rw [e] at hi; cases hi; exact Nat.le_trans k0.size k1.size
  · exact (k1.mono (by simp)).grown hg (fun i hi => .inl (by simp [hi]))
  · rcases hat with e | e
    · exact .inl (e ▸ hi)
    · rw [e] at hi; cases hi; exact .inr k1.size
end
section
variable {w0 w w' : World} {pa : Nat} {va va' : Value} {ma ma' : List En} {ka ka' : Nat} {pb : Nat} {vb vb' : Value} {mb mb' : List En} {kb kb' : Nat}
theorem Two.keptS (h : Two w0 w pa va ma ka pb vb mb kb) {v : Value} (k : Kp v.ownBlock.toList w w') (hf : ∀ i, v.ownBlock = some i → w0.heap.size ≤ i) (da : Dj v (fp pa va)) (db : Dj v (fp pb vb)) : Two w0 w' pa va ma ka pb vb mb kb :=
  ⟨h.a.kept k (fun i hi hn => da i (by simpa using hn) hi), h.b.kept k (fun i hi hn => db i (by simpa using hn) hi), h.fa, h.fb, h.dis, h.kp.then k (fun i hi => .inr (hf i (by simpa using hi)))⟩
end
theorem take_what (m : List En) (t : Nat) (x : En) (l : List En) (h : m.drop t = x :: l) : (m.take (t + 1)).map En.what = (m.take t).map En.what ++ [x.what] ∧ m.drop (t + 1) = l ∧ t < m.length := by
  have ht : t < m.length := by
    rcases Nat.lt_or_ge t m.length with h1 | h1
    · exact h1
    · rw [List.drop_eq_nil_of_le h1] at h; cases h
  have hx : m[t] = x := by
    have := List.drop_eq_getElem_cons ht
    rw [h] at this
    exact (List.cons.inj this).1.symm
  refine ⟨?_, ?_, ht⟩
  · rw [List.take_add_one, List.map_append]
    simp [List.getElem?_eq_getElem ht, hx]
  · have := List.drop_eq_getElem_cons ht
    rw [h] at this
    exact (List.cons.inj this).2.symm

/-- The world in the passes of AgendaTakes: t of m's entries were taken from the first agenda, and stand in the row; vp holds the two times. -/
structure TkX (w0 w : World) (pa pb : Nat) (m : List En) (k t : Nat) (va vb vx vp : Value) (ct : Int) : Prop where
  two : Two w0 w pa va (m.drop t) k pb vb m k
  row : Row3 w0 w vx ((m.take t).map En.what)
  da : Dj vx (fp pa va)
  db : Dj vx (fp pb vb)
  le : t ≤ m.length
  ps : Row3 w0 w vp [ct, 60]
  pa' : Dj vp (fp pa va)
  px : Dj vp vx.ownBlock.toList
section
variable {w0 w w' : World} {pa pb : Nat} {m : List En} {k t t' : Nat} {va va' vb vb' vx vx' vy vy' vp : Value} {ct : Int}
theorem TkX.stepA (h : TkX w0 w pa pb m k t va vb vx vp ct) (g : Ag w' pa va' (m.drop t') k) (T : Ste pa w va w' va') (hr : m.take t' = m.take t) (ht : t' ≤ m.length) : TkX w0 w' pa pb m k t' va' vb vx vp ct :=
  ⟨h.two.stepA g T, by rw [hr]; exact h.row.kept T.1 h.da, h.da.step h.row.lt (fp_step T), h.db, ht, h.ps.kept T.1 h.pa', h.pa'.step h.ps.lt (fp_step T), h.px⟩
theorem TkX.app {x : En} {l : List En} {w1 : World} (h : Two w0 w pa va l k pb vb m k) (hr : Row3 w0 w vx ((m.take t).map En.what)) (da : Dj vx (fp pa va)) (db : Dj vx (fp pb vb)) (ps : Row3 w0 w vp [ct, 60]) (pa' : Dj vp (fp pa va)) (px : Dj vp vx.ownBlock.toList)
    (hd : m.drop t = x :: l) (k1 : Kp [] w w1) (ho : w'.ownsRow 0 3 1 vx' (((m.take t).map En.what).length + 1) (((m.take t).map En.what).map (Value.int .i64) ++ [.int .i64 x.what])) (hg : w1.grownBy w' vx.ownBlock) (hat : vx'.ownBlock = vx.ownBlock ∨ vx'.ownBlock = some w1.heap.size) :
    TkX w0 w' pa pb m k (t + 1) va vb vx' vp ct := by
  obtain ⟨e1, e2, e3⟩ := take_what m t x l hd
  obtain ⟨r1, r2, r3⟩ := hr.app h.kp k1 ho hg hat
  have TW := h.keptS r2 hr.fr da db
  refine ⟨by rw [e2]; exact TW, by rw [e1]; exact r1, fun i hi hn => ?_, fun i hi hn => ?_, by omega, ps.kept r2 px, pa', fun i hi hn => ?_⟩
  · rcases r3 i hi with h1 | h1
    · exact da i h1 hn
    · have := h.a.lt i hn; omega
  · rcases r3 i hi with h1 | h1
    · exact db i h1 hn
    · have := h.b.lt i hn; omega
  · rcases r3 i (by simpa using hn) with h1 | h1
    · exact px i hi (by simpa using h1)
    · have := ps.lt i hi; omega
/-- The world in the last pass: t were taken from the second agenda. -/
structure TkY (w0 w : World) (pa pb : Nat) (m : List En) (k t : Nat) (va vb vx vy : Value) : Prop where
  two : Two w0 w pa va [] k pb vb (m.drop t) k
  rx : Row3 w0 w vx (m.map En.what)
  ry : Row3 w0 w vy ((m.take t).map En.what)
  xb : Dj vx (fp pb vb)
  xy : Dj vx vy.ownBlock.toList
  ya : Dj vy (fp pa va)
  yb : Dj vy (fp pb vb)
  le : t ≤ m.length
theorem TkY.stepB (h : TkY w0 w pa pb m k t va vb vx vy) (g : Ag w' pb vb' (m.drop t') k) (T : Ste pb w vb w' vb') (hr : m.take t' = m.take t) (ht : t' ≤ m.length) : TkY w0 w' pa pb m k t' va vb' vx vy :=
  ⟨h.two.stepB g T, h.rx.kept T.1 h.xb, by rw [hr]; exact h.ry.kept T.1 h.yb, h.xb.step h.rx.lt (fp_step T), h.xy, h.ya, h.yb.step h.ry.lt (fp_step T), ht⟩
theorem TkY.app {x : En} {l : List En} {w1 : World} (h : Two w0 w pa va [] k pb vb l k) (hx : Row3 w0 w vx (m.map En.what)) (hy : Row3 w0 w vy ((m.take t).map En.what)) (xb : Dj vx (fp pb vb)) (xy : Dj vx vy.ownBlock.toList) (ya : Dj vy (fp pa va)) (yb : Dj vy (fp pb vb))
    (hd : m.drop t = x :: l) (k1 : Kp [] w w1) (ho : w'.ownsRow 0 3 1 vy' (((m.take t).map En.what).length + 1) (((m.take t).map En.what).map (Value.int .i64) ++ [.int .i64 x.what])) (hg : w1.grownBy w' vy.ownBlock) (hat : vy'.ownBlock = vy.ownBlock ∨ vy'.ownBlock = some w1.heap.size) :
    TkY w0 w' pa pb m k (t + 1) va vb vx vy' := by
  obtain ⟨e1, e2, e3⟩ := take_what m t x l hd
  obtain ⟨r1, r2, r3⟩ := hy.app h.kp k1 ho hg hat
  have TW := h.keptS r2 hy.fr ya yb
  refine ⟨by rw [e2]; exact TW, hx.kept r2 xy, by rw [e1]; exact r1, xb, fun i hi hn => ?_, fun i hi hn => ?_, fun i hi hn => ?_, by omega⟩
  · rcases r3 i (by simpa using hn) with h1 | h1
    · exact xy i hi (by simpa using h1)
    · have := hx.lt i hi; omega
  · rcases r3 i hi with h1 | h1
    · exact ya i h1 hn
    · have := h.a.lt i hn; omega
  · rcases r3 i hi with h1 | h1
    · exact yb i h1 hn
    · have := h.b.lt i hn; omega
end
set_option maxHeartbeats 8000000 in
set_option maxRecDepth 100000 in
theorem takes_walk (vt : Value) (ts : List Int) (cut : Int) (w : World) (ht : IntsA w vt ts) :
    Calls Try.prog 7 #[vt, .int .i64 cut] w fun e w' => e = .returned (.bool true) ∧ Kp [] w w' := by
  obtain ⟨i0, hi0, hz0, hz1, hz2⟩ := info_parts Try.infoInt
  obtain ⟨ao, c, rfl, hcell⟩ := ints_at'' ht
  obtain ⟨n0, hn0⟩ : ∃ n0, n0 = ts.length := ⟨_, rfl⟩
  have CELL : Hid (∀ w', Kp [] w w' → ∀ i : Nat, i < n0 → ∃ a, ao = some a ∧ w'.cell? (a.add i) = some (.int .i64 (ts.getD i 0))) := fun w' k i hi => by
    obtain ⟨a, e, hc⟩ := hcell i (by omega)
    exact ⟨a, e, k.cell hc (by simp)⟩
  rw [← hn0]
  clear hcell ht hn0
  have hN := new_ag w
  have hwk := fun w => within_any cut (-1) 51 w (by omega) (by omega) (by omega)
  have hwc := wi_ge cut (-1) 51 (by omega)
  generalize wi cut (-1) 51 = ct at hwk hwc
  go_enter Try.func7, Try.ntmps7
  go_wp2_with (first
    | (go_at_call 11; refine hN.mono ?_; rintro e w1 ⟨pa, rfl, A1, hpa, k1⟩; clear hN; have hN2 := new_ag w1)
    | (go_at_call 11; refine hN2.mono ?_; rintro e w2 ⟨pb, rfl, B1, hpb, k2⟩; clear hN2))
  have INV : Hid (∃ va vb m, Two w w2 pa va m 0 pb vb m 0 ∧ m.length = 0 ∧ ∀ e ∈ m, e.at_ ≤ 50) := ⟨_, _, _, two_new A1 hpa k1 B1 hpb k2, rfl, by simp⟩
  clear A1 hpa k1 B1 hpb k2
  go_loopg [7] 60 (fun kx s7 wr => ∃ i : Nat, s7 = .int .i64 i ∧ i ≤ 60 ∧ i ≤ n0 ∧ 60 - i ≤ kx ∧ Hid (∃ va vb m, Two w wr pa va m i pb vb m i ∧ m.length = i ∧ ∀ e ∈ m, e.at_ ≤ 50))
  case atStart => exact ⟨0, rfl, by omega, Nat.zero_le _, by omega, INV⟩
  case round =>
    clear INV
    obtain ⟨i, rfl, hi, hin, hkx, HI⟩ := hrel
    obtain ⟨va, vb, m, TW, hl, hP⟩ := HI.out
    clear HI
    by_cases hgo : i < n0 ∧ i < 60
    · have hiz : (i : Int) < (n0 : Int) := by omega
      have hi4 : (i : Int) < 60 := by omega
      obtain ⟨a, rfl, hc⟩ := CELL.out wr TW.kp i hgo.1
      obtain ⟨x, hx⟩ : ∃ x, x = ts.getD i 0 := ⟨_, rfl⟩
      rw [← hx] at hc
      clear hx
      have hwt := fun w => within_any x 0 50 w (by omega) (by omega) (by omega)
      have hwi := wi_ge x 0 50 (by omega)
      generalize wi x 0 50 = t at hwt hwi
      have hadd := add_ag pa va m i t i wr TW.a (by omega)
      have HTW := hide TW
      have HP := hide hP
      clear TW hP
      go_wp2_with (first
        | (go_at_call 13; refine (hwt _).mono ?_; rintro e w' ⟨rfl, hw⟩; subst w'; clear hwt)
        | (go_at_call 12; refine hadd.mono ?_; rintro e w3 ⟨rfl, va', A3, T3⟩; clear hadd; have TW3 := HTW.out.stepA A3 T3; have haddb := add_ag pb vb m i t i w3 TW3.b (by omega))
        | (go_at_call 12; refine haddb.mono ?_; rintro e w4 ⟨rfl, vb', B4, T4⟩; clear haddb))
      go_roundg (60 - (i + 1))
      case measure => omega
      case rel =>
        refine ⟨i + 1, by go_num, by omega, by omega, Nat.le_refl _, va', vb', _, TW3.stepB B4 T4, ?_, fun e he => ?_⟩
        · rw [(insE_perm m _).length_eq]; simp [hl]
        · rcases List.mem_cons.1 ((insE_perm m _).mem_iff.1 he) with rfl | h1
          · exact hwi.2
          · exact HP.out e h1
    · have hex : (¬ (i : Int) < (n0 : Int)) ∨ ((i : Int) < (n0 : Int) ∧ ¬ (i : Int) < 60) := by omega
      have HM := hide (And.intro hl hP)
      have hnz : Hid (n0 = 0 ∨ 0 < m.length) := (show n0 = 0 ∨ 0 < m.length by omega)
      obtain ⟨wb, hwb⟩ : ∃ wb, wb = wr.heap.size := ⟨_, rfl⟩
      have X0 : Hid (TkX w (wr.alloc (.cells #[.int .i64 ct, .int .i64 60] 3)) pa pb m i 0 va vb (.slice none 0 0) (.slice (some ⟨wb, 0, none⟩) 2 2) ct) := by
        have kk : Kp [] wr (wr.alloc (.cells #[.int .i64 ct, .int .i64 60] 3)) := (Kp.refl [] wr).alloc _
        have nb : ∀ i, (Value.slice (some ⟨wb, 0, none⟩) 2 2).ownBlock = some i → i = wr.heap.size := fun i hi => by
          simp only [Value.ownBlock, Option.some.injEq] at hi; rw [← hi, hwb]
        refine ⟨TW.on kk, ⟨World.ownsRow_nil _ _ _ _, fun i h => by simp [Value.ownBlock] at h⟩, fun i h => by simp [Value.ownBlock] at h, fun i h => by simp [Value.ownBlock] at h, Nat.zero_le _, ⟨?_, fun i hi => ?_⟩, fun i hi hn => ?_, fun i hi hn => by simp [Value.ownBlock] at hn⟩
        · rw [hwb]; exact World.ownsRow_lit wr #[.int .i64 ct, .int .i64 60] 2 (Nat.zero_le _) (by simp [maxLen]) rfl
        · rw [nb i hi]; exact TW.kp.size
        · have h1 := nb i hi; have h2 := TW.a.lt i hn; omega
      clear TW hl hP hgo
      rw [hwb] at X0
      rcases hex with h1 | ⟨h1, h2⟩
      all_goals
        go_wp2_with (first
          | (go_at_call 13; refine (hwk _).mono ?_; rintro e w' ⟨rfl, hw⟩; subst w'; clear hwk))
        rw [← hwb] at X0 ⊢
        clear hwb
        go_loopg [9, 54] 2 (fun kx s9 s54 wr => ∃ (j t : Nat) (va vb vx : Value), s9 = vx ∧ s54 = .int .i64 j ∧ j ≤ 2 ∧ 2 - j ≤ kx ∧ Hid ((j = 2 → t = m.length) ∧ TkX w wr pa pb m i t va vb vx (.slice (some ⟨wb, 0, none⟩) 2 2) ct))
        case atStart => exact ⟨0, 0, va, vb, _, rfl, rfl, by omega, by omega, fun h => by omega, X0⟩
        case round =>
          clear X0
          obtain ⟨j, t, va, vb, vx, hvx, rfl, hj, hkj, HX⟩ := hrel
          replace hvx := hvx.symm
          subst hvx
          by_cases hj2 : j < 2
          · have hjz : (j : Int) < 2 := by omega
            obtain ⟨now, hnow⟩ : ∃ now : Int, now = if j = 0 then ct else 60 := ⟨_, rfl⟩
            have hcp : wr.cell? ⟨wb, j, none⟩ = some (.int .i64 now) := by
              have := HX.out.2.ps.own.cellAt j (by simp; omega)
              rw [this, hnow]
              have : j = 0 ∨ j = 1 := by omega
              rcases this with rfl | rfl <;> simp
            have HNW : Hid (j = 1 → now = 60) := fun h => by rw [hnow, h]; rfl
            clear hnow
            go_wp2_with fail
            have X1 : Hid (TkX w wr pa pb m i t va vb vx (.slice (some ⟨wb, 0, none⟩) 2 2) ct) := HX.out.2
            clear HX hcp
            go_loopg [9, 13] 70 (fun kx s9 s13 wr => ∃ (q t : Nat) (va vb vx : Value), s9 = vx ∧ s13 = .int .i64 q ∧ q ≤ t ∧ t ≤ 60 ∧ 70 - q ≤ kx ∧ Hid (TkX w wr pa pb m i t va vb vx (.slice (some ⟨wb, 0, none⟩) 2 2) ct))
            case atStart => exact ⟨0, t, va, vb, vx, rfl, rfl, Nat.zero_le _, by have := X1.out.le; have := HM.out.1; omega, by omega, X1⟩
            case round =>
              clear X1
              obtain ⟨q, t, va, vb, vx, hvx, rfl, hqt, ht60, hkq, HX⟩ := hrel
              replace hvx := hvx.symm
              subst hvx
              have X := HX.out
              clear HX
              have hq70 : (q : Int) < 70 := by omega
              have hdu := due_ag pa va (m.drop t) i now wr X.two.a (by omega)
              by_cases hdue : dueP (m.drop t) now = true
              · obtain ⟨x, l, hxl⟩ : ∃ x l, m.drop t = x :: l := by
                  cases h : m.drop t with
                  | nil => rw [h] at hdue; simp [dueP] at hdue
                  | cons x l => exact ⟨x, l, rfl⟩
                simp only [hdue, if_true] at hdu
                rw [hxl] at hdu
                simp only [List.headD_cons, List.tail_cons] at hdu
                obtain ⟨e1, e2, e3⟩ := take_what m t x l hxl
                obtain ⟨xw, hxw⟩ : ∃ xw, xw = x.what := ⟨_, rfl⟩
                rw [← hxw] at hdu
                have HE := hide (And.intro hxl (And.intro hxw e3))
                have HXX := hide X
                obtain ⟨L, hL⟩ : ∃ L, L = (m.take t).map En.what := ⟨_, rfl⟩
                have hLl : L.length ≤ 60 := by rw [hL]; simp; omega
                have HL := hide hL
                have ml := HM.out.1
                clear X hxl hxw e1 e2 e3 hdue hL
                go_wp2_with (first
                  | (go_at_call 15; refine hdu.mono ?_; rintro e w3 ⟨rfl, va', A3, T3⟩; clear hdu; have TW3 := HXX.out.two.stepA A3 T3; have R3 := HXX.out.row.kept T3.1 HXX.out.da; have P3 := HXX.out.ps.kept T3.1 HXX.out.pa'; rw [← HL.out] at R3; have K4 : Kp [] w3 (w3.alloc (.cells #[.int .i64 xw] 3)) := (Kp.refl [] w3).alloc _; have o4 := (R3.keptN K4).own; have news := cell_one_new w3 (.int .i64 xw) 3)
                  | (at_builtin; refine wpList_append_own_at _ rfl (.tmp 70) (.tmp 72) 27 rfl 0 3 i0 _ 1 8 Try.underlying27 hi0 hz0 hz1 hz2 rfl (by omega) vx L.length _ rfl o4 ⟨w3.heap.size, 0, none⟩ 1 1 [.int .i64 xw] rfl rfl news (by simp [Value.oneCell']) (by unfold maxLen; omega) (by omega) (Nat.zero_le _) ?_; intro vx' w5 o5 g5 n5 at5))
                go_roundg (70 - (q + 1))
                case measure => omega
                case rel =>
                  refine ⟨q + 1, t + 1, va', vb, vx', rfl, by go_num, by omega, by have := HE.out.2.2; omega, Nat.le_refl _, ?_⟩
                  rw [HL.out] at R3 o5
                  rw [HE.out.2.1] at o5
                  exact TkX.app TW3 R3 (HXX.out.da.step HXX.out.row.lt (fp_step T3)) HXX.out.db P3 (HXX.out.pa'.step HXX.out.ps.lt (fp_step T3)) HXX.out.px HE.out.1 K4 o5 g5 at5
              · have hdf : dueP (m.drop t) now = false := by simpa using hdue
                simp only [hdf, Bool.false_eq_true, if_false] at hdu
                have END : Hid (j + 1 = 2 → t = m.length) := fun h => by
                  have hn := HNW.out (by omega)
                  cases hc : m.drop t with
                  | nil => have := List.drop_eq_nil_iff.1 hc; have := X.le; omega
                  | cons x l =>
                    exfalso
                    rw [hc] at hdf
                    have hx := HM.out.2 x (List.mem_of_mem_drop (i := t) (by rw [hc]; simp))
                    simp [dueP] at hdf
                    omega
                have HXX := hide X
                clear X hdue hdf
                go_wp2_with (go_at_call 15; refine hdu.mono ?_; rintro e w3 ⟨rfl, va', A3, T3⟩; clear hdu)
                go_roundg (2 - (j + 1))
                case measure => omega
                case rel => exact ⟨j + 1, t, va', vb, vx, rfl, by go_num, by omega, Nat.le_refl _, END.out, HXX.out.stepA A3 T3 rfl HXX.out.le⟩
          · have hjz : ¬ (j : Int) < 2 := by omega
            have ht : t = m.length := HX.out.1 (by omega)
            have Y0 : Hid (TkY w wr pa pb m i 0 va vb vx (.slice none 0 0)) := by
              have X := HX.out.2
              subst ht
              refine ⟨?_, ?_, ⟨World.ownsRow_nil _ _ _ _, fun i h => by simp [Value.ownBlock] at h⟩, X.db, fun i hi hn => by simp [Value.ownBlock] at hn, fun i h => by simp [Value.ownBlock] at h, fun i h => by simp [Value.ownBlock] at h, Nat.zero_le _⟩
              · have := X.two; rwa [List.drop_length] at this
              · have := X.row; rwa [List.take_length] at this
            clear HX ht
            go_wp2_with fail
            go_loopg [10, 16] 70 (fun kx s10 s16 wr => ∃ (q t : Nat) (vb vy : Value), s10 = vy ∧ s16 = .int .i64 q ∧ q ≤ t ∧ t ≤ 60 ∧ 70 - q ≤ kx ∧ Hid (TkY w wr pa pb m i t va vb vx vy))
            case atStart => exact ⟨0, 0, vb, _, rfl, rfl, Nat.le_refl _, by omega, by omega, Y0⟩
            case round =>
              clear Y0
              obtain ⟨q, t, vb, vy, hvy, rfl, hqt, ht60, hkq, HY⟩ := hrel
              replace hvy := hvy.symm
              subst hvy
              have Y := HY.out
              clear HY
              have hq70 : (q : Int) < 70 := by omega
              have hdu := due_ag pb vb (m.drop t) i 60 wr Y.two.b (by omega)
              cases hc : m.drop t with
              | cons x l =>
                have hx := HM.out.2 x (List.mem_of_mem_drop (i := t) (by rw [hc]; simp))
                have hdue : dueP (m.drop t) 60 = true := by rw [hc]; simp [dueP]; omega
                simp only [hdue, if_true] at hdu
                rw [hc] at hdu
                simp only [List.headD_cons, List.tail_cons] at hdu
                obtain ⟨e1, e2, e3⟩ := take_what m t x l hc
                obtain ⟨xw, hxw⟩ : ∃ xw, xw = x.what := ⟨_, rfl⟩
                rw [← hxw] at hdu
                have HE := hide (And.intro hc (And.intro hxw e3))
                have HYY := hide Y
                obtain ⟨L, hL⟩ : ∃ L, L = (m.take t).map En.what := ⟨_, rfl⟩
                have hLl : L.length ≤ 60 := by rw [hL]; simp; omega
                have HL := hide hL
                have ml := HM.out.1
                clear Y hc hxw e1 e2 e3 hdue hL hx
                go_wp2_with (first
                  | (go_at_call 15; refine hdu.mono ?_; rintro e w3 ⟨rfl, vb', B3, T3⟩; clear hdu; have TW3 := HYY.out.two.stepB B3 T3; have R3 := HYY.out.ry.kept T3.1 HYY.out.yb; have X3 := HYY.out.rx.kept T3.1 HYY.out.xb; rw [← HL.out] at R3; have K4 : Kp [] w3 (w3.alloc (.cells #[.int .i64 xw] 3)) := (Kp.refl [] w3).alloc _; have o4 := (R3.keptN K4).own; have news := cell_one_new w3 (.int .i64 xw) 3)
                  | (at_builtin; refine wpList_append_own_at _ rfl (.tmp 86) (.tmp 88) 27 rfl 0 3 i0 _ 1 8 Try.underlying27 hi0 hz0 hz1 hz2 rfl (by omega) vy L.length _ rfl o4 ⟨w3.heap.size, 0, none⟩ 1 1 [.int .i64 xw] rfl rfl news (by simp [Value.oneCell']) (by unfold maxLen; omega) (by omega) (Nat.zero_le _) ?_; intro vy' w5 o5 g5 n5 at5))
                go_roundg (70 - (q + 1))
                case measure => omega
                case rel =>
                  refine ⟨q + 1, t + 1, vb', vy', rfl, by go_num, by omega, by have := HE.out.2.2; omega, Nat.le_refl _, ?_⟩
                  rw [HL.out] at R3 o5
                  rw [HE.out.2.1] at o5
                  exact TkY.app TW3 X3 R3 (HYY.out.xb.step HYY.out.rx.lt (fp_step T3)) HYY.out.xy HYY.out.ya (HYY.out.yb.step HYY.out.ry.lt (fp_step T3)) HE.out.1 K4 o5 g5 at5
              | nil =>
                have htm : t = m.length := by have := List.drop_eq_nil_iff.1 hc; have := Y.le; omega
                simp only [hc, dueP, List.isEmpty_nil, Bool.not_true, Bool.false_and, Bool.false_eq_true, if_false] at hdu
                have RY : Row3 w wr vy (m.map En.what) := by have := Y.ry; rwa [htm, List.take_length] at this
                have TW0 : Two w wr pa va [] i pb vb [] i := by have := Y.two; rwa [hc] at this
                have HD := hide (And.intro TW0 (And.intro Y.rx (And.intro RY (And.intro Y.xb Y.yb))))
                have mml := HM.out.1
                obtain ⟨ax, cx, hvx⟩ := Y.rx.shape
                rw [List.length_map, mml] at hvx
                subst hvx
                have hnzz : n0 ≠ 0 → 0 < i := fun h => by have := hnz.out; omega
                have hlx : (m.map En.what).length ≤ 60 := by simp; omega
                clear Y hc htm RY TW0 mml
                generalize m.map En.what = M at HD hlx
                by_cases hz : n0 = 0
                · have hzz : ((n0 : Int) == 0) = true := by simp [hz]
                  clear hnzz
                  go_wp2_with (first
                    | (go_at_call 15; refine hdu.mono ?_; rintro e w3 ⟨rfl, vb', B3, T3⟩; clear hdu; have TW3 := HD.out.1.stepB B3 T3; have X3 := HD.out.2.1.kept T3.1 HD.out.2.2.2.1; have Y3 := HD.out.2.2.1.kept T3.1 HD.out.2.2.2.2; have hsm := same_any _ vy M M w3 (X3.ints (by omega)) (Y3.ints (by omega)) (by omega) (by omega); rw [decide_eq_true rfl] at hsm)
                    | (go_at_call 18; refine hsm.mono ?_; rintro e w7 ⟨rfl, k7⟩; clear hsm; have TW7 := TW3.on k7; have hla := len_ag pa va [] i w7 TW7.a; have hlb := len_ag pb vb' [] i w7 TW7.b; have hkn := known_any w7)
                    | (go_at_call 16; refine hla.mono ?_; rintro e w' ⟨rfl, hw⟩; subst w'; clear hla)
                    | (go_at_call 16; refine hlb.mono ?_; rintro e w' ⟨rfl, hw⟩; subst w'; clear hlb)
                    | (go_at_call 10; refine hkn.mono ?_; rintro e w8 ⟨rfl, k8⟩; clear hkn))
                  go_ret
                  exact ⟨rfl, TW7.kp.trans k8⟩
                · have hzz : ((n0 : Int) == 0) = false := by simp; omega
                  have hip : (0 : Int) < (i : Int) := by have := hnzz hz; omega
                  clear hnzz hz
                  go_wp2_with (first
                    | (go_at_call 15; refine hdu.mono ?_; rintro e w3 ⟨rfl, vb', B3, T3⟩; clear hdu; have TW3 := HD.out.1.stepB B3 T3; have X3 := HD.out.2.1.kept T3.1 HD.out.2.2.2.1; have Y3 := HD.out.2.2.1.kept T3.1 HD.out.2.2.2.2; have hsm := same_any _ vy M M w3 (X3.ints (by omega)) (Y3.ints (by omega)) (by omega) (by omega); rw [decide_eq_true rfl] at hsm)
                    | (go_at_call 18; refine hsm.mono ?_; rintro e w7 ⟨rfl, k7⟩; clear hsm; have TW7 := TW3.on k7; have hla := len_ag pa va [] i w7 TW7.a; have hlb := len_ag pb vb' [] i w7 TW7.b; have hkn := known_any w7)
                    | (go_at_call 16; refine hla.mono ?_; rintro e w' ⟨rfl, hw⟩; subst w'; clear hla)
                    | (go_at_call 16; refine hlb.mono ?_; rintro e w' ⟨rfl, hw⟩; subst w'; clear hlb)
                    | (go_at_call 10; refine hkn.mono ?_; rintro e w8 ⟨rfl, k8⟩; clear hkn))
                  go_ret
                  exact ⟨rfl, TW7.kp.trans k8⟩
end Go.Proofs.Ytlmbheobaiibeaa
