/-
  The contract of From.
-/
import Derived.Test.YtiabccgabbdedaaDoorKCAre
import Derived.Test.YtiabccgabbdedaaDoorKRGrows
namespace Go.Proofs.YtiabccgabbdedaaDoor
open Go.RowKit
open Go.Proofs

theorem u64_size (n : Nat) (h : n ≤ 9223372036854775807) : IntKind.u64.wrap (n : Int) = (n : Int) := by rw [IntKind.wrap_u64]; omega
set_option maxRecDepth 100000 in
set_option maxHeartbeats 2000000 in
theorem from_neg (size : Int) (vl : Value) (ls : List (List Int)) (w : World) (hL : LcM ls vl w) (h : size < 0) :
    Calls Tryd.prog 13 #[.int .i64 size, vl] w fun e w' => e = .returned (.tuple #[.pointer none, .int .i64 1]) ∧ w' = w := by
  obtain ⟨al, cl, e, -⟩ := hL.shape
  subst e
  clear hL
  go_enter Tryd.func13, Tryd.ntmps13
  go_wp2_with fail
  go_ret2
  exact ⟨rfl, rfl⟩
set_option maxRecDepth 100000 in
set_option maxHeartbeats 2000000 in
theorem from_not (size : Nat) (hs : size ≤ 9223372036854775807) (vl : Value) (ls : List (List Int)) (w : World) (hL : LcM ls vl w) (h : ¬ (ls.length = onesP size ∧ all32 ls = true)) :
    Calls Tryd.prog 13 #[.int .i64 size, vl] w fun e w' => e = .returned (.tuple #[.pointer none, .int .i64 12]) ∧ w' = w := by
  have HO := hide (ones_any size (by omega) w)
  have HA := hide (are_any vl ls w hL)
  have hws := u64_size size hs
  obtain ⟨al, cl, e, -⟩ := hL.shape
  obtain ⟨N, hN⟩ : ∃ N, N = ls.length := ⟨_, rfl⟩
  obtain ⟨O, hO⟩ : ∃ O, O = onesP size := ⟨_, rfl⟩
  rw [← hN] at e h
  rw [← hO] at HO h
  subst e
  clear hL hN hO
  have hneg : ¬ (size : Int) < 0 := by omega
  by_cases hno : N = O
  · subst hno
    have hal : all32 ls = false := by
      have hne : ¬ all32 ls = true := fun hc => h ⟨rfl, hc⟩
      exact Bool.eq_false_iff.2 hne
    rw [hal] at HA
    clear h hal
    go_enter Tryd.func13, Tryd.ntmps13
    go_wp2_with (first
      | (go_at_call 32; refine (unhide HO).mono ?_; rintro ee w2 ⟨rfl, hw⟩; subst w2)
      | (go_at_call 33; refine (unhide HA).mono ?_; rintro ee w2 ⟨rfl, hw⟩; subst w2))
    go_ret2
    exact ⟨rfl, rfl⟩
  · have hne : ¬ (N : Int) = (O : Int) := by omega
    clear h hno HA
    go_enter Tryd.func13, Tryd.ntmps13
    go_wp2_with (go_at_call 32; refine (unhide HO).mono ?_; rintro ee w2 ⟨rfl, hw⟩; subst w2)
    go_ret2
    exact ⟨rfl, rfl⟩
/-- what From has taken so far. -/
def FromAt (w : World) (size : Nat) (ns : List (List Int)) (wr : World) : Prop := ∃ ao m c l, Rg wr w.heap.size w.heap.size (.slice ao m c) size l ∧ l.map (·.2) = ns ∧ Kp [] w wr
theorem FromAt.add {w wr W1 w2 : World} {size : Nat} {ns : List (List Int)} {x : List Int} {ao ao2 : Option Addr} {m c m2 c2 : Nat} {l : List (Value × List Int)} {v : Value} (h : Rg wr w.heap.size w.heap.size (.slice ao m c) size l) (e : l.map (·.2) = ns) (k : Kp [] w wr) (k1 : Kp [] wr W1)
    (r : Rg w2 w.heap.size w.heap.size (.slice ao2 m2 c2) size (l ++ [(v, x)])) (s : RgS w.heap.size W1 (.slice ao m c) w2 (.slice ao2 m2 c2)) : FromAt w size (ns ++ [x]) w2 :=
  ⟨ao2, m2, c2, l ++ [(v, x)], r, by simp [e], (s.new ((k.trans k1).mono (by simp)) (fun i hi => h.own i hi)).shed (Nat.le_refl _)⟩
set_option maxRecDepth 100000 in
set_option maxHeartbeats 4000000 in
theorem from_ok (size : Nat) (hs : size ≤ 9223372036854775807) (vl : Value) (ls : List (List Int)) (w : World) (hL : LcM ls vl w) (hn : ls.length = onesP size) (ha : all32 ls = true) (hll : ls.length ≤ 90000) (hgn : 3 ≤ w.heap.size) :
    Calls Tryd.prog 13 #[.int .i64 size, vl] w fun e w' => e = .returned (.tuple #[.pointer (some ⟨w.heap.size, 0, none⟩), .int .i64 0]) ∧ FromAt w size ls w' := by
  have HO := hide (ones_any size (by omega) w)
  have HA := hide (are_any vl ls w hL)
  have hws := u64_size size hs
  have HL := hide hL
  have H32 := hide (all32_iff.1 ha)
  have HBS := hide hL.bs
  obtain ⟨al, cl, e, -⟩ := hL.shape
  obtain ⟨N, hN⟩ : ∃ N, N = ls.length := ⟨_, rfl⟩
  rw [← hn, ← hN] at HO
  rw [← hN] at e hll
  rw [ha] at HA
  subst e
  have HN := hide hN
  have hNi : (N : Int) ≤ 90000 := by omega
  have hneg : ¬ (size : Int) < 0 := by omega
  clear hL hn ha hN
  have H0 : Hid (FromAt w size [] (w.alloc (.cells #[.int .u64 size, .slice none 0 0] 49))) :=
    ⟨none, 0, 0, [], ⟨heap_alloc_new w _, hgn, World.ownsRow_nil _ _ _ _, fun x hx => by cases hx⟩, rfl, (Kp.refl [] w).alloc _⟩
  go_enter Tryd.func13, Tryd.ntmps13
  go_wp2_with (first
    | (go_at_call 32; refine (unhide HO).mono ?_; rintro ee w2 ⟨rfl, hw⟩; subst w2)
    | (go_at_call 33; refine (unhide HA).mono ?_; rintro ee w2 ⟨rfl, hw⟩; subst w2))
  clear HO HA
  obtain ⟨p, hp⟩ : ∃ p, p = w.heap.size := ⟨_, rfl⟩
  have HP := hide hp
  rw [← hp]
  clear hp
  go_loopw [28] (fun i wr => ∃ k : Nat, k ≤ N ∧ i = .int .i64 k ∧ FromAt w size (ls.take k) wr) (fun i _ => N - (intOf i).toNat)
  case atStart => exact ⟨0, by omega, rfl, by simpa using unhide H0⟩
  case round =>
    clear H0
    obtain ⟨k, hk, rfl, hF⟩ := hrel
    have HF := hide hF
    clear hF
    by_cases hlt : k < N
    · have hlt2 : (k : Int) < (N : Int) := by omega
      have hkl : k < ls.length := by have := unhide HN; omega
      have hx := List.getElem?_eq_getElem hkl
      obtain ⟨x, hxx⟩ : ∃ x, x = ls[k] := ⟨_, rfl⟩
      rw [← hxx] at hx
      obtain ⟨ao, m, c, l, hR, hle, hK⟩ := unhide HF
      obtain ⟨-, b, off, u, rfl, hc, hS, hB⟩ := ((unhide HL).kept hK).at k x hx
      have HT : Hid (ls.take (k + 1) = ls.take k ++ [x]) := by rw [hxx]; exact List.take_succ_eq_append_getElem hkl
      have hxl : x.length ≤ 1000000 := by have := unhide H32 x (by rw [hxx]; exact List.getElem_mem hkl); omega
      have HB := hide hB
      have HSX : Hid (∀ w', Kp [] wr.drew w' → Sl w' u x) := fun w' k' => hS.kept ((kp_drew wr).trans k') (by simp)
      obtain ⟨ax, cx, hux, -⟩ := hS
      obtain ⟨nx, hnx⟩ : ∃ nx, nx = x.length := ⟨_, rfl⟩
      rw [← hnx] at hux
      subst hux
      have HBW : Hid (∀ w', Kp [] wr.drew w' → wr.heap.size ≤ w'.heap.size) := fun w' k' => k'.size
      have HR := hide hR
      have HLE := hide hle
      have HK := hide hK
      have hll2 : l.length ≤ 90000 := by
        have : (l.map (·.2)).length = (ls.take k).length := by rw [hle]
        simp at this
        omega
      clear hR hle hK hB hnx hx hxx hkl HF
      go_wp2_with fail
      refine region_grow_tail 5 Tryd.mixed [Is (.pointer (some ⟨p, 0, none⟩)), Is (.pointer (some ⟨p, 0, none⟩)), Is (.pointer (some ⟨p, 1, none⟩)), Is (.slice ax nx cx), RwT wr.heap.size x] [[(6, none)], [(32, some 0)], [(33, some 1)], [(8, none)], [(35, some 3)]] (by kernel_rfl) ?_ ?_ ?_
      all_goals try simp only [List.take_succ_cons, List.take_zero, List.drop_succ_cons, List.drop_zero]
      · simp only [List.mem_cons, List.not_mem_nil, or_false]
        intro R hR
        rcases hR with rfl | rfl | rfl | rfl | rfl <;> first | exact stable_is _ | exact stable_rw _ _
      · refine steps_cons (fun a w hk hn => ?_) ?_
        · have h6 : a.eval (.tmp 6) = .pointer (some ⟨p, 0, none⟩) := hn.1
          clear hn
          refine wants_plain rfl ?_
          exact grown_move (.tmp 6) rfl h6
        refine steps_cons (fun a w hk hn => ?_) ?_
        · have h32 : a.eval (.tmp 32) = .pointer (some ⟨p, 0, none⟩) := hn.1
          clear hn
          refine wants_plain rfl ?_
          refine grown_run (v := .pointer (some ⟨p, 0, none⟩)) ?_ (Kp.refl _ _) rfl
          obtain ⟨ρ, hρ, hc, hf, hg⟩ := eval_is a
          rw [hρ] at h32 ⊢
          simp [go_sem, h32, ]
        refine steps_cons (fun a w hk hn => ?_) ?_
        · have h33 : a.eval (.tmp 33) = .pointer (some ⟨p, 0, none⟩) := hn.1
          clear hn
          refine wants_plain rfl ?_
          refine grown_run (v := .pointer (some ⟨p, 1, none⟩)) ?_ (Kp.refl _ _) rfl
          obtain ⟨ρ, hρ, hc, hf, hg⟩ := eval_is a
          rw [hρ] at h33 ⊢
          simp [go_sem, h33, ]
        refine steps_cons (fun a w hk hn => ?_) ?_
        · have h8 : a.eval (.tmp 8) = .slice ax nx cx := hn.1
          clear hn
          refine wants_plain rfl ?_
          exact grown_move (.tmp 8) rfl h8
        refine steps_cons (fun a w hk hn => ?_) ?_
        · have h35 : a.eval (.tmp 35) = .slice ax nx cx := hn.1
          clear hn
          refine wants_plain rfl ?_
          refine grown_call (f := 27) rfl Tryd.func27 (by kernel_rfl) (by kernel_rfl) ?_
          simp only [List.map_toArray, List.map_cons, List.map_nil, h35]
          refine (copyOf_any _ x w (unhide HSX w hk) hxl).mono ?_
          rintro e w' ⟨ao, m, c, rfl, R, K⟩
          exact ⟨_, rfl, K, ⟨_, _, _, rfl, owns_rebase R (fun i hi => Nat.le_trans (unhide HBW w hk) (Row.own R i hi))⟩⟩
        exact trivial
      intro W1 hkW1
      rintro _ rfl
      rintro _ rfl
      rintro _ rfl
      rintro _ rfl
      intro v36 h36
      refine fin_nil ?_
      simp only [Act.put, List.set_cons_zero, List.set_cons_succ, List.setIfInBounds_toArray]
      obtain ⟨a6, m6, c6, rfl, R6⟩ := h36
      have hkk := (kp_drew wr).trans hkW1
      have HAD := hide (radd_any w.heap.size _ size w.heap.size l (.slice a6 m6 c6, x) W1 ((unhide HR).keptN hkk) (owns_rebase R6 (fun i hi => Nat.le_trans (unhide HK).size (Row.own R6 i hi))) (unhide HB) (by omega) (Nat.le_trans (unhide HK).size hkk.size))
      have FIN : Hid (∀ w2 ao2 m2 c2, Rg w2 w.heap.size w.heap.size (.slice ao2 m2 c2) size (l ++ [(.slice a6 m6 c6, x)]) → RgS w.heap.size W1 (.slice ao m c) w2 (.slice ao2 m2 c2) → FromAt w size (ls.take (k + 1)) w2) := fun w2 ao2 m2 c2 R2 S2 => by
        rw [unhide HT]
        exact FromAt.add (unhide HR) (unhide HLE) (unhide HK) hkk R2 S2
      rw [← unhide HP] at HAD FIN
      clear R6 hkk hkW1 HSX HBW hc HR HLE HK
      go_wp2_with fail
      refine (unhide HAD).mono ?_
      rintro ee w2 ⟨rfl, ao2, m2, c2, R2, S2⟩
      have HF2 := hide (unhide FIN w2 ao2 m2 c2 R2 S2)
      clear HAD FIN R2 S2
      go_wp2_with fail
      go_roundw
      case rel => exact ⟨k + 1, by omega, by go_num, unhide HF2⟩
      case measure => simp [intOf]; omega
    · obtain rfl : N = k := by omega
      have HE : Hid (ls.take N = ls) := by rw [unhide HN]; exact List.take_length
      go_wp2_with fail
      go_ret2
      refine ⟨by rw [unhide HP]; rfl, ?_⟩
      have h := unhide HF
      rwa [unhide HE] at h
end Go.Proofs.YtiabccgabbdedaaDoor
