/-
  The statement WireEachSaid: for all texts the law function WireEach returns true and leaves its argument as it was. Its conditions: none.
-/
import Derived.Test.YthpekclkclpbpaaWrite
import Derived.Test.YthpekclkclpbpaaCutsPlain
import Derived.Test.YthpekclkclpbpaaRows
import Derived.ShutString
import Derived.ChangeOld
import Derived.Below
import Derived.Deep.DeepCutAuto
namespace Go.Proofs.Ythpekclkclpbpaa.wireEach
open Go.ChangeShapes Go.WideShapes Go.ChangeAt Go.RowKit
open Go.Proofs.Ythpekclkclpbpaa
set_option linter.unusedVariables false

theorem own : ownKnob Try.prog.godebug = none := by kernel_rfl
theorem laidOut : laidOutB Try.prog = true := by kernel_rfl

/-- the writer that is left alone beside the two that go on. -/
structure Trio (w0 w : World) (p q : Nat) (vp vq vb : Value) (bs cs : List Int) : Prop where
  duo : Duo w0.heap.size w q vq vb cs
  wr : Wr w p vp bs
  hp : w0.heap.size ≤ p
  hq : w0.heap.size ≤ q
  n1 : p ≠ q
  n2 : vp.ownBlock ≠ some q
  n3 : vq.ownBlock ≠ some p
  n4 : vb.ownBlock ≠ some p
  n5 : ∀ k, vp.ownBlock = some k → vq.ownBlock ≠ some k
  n6 : ∀ k, vp.ownBlock = some k → vb.ownBlock ≠ some k
  kp : Kp [] w0 w
theorem Trio.next {w0 w w1 w2 : World} {p q : Nat} {vp vq vb v1 vb2 : Value} {bs cs ds : List Int} (h : Trio w0 w p q vp vq vb bs cs) (a1 : Wr w1 q v1 ds) (s1 : Step q w vq w1 v1) (r2 : Row w2 w0.heap.size vb2 ds) (s2 : RStep w1 vb w2 vb2) : Trio w0 w2 p q vp v1 vb2 bs ds := by
  have plt := h.wr.lt
  have vlt := h.wr.2.lt
  have x1 : Wr w1 p vp bs := h.wr.kept s1.1 (by simp only [List.mem_cons, Option.mem_toList, not_or]; exact ⟨h.n1, h.n3⟩) (fun i hi hm => by
    simp only [List.mem_cons, Option.mem_toList] at hm
    rcases hm with rfl | hm
    · exact h.n2 hi
    · exact h.n5 i hi hm)
  have x2 : Wr w2 p vp bs := x1.kept s2.1 (by simp only [Option.mem_toList]; exact h.n4) (fun i hi hm => by
    simp only [Option.mem_toList] at hm
    exact h.n6 i hi hm)
  have x1lt := x1.lt
  have v1lt := x1.2.lt
  refine ⟨h.duo.next a1 s1 r2 s2, x2, h.hp, h.hq, h.n1, h.n2, fun e => ?_, fun e => ?_, fun k hk e => ?_, fun k hk e => ?_, h.duo.kp h.kp h.hq (Nat.le_refl _) s1 s2⟩
  · rcases s1.2 p e with e2 | e2
    · exact h.n3 e2
    · omega
  · rcases s2.2 p e with e2 | e2
    · exact h.n4 e2
    · omega
  · rcases s1.2 k e with e2 | e2
    · exact h.n5 k hk e2
    · have := (vlt k hk).2; omega
  · rcases s2.2 k e with e2 | e2
    · exact h.n6 k hk e2
    · have := (v1lt k hk).2; omega
theorem Trio.kept {w0 w w1 : World} {p q : Nat} {vp vq vb : Value} {bs cs : List Int} (h : Trio w0 w p q vp vq vb bs cs) (k : Kp [] w w1) : Trio w0 w1 p q vp vq vb bs cs :=
  ⟨h.duo.kept k, h.wr.kept k (by simp) (by simp), h.hp, h.hq, h.n1, h.n2, h.n3, h.n4, h.n5, h.n6, h.kp.trans k⟩

set_option maxRecDepth 100000 in
set_option maxHeartbeats 4000000 in
theorem walk (v0 : Value) (l0 : List (Value × List Int)) (w : World) (h0 : Lists w v0 l0) :
    Calls Try.prog 6 #[v0] w fun e w' => e = .returned (.bool true) ∧ Below w.heap.size w w' := by
  have hB0 : ∀ x ∈ l0, Bs x.2 := fun x hx => by
    obtain ⟨i, hi, rfl⟩ := List.getElem_of_mem hx
    obtain ⟨ao, c, _, _, h2⟩ := h0
    obtain ⟨b, off, _, _, _, h3⟩ := h2 i hi
    exact h3
  go_enter Try.func6, Try.ntmps6
  go_wp2_with fail
  refine (few_any v0 l0 20 100 _ h0 (by omega)).mono ?_
  rintro e w1 ⟨o, rfl, hF⟩
  have K1 : Kp [] w w1 := by obtain ⟨_, _, _, h, _⟩ := hF; exact h
  obtain ⟨l, hL, hle⟩ := hF.lists hB0 (by omega)
  have hnl : l.length ≤ 20 := by have := congrArg List.length hle; simp at this; omega
  have hml : ∀ x ∈ l, x.2.length ≤ 100 := fun x hx => by
    have : x.2 ∈ l.map (·.2) := List.mem_map_of_mem hx
    rw [hle] at this
    obtain ⟨y, _, hy⟩ := List.mem_map.1 this
    rw [← hy]; simp; omega
  clear hF hle hB0 h0
  go_wp2_with fail
  refine (new_abs _).mono ?_
  rintro e w2 ⟨p, rfl, a2, hp, k2⟩
  go_wp2_with fail
  refine (new_abs _).mono ?_
  rintro e w3 ⟨q, rfl, b3, hq, k3⟩
  have hpq : p < q := Nat.lt_of_lt_of_le a2.lt hq
  have a3 := a2.kept k3 (by simp) (by simp)
  have k13 := k2.trans k3
  go_wp2_with fail
  refine (each_any p _ [] o l w1 _ a3 hL k13 hp (by intro k hk; cases hk) (fun x hx => by have := hml x hx; omega) (by omega) (by simp)).mono ?_
  rintro e w4 ⟨rfl, vp, a4, s4⟩
  rw [List.nil_append] at a4
  have T4 : Trio w1 w4 p q vp (.slice none 0 0) (.slice none 0 0) (encs (l.map (·.2))) (encs ((l.take 0).map (·.2))) := by
    have b4 := b3.kept s4.1 (by simp [Value.ownBlock]; omega) (by simp [Value.ownBlock])
    refine ⟨⟨by simpa [encs] using b4, World.ownsRow_nil _ _ _ _, by simp [Value.ownBlock], by simp [Value.ownBlock]⟩, a4, hp, by have := k2.size; omega, by omega, fun e => ?_, by simp [Value.ownBlock], by simp [Value.ownBlock], by simp [Value.ownBlock], by simp [Value.ownBlock], k13.then s4.1 (by intro i hi; simp [Value.ownBlock] at hi; omega)⟩
    rcases s4.2 q e with e2 | e2
    · cases e2
    · have := b3.lt; omega
  obtain ⟨E, hE⟩ : ∃ E, E = encs (l.map (·.2)) := ⟨_, rfl⟩
  have hEl : E.length ≤ 2040 := by
    have := encs_len l 100 l.length hml
    rw [List.take_length] at this
    rw [hE]; omega
  rw [← hE] at T4
  have HE := hide hE
  clear hE a4 s4 a3 b3 a2 k2 k3 k13 hq hp hpq
  obtain ⟨al, cl, rfl, hll, hcell⟩ := hL
  have hlen : (l.length : Int) ≤ 20 := by omega
  go_wp2_with fail
  go_loopw [5, 6] (fun b i wr => ∃ k : Nat, k ≤ l.length ∧ i = .int .i64 k ∧ (∃ ab mb cb, b = .slice ab mb cb) ∧ ∃ vq, Trio w1 wr p q vp vq b E (encs ((l.take k).map (·.2)))) (fun _ i _ => l.length - (intOf i).toNat)
  case atStart => exact ⟨0, by omega, rfl, ⟨_, _, _, rfl⟩, _, T4⟩
  case round =>
    obtain ⟨k, hk, rfl, ⟨ab, mb, cb, rfl⟩, vq, hT⟩ := hrel
    clear T4
    by_cases hlt : k < l.length
    · obtain ⟨b, off, rfl, hc, hS, hB⟩ := hcell k hlt
      have hle := encs_len l 100 k hml
      have hml' := hml l[k] (List.getElem_mem hlt)
      have hEn := encs_take l k hlt
      obtain ⟨x, hx⟩ : ∃ x, x = l[k] := ⟨_, rfl⟩
      obtain ⟨C, hC⟩ : ∃ C, C = encs ((l.take k).map (·.2)) := ⟨_, rfl⟩
      rw [← hx] at hc hS hB hml' hEn
      rw [← hC] at hT hle hEn
      have hCl : C.length ≤ 2040 := by omega
      obtain ⟨ax, cx, hxv⟩ : ∃ ax cx, x.1 = .slice ax x.2.length cx := by obtain ⟨ax, cx, e, _⟩ := hS; exact ⟨ax, cx, e⟩
      rw [hxv] at hc hS
      have hk3 : Hid (∀ W, Kp (q :: vq.ownBlock.toList) wr W → Sl W (.slice ax x.2.length cx) x.2) := fun W h1 => hS.kept (hT.duo.kp1 hT.kp hT.hq h1) (by simp)
      have hcw := hT.kp.cell hc (by simp)
      have hSw := hS.kept hT.kp (by simp)
      have HCC := hide hc
      have HS := hide hS
      have HEn := hide hEn
      clear hc hS hEn hx hC hcell hle
      go_wp2_with fail
      refine (bytes_ok q vq C _ x.2 _ hT.duo.wr hSw (unhide hk3) (by omega) (by omega)).mono ?_
      rintro e w5 ⟨rfl, v5, a5, s5⟩
      have rm := hT.duo.mid s5
      have hb5 := s5.1.size
      have K5 := hT.duo.kp1 hT.kp hT.hq s5.1
      have hc5 := K5.cell (unhide HCC) (by simp)
      have hS5 := (unhide HS).kept K5 (by simp)
      have hk4 : Hid (∀ W, Kp (Value.slice ab mb cb).ownBlock.toList w5 W → Sl W (.slice ax x.2.length cx) x.2) := fun W h1 => (unhide HS).kept (K5.then h1 (fun i hi => by
        simp only [Option.mem_toList] at hi
        exact .inr (hT.duo.row.lt i hi).1)) (by simp)
      have hsz := K5.size
      go_wp2_with fail
      refine (refbytes_any _ C _ x.2 w1.heap.size _ rm (by omega) (by omega) hS5 (unhide hk4)).mono ?_
      rintro e w6 ⟨ao6, m6, c6, rfl, r6, s6⟩
      have T6 := hT.next a5 s5 r6 s6
      rw [← unhide HEn] at T6
      clear hT rm K5 hc5 hS5 hcw hSw a5 s5 r6 s6
      go_wp2_with fail
      go_roundw
      case rel => exact ⟨k + 1, by omega, by go_num, ⟨_, _, _, rfl⟩, v5, T6⟩
      case measure => simp [intOf]; omega
    · obtain rfl : k = l.length := by omega
      rw [List.take_length, ← unhide HE] at hT
      clear hcell
      obtain ⟨wo, hwo⟩ : ∃ wo : World, wo = wr := ⟨_, rfl⟩
      subst hwo
      go_wp2_with fail
      refine (done_any p vp E _ hT.wr (by omega)).mono ?_
      rintro e wd ⟨ax, cx, rfl, rx, kd⟩
      have c1 : ∀ W ao c, Sl W (.slice ao E.length c) E → (convert 25 9 (.slice ao E.length c)).run Try.prog W = .ok (.string (strOfNums E)) W := fun W ao c h => h.conv 25 9 5 Try.underlying25 Try.underlying5 Try.underlying9
      have c2 : ∀ W, Sl W (.slice ab mb cb) E → (convert 25 9 (.slice ab mb cb)).run Try.prog W = .ok (.string (strOfNums E)) W := fun W h => h.conv 25 9 5 Try.underlying25 Try.underlying5 Try.underlying9
      have zb : Hid (∀ W, Kp [] wo W → Sl W (.slice ab mb cb) E) := fun W hW => hT.duo.row.sl.kept hW (by simp)
      have DQ : Hid (∀ W, Kp [] wo W → Calls Try.prog 11 #[.pointer (some ⟨q, 0, none⟩)] W fun e w' => ∃ ao c, e = .returned (.slice ao E.length c) ∧ Sl w' (.slice ao E.length c) E ∧ Sl w' (.slice ab mb cb) E ∧ Kp [] W w') := fun W hW => (done_any q vq E W (hT.duo.wr.kept hW (by simp) (by simp)) (by omega)).mono fun e w' ⟨ao, c, h1, h2, h3⟩ => ⟨ao, c, h1, Sl.of_owns h2, hT.duo.row.sl.kept (hW.trans h3) (by simp), h3⟩
      have DP : Hid (∀ W, Kp [] wo W → Calls Try.prog 11 #[.pointer (some ⟨p, 0, none⟩)] W fun e w' => ∃ ao c, e = .returned (.slice ao E.length c) ∧ Sl w' (.slice ao E.length c) E ∧ Sl w' (.slice ab mb cb) E ∧ Kp [] wo w') := fun W hW => (done_any p vp E W (hT.wr.kept hW (by simp) (by simp)) (by omega)).mono fun e w' ⟨ao, c, h1, h2, h3⟩ => ⟨ao, c, h1, Sl.of_owns h2, hT.duo.row.sl.kept (hW.trans h3) (by simp), hW.trans h3⟩
      have KT := hT.kp
      clear hT
      go_wp2_with fail
      go_cut [8] (fun ok wc => ok = .bool true ∧ Kp [] wd wc)
      case first =>
        have zx : Sl wd.drew (.slice ax E.length cx) E := (Sl.of_owns rx).kept (Kp.refl [] wd).drew (by simp)
        have zb0 : Sl wd.drew (.slice ab mb cb) E := unhide zb _ kd.drew
        go_region_with (go_at_call 11; refine (unhide DQ _ ?_).mono ?_; (first | exact kd.drew | exact kd); rintro e w9 ⟨ao9, c9, rfl, z9, z9b, K9⟩)
        all_goals (go_wp2_with fail; go_meet; exact ⟨rfl, (Kp.refl [] wd).drew.trans K9⟩)
      case rest =>
        obtain ⟨rfl, kc⟩ := hcut
        have rc := kc.owns rx (by simp)
        have kcw := kd.trans kc
        clear rx kd kc
        go_wp2_with fail
        go_loopw [9] (fun i wx => ∃ j : Nat, j ≤ E.length ∧ i = .int .i64 j ∧ Kp [] wo wx ∧ ∃ ys : List Int, wx.ownsRow wo.heap.size 5 1 (.slice ax E.length cx) E.length (ys.map (Value.int .u8))) (fun i _ => E.length - (intOf i).toNat)
        case atStart => exact ⟨0, by omega, rfl, kcw, E, rc⟩
        case round =>
          obtain ⟨j, hj, rfl, kx, ys, ry⟩ := hrel
          clear rc kcw
          by_cases hlt2 : j < E.length
          · have hyl : ys.length = E.length := by have := ry.1; simpa using this
            obtain ⟨g, cap, hv, hg, _⟩ := ry.form (by omega)
            injection hv with e1 e2 e3
            subst e1 e3
            have hcj : wr.cell? ⟨g, j, none⟩ = some (.int .u8 ys[j]) := by
              rw [ry.cellAt j (by omega)]; simp [List.getElem?_eq_getElem (show j < ys.length by omega)]
            have hfj := ry.frozenAt j
            have hlt3 : (j : Int) < (E.length : Int) := by omega
            have hset := ry.stored j (.int .u8 (IntKind.u8.wrap (ys[j] + 1)))
            obtain ⟨z, hz⟩ : ∃ z, z = IntKind.u8.wrap (ys[j] + 1) := ⟨_, rfl⟩
            obtain ⟨yj, hyj⟩ : ∃ yj, yj = ys[j] := ⟨_, rfl⟩
            have HZ : Hid ((wr.setCell ⟨g, j, none⟩ (.int .u8 (IntKind.u8.wrap (yj + 1)))).ownsRow wo.heap.size 5 1 (.slice (some ⟨g, 0, none⟩) E.length cx) E.length ((ys.set j z).map (Value.int .u8)) ∧ Kp [] wo (wr.setCell ⟨g, j, none⟩ (.int .u8 (IntKind.u8.wrap (yj + 1))))) := by
              rw [hyj]
              refine ⟨by rw [List.map_set, hz]; exact hset.1, kx.setCell (p := ⟨g, j, none⟩) (.inr hg) _⟩
            rw [← hyj] at hcj
            clear hset hz hyj ry kx
            go_wp2_with fail
            go_roundw
            case rel => exact ⟨j + 1, by omega, by go_num, (unhide HZ).2, ys.set j z, (unhide HZ).1⟩
            case measure => simp [intOf]; omega
          · obtain rfl : j = E.length := by omega
            have zb1 : Sl wr.drew (.slice ab mb cb) E := unhide zb _ kx.drew
            clear ry
            go_wp2_with fail
            go_region_with (first
              | (go_at_call 11; refine (unhide DP _ ?_).mono ?_; (first | exact kx.drew | exact kx); rintro e w9 ⟨ao9, c9, rfl, z9, z9b, K9⟩)
              | (go_at_call 15; refine (known_any _).mono ?_; rintro e w10 ⟨rfl, k10⟩; have z10b := Sl.kept z9b k10 (by simp)))
            all_goals
              go_wp2_with fail
              go_ret
              exact ⟨rfl, ((K1.trans KT).trans (K9.trans k10)).below (Nat.le_refl _) (by simp)⟩

set_option maxRecDepth 100000 in
theorem lifted (os : Os) (started : os.Started) (H : Type) (enc : TypeId × Value → H) :
    ReturnsInHanded {} Try.checked os 6 .any (Rows.wireEachSpec.pre6 enc Try.prog Try.f6 Rows.wireEachRow.domain false) (Rows.wireEachSpec.post enc Try.prog Try.f6 false true false false) := by
  refine returnsInHanded_of_change (C := Try.checked) own started (by kernel_rfl) Try.func6
    (ChangeSpec.witness6 (enc := enc) (C := Try.checked) false ⟨#[], #[.slice none 0 0], []⟩ 8 (by kernel_rfl) (by kernel_rfl) (by kernel_rfl) (by kernel_rfl)) ?_
  intro W base args ds gs before hval0 hW hcnd _
  have hval : ∀ (j : Nat) t v, Try.f6.params[j]? = some t → args[j]? = some v → Value.okWide Try.prog W .any base t v := hval0
  have hW' := hW
  obtain ⟨p, q, hA0, hV, rfl, hfz, hnd⟩ := hW
  have hA : DataW.TrodAll enc Try.prog W 0 (fun _ => true) true Try.f6.params.toList args.toList ds p := hA0
  rw [Try.params6] at hA hval
  obtain ⟨v0, vs0, d0, ds0, p0, q0, hargs, rfl, rfl, h0, r0⟩ := trodAll_cons hA
  obtain ⟨rfl, rfl, rfl⟩ := trodAll_nil r0
  obtain rfl : args = #[v0] := by cases args; simp_all
  obtain ⟨rfl, rfl⟩ := trodVars_none hV
  obtain ⟨a0, len0, cap0, rfl⟩ := okWide_slice Try.underlying28 (hval 0 28 v0 rfl rfl)
  have k0 := h0
  have lt0 : ∀ x ∈ p0, x.block < W.heap.size := by obtain ⟨m, hm⟩ := k0; exact DataW.trod_lt m _ _ _ hm
  obtain ⟨l0, s0⟩ : ∃ l, Lists W (.slice a0 len0 cap0) l := by
    obtain ⟨fuel, hf⟩ := h0
    exact lists_of_trod (by simpa [Value.cells] using hf)
  clear hA0 hval0
  refine (walk (.slice a0 len0 cap0) l0 W s0).mono fun e W' ⟨he, bel⟩ => ?_
  subst he
  exact ⟨_, rfl, _, _, _, [], _, [], hW', trodAll_mk1 (shut_bool Try.underlying4 _), (trodAll_cons_mk (Below.trod laidOut (by kernel_rfl) (of_decide_eq_true (by kernel_rfl)) k0 bel lt0) trodAll_mk0), rfl, bel.frame _, fun h => by cases h⟩

theorem over : Rows.wireEachRow.holds Try.pinned (OpenSpec.ofChange Rows.wireEachSpec) :=
  OpenClaim.holds_of_wide 6 Try.f6 rfl rfl rfl rfl rfl rfl rfl ⟨rfl, rfl, rfl, rfl, rfl⟩ rfl rfl rfl rfl rfl (by kernel_rfl) Try.func6 (by kernel_rfl)
    (of_decide_eq_true (by kernel_rfl)) (by unfold Func.isWrapper; first | (rw [if_pos (by decide +kernel)]; kernel_rfl) | (rw [if_neg (by decide +kernel)]; exact ⟨rfl, rfl⟩))
    (fun os started H enc _ => lifted os started H enc)
end Go.Proofs.Ythpekclkclpbpaa.wireEach

namespace Go.Proofs.Ythpekclkclpbpaa
/-- The given statement. -/
theorem WireEach_holds : Rows.WireEachSaid := wireEach.over
#print axioms WireEach_holds
end Go.Proofs.Ythpekclkclpbpaa
