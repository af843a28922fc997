/-
  The laws of ledger: fresh, on, Same, two new disks and a ledger on them; Add and Publish while power lasts.
-/
import Derived.Deep.LoopGhost
import Derived.Deep.RegionHeld3
import Derived.ProofKit
import Derived.Test.YtillhpgdlmeajaaGreatDoorQB1
import Derived.Test.YtillhpgdlmeajaaGreatDoorQB3
import Derived.Test.YtillhpgdlmeajaaGreatDoorQB2
import Derived.Test.YtillhpgdlmeajaaGreatDoorQB4
import Derived.Test.YtillhpgdlmeajaaGreatDoorQB5
import Derived.Test.YtillhpgdlmeajaaGreatDoorQB6
namespace Go.Proofs.YtillhpgdlmeajaaGreatDoor
open Go.RowKit
open Go.Proofs
set_option linter.unusedVariables false
def IntsU (w : World) (v : Value) (l : List Int) : Prop := ∃ ao c, v = .slice ao l.length c ∧ l.length ≤ maxLen ∧ ∀ i (h : i < l.length), ∃ a, ao = some a ∧ w.cell? (a.add i) = some (.int .i64 l[i])
theorem IntsU.kept {w w' : World} {v : Value} {l : List Int} {S : List Nat} (h : IntsU w v l) (k : Kp S w w') (hv : ∀ i, v.ownBlock = some i → i ∉ S) : IntsU w' v l := by
  obtain ⟨ao, c, rfl, h1, h2⟩ := h
  refine ⟨ao, c, rfl, h1, fun i hi => ?_⟩
  obtain ⟨a, e, h3⟩ := h2 i hi
  subst e
  exact ⟨a, rfl, k.cell h3 (by rw [add_block]; exact hv a.block rfl)⟩
theorem RowI.ints {w : World} {base : Nat} {v : Value} {l : List Int} (h : RowI w base v l) (hl : l.length ≤ 1000000) : IntsU w v l := by
  rcases h.2 with ⟨rfl, h0⟩ | ⟨g, cap, cur, rfl, _⟩
  · have : l = [] := List.eq_nil_of_length_eq_zero h0
    subst this
    exact ⟨none, 0, rfl, by simp [maxLen], fun i hi => by cases hi⟩
  · refine ⟨some ⟨g, 0, none⟩, cap, rfl, by unfold maxLen; omega, fun i hi => ⟨_, rfl, ?_⟩⟩
    exact h.cells (g := g) rfl i _ (by simp [List.getElem?_eq_getElem hi])
theorem ints_block {w : World} {g : Nat} {l : List Int} {t : TypeId} {fr : Nat × Nat} (hg : w.heap[g]? = some (.cells (l.map (Value.int .i64)).toArray t fr)) (hl : l.length ≤ 1000) : IntsU w (.slice (some ⟨g, 0, none⟩) l.length l.length) l := by
  refine ⟨some ⟨g, 0, none⟩, l.length, rfl, by unfold maxLen; omega, fun i hi => ⟨_, rfl, ?_⟩⟩
  rw [Addr.add_lit, cell_of_row w g _ _ _ _ hg]
  simp [List.getElem?_eq_getElem hi]
set_option maxHeartbeats 1000000 in
theorem isame_any (va vb : Value) (l l' : List Int) (w : World) (ha : IntsU w va l) (hb : IntsU w vb l') (hl : l.length ≤ 1000000) (hl' : l'.length ≤ 1000000) :
    Calls Tryz.prog 54 #[va, vb] w fun e w' => e = .returned (.bool (decide (l = l'))) ∧ Kp [] w w' := by
  obtain ⟨ao, c, rfl, _, hA⟩ := ha
  obtain ⟨bo, c', rfl, _, hB⟩ := hb
  obtain ⟨n, hn⟩ : ∃ n, n = l.length := ⟨_, rfl⟩
  obtain ⟨n', hn'⟩ : ∃ n', n' = l'.length := ⟨_, rfl⟩
  rw [← hn] at hl ⊢
  rw [← hn'] at hl' ⊢
  have HN := hide hn
  have HN' := hide hn'
  have HA := hide hA
  have HB := hide hB
  clear hn hn' hA hB
  go_enter Tryz.func54, Tryz.ntmps54
  by_cases hnn : n = n'
  · subst hnn
    go_wp2
    go_loopg [5] n (fun kx s5 wr => ∃ i : Nat, s5 = .int .i64 i ∧ i ≤ n ∧ n - i ≤ kx ∧ Hid (Kp [] w wr) ∧ Hid (l.take i = l'.take i))
    case atStart => exact ⟨0, rfl, Nat.zero_le _, by omega, Kp.refl _ _, by show _ = _; simp⟩
    case round =>
      obtain ⟨i, rfl, hi, hkx, HK, HT⟩ := hrel
      by_cases hin : i < n
      · have hiz : (i : Int) < (n : Int) := by omega
        have hil : i < l.length := by rw [← HN.out]; exact hin
        have hil' : i < l'.length := by rw [← HN'.out]; exact hin
        obtain ⟨a, rfl, ca⟩ := HA.out i hil
        obtain ⟨b, rfl, cb⟩ := HB.out i hil'
        have ca' := HK.out.cell ca (by simp)
        have cb' := HK.out.cell cb (by simp)
        obtain ⟨x, hx⟩ : ∃ x, x = l[i] := ⟨_, rfl⟩
        obtain ⟨y, hy⟩ : ∃ y, y = l'[i] := ⟨_, rfl⟩
        rw [← hx] at ca'
        rw [← hy] at cb'
        have HX := hide hx
        have HY := hide hy
        clear hx hy ca cb
        go_wp2_with fail
        refine region_read Tryz.mixed (by kernel_rfl) ?_
        repeat (first | go_big_quiet_skip | (go_big_quiet_want; go_big_quiet_op; go_big_quiet_on))
        refine wpQuiet_nil ?_
        by_cases hxy : x = y
        · subst hxy
          go_wp2_with fail
          go_roundg (n - (i + 1))
          case measure => omega
          case rel =>
            refine ⟨i + 1, by go_num, by omega, Nat.le_refl _, HK.out.drew, ?_⟩
            show _ = _
            rw [List.take_add_one, List.take_add_one, HT.out, List.getElem?_eq_getElem hil, List.getElem?_eq_getElem hil', ← HX.out, ← HY.out]
        · have hne : (x != y) = true := by simpa using hxy
          go_wp2_with fail
          go_ret
          refine ⟨?_, HK.out.drew⟩
          have : ¬ l = l' := fun e => hxy (by rw [HX.out, HY.out]; simp [e])
          rw [decide_eq_false this]
          rfl
      · have hiz : ¬ (i : Int) < (n : Int) := by omega
        have he : l = l' := by
          have h1 := HT.out
          rwa [List.take_of_length_le (by rw [← HN.out]; omega), List.take_of_length_le (by rw [← HN'.out]; omega)] at h1
        have HE := hide he
        clear he
        go_wp2
        go_ret
        refine ⟨?_, HK.out⟩
        rw [decide_eq_true HE.out]
        rfl
  · have hne : ((n : Int) != (n' : Int)) = true := by simp; omega
    have he : ¬ l = l' := fun e => hnn (by rw [HN.out, HN'.out, e])
    have HE := hide he
    clear he
    go_wp2
    go_ret
    refine ⟨?_, Kp.refl _ _⟩
    rw [decide_eq_false HE.out]
    rfl
/-- What Within tells. -/
def wi (n lo hi : Int) : Int := if lo ≤ n ∧ n ≤ hi then n else if n.tmod (hi - lo + 1) < 0 then lo + (n.tmod (hi - lo + 1) + hi - lo + 1) else lo + n.tmod (hi - lo + 1)
theorem fresh_any (w : World) : Calls Tryz.prog 11 #[] w fun e w' => ∃ p, e = .returned (.pointer (some ⟨p, 0, none⟩)) ∧ Nw w w' p (.slice none 0 0) (dkOn []) := by
  have HN := hide (nw_new 1048576 w (by omega) (by omega))
  go_enter Tryz.func11, Tryz.ntmps11
  go_wp2_with fail
  refine HN.out.mono ?_
  rintro ee w1 ⟨p, rfl, N1⟩
  have HN1 := hide N1
  clear HN N1
  go_wp2_with fail
  go_ret
  exact ⟨p, rfl, HN1.out⟩
/-- two disks, one made behind the other. -/
def f2 (a b c : Nat) : Fps := fun n i => (n = 5 ∧ a ≤ i ∧ i < b) ∨ (n = 6 ∧ b ≤ i ∧ i < c)
theorem two_ok {w w1 w2 : World} {pd pk : Nat} {v1 v2 : Value} {d1 d2 : Dk} (N1 : Nw w w1 pd v1 d1) (N2 : Nw w1 w2 pk v2 d2) :
    (f2 w.heap.size w1.heap.size w2.heap.size).Ok w w2 ∧ Dx w w2 pd d1 ((f2 w.heap.size w1.heap.size w2.heap.size) 5) ∧ Dx w w2 pk d2 ((f2 w.heap.size w1.heap.size w2.heap.size) 6) := by
  have s1 := N1.kp.size
  have s2 := N2.kp.size
  have k0 := N1.kp.trans N2.kp
  refine ⟨⟨k0, fun a b i ha hb => ?_, fun a i ha => ?_⟩, ⟨v1, N1.on N2.kp, fun i hi => .inl ⟨rfl, N1.news i hi, N1.dk.lt i hi⟩⟩, ⟨v2, ⟨⟨N2.dk.here, owns_rebase N2.dk.row (fun k hk => Nat.le_trans s1 (N2.dk.row.own k hk)), N2.dk.fit, N2.dk.typ⟩, Nat.le_trans s1 N2.new, k0, N2.arm⟩, fun i hi => .inr ⟨rfl, N2.news i hi, N2.dk.lt i hi⟩⟩⟩
  · rcases ha with ⟨rfl, h⟩ | ⟨rfl, h⟩ <;> rcases hb with ⟨rfl, g⟩ | ⟨rfl, g⟩ <;> first | rfl | omega
  · rcases ha with ⟨rfl, h⟩ | ⟨rfl, h⟩ <;> omega
/-- a ledger that was just opened. -/
def ls0 (seed : List Int) : LS := ⟨[], 0, seed, none, dkOn [], dkOn [], 0, 0⟩
theorem uopen_fresh {w w1 w2 w3 : World} {pd pk : Nat} {v1 v2 vs : Value} {seed : List Int} (N1 : Nw w w1 pd v1 (dkOn [])) (N2 : Nw w1 w2 pk v2 (dkOn [])) (K3 : Kp [] w2 w3) (R3 : Row w3 w2.heap.size vs seed) (hB : Bs seed) (hl : seed.length = 32) :
    Calls Tryz.prog 10 #[.pointer (some ⟨pd, 0, none⟩), .pointer (some ⟨pk, 0, none⟩), vs] w3 fun e w' => ∃ l, e = .returned (.tuple #[.pointer (some ⟨l, 0, none⟩), .int .i64 0]) ∧ ∃ f', Lg w w' l pd pk (ls0 seed) f' := by
  obtain ⟨o, d, k⟩ := two_ok N1 N2
  have o3 := o.on K3
  refine (uopen_ok vs seed R3.sl hB hl (fun i hi ⟨a, ha⟩ => by have := (o.rng a i ha).2; have := R3.own i hi; omega) o3 (d.kept K3 o3.kp (by simp)) rfl (Int.le_refl 0) (k.kept K3 o3.kp (by simp)) rfl (Int.le_refl 0) rfl (Nat.zero_le _) (klay_opn 0) (klay_dk 0) rfl opnP_nil rfl (rs := []) (its := []) rfl (by simp) (by simp) (by simp [lenU]) (by simp)).mono ?_
  rintro e w' ⟨l, rfl, f', L, -⟩
  exact ⟨l, rfl, f', L⟩
/-- power lasts, and there is room. -/
structure Up (S : LS) (B M : Nat) : Prop where
  dd : ∃ b, S.dd = dkOn b ∧ b.length ≤ B
  dk : S.dk = dkOn (klay S.n)
  mj : S.mj ≤ M
  mb : S.mb ≤ S.n
theorem up0 (seed : List Int) : Up (ls0 seed) 0 0 := ⟨⟨[], rfl, by simp⟩, rfl, Nat.le_refl _, Nat.le_refl _⟩
section
variable {w0 w : World} {l pd pk : Nat} {S : LS} {f : Fps}
theorem uadd_none (h : Lg w0 w l pd pk S f) (vi : Value) (li : List (Value × List Int)) (xs : List (List Int)) (hxs : li.map (·.2) = xs) (hL : Lists w vi li) (hl : ∀ x ∈ xs, x.length ≤ 65535) (hn : xs.length ≤ 1000) (h0 : newU S.its xs = []) :
    Calls Tryz.prog 15 #[.pointer (some ⟨l, 0, none⟩), vi] w fun e w' => ∃ vr, e = .returned (.tuple #[vr, .int .i64 0]) ∧ RowI w' w.heap.size vr (nsU S.its xs) ∧ Kp [] w w' := by
  have HNu := hide (numbered_any h vi li xs hxs hL hl hn)
  have HH := hide h
  rw [h0] at HNu
  obtain ⟨a, ha⟩ : ∃ a, a = S.its.length := ⟨_, rfl⟩
  have hfew := h.few
  rw [← ha] at hfew
  have hab2 : ¬ (256 : Int) < (a : Int) := by omega
  have hab3 : decide ((256 : Int) < (a : Int)) = false := decide_eq_false hab2
  have hw : IntKind.i64.wrap (a : Int) = (a : Int) := by simp [IntKind.wrap, IntKind.signed, IntKind.bits]; omega
  have HA := hide ha
  clear h hL hl hn hxs ha h0
  go_enter Tryz.func15, Tryz.ntmps15
  go_wp2_with fail
  refine HNu.out.mono ?_
  rintro ee w1 ⟨ao, m, c, s2, rfl, R1, K1, F, Sh1, hF⟩
  have HR1 := hide R1
  have HK1 := hide K1
  have HSh := hide Sh1
  have HZ := hide (usize_any (HH.out.on K1) a (by rw [HA.out]))
  clear R1 K1 Sh1 hF HNu
  go_wp2_with fail
  refine HZ.out.mono ?_
  rintro ee w2 ⟨rfl, hw2⟩
  subst w2
  have HZ2 := hide (ssize_any HSh.out 0 (by simp))
  clear HZ
  go_wp2_with fail
  refine HZ2.out.mono ?_
  rintro ee w2 ⟨rfl, hw2⟩
  subst w2
  clear HZ2
  obtain ⟨v2, b2, hSc, hRU, -⟩ := HSh.out.ex
  obtain ⟨a2, c2, hv2⟩ := hRU.shape
  rw [List.length_nil] at hv2
  subst hv2
  have hc0 := hSc.c0
  have HKp := hide (ukeep_none (l := l) _ hRU)
  clear hRU hSc
  go_wp2_with fail
  refine HKp.out.mono ?_
  rintro ee w3 ⟨rfl, hw3⟩
  subst w3
  clear HKp
  go_wp2_with fail
  go_ret2
  exact ⟨_, rfl, HR1.out, HK1.out⟩
theorem uadd_up (h : Lg w0 w l pd pk S f) (B M m : Nat) (hU : Up S B M) (hM : M ≤ 1000) (vi : Value) (li : List (Value × List Int)) (xs : List (List Int)) (hxs : li.map (·.2) = xs) (hL : Lists w vi li) (hl : ∀ x ∈ xs, x.length ≤ m) (hm : m ≤ 65535) (hn : xs.length ≤ 1000) (h256 : (allU S.its xs).length ≤ 256) (hb : 4 + xs.length * (2 + m) ≤ 65535) (hB : B + (12 + xs.length * (2 + m)) ≤ 1048576) :
    Calls Tryz.prog 15 #[.pointer (some ⟨l, 0, none⟩), vi] w fun e w' => ∃ vr, e = .returned (.tuple #[vr, .int .i64 0]) ∧ RowI w' w.heap.size vr (nsU S.its xs) ∧ ∃ S' f', Lg w0 w' l pd pk S' f' ∧ LSt w f w' f' ∧ (∀ k, vr.ownBlock = some k → ¬ f'.tot k) ∧ Up S' (B + (12 + xs.length * (2 + m))) (M + 1) ∧ S'.its = allU S.its xs ∧ S'.n = S.n ∧ S'.seed = S.seed ∧ S'.la = S.la := by
  by_cases h0 : newU S.its xs = []
  · refine (uadd_none h vi li xs hxs hL (fun x hx => by have := hl x hx; omega) hn h0).mono ?_
    rintro e w' ⟨vr, rfl, R, K⟩
    obtain ⟨⟨b, e1, e2⟩, e3, e4, e5⟩ := hU
    refine ⟨vr, rfl, R, S, f, h.on K, Stp.mid K, fun k hk hf => by have := (h.lt k hf).2; have := (R.lt hk).1; omega, ⟨⟨b, e1, by omega⟩, e3, by omega, e5⟩, ?_, rfl, rfl, rfl⟩
    rw [allU_new, h0, List.append_nil]
  · obtain ⟨⟨b, e1, e2⟩, e3, e4, e5⟩ := hU
    have hnl := newU_le S.its xs
    have hlen := batU_len (newU S.its xs) m (fun x hx => hl x (newU_mem h.nd hx).1)
    have hmul : (newU S.its xs).length * (2 + m) ≤ xs.length * (2 + m) := Nat.mul_le_mul_right _ hnl
    have hadd := Dk.add_on b (recP (batU (newU S.its xs))) (by rw [recP_len]; omega)
    rw [← e1] at hadd
    refine (uadd_any h vi li xs hxs hL (fun x hx => by have := hl x hx; omega) hn h256 h0 (by omega) (by omega) true _ hadd).mono ?_
    rintro e w' ⟨vr, en, rfl, rfl, R, f', L, T, ho⟩
    refine ⟨vr, rfl, R, _, f', L, T, ho, ⟨⟨_, rfl, by rw [List.length_append, recP_len]; omega⟩, e3, by show S.mj + 1 ≤ M + 1; omega, e5⟩, rfl, rfl, rfl, rfl⟩
/-- a new size is published. -/
theorem upub_up (h : Lg w0 w l pd pk S f) (hG : Gl w0) (B M : Nat) (hU : Up S B M) (hn : S.n < 16) (hla : ∀ a, S.la = some a → a.1 ≠ S.its.length) :
    Calls Tryz.prog 33 #[.pointer (some ⟨l, 0, none⟩)] w fun e w' => ∃ v, e = .returned (.tuple #[v, .int .i64 0]) ∧ ∃ S' f', Lg w0 w' l pd pk S' f' ∧ LSt w f w' f' ∧ Up S' B M ∧ S'.its = S.its ∧ S'.n = S.n + 1 ∧ S'.seed = S.seed ∧ S'.la = some (S.its.length, S.n) ∧ ∃ b, (∀ i, f'.tot i → i < b) ∧ w.heap.size ≤ b ∧ b ≤ w'.heap.size ∧ SgU b w' v (sgU S.seed S.its (S.its.length, S.n)) := by
  obtain ⟨e1, e3, e4, e5⟩ := hU
  have hadd : S.dk.add (recP [(S.n : Int)]) = (true, dkOn (klay (S.n + 1))) := by rw [e3]; exact kadd_on hn
  have key : ∀ {e : Ending} {w' : World}, (∃ v en, e = .returned (.tuple #[v, .int .i64 en]) ∧ en = (if true = true then 0 else 13) ∧ ∃ f', Lg w0 w' l pd pk { S with dk := dkOn (klay (S.n + 1)), mb := S.mb + 1, n := if true = true then S.n + 1 else S.n, la := if true = true then some (S.its.length, S.n) else S.la } f' ∧ LSt w f w' f' ∧ ∃ b, (∀ i, f'.tot i → i < b) ∧ w.heap.size ≤ b ∧ b ≤ w'.heap.size ∧ (if true = true then SgU b w' v (sgU S.seed S.its (S.its.length, S.n)) else v = sgd0)) →
      ∃ v, e = .returned (.tuple #[v, .int .i64 0]) ∧ ∃ S' f', Lg w0 w' l pd pk S' f' ∧ LSt w f w' f' ∧ Up S' B M ∧ S'.its = S.its ∧ S'.n = S.n + 1 ∧ S'.seed = S.seed ∧ S'.la = some (S.its.length, S.n) ∧ ∃ b, (∀ i, f'.tot i → i < b) ∧ w.heap.size ≤ b ∧ b ≤ w'.heap.size ∧ SgU b w' v (sgU S.seed S.its (S.its.length, S.n)) := by
    rintro e w' ⟨v, en, rfl, rfl, f', L, T, b, h1, h2, h3, h4⟩
    exact ⟨v, rfl, _, f', L, T, ⟨e1, rfl, e4, by show S.mb + 1 ≤ S.n + 1; omega⟩, rfl, rfl, rfl, rfl, b, h1, h2, h3, h4⟩
  cases hs : S.la with
  | none => exact (upub_anyN h hG hs hn (by omega) true _ hadd).mono (fun _ _ h => key h)
  | some a =>
    obtain ⟨a1, a2⟩ := a
    exact (upub_anyS h hG a1 a2 hs (hla _ hs) hn (by omega) true _ hadd).mono (fun _ _ h => key h)
end
end Go.Proofs.YtillhpgdlmeajaaGreatDoor

/-
  The contract of the reference's Same, of signatures that are alike.
-/
namespace Go.Proofs.YtillhpgdlmeajaaGreatDoor
open Go.RowKit
open Go.Proofs
set_option maxRecDepth 100000 in
set_option maxHeartbeats 2000000 in
theorem refsame_any (v u : Value) (i : Int) (ps qs : List (List Int)) (w : World) (hV : SigV w v i ps qs) (hU : SigV w u i ps qs) :
    Calls Tryz.prog 55 #[v, u] w fun e w' => e = .returned (.bool true) ∧ Kp [] w w' := by
  obtain ⟨ap, np, cp, aq, nq, cq, lp, lq, rfl, hP, hp, hQ, hq, hnp, hnq⟩ := hV.shape
  obtain ⟨ar, nr, cr, as', ns, cs, lr, ls, rfl, hR, hr, hS, hs, hnr, hns⟩ := hU.shape
  obtain rfl : nr = np := by omega
  obtain rfl : ns = nq := by omega
  have hb1 : nr ≤ 9223372036854775807 := by obtain ⟨_, _, e, h, _⟩ := hP; injection e with _ e2; omega
  have hb2 : ns ≤ 9223372036854775807 := by obtain ⟨_, _, e, h, _⟩ := hQ; injection e with _ e2; omega
  obtain ⟨o1, ho1⟩ : ∃ o : Obj, o = (.cells #[.int .i64 i, .slice ap nr cp, .slice aq ns cq] 70) := ⟨_, rfl⟩
  obtain ⟨o2, ho2⟩ : ∃ o : Obj, o = (.cells #[.int .i64 i, .slice ar nr cr, .slice as' ns cs] 70) := ⟨_, rfl⟩
  obtain ⟨W, hW⟩ : ∃ W, W = (w.alloc o1).alloc o2 := ⟨_, rfl⟩
  have K1 : Kp [] w W := by rw [hW]; exact ((Kp.refl [] w).alloc o1).alloc o2
  have G1 : W.heap[w.heap.size]? = some o1 := by rw [hW]; exact heap_alloc2_old w o1 o2
  have G2 : W.heap[w.heap.size + 1]? = some o2 := by rw [hW]; exact heap_alloc2_new w o1 o2
  rw [ho1] at G1
  rw [ho2] at G2
  have hWE : W = (w.alloc (.cells #[.int .i64 i, .slice ap nr cp, .slice aq ns cq] 70)).alloc (.cells #[.int .i64 i, .slice ar nr cr, .slice as' ns cs] 70) := by rw [hW, ho1, ho2]
  have HWE := hide hWE
  have HG1 := hide G1
  have HG2 := hide G2
  have HK1 := hide K1
  have HP := hide (hP.kept K1)
  have HQ := hide (hQ.kept K1)
  have HR := hide (hR.kept K1)
  have HS := hide (hS.kept K1)
  have Hxp := hide hp
  have Hxq := hide hq
  have Hxr := hide hr
  have Hxs := hide hs
  have HN1 := hide hnr
  have HN2 := hide hns
  have hb1i : (nr : Int) ≤ 9223372036854775807 := by omega
  have hb2i : (ns : Int) ≤ 9223372036854775807 := by omega
  clear hP hQ hR hS hp hq hr hs hnp hnq hnr hns hV hU ho1 ho2 hW hWE K1 G1 G2
  go_enter Tryz.func55, Tryz.ntmps55
  go_wp2_with fail
  rw [← unhide HWE]
  go_loopw [5] (fun j wr => ∃ k : Nat, k ≤ nr ∧ j = .int .i64 k ∧ Kp [] W wr) (fun j _ => nr - (intOf j).toNat)
  case atStart => exact ⟨0, by omega, rfl, Kp.refl _ _⟩
  case round =>
    obtain ⟨k, hk, rfl, Kr⟩ := hrel
    have HKr := hide Kr
    have hr1 : wr.cell? ⟨w.heap.size, 1, none⟩ = some (.slice ap nr cp) := by rw [cell_of_row wr w.heap.size 1 _ _ _ (Kr.heap (unhide HG1) (by simp))]; rfl
    have hr2 : wr.cell? ⟨w.heap.size + 1, 1, none⟩ = some (.slice ar nr cr) := by rw [cell_of_row wr (w.heap.size + 1) 1 _ _ _ (Kr.heap (unhide HG2) (by simp))]; rfl
    clear Kr
    by_cases hlt : k < nr
    · have hlt2 : (k : Int) < (nr : Int) := by omega
      obtain ⟨b1, o1, ax, nx, cx, rfl, hcx, hSx, hBx⟩ := lists_at (unhide HP) (unhide Hxp) k (by have := unhide HN1; omega)
      obtain ⟨b2, o2, ay, ny, cy, rfl, hcy, hSy, hBy⟩ := lists_at (unhide HR) (unhide Hxr) k (by have := unhide HN1; omega)
      have d0 : wr.drew.cell? ⟨w.heap.size, 1, none⟩ = some (.slice (some ⟨b1, o1, none⟩) nr cp) := (kp_drew wr).cell hr1 (by simp)
      have d0' : wr.drew.cell? ⟨w.heap.size + 1, 1, none⟩ = some (.slice (some ⟨b2, o2, none⟩) nr cr) := (kp_drew wr).cell hr2 (by simp)
      have kk := (unhide HKr).trans (kp_drew wr)
      have d1 : wr.drew.cell? ⟨b1, o1 + k, none⟩ = some (.slice ax nx cx) := kk.cell hcx (by simp)
      have d2 : wr.drew.cell? ⟨b2, o2 + k, none⟩ = some (.slice ay ny cy) := kk.cell hcy (by simp)
      have v1 := (hSx.kept kk (by simp)).conv (P := Tryz.prog) 22 9 5 Tryz.underlying22 Tryz.underlying5 Tryz.underlying9
      have v2 := (hSy.kept kk (by simp)).conv (P := Tryz.prog) 22 9 5 Tryz.underlying22 Tryz.underlying5 Tryz.underlying9
      obtain ⟨S, hSS⟩ : ∃ S, S = strOfNums (ps.getD k []) := ⟨_, rfl⟩
      rw [← hSS] at v1 v2
      have HKK := hide kk
      clear hcx hcy hSx hSy hBx hBy hSS kk
      go_wp2_with fail
      refine region_read Tryz.mixed (by kernel_rfl) ?_
      repeat (first | go_big_quiet_skip | (go_big_quiet_want; go_big_quiet_op; go_big_quiet_on))
      refine wpQuiet_nil ?_
      go_wp2_with fail
      go_roundw
      case rel => exact ⟨k + 1, by omega, by go_num, unhide HKK⟩
      case measure => simp [intOf]; omega
    · obtain rfl : k = nr := by omega
      have hlt2 : ¬ (k : Int) < (k : Int) := by omega
      have HKe := hide (unhide HKr)
      go_wp2_with fail
      go_loopw [6] (fun j wr => ∃ k : Nat, k ≤ ns ∧ j = .int .i64 k ∧ Kp [] W wr) (fun j _ => ns - (intOf j).toNat)
      case atStart => exact ⟨0, by omega, rfl, unhide HKe⟩
      case round =>
        obtain ⟨k, hk, rfl, Kr⟩ := hrel
        have HKr := hide Kr
        have hr1 : wr.cell? ⟨w.heap.size, 2, none⟩ = some (.slice aq ns cq) := by rw [cell_of_row wr w.heap.size 2 _ _ _ (Kr.heap (unhide HG1) (by simp))]; rfl
        have hr2 : wr.cell? ⟨w.heap.size + 1, 2, none⟩ = some (.slice as' ns cs) := by rw [cell_of_row wr (w.heap.size + 1) 2 _ _ _ (Kr.heap (unhide HG2) (by simp))]; rfl
        clear Kr
        by_cases hlt : k < ns
        · have hlt2 : (k : Int) < (ns : Int) := by omega
          obtain ⟨b1, o1, ax, nx, cx, rfl, hcx, hSx, hBx⟩ := lists_at (unhide HQ) (unhide Hxq) k (by have := unhide HN2; omega)
          obtain ⟨b2, o2, ay, ny, cy, rfl, hcy, hSy, hBy⟩ := lists_at (unhide HS) (unhide Hxs) k (by have := unhide HN2; omega)
          have d0 : wr.drew.cell? ⟨w.heap.size, 2, none⟩ = some (.slice (some ⟨b1, o1, none⟩) ns cq) := (kp_drew wr).cell hr1 (by simp)
          have d0' : wr.drew.cell? ⟨w.heap.size + 1, 2, none⟩ = some (.slice (some ⟨b2, o2, none⟩) ns cs) := (kp_drew wr).cell hr2 (by simp)
          have kk := (unhide HKr).trans (kp_drew wr)
          have d1 : wr.drew.cell? ⟨b1, o1 + k, none⟩ = some (.slice ax nx cx) := kk.cell hcx (by simp)
          have d2 : wr.drew.cell? ⟨b2, o2 + k, none⟩ = some (.slice ay ny cy) := kk.cell hcy (by simp)
          have v1 := (hSx.kept kk (by simp)).conv (P := Tryz.prog) 22 9 5 Tryz.underlying22 Tryz.underlying5 Tryz.underlying9
          have v2 := (hSy.kept kk (by simp)).conv (P := Tryz.prog) 22 9 5 Tryz.underlying22 Tryz.underlying5 Tryz.underlying9
          obtain ⟨S, hSS⟩ : ∃ S, S = strOfNums (qs.getD k []) := ⟨_, rfl⟩
          rw [← hSS] at v1 v2
          have HKK := hide kk
          clear hcx hcy hSx hSy hBx hBy hSS kk
          go_wp2_with fail
          refine region_read Tryz.mixed (by kernel_rfl) ?_
          repeat (first | go_big_quiet_skip | (go_big_quiet_want; go_big_quiet_op; go_big_quiet_on))
          refine wpQuiet_nil ?_
          go_wp2_with fail
          go_roundw
          case rel => exact ⟨k + 1, by omega, by go_num, unhide HKK⟩
          case measure => simp [intOf]; omega
        · obtain rfl : k = ns := by omega
          have hlt2 : ¬ (k : Int) < (k : Int) := by omega
          go_wp2_with fail
          go_ret
          exact ⟨rfl, (unhide HK1).trans (unhide HKr)⟩
end Go.Proofs.YtillhpgdlmeajaaGreatDoor

/-
  The laws of ledger: known.
-/
namespace Go.Proofs.YtillhpgdlmeajaaGreatDoor
open Go.RowKit
open Go.Proofs
set_option linter.unusedVariables false
theorem sig_of_sg {w : World} {a1 a2 : Int} {r p q : Value} {s : Sg} (h : SgV w (.agg #[.int .i64 a1, r, .int .i64 a2, p, q]) s) : SigV w (.agg #[.int .i64 a2, p, q]) s.i s.ps s.qs := by
  obtain ⟨a, m, c, vp, vq, e, h1, h2⟩ := h
  simp only [Value.agg.injEq, Array.mk.injEq, List.cons.injEq, and_true] at e
  obtain ⟨-, -, e3, rfl, rfl⟩ := e
  rw [e3]
  exact h2
theorem all3 : allU [] [[97], [98], [97]] = [[97], [98]] := by decide
theorem ns3 : nsU [] [[97], [98], [97]] = [0, 1, 0] := by decide
set_option maxRecDepth 100000 in
set_option maxHeartbeats 8000000 in
theorem uknown_any (w : World) (hG : Gl w) : Calls Tryz.prog 17 #[] w fun e w' => e = .returned (.bool true) ∧ Kp [] w w' := by
  have HG := hide hG
  have HF := hide (fresh_any w)
  clear hG
  go_enter Tryz.func17, Tryz.ntmps17
  go_wp2_with fail
  refine HF.out.mono ?_
  rintro ee w1 ⟨pd, rfl, N1⟩
  have HN1 := hide N1
  have HF2 := hide (fresh_any w1)
  clear HF N1
  go_wp2_with fail
  refine HF2.out.mono ?_
  rintro ee w2 ⟨pk, rfl, N2⟩
  have HN2 := hide N2
  have HSd := hide (xseed_any 1 w2)
  clear HF2 N2
  go_wp2_with fail
  refine HSd.out.mono ?_
  rintro ee w3 ⟨as_, ms, cs, rfl, R3, K3⟩
  have HO := hide (uopen_fresh HN1.out HN2.out K3 R3 (seedX_bs 1) (seedX_len 1))
  clear HSd R3 K3 HN1 HN2
  go_wp2_with fail
  refine HO.out.mono ?_
  rintro ee w4 ⟨l, rfl, f, L4⟩
  have HL4 := hide L4
  clear HO L4
  have cv1 := lit_cv w4 [97] 1 rfl
  simp only [List.map_cons, List.map_nil] at cv1
  have cv2 := lit_cv (w4.alloc (.cells #[.int .u8 97] 5 (1, 2))) [98] 1 rfl
  simp only [List.map_cons, List.map_nil] at cv2
  have cv3 := lit_cv ((w4.alloc (.cells #[.int .u8 97] 5 (1, 2))).alloc (.cells #[.int .u8 98] 5 (1, 2))) [97] 1 rfl
  simp only [List.map_cons, List.map_nil] at cv3
  have hz1 : (w4.alloc (.cells #[.int .u8 97] 5 (1, 2))).heap.size = w4.heap.size + 1 := by simp
  have hz2 : ((w4.alloc (.cells #[.int .u8 97] 5 (1, 2))).alloc (.cells #[.int .u8 98] 5 (1, 2))).heap.size = w4.heap.size + 2 := by simp
  have hz3 : (((w4.alloc (.cells #[.int .u8 97] 5 (1, 2))).alloc (.cells #[.int .u8 98] 5 (1, 2))).alloc (.cells #[.int .u8 97] 5 (1, 2))).heap.size = w4.heap.size + 3 := by simp
  rw [hz1] at cv2
  rw [hz2] at cv3
  have Ka : Kp [] w4 (w4.alloc (.cells #[.int .u8 97] 5 (1, 2))) := (Kp.refl [] _).alloc _
  have Kb : Kp [] (w4.alloc (.cells #[.int .u8 97] 5 (1, 2))) ((w4.alloc (.cells #[.int .u8 97] 5 (1, 2))).alloc (.cells #[.int .u8 98] 5 (1, 2))) := (Kp.refl [] _).alloc _
  have Kc : Kp [] ((w4.alloc (.cells #[.int .u8 97] 5 (1, 2))).alloc (.cells #[.int .u8 98] 5 (1, 2))) (((w4.alloc (.cells #[.int .u8 97] 5 (1, 2))).alloc (.cells #[.int .u8 98] 5 (1, 2))).alloc (.cells #[.int .u8 97] 5 (1, 2))) := (Kp.refl [] _).alloc _
  have Kd : Kp [] (((w4.alloc (.cells #[.int .u8 97] 5 (1, 2))).alloc (.cells #[.int .u8 98] 5 (1, 2))).alloc (.cells #[.int .u8 97] 5 (1, 2))) ((((w4.alloc (.cells #[.int .u8 97] 5 (1, 2))).alloc (.cells #[.int .u8 98] 5 (1, 2))).alloc (.cells #[.int .u8 97] 5 (1, 2))).alloc (.cells #[.slice (some ⟨w4.heap.size, 0, none⟩) 1 1, .slice (some ⟨w4.heap.size + 1, 0, none⟩) 1 1, .slice (some ⟨w4.heap.size + 2, 0, none⟩) 1 1] 22)) := (Kp.refl [] _).alloc _
  have S1 : Sl ((((w4.alloc (.cells #[.int .u8 97] 5 (1, 2))).alloc (.cells #[.int .u8 98] 5 (1, 2))).alloc (.cells #[.int .u8 97] 5 (1, 2))).alloc (.cells #[.slice (some ⟨w4.heap.size, 0, none⟩) 1 1, .slice (some ⟨w4.heap.size + 1, 0, none⟩) 1 1, .slice (some ⟨w4.heap.size + 2, 0, none⟩) 1 1] 22)) (.slice (some ⟨w4.heap.size, 0, none⟩) 1 1) [97] := (lit_sl w4 [97] 1 (1, 2) rfl (by omega)).kept (Kb.trans (Kc.trans Kd)) (by simp)
  have S2 : Sl ((((w4.alloc (.cells #[.int .u8 97] 5 (1, 2))).alloc (.cells #[.int .u8 98] 5 (1, 2))).alloc (.cells #[.int .u8 97] 5 (1, 2))).alloc (.cells #[.slice (some ⟨w4.heap.size, 0, none⟩) 1 1, .slice (some ⟨w4.heap.size + 1, 0, none⟩) 1 1, .slice (some ⟨w4.heap.size + 2, 0, none⟩) 1 1] 22)) (.slice (some ⟨w4.heap.size + 1, 0, none⟩) 1 1) [98] := by
    have := (lit_sl (w4.alloc (.cells #[.int .u8 97] 5 (1, 2))) [98] 1 (1, 2) rfl (by omega)).kept (Kc.trans Kd) (by simp)
    rw [hz1] at this; exact this
  have S3 : Sl ((((w4.alloc (.cells #[.int .u8 97] 5 (1, 2))).alloc (.cells #[.int .u8 98] 5 (1, 2))).alloc (.cells #[.int .u8 97] 5 (1, 2))).alloc (.cells #[.slice (some ⟨w4.heap.size, 0, none⟩) 1 1, .slice (some ⟨w4.heap.size + 1, 0, none⟩) 1 1, .slice (some ⟨w4.heap.size + 2, 0, none⟩) 1 1] 22)) (.slice (some ⟨w4.heap.size + 2, 0, none⟩) 1 1) [97] := by
    have := (lit_sl ((w4.alloc (.cells #[.int .u8 97] 5 (1, 2))).alloc (.cells #[.int .u8 98] 5 (1, 2))) [97] 1 (1, 2) rfl (by omega)).kept Kd (by simp)
    rw [hz2] at this; exact this
  have hB1 : Bs [97] := fun b hb => by simp at hb; omega
  have hB2 : Bs [98] := fun b hb => by simp at hb; omega
  have HLi : Lists ((((w4.alloc (.cells #[.int .u8 97] 5 (1, 2))).alloc (.cells #[.int .u8 98] 5 (1, 2))).alloc (.cells #[.int .u8 97] 5 (1, 2))).alloc (.cells #[.slice (some ⟨w4.heap.size, 0, none⟩) 1 1, .slice (some ⟨w4.heap.size + 1, 0, none⟩) 1 1, .slice (some ⟨w4.heap.size + 2, 0, none⟩) 1 1] 22)) (.slice (some ⟨w4.heap.size + 3, 0, none⟩) 3 3) [(.slice (some ⟨w4.heap.size, 0, none⟩) 1 1, [97]), (.slice (some ⟨w4.heap.size + 1, 0, none⟩) 1 1, [98]), (.slice (some ⟨w4.heap.size + 2, 0, none⟩) 1 1, [97])] := by
    rw [← hz3]
    refine lists_of_block (l := [(.slice (some ⟨w4.heap.size, 0, none⟩) 1 1, [97]), (.slice (some ⟨w4.heap.size + 1, 0, none⟩) 1 1, [98]), (.slice (some ⟨w4.heap.size + 2, 0, none⟩) 1 1, [97])]) (t := 22) (fr := (0, 0)) (heap_alloc_new (((w4.alloc (.cells #[.int .u8 97] 5 (1, 2))).alloc (.cells #[.int .u8 98] 5 (1, 2))).alloc (.cells #[.int .u8 97] 5 (1, 2))) _) (by show 3 ≤ 1000; omega) (fun x hx => ?_)
    simp only [List.mem_cons, List.not_mem_nil, or_false] at hx
    rcases hx with rfl | rfl | rfl
    · exact ⟨S1, hB1⟩
    · exact ⟨S2, hB2⟩
    · exact ⟨S3, hB1⟩
  have HAd := hide (uadd_up (HL4.out.on (Ka.trans (Kb.trans (Kc.trans Kd)))) 0 0 1 (up0 _) (by omega) _ _ [[97], [98], [97]] rfl HLi (fun x hx => by rcases (by simpa using hx : x = [97] ∨ x = [98] ∨ x = [97]) with rfl | rfl | rfl <;> exact Nat.le_refl 1) (by omega) (by simp) (by show (allU [] _).length ≤ 256; rw [all3]; simp) (by simp) (by simp))
  clear hz1 hz2 hz3 Ka Kb Kc Kd S1 S2 S3 hB1 hB2 HLi
  go_wp2_with fail
  refine HAd.out.mono ?_
  rintro ee w5 ⟨vr, rfl, R5, S5, f5, L5, -, hvo, U5, hits, hn5, hsd, hla⟩
  have e5 : S5.its = [[97], [98]] := by rw [hits]; exact all3
  have R5' : RowI w5 w4.heap.size vr [0, 1, 0] := by
    rw [show ([0, 1, 0] : List Int) = nsU (ls0 (seedX 1)).its [[97], [98], [97]] from ns3.symm]
    exact RowI.rebase R5 (fun k hk => by have := (R5.lt hk).1; simp at this; omega)
  obtain ⟨ar, cr, hvr⟩ := R5'.shape
  have HPb := hide (upub_up L5 HG.out _ _ U5 (by rw [hn5]; show 0 < 16; omega) (fun a ha => by rw [hla] at ha; cases ha))
  have HR5 := hide R5'
  have HVo := hide hvo
  have HE5 := hide e5
  have HN5 := hide hn5
  have HSd5 := hide hsd
  have hvr3 : vr = .slice ar 3 cr := hvr
  subst hvr3
  clear HAd R5 R5' L5 hvo U5 hits hn5 hsd hla e5 hvr cv1 cv2 cv3
  go_wp2_with fail
  refine HPb.out.mono ?_
  rintro ee w6 ⟨v6, rfl, S6, f6, L6, T6, U6, hits6, hn6, hsd6, hla6, b6, hb1, hb2, hb3, A6⟩
  obtain ⟨br, kr, dr, bp, kp, dp, bq', kq, dq, rfl, -, -⟩ := A6.v.shape
  have hn6' : S6.n = 1 := by rw [hn6, HN5.out]; rfl
  have hl6 : S5.its.length = 2 := by rw [HE5.out]; rfl
  have hl6' : S6.its.length = 2 := by rw [hits6]; exact hl6
  have HR6 := hide (HR5.out.kept (T6.kp.choose_spec.2) (fun i hi hm => HVo.out i hi (T6.kp.choose_spec.1 i hm)))
  have HL6 := hide L6
  have HV6 := hide A6.v
  have HN6 := hide hn6'
  have HL6' := hide hl6'
  have HLa6 := hide hla6
  have hsn : (sgU S5.seed S5.its (S5.its.length, S5.n)).n = 2 := by show ((S5.its.length : Nat) : Int) = 2; rw [hl6]; rfl
  have hsi : (sgU S5.seed S5.its (S5.its.length, S5.n)).i = 0 := by show ((S5.n : Nat) : Int) = 0; rw [HN5.out]; rfl
  rw [hsn, hsi] at HV6 ⊢
  obtain ⟨sg, hsg⟩ : ∃ x, x = sgU S5.seed S5.its (S5.its.length, S5.n) := ⟨_, rfl⟩
  rw [← hsg] at HV6
  have HSG : Hid (sgU S6.seed S6.its (2, 0) = sg) := hide (by rw [hsg, hsd6, hits6, hl6, HN5.out]; rfl)
  have G6 := heap_alloc_new w6 (.cells #[.int .i64 0, .slice none 0 0, .int .i64 0, .slice none 0 0, .slice none 0 0] 72)
  have hla62 : S6.la = some (2, 0) := by rw [hla6, hl6, HN5.out]; rfl
  have Ka6 : Kp [] w6 (w6.alloc (.cells #[.int .i64 0, .slice none 0 0, .int .i64 0, .slice none 0 0, .slice none 0 0] 72)) := (Kp.refl [] _).alloc _
  have HKa6 := hide Ka6
  have HLa62 := hide hla62
  clear HPb T6 U6 hits6 hn6 hsd6 hla6 hb1 hb2 hb3 A6 hn6' hl6 hl6' hsn hsi hsg L6 hla62 Ka6 HR5 HVo
  go_wp2_with (refine wpList_store_flat rfl 72 (.tmp 5) (.tmp 37) rfl w6.heap.size 0 rfl _ _ [.int .i64 2, .slice br kr dr, .int .i64 0, .slice bp kp dp, .slice bq' kq dq] G6 rfl (by simp) Tryz.sgdSize (by simp [Value.oneCell']) #[.int .i64 2, .slice br kr dr, .int .i64 0, .slice bp kp dp, .slice bq' kq dq] rfl ?_; intro w7 G7 K7; refine Hid.out ?_)
  obtain ⟨g5, hg5⟩ : ∃ g, g = w6.heap.size := ⟨_, rfl⟩
  rw [← hg5] at G7 K7 ⊢
  have K67 : Kp [] w6 w7 := HKa6.out.then K7 (fun i hi => .inr (by simp at hi; omega))
  have HL7 := hide (HL6.out.on K67)
  have HR7 := hide (HR6.out.kept K67 (by simp))
  have HV7 := hide (HV6.out.kept K67)
  have HG7 := hide G7
  have HPo := hide (upublish_old HL7.out 2 0 HLa62.out HL6'.out.symm)
  clear G6 G7 K7 K67 HKa6 HR6 HV6 HL6 hg5
  refine hide ?_
  go_wp2_with fail
  refine HPo.out.mono ?_
  rintro ee w8 ⟨v8, rfl, A8, K8⟩
  have hV8 := A8.v
  rw [HSG.out] at hV8
  obtain ⟨b2, k2, d2, bp2, kp2, dp2, bq2, kq2, dq2, hv8, -, -⟩ := hV8.shape
  have hn1 : sg.n = 2 := by rw [← HSG.out]; rfl
  have hi1 : sg.i = 0 := by rw [← HSG.out]; rfl
  rw [hn1, hi1] at hv8
  subst hv8
  have HV8 := hide hV8
  have HK8 := hide K8
  have G8 := heap_alloc_new w8 (.cells #[.int .i64 0, .slice none 0 0, .int .i64 0, .slice none 0 0, .slice none 0 0] 72)
  have HKa8 : Hid (Kp [] w8 (w8.alloc (.cells #[.int .i64 0, .slice none 0 0, .int .i64 0, .slice none 0 0, .slice none 0 0] 72))) := (Kp.refl [] _).alloc _
  clear HPo A8 K8 hV8 hn1 hi1
  go_wp2_with (refine wpList_store_flat rfl 72 (.tmp 7) (.tmp 42) rfl w8.heap.size 0 rfl _ _ [.int .i64 2, .slice b2 k2 d2, .int .i64 0, .slice bp2 kp2 dp2, .slice bq2 kq2 dq2] G8 rfl (by simp) Tryz.sgdSize (by simp [Value.oneCell']) #[.int .i64 2, .slice b2 k2 d2, .int .i64 0, .slice bp2 kp2 dp2, .slice bq2 kq2 dq2] rfl ?_; intro w9 G9 K9; refine Hid.out ?_)
  obtain ⟨g7, hg7⟩ : ∃ g, g = w8.heap.size := ⟨_, rfl⟩
  rw [← hg7] at G9 K9 ⊢
  have K89 : Kp [] w8 w9 := HKa8.out.then K9 (fun i hi => .inr (by simp at hi; omega))
  have K79 := HK8.out.trans K89
  have HL9 := hide (HL7.out.on K79)
  have hR9 := HR7.out.kept K79 (by simp)
  have HV9 := hide (HV7.out.kept K79)
  have HW9 := hide (HV8.out.kept K89)
  have G59 := K79.heap HG7.out (by simp)
  obtain ⟨wl, hwl⟩ : ∃ x, x = w9.alloc (.cells #[.int .i64 0, .int .i64 1, .int .i64 0] 3) := ⟨_, rfl⟩
  have Kl : Kp [] w9 wl := by rw [hwl]; exact (Kp.refl [] _).alloc _
  have hIl : IntsU wl (.slice (some ⟨w9.heap.size, 0, none⟩) 3 3) [0, 1, 0] := by rw [hwl]; exact ints_block (l := [0, 1, 0]) (t := 3) (fr := (0, 0)) (heap_alloc_new w9 _) (by simp)
  have HSm := hide (isame_any _ _ [0, 1, 0] [0, 1, 0] wl ((hR9.ints (by simp)).kept Kl (by simp)) hIl (by simp) (by simp))
  rw [hwl, show decide (([0, 1, 0] : List Int) = [0, 1, 0]) = true from by decide] at HSm
  have HKl := hide Kl
  have HWl := hide hwl
  have HG5 := hide G59
  have HG9 := hide G9
  clear G8 G9 K9 K89 K79 HKa8 HR7 HV7 HV8 HL7 hR9 hg7 HG7 HK8 G59 Kl hIl hwl
  refine hide ?_
  go_wp2_with fail
  refine HSm.out.mono ?_
  rintro ee wm ⟨rfl, Km⟩
  rw [← HWl.out] at Km
  have K9m := HKl.out.trans Km
  have Gm5 := K9m.heap HG5.out (by simp)
  have Gm7 := K9m.heap HG9.out (by simp)
  have x2 : wm.cell? ⟨g5, 2, none⟩ = some (.int .i64 0) := by rw [cell_of_row wm g5 2 _ _ _ Gm5]; rfl
  have x3 : wm.cell? ⟨g5, 3, none⟩ = some (.slice bp kp dp) := by rw [cell_of_row wm g5 3 _ _ _ Gm5]; rfl
  have x4 : wm.cell? ⟨g5, 4, none⟩ = some (.slice bq' kq dq) := by rw [cell_of_row wm g5 4 _ _ _ Gm5]; rfl
  have y2 : wm.cell? ⟨g7, 2, none⟩ = some (.int .i64 0) := by rw [cell_of_row wm g7 2 _ _ _ Gm7]; rfl
  have y3 : wm.cell? ⟨g7, 3, none⟩ = some (.slice bp2 kp2 dp2) := by rw [cell_of_row wm g7 3 _ _ _ Gm7]; rfl
  have y4 : wm.cell? ⟨g7, 4, none⟩ = some (.slice bq2 kq2 dq2) := by rw [cell_of_row wm g7 4 _ _ _ Gm7]; rfl
  have HSs := hide (refsame_any _ _ sg.i sg.ps sg.qs wm (sig_of_sg (HV9.out.kept K9m)) (sig_of_sg (HW9.out.kept K9m)))
  have HG5m := hide Gm5
  have HLm := hide (HL9.out.on K9m)
  clear HSm Km K9m Gm5 Gm7 HL9 HG5 HG9
  go_wp2_with fail
  refine HSs.out.mono ?_
  rintro ee wn ⟨rfl, Kn⟩
  have Gn5 := Kn.heap HG5m.out (by simp)
  have z0 : wn.cell? ⟨g5, 0, none⟩ = some (.int .i64 2) := by rw [cell_of_row wn g5 0 _ _ _ Gn5]; rfl
  have HLn := hide (HLm.out.on Kn)
  have HKy := hide (ukeys_any HLn.out 15 (by rw [HN6.out]; rfl))
  clear HSs Kn Gn5 HLm HG5m x2 x3 x4 y2 y3 y4
  go_wp2_with fail
  refine HKy.out.mono ?_
  rintro ee wo ⟨rfl, hwo⟩
  subst wo
  clear HKy
  go_wp2_with fail
  go_ret
  exact ⟨rfl, HLn.out.kp⟩
end Go.Proofs.YtillhpgdlmeajaaGreatDoor
