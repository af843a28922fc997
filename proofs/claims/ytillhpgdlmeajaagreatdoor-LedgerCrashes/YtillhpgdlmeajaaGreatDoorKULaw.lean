/-
  The laws of ledger: fresh, on, Same, two new disks and a ledger on them; Add and Publish while power lasts.
-/
import Derived.Test.YtillhpgdlmeajaaGreatDoorKUOpen
import Derived.Test.YtillhpgdlmeajaaGreatDoorKXLaws
import Derived.Test.YtillhpgdlmeajaaGreatDoorKJArg
import Derived.Deep.LoopGhost
import Derived.ProofKit
namespace Go.Proofs.YtillhpgdlmeajaaGreatDoor
open Go.RowKit
open Go.Proofs
set_option linter.unusedVariables false

def IntsU (w : World) (v : Value) (l : List Int) : Prop := ∃ ao c, v = .slice ao l.length c ∧ l.length ≤ maxLen ∧ ∀ i (h : i < l.length), ∃ a, ao = some a ∧ w.cell? (a.add i) = some (.int .i64 l[i])
theorem IntsU.kept {w w' : World} {v : Value} {l : List Int} {S : List Nat} (h : IntsU w v l) (k : Kp S w w') (hv : ∀ i, v.ownBlock = some i → i ∉ S) : IntsU w' v l := by
  obtain ⟨ao, c, rfl, h1, h2⟩ := h
  refine ⟨ao, c, rfl, h1, fun i hi => ?_⟩
  obtain ⟨a, e, h3⟩ := h2 i hi
  subst e
  exact ⟨a, rfl, k.cell h3 (by rw [add_block]; exact hv a.block rfl)⟩
theorem RowI.ints {w : World} {base : Nat} {v : Value} {l : List Int} (h : RowI w base v l) (hl : l.length ≤ 1000000) : IntsU w v l := by
  rcases h.2 with ⟨rfl, h0⟩ | ⟨g, cap, cur, rfl, _⟩
  · have : l = [] := List.eq_nil_of_length_eq_zero h0
    subst this
    exact ⟨none, 0, rfl, by simp [maxLen], fun i hi => by cases hi⟩
  · refine ⟨some ⟨g, 0, none⟩, cap, rfl, by unfold maxLen; omega, fun i hi => ⟨_, rfl, ?_⟩⟩
    exact h.cells (g := g) rfl i _ (by simp [List.getElem?_eq_getElem hi])
theorem ints_block {w : World} {g : Nat} {l : List Int} {t : TypeId} {fr : Nat × Nat} (hg : w.heap[g]? = some (.cells (l.map (Value.int .i64)).toArray t fr)) (hl : l.length ≤ 1000) : IntsU w (.slice (some ⟨g, 0, none⟩) l.length l.length) l := by
  refine ⟨some ⟨g, 0, none⟩, l.length, rfl, by unfold maxLen; omega, fun i hi => ⟨_, rfl, ?_⟩⟩
  rw [Addr.add_lit, cell_of_row w g _ _ _ _ hg]
  simp [List.getElem?_eq_getElem hi]
set_option maxHeartbeats 1000000 in
theorem isame_any (va vb : Value) (l l' : List Int) (w : World) (ha : IntsU w va l) (hb : IntsU w vb l') (hl : l.length ≤ 1000000) (hl' : l'.length ≤ 1000000) :
    Calls Tryz.prog 54 #[va, vb] w fun e w' => e = .returned (.bool (decide (l = l'))) ∧ Kp [] w w' := by
  obtain ⟨ao, c, rfl, _, hA⟩ := ha
  obtain ⟨bo, c', rfl, _, hB⟩ := hb
  obtain ⟨n, hn⟩ : ∃ n, n = l.length := ⟨_, rfl⟩
  obtain ⟨n', hn'⟩ : ∃ n', n' = l'.length := ⟨_, rfl⟩
  rw [← hn] at hl ⊢
  rw [← hn'] at hl' ⊢
  have HN := hide hn
  have HN' := hide hn'
  have HA := hide hA
  have HB := hide hB
  clear hn hn' hA hB
  go_enter Tryz.func54, Tryz.ntmps54
  by_cases hnn : n = n'
  · subst hnn
    go_wp2
    go_loopg [5] n (fun kx s5 wr => ∃ i : Nat, s5 = .int .i64 i ∧ i ≤ n ∧ n - i ≤ kx ∧ Hid (Kp [] w wr) ∧ Hid (l.take i = l'.take i))
    case atStart => exact ⟨0, rfl, Nat.zero_le _, by omega, Kp.refl _ _, by show _ = _; simp⟩
    case round =>
      obtain ⟨i, rfl, hi, hkx, HK, HT⟩ := hrel
      by_cases hin : i < n
      · have hiz : (i : Int) < (n : Int) := by omega
        have hil : i < l.length := by rw [← HN.out]; exact hin
        have hil' : i < l'.length := by rw [← HN'.out]; exact hin
        obtain ⟨a, rfl, ca⟩ := HA.out i hil
        obtain ⟨b, rfl, cb⟩ := HB.out i hil'
        have ca' := HK.out.cell ca (by simp)
        have cb' := HK.out.cell cb (by simp)
        obtain ⟨x, hx⟩ : ∃ x, x = l[i] := ⟨_, rfl⟩
        obtain ⟨y, hy⟩ : ∃ y, y = l'[i] := ⟨_, rfl⟩
        rw [← hx] at ca'
        rw [← hy] at cb'
        have HX := hide hx
        have HY := hide hy
        clear hx hy ca cb
        go_wp2_with fail
        refine region_read Tryz.mixed (by kernel_rfl) ?_
        repeat (first | go_big_quiet_skip | (go_big_quiet_want; go_big_quiet_op; go_big_quiet_on))
        refine wpQuiet_nil ?_
        by_cases hxy : x = y
        · subst hxy
          go_wp2_with fail
          go_roundg (n - (i + 1))
          case measure => omega
          case rel =>
            refine ⟨i + 1, by go_num, by omega, Nat.le_refl _, HK.out.drew, ?_⟩
            show _ = _
            rw [List.take_add_one, List.take_add_one, HT.out, List.getElem?_eq_getElem hil, List.getElem?_eq_getElem hil', ← HX.out, ← HY.out]
        · have hne : (x != y) = true := by simpa using hxy
          go_wp2_with fail
          go_ret
          refine ⟨?_, HK.out.drew⟩
          have : ¬ l = l' := fun e => hxy (by rw [HX.out, HY.out]; simp [e])
          rw [decide_eq_false this]
          rfl
      · have hiz : ¬ (i : Int) < (n : Int) := by omega
        have he : l = l' := by
          have h1 := HT.out
          rwa [List.take_of_length_le (by rw [← HN.out]; omega), List.take_of_length_le (by rw [← HN'.out]; omega)] at h1
        have HE := hide he
        clear he
        go_wp2
        go_ret
        refine ⟨?_, HK.out⟩
        rw [decide_eq_true HE.out]
        rfl
  · have hne : ((n : Int) != (n' : Int)) = true := by simp; omega
    have he : ¬ l = l' := fun e => hnn (by rw [HN.out, HN'.out, e])
    have HE := hide he
    clear he
    go_wp2
    go_ret
    refine ⟨?_, Kp.refl _ _⟩
    rw [decide_eq_false HE.out]
    rfl

/-- What Within tells. -/
def wi (n lo hi : Int) : Int := if lo ≤ n ∧ n ≤ hi then n else if n.tmod (hi - lo + 1) < 0 then lo + (n.tmod (hi - lo + 1) + hi - lo + 1) else lo + n.tmod (hi - lo + 1)
theorem dk0_on : dk0 1048576 = dkOn [] := rfl
theorem fresh_any (w : World) : Calls Tryz.prog 11 #[] w fun e w' => ∃ p, e = .returned (.pointer (some ⟨p, 0, none⟩)) ∧ Nw w w' p (.slice none 0 0) (dkOn []) := by
  have HN := hide (nw_new 1048576 w (by omega) (by omega))
  go_enter Tryz.func11, Tryz.ntmps11
  go_wp2_with fail
  refine HN.out.mono ?_
  rintro ee w1 ⟨p, rfl, N1⟩
  have HN1 := hide N1
  clear HN N1
  go_wp2_with fail
  go_ret
  exact ⟨p, rfl, HN1.out⟩
set_option maxHeartbeats 1000000 in
theorem uon_any (vb : Value) (b : List Int) (w : World) (hS : Sl w vb b) (hB : Bs b) (hl : b.length ≤ 1048576) :
    Calls Tryz.prog 12 #[vb] w fun e w' => ∃ p v, e = .returned (.pointer (some ⟨p, 0, none⟩)) ∧ Nw w w' p v (dkOn b) := by
  have HA : Hid ((dkOn []).app b = (true, ⟨b, 0, 1048576, 0, false⟩)) := by
    have h1 := Dk.app_plain (d := dkOn []) rfl (Int.le_refl 0) b (by show ((0 + b.length : Nat) : Int) ≤ 1048576; omega)
    exact h1
  have HY : Hid ((⟨b, 0, 1048576, 0, false⟩ : Dk).sync = (true, dkOn b)) := Dk.sync_plain (d := ⟨b, 0, 1048576, 0, false⟩) rfl (Int.le_refl 0)
  have HS := hide (fun w' (k : Kp [] w w') => hS.kept k (by simp))
  have HB := hide hB
  have HF := hide (fresh_any w)
  obtain ⟨ab, cb, hvb, -⟩ := hS
  obtain ⟨nb, hnb⟩ : ∃ n, n = b.length := ⟨_, rfl⟩
  rw [← hnb] at hvb
  subst hvb
  clear hB hl hnb
  go_enter Tryz.func12, Tryz.ntmps12
  go_wp2_with fail
  refine HF.out.mono ?_
  rintro ee w1 ⟨p, rfl, N1⟩
  have HN1 := hide N1
  have HAp := hide (nw_append N1 (HS.out w1 N1.kp) HB.out true HA.out 0 rfl)
  clear HF N1
  go_wp2_with fail
  refine HAp.out.mono ?_
  rintro ee w2 ⟨rfl, v2, N2, -⟩
  have HSy := hide (nw_sync N2 true HY.out 0 rfl)
  clear HAp N2
  go_wp2_with fail
  refine HSy.out.mono ?_
  rintro ee w3 ⟨rfl, N3, -⟩
  have HN3 := hide N3
  clear HSy N3
  go_wp2_with fail
  go_ret
  exact ⟨p, v2, rfl, HN3.out⟩
/-- two disks, one made behind the other. -/
def f2 (a b c : Nat) : Fps := fun n i => (n = 5 ∧ a ≤ i ∧ i < b) ∨ (n = 6 ∧ b ≤ i ∧ i < c)
theorem two_ok {w w1 w2 : World} {pd pk : Nat} {v1 v2 : Value} {d1 d2 : Dk} (N1 : Nw w w1 pd v1 d1) (N2 : Nw w1 w2 pk v2 d2) :
    (f2 w.heap.size w1.heap.size w2.heap.size).Ok w w2 ∧ Dx w w2 pd d1 ((f2 w.heap.size w1.heap.size w2.heap.size) 5) ∧ Dx w w2 pk d2 ((f2 w.heap.size w1.heap.size w2.heap.size) 6) := by
  have s1 := N1.kp.size
  have s2 := N2.kp.size
  have k0 := N1.kp.trans N2.kp
  refine ⟨⟨k0, fun a b i ha hb => ?_, fun a i ha => ?_⟩, ⟨v1, N1.on N2.kp, fun i hi => .inl ⟨rfl, N1.news i hi, N1.dk.lt i hi⟩⟩, ⟨v2, ⟨⟨N2.dk.here, owns_rebase N2.dk.row (fun k hk => Nat.le_trans s1 (N2.dk.row.own k hk)), N2.dk.fit, N2.dk.typ⟩, Nat.le_trans s1 N2.new, k0, N2.arm⟩, fun i hi => .inr ⟨rfl, N2.news i hi, N2.dk.lt i hi⟩⟩⟩
  · rcases ha with ⟨rfl, h⟩ | ⟨rfl, h⟩ <;> rcases hb with ⟨rfl, g⟩ | ⟨rfl, g⟩ <;> first | rfl | omega
  · rcases ha with ⟨rfl, h⟩ | ⟨rfl, h⟩ <;> omega
/-- a ledger that was just opened. -/
def ls0 (seed : List Int) : LS := ⟨[], 0, seed, none, dkOn [], dkOn [], 0, 0⟩
theorem uopen_fresh {w w1 w2 w3 : World} {pd pk : Nat} {v1 v2 vs : Value} {seed : List Int} (N1 : Nw w w1 pd v1 (dkOn [])) (N2 : Nw w1 w2 pk v2 (dkOn [])) (K3 : Kp [] w2 w3) (R3 : Row w3 w2.heap.size vs seed) (hB : Bs seed) (hl : seed.length = 32) :
    Calls Tryz.prog 10 #[.pointer (some ⟨pd, 0, none⟩), .pointer (some ⟨pk, 0, none⟩), vs] w3 fun e w' => ∃ l, e = .returned (.tuple #[.pointer (some ⟨l, 0, none⟩), .int .i64 0]) ∧ ∃ f', Lg w w' l pd pk (ls0 seed) f' := by
  obtain ⟨o, d, k⟩ := two_ok N1 N2
  have o3 := o.on K3
  refine (uopen_ok vs seed R3.sl hB hl (fun i hi ⟨a, ha⟩ => by have := (o.rng a i ha).2; have := R3.own i hi; omega) o3 (d.kept K3 o3.kp (by simp)) rfl (Int.le_refl 0) (k.kept K3 o3.kp (by simp)) rfl (Int.le_refl 0) rfl (Nat.zero_le _) (klay_opn 0) (klay_dk 0) rfl opnP_nil rfl (rs := []) (its := []) rfl (by simp) (by simp) (by simp [lenU]) (by simp)).mono ?_
  rintro e w' ⟨l, rfl, f', L, -⟩
  exact ⟨l, rfl, f', L⟩
/-- power lasts, and there is room. -/
structure Up (S : LS) (B M : Nat) : Prop where
  dd : ∃ b, S.dd = dkOn b ∧ b.length ≤ B
  dk : S.dk = dkOn (klay S.n)
  mj : S.mj ≤ M
  mb : S.mb ≤ S.n
theorem up0 (seed : List Int) : Up (ls0 seed) 0 0 := ⟨⟨[], rfl, by simp⟩, rfl, Nat.le_refl _, Nat.le_refl _⟩
section
variable {w0 w : World} {l pd pk : Nat} {S : LS} {f : Fps}
theorem uadd_none (h : Lg w0 w l pd pk S f) (vi : Value) (li : List (Value × List Int)) (xs : List (List Int)) (hxs : li.map (·.2) = xs) (hL : Lists w vi li) (hl : ∀ x ∈ xs, x.length ≤ 65535) (hn : xs.length ≤ 1000) (h0 : newU S.its xs = []) :
    Calls Tryz.prog 15 #[.pointer (some ⟨l, 0, none⟩), vi] w fun e w' => ∃ vr, e = .returned (.tuple #[vr, .int .i64 0]) ∧ RowI w' w.heap.size vr (nsU S.its xs) ∧ Kp [] w w' := by
  have HNu := hide (numbered_any h vi li xs hxs hL hl hn)
  have HH := hide h
  rw [h0] at HNu
  obtain ⟨a, ha⟩ : ∃ a, a = S.its.length := ⟨_, rfl⟩
  have hfew := h.few
  rw [← ha] at hfew
  have hab2 : ¬ (256 : Int) < (a : Int) := by omega
  have hab3 : decide ((256 : Int) < (a : Int)) = false := decide_eq_false hab2
  have hw : IntKind.i64.wrap (a : Int) = (a : Int) := by simp [IntKind.wrap, IntKind.signed, IntKind.bits]; omega
  have HA := hide ha
  clear h hL hl hn hxs ha h0
  go_enter Tryz.func15, Tryz.ntmps15
  go_wp2_with fail
  refine HNu.out.mono ?_
  rintro ee w1 ⟨ao, m, c, s2, rfl, R1, K1, F, Sh1, hF⟩
  have HR1 := hide R1
  have HK1 := hide K1
  have HSh := hide Sh1
  have HZ := hide (usize_any (HH.out.on K1) a (by rw [HA.out]))
  clear R1 K1 Sh1 hF HNu
  go_wp2_with fail
  refine HZ.out.mono ?_
  rintro ee w2 ⟨rfl, hw2⟩
  subst w2
  have HZ2 := hide (ssize_any HSh.out 0 (by simp))
  clear HZ
  go_wp2_with fail
  refine HZ2.out.mono ?_
  rintro ee w2 ⟨rfl, hw2⟩
  subst w2
  clear HZ2
  obtain ⟨v2, b2, hSc, hRU, -⟩ := HSh.out.ex
  obtain ⟨a2, c2, hv2⟩ := hRU.shape
  rw [List.length_nil] at hv2
  subst hv2
  have hc0 := hSc.c0
  have HKp := hide (ukeep_none (l := l) _ hRU)
  clear hRU hSc
  go_wp2_with fail
  refine HKp.out.mono ?_
  rintro ee w3 ⟨rfl, hw3⟩
  subst w3
  clear HKp
  go_wp2_with fail
  go_ret2
  exact ⟨_, rfl, HR1.out, HK1.out⟩
theorem uadd_up (h : Lg w0 w l pd pk S f) (B M m : Nat) (hU : Up S B M) (hM : M ≤ 1000) (vi : Value) (li : List (Value × List Int)) (xs : List (List Int)) (hxs : li.map (·.2) = xs) (hL : Lists w vi li) (hl : ∀ x ∈ xs, x.length ≤ m) (hm : m ≤ 65535) (hn : xs.length ≤ 1000) (h256 : (allU S.its xs).length ≤ 256) (hb : 4 + xs.length * (2 + m) ≤ 65535) (hB : B + (12 + xs.length * (2 + m)) ≤ 1048576) :
    Calls Tryz.prog 15 #[.pointer (some ⟨l, 0, none⟩), vi] w fun e w' => ∃ vr, e = .returned (.tuple #[vr, .int .i64 0]) ∧ RowI w' w.heap.size vr (nsU S.its xs) ∧ ∃ S' f', Lg w0 w' l pd pk S' f' ∧ LSt w f w' f' ∧ (∀ k, vr.ownBlock = some k → ¬ f'.tot k) ∧ Up S' (B + (12 + xs.length * (2 + m))) (M + 1) ∧ S'.its = allU S.its xs ∧ S'.n = S.n ∧ S'.seed = S.seed ∧ S'.la = S.la := by
  by_cases h0 : newU S.its xs = []
  · refine (uadd_none h vi li xs hxs hL (fun x hx => by have := hl x hx; omega) hn h0).mono ?_
    rintro e w' ⟨vr, rfl, R, K⟩
    obtain ⟨⟨b, e1, e2⟩, e3, e4, e5⟩ := hU
    refine ⟨vr, rfl, R, S, f, h.on K, Stp.mid K, fun k hk hf => by have := (h.lt k hf).2; have := (R.lt hk).1; omega, ⟨⟨b, e1, by omega⟩, e3, by omega, e5⟩, ?_, rfl, rfl, rfl⟩
    rw [allU_new, h0, List.append_nil]
  · obtain ⟨⟨b, e1, e2⟩, e3, e4, e5⟩ := hU
    have hnl := newU_le S.its xs
    have hlen := batU_len (newU S.its xs) m (fun x hx => hl x (newU_mem h.nd hx).1)
    have hmul : (newU S.its xs).length * (2 + m) ≤ xs.length * (2 + m) := Nat.mul_le_mul_right _ hnl
    have hadd := Dk.add_on b (recP (batU (newU S.its xs))) (by rw [recP_len]; omega)
    rw [← e1] at hadd
    refine (uadd_any h vi li xs hxs hL (fun x hx => by have := hl x hx; omega) hn h256 h0 (by omega) (by omega) true _ hadd).mono ?_
    rintro e w' ⟨vr, en, rfl, rfl, R, f', L, T, ho⟩
    refine ⟨vr, rfl, R, _, f', L, T, ho, ⟨⟨_, rfl, by rw [List.length_append, recP_len]; omega⟩, e3, by show S.mj + 1 ≤ M + 1; omega, e5⟩, rfl, rfl, rfl, rfl⟩
/-- a new size is published. -/
theorem upub_up (h : Lg w0 w l pd pk S f) (hG : Gl w0) (B M : Nat) (hU : Up S B M) (hn : S.n < 16) (hla : ∀ a, S.la = some a → a.1 ≠ S.its.length) :
    Calls Tryz.prog 33 #[.pointer (some ⟨l, 0, none⟩)] w fun e w' => ∃ v, e = .returned (.tuple #[v, .int .i64 0]) ∧ ∃ S' f', Lg w0 w' l pd pk S' f' ∧ LSt w f w' f' ∧ Up S' B M ∧ S'.its = S.its ∧ S'.n = S.n + 1 ∧ S'.seed = S.seed ∧ S'.la = some (S.its.length, S.n) ∧ ∃ b, (∀ i, f'.tot i → i < b) ∧ w.heap.size ≤ b ∧ b ≤ w'.heap.size ∧ SgU b w' v (sgU S.seed S.its (S.its.length, S.n)) := by
  obtain ⟨e1, e3, e4, e5⟩ := hU
  have hadd : S.dk.add (recP [(S.n : Int)]) = (true, dkOn (klay (S.n + 1))) := by rw [e3]; exact kadd_on hn
  have key : ∀ {e : Ending} {w' : World}, (∃ v en, e = .returned (.tuple #[v, .int .i64 en]) ∧ en = (if true = true then 0 else 13) ∧ ∃ f', Lg w0 w' l pd pk { S with dk := dkOn (klay (S.n + 1)), mb := S.mb + 1, n := if true = true then S.n + 1 else S.n, la := if true = true then some (S.its.length, S.n) else S.la } f' ∧ LSt w f w' f' ∧ ∃ b, (∀ i, f'.tot i → i < b) ∧ w.heap.size ≤ b ∧ b ≤ w'.heap.size ∧ (if true = true then SgU b w' v (sgU S.seed S.its (S.its.length, S.n)) else v = sgd0)) →
      ∃ v, e = .returned (.tuple #[v, .int .i64 0]) ∧ ∃ S' f', Lg w0 w' l pd pk S' f' ∧ LSt w f w' f' ∧ Up S' B M ∧ S'.its = S.its ∧ S'.n = S.n + 1 ∧ S'.seed = S.seed ∧ S'.la = some (S.its.length, S.n) ∧ ∃ b, (∀ i, f'.tot i → i < b) ∧ w.heap.size ≤ b ∧ b ≤ w'.heap.size ∧ SgU b w' v (sgU S.seed S.its (S.its.length, S.n)) := by
    rintro e w' ⟨v, en, rfl, rfl, f', L, T, b, h1, h2, h3, h4⟩
    exact ⟨v, rfl, _, f', L, T, ⟨e1, rfl, e4, by show S.mb + 1 ≤ S.n + 1; omega⟩, rfl, rfl, rfl, rfl, b, h1, h2, h3, h4⟩
  cases hs : S.la with
  | none => exact (upub_anyN h hG hs hn (by omega) true _ hadd).mono (fun _ _ h => key h)
  | some a =>
    obtain ⟨a1, a2⟩ := a
    exact (upub_anyS h hG a1 a2 hs (hla _ hs) hn (by omega) true _ hadd).mono (fun _ _ h => key h)
/-- no key is left. -/
theorem upub_full (h : Lg w0 w l pd pk S f) (hn : S.n = 16) (hla : ∀ a, S.la = some a → a.1 ≠ S.its.length) :
    Calls Tryz.prog 33 #[.pointer (some ⟨l, 0, none⟩)] w fun e w' => e = .returned (.tuple #[sgd0, .int .i64 23]) ∧ Kp [] w w' := by
  cases hs : S.la with
  | none => exact upub_usedN h hs hn
  | some a =>
    obtain ⟨a1, a2⟩ := a
    exact upub_usedS h a1 a2 hs (hla _ hs) hn
end
end Go.Proofs.YtillhpgdlmeajaaGreatDoor
