/-
  Package ledger's shelf in memory: its items' row, its map; find, put, size.
-/
import Derived.Test.YtillhpgdlmeajaaGreatDoorKUSpec
import Derived.Test.YtillhpgdlmeajaaGreatDoorKUFoot
import Derived.Maps.OwnSet
namespace Go.Proofs.YtillhpgdlmeajaaGreatDoor
open Go.RowKit
open Go.Proofs
open Go.Maps (Keyed)
set_option linter.unusedVariables false

theorem Tryz.infoStr : (Tryz.prog.info? 9).map (fun i => (i.zero, i.size, i.bytes)) = some (some (.string ByteArray.empty), 1, 16) := by kernel_rfl
theorem lawStr : Keyed Tryz.prog 9 := Go.Maps.string_keyed Tryz.underlying9
theorem zeroInt (w : World) : (zeroValue 3).run Tryz.prog w = .ok (.int .i64 0) w := by kernel_rfl
/-- an item as a string. -/
def sv (x : List Int) : Value := .string (strOfNums x)
/-- .. as a key. -/
def kl (x : List Int) : Lit := .string (strOfNums x).data.toList
theorem kl_of (x : List Int) (h : x.length ≤ 100000) : keyOf Tryz.prog 9 (.string (strOfNums x)) = some (kl x) := Go.WideMaps.keyOf_string_mk Tryz.underlying9 (by rw [str_size]; unfold maxLen; omega)
theorem kl_key (x : List Int) : WideAt.IsKeyLit (kl x) := trivial
theorem kl_inj {x y : List Int} (hx : Bs x) (hy : Bs y) (h : kl x = kl y) : x = y := by
  refine str_same hx hy ?_
  unfold kl at h
  injection h with h
  have h2 : (strOfNums x).data = (strOfNums y).data := by
    have := congrArg List.toArray h
    simpa using this
  cases h3 : strOfNums x
  cases h4 : strOfNums y
  rw [h3, h4] at h2
  simp only at h2
  rw [h2]
/-- the row v of items, of the call's own from base on. -/
def RowU (w : World) (base : Nat) (v : Value) (l : List (List Int)) : Prop := w.ownsRow base 9 1 v l.length (l.map sv)
theorem RowU.kept {w w' : World} {base : Nat} {v : Value} {l : List (List Int)} {S : List Nat} (h : RowU w base v l) (k : Kp S w w') (hv : ∀ i, v.ownBlock = some i → i ∉ S) : RowU w' base v l := k.owns h hv
theorem RowU.shape {w : World} {base : Nat} {v : Value} {l : List (List Int)} (h : RowU w base v l) : ∃ ao c, v = .slice ao l.length c := owns_shape h
theorem RowU.lt {w : World} {base k : Nat} {v : Value} {l : List (List Int)} (h : RowU w base v l) (hk : v.ownBlock = some k) : base ≤ k ∧ k < w.heap.size := by
  rcases h.2 with ⟨rfl, _⟩ | ⟨g, cap, cur, rfl, hb, hg, _⟩
  · cases hk
  · cases hk; exact ⟨hb, (Array.getElem?_eq_some_iff.1 hg).1⟩
/-- a map that holds of each item its place. -/
def Mp (w : World) (b : Nat) (l : List (List Int)) : Prop := ∃ D : DataW Unit, w.ownsMap Tryz.prog 9 (plainElem Tryz.prog 3) b l.length D ∧ ∀ x, Bs x → Go.Maps.has D (kl x) = decide (x ∈ l) ∧ (x ∈ l → D.atKey (kl x) (.lit (.int .i64 0)) = .lit (.int .i64 (l.idxOf x)))
theorem Mp.kept {w w' : World} {b : Nat} {l : List (List Int)} {S : List Nat} (h : Mp w b l) (k : Kp S w w') (hb : b ∉ S) : Mp w' b l := by
  obtain ⟨D, ⟨es, clock, h1, h2⟩, h3⟩ := h
  exact ⟨D, ⟨es, clock, k.heap h1 hb, h2⟩, h3⟩
theorem Mp.lt {w : World} {b : Nat} {l : List (List Int)} (h : Mp w b l) : b < w.heap.size := by obtain ⟨D, h, _⟩ := h; exact h.lt
/-- the two cells of a shelf. -/
def Sc (w : World) (s : Nat) (v : Value) (b : Nat) : Prop := w.heap[s]? = some (.cells #[v, .map (some b)] 112 (0, 0))
/-- The shelf at s with these items, in the blocks F. -/
structure Sh (w : World) (s : Nat) (l : List (List Int)) (F : Nat → Prop) : Prop where
  ex : ∃ v b, Sc w s v b ∧ RowU w 0 v l ∧ Mp w b l ∧ F s ∧ F b ∧ (∀ k, v.ownBlock = some k → F k ∧ k ≠ s ∧ k ≠ b) ∧ s ≠ b
  nd : l.Nodup
  bs : ∀ x ∈ l, Bs x ∧ x.length ≤ 65535
  few : l.length ≤ 100000
theorem Sh.kept {w w' : World} {s : Nat} {l : List (List Int)} {F : Nat → Prop} {S : List Nat} (h : Sh w s l F) (k : Kp S w w') (hS : ∀ i ∈ S, ¬ F i) : Sh w' s l F := by
  obtain ⟨⟨v, b, h1, h2, h3, h4, h5, h6, h7⟩, h8, h9, h10⟩ := h
  exact ⟨⟨v, b, k.heap h1 (fun hm => hS _ hm h4), h2.kept k (fun i hi hm => hS i hm (h6 i hi).1), h3.kept k (fun hm => hS _ hm h5), h4, h5, h6, h7⟩, h8, h9, h10⟩
theorem Sc.c0 {w : World} {s : Nat} {v : Value} {b : Nat} (h : Sc w s v b) : w.cell? ⟨s, 0, none⟩ = some v := by rw [cell_of_row w s 0 _ _ _ h]; rfl
theorem Sc.c1 {w : World} {s : Nat} {v : Value} {b : Nat} (h : Sc w s v b) : w.cell? ⟨s, 1, none⟩ = some (.map (some b)) := by rw [cell_of_row w s 1 _ _ _ h]; rfl
theorem Sc.f {w : World} {s : Nat} {v : Value} {b : Nat} (h : Sc w s v b) (i : Nat) : w.frozen? ⟨s, i, none⟩ = false := by
  unfold World.frozen?
  unfold Sc at h
  simp [h]
theorem Sc.s0 {w : World} {s : Nat} {v : Value} {b : Nat} (h : Sc w s v b) (u : Value) : Sc (w.setCell ⟨s, 0, none⟩ u) s u b := by
  have := set_at h 0 u
  simpa [Sc] using this
theorem lit_i64 {a b : Int} (h : (DataW.lit (Lit.int .i64 a) : DataW Unit) = .lit (.int .i64 b)) : a = b := by
  injection h with h
  injection h
section
variable {w : World} {s : Nat} {l : List (List Int)} {F : Nat → Prop}
theorem ssize_any (h : Sh w s l F) (n : Int) (hn : n = l.length) : Calls Tryz.prog 52 #[.pointer (some ⟨s, 0, none⟩)] w fun e w' => e = .returned (.int .i64 n) ∧ w' = w := by
  obtain ⟨⟨v, b, h1, h2, -⟩, -, -, h10⟩ := h
  obtain ⟨ao, c, rfl⟩ := h2.shape
  have hc := h1.c0
  clear h1 h2 h10
  go_enter Tryz.func52, Tryz.ntmps52
  go_wp2_with fail
  go_ret
  subst hn
  exact ⟨rfl, rfl⟩
set_option maxHeartbeats 1000000 in
theorem find_any (h : Sh w s l F) (x : List Int) (hB : Bs x) (hl : x.length ≤ 65535) (b : Bool) (hb : b = decide (x ∈ l)) (c : Int) (hc : c = if b then (l.idxOf x : Int) else 0) :
    Calls Tryz.prog 97 #[.pointer (some ⟨s, 0, none⟩), .string (strOfNums x)] w fun e w' => e = .returned (.tuple #[.int .i64 c, .bool b]) ∧ w' = w := by
  obtain ⟨⟨v, bm, h1, -, ⟨D, hown, hD⟩, -⟩, -, -, h10⟩ := h
  have hc1 := h1.c1
  obtain ⟨hh, ha⟩ := hD x hB
  rw [← hb] at hh
  have HA := hide ha
  have HB := hide hb
  have HC := hide hc
  have HH := hide hh
  have HO := hide hown
  have HK := hide (kl_of x (by omega))
  clear h1 hD ha hb hc hh hown hB hl h10
  go_enter Tryz.func97, Tryz.ntmps97
  go_wp2_with (at_lookup; refine wpList_lookup_own_ok_int _ rfl _ _ 110 rfl 9 3 .i64 lawStr Tryz.underlying110 Tryz.underlying3 (zeroInt _) bm _ D rfl HO.out _ _ rfl HK.out ?_; intro c' hat hwc; rw [HH.out]; have HAT := hide hat; clear hat hwc)
  go_ret2
  have e : c' = c := by
    cases b with
    | true => exact (lit_i64 ((HA.out (of_decide_eq_true HB.out.symm)).symm.trans HAT.out)).symm.trans (by rw [HC.out]; rfl)
    | false => exact (lit_i64 ((Go.Maps.atKey_of_not_has HH.out _).symm.trans HAT.out)).symm.trans (by rw [HC.out]; rfl)
  subst e
  exact ⟨rfl, rfl⟩
/-- one more in the map. -/
theorem Mp.put {w' : World} {b : Nat} {l : List (List Int)} {D : DataW Unit} {x : List Int} (hown : w'.ownsMap Tryz.prog 9 (plainElem Tryz.prog 3) b (l.length + 1) (D.put (kl x) (.lit (.int .i64 l.length)))) (hm : Go.Maps.IsMap D) (hD : ∀ x, Bs x → Go.Maps.has D (kl x) = decide (x ∈ l) ∧ (x ∈ l → D.atKey (kl x) (.lit (.int .i64 0)) = .lit (.int .i64 (l.idxOf x)))) (hB : Bs x) (hx : x ∉ l) : Mp w' b (l ++ [x]) := by
  refine ⟨_, by rw [List.length_append]; exact hown, fun y hy => ?_⟩
  by_cases e : y = x
  · subst e
    refine ⟨?_, fun _ => ?_⟩
    · rw [Go.Maps.has_put_same hm (kl_key y)]
      simp
    · rw [Go.Maps.atKey_put_same hm (kl_key y), idx_post hx]
      simp
  · have hne : kl y ≠ kl x := fun h => e (kl_inj hy hB h)
    obtain ⟨h1, h2⟩ := hD y hy
    refine ⟨?_, fun hm2 => ?_⟩
    · rw [Go.Maps.has_put_other hne, h1]
      simp [e]
    · have hy2 : y ∈ l := by simpa [e] using hm2
      rw [Go.Maps.atKey_put_other hne, h2 hy2, idx_pre hy2]
theorem put_old (h : Sh w s l F) (x : List Int) (hB : Bs x) (hl : x.length ≤ 65535) (hx : x ∈ l) :
    Calls Tryz.prog 91 #[.pointer (some ⟨s, 0, none⟩), .string (strOfNums x)] w fun e w' => e = .returned (.tuple #[.int .i64 (l.idxOf x), .bool true]) ∧ w' = w := by
  have HF := hide (find_any h x hB hl true (by simp [hx]) _ rfl)
  clear h hB hl hx
  go_enter Tryz.func91, Tryz.ntmps91
  go_wp2_with fail
  refine HF.out.mono ?_
  rintro ee w1 ⟨rfl, hw⟩
  subst w1
  clear HF
  go_wp2_with fail
  go_ret2
  exact ⟨rfl, rfl⟩
set_option maxRecDepth 100000 in
set_option maxHeartbeats 2000000 in
theorem put_new (h : Sh w s l F) (hF : ∀ i, F i → i < w.heap.size) (x : List Int) (hB : Bs x) (hl : x.length ≤ 65535) (hx : x ∉ l) (hn : l.length < 100000) (n : Int) (hln : n = l.length) :
    Calls Tryz.prog 91 #[.pointer (some ⟨s, 0, none⟩), .string (strOfNums x)] w fun e w' => e = .returned (.tuple #[.int .i64 n, .bool false]) ∧ ∃ F', Sh w' s (l ++ [x]) F' ∧ Stp F w w' F' := by
  have HF := hide (find_any h x hB hl false (by simp [hx]) 0 rfl)
  have HZ := hide (ssize_any h n hln)
  have HH := hide h
  obtain ⟨⟨v, bm, h1, h2, ⟨D, hown, hD⟩, h4, h5, h6, h7⟩, h8, h9, h10⟩ := h
  obtain ⟨ao, cc, hv⟩ := h2.shape
  have hc0 := h1.c0
  rw [hv] at hc0
  rw [← Int.toNat_natCast l.length] at hc0
  obtain ⟨i0, hi0, hz0, hz1, hz2⟩ := info_parts Tryz.infoStr
  obtain ⟨m, hm⟩ : ∃ m, m = l.length := ⟨_, rfl⟩
  have HM := hide hm
  rw [Int.toNat_natCast, ← hm] at hc0
  have K0 : Kp [] w (w.alloc (.cells #[.string (strOfNums x)] 9)) := (Kp.refl [] w).alloc _
  have HK0 := hide K0
  have HR0 : Hid ((w.alloc (.cells #[.string (strOfNums x)] 9)).ownsRow 0 9 1 (.slice ao m cc) m (l.map sv)) := by rw [hm, ← hv]; exact h2.kept K0 (by simp)
  have HV : Hid (v = .slice ao m cc) := by rw [hm]; exact hv
  have Hh1 := hide h1
  have Hown := hide hown
  have HD := hide hD
  have H46 := hide h6
  have H4 := hide h4
  have H5 := hide h5
  have H7 := hide h7
  have HKL := hide (kl_of x (by omega))
  have HB := hide hB
  have HX := hide hx
  have Hrest := hide (And.intro h8 h9)
  have HFl := hide hF
  have Hlx := hide hl
  have Hn := hide hln
  clear h1 h2 hown hD h4 h5 h6 h7 h8 h9 h10 hv hm K0 hB hx hF hl hln
  go_enter Tryz.func91, Tryz.ntmps91
  go_wp2_with fail
  refine HF.out.mono ?_
  rintro ee w1 ⟨rfl, hw⟩
  subst w1
  clear HF
  go_wp2_with fail
  refine HZ.out.mono ?_
  rintro ee w1 ⟨rfl, hw⟩
  subst w1
  clear HZ
  go_wp2_with (at_builtin; refine wpList_append_own_at _ rfl _ _ 109 rfl 0 9 i0 (.string ByteArray.empty) 1 16 Tryz.underlying109 hi0 hz0 hz1 hz2 rfl (by decide) (.slice ao m cc) m (l.map sv) rfl HR0.out ⟨w.heap.size, 0, none⟩ 1 1 [.string (strOfNums x)] rfl rfl (fun j u hu => World.news_of_block (heap_alloc_new w _) j u (by simpa using hu)) (by simp [Value.oneCell']) (by unfold maxLen; have := HM.out; omega) (by have := HM.out; omega) (Nat.zero_le _) ?_; intro v' w1 hown' hgrow hnil hloc; refine Hid.out ?_)
  have K1 : Kp v.ownBlock.toList (w.alloc (.cells #[.string (strOfNums x)] 9)) w1 := (Kp.refl _ _).grown hgrow (fun k hk => .inl (by rw [HV.out]; simp [hk]))
  have KA : Kp v.ownBlock.toList w w1 := (HK0.out.mono (by simp)).trans K1
  have S1 : Sc w1 s v bm := KA.heap Hh1.out (fun hm => (H46.out s (by simpa [Option.mem_toList] using hm)).2.1 rfl)
  have M1 : w1.ownsMap Tryz.prog 9 (plainElem Tryz.prog 3) bm l.length D := by
    obtain ⟨es, clock, g1, g2⟩ := Hown.out
    exact ⟨es, clock, KA.heap g1 (fun hm => (H46.out bm (by simpa [Option.mem_toList] using hm)).2.2 rfl), g2⟩
  have hf0 := S1.f 0
  have hc0' := S1.c0
  have hc1 : (w1.setCell ⟨s, 0, none⟩ v').cell? ⟨s, 1, none⟩ = some (.map (some bm)) := (S1.s0 v').c1
  have M2 : Hid ((w1.setCell ⟨s, 0, none⟩ v').ownsMap Tryz.prog 9 (plainElem Tryz.prog 3) bm l.length D) := M1.setCell (fun e => H7.out e.symm) _
  have hR' : RowU w1 0 v' (l ++ [x]) := by
    unfold RowU
    rw [List.length_append, List.map_append, ← HM.out]
    exact hown'
  obtain ⟨ao', cc', hv'⟩ := hR'.shape
  obtain ⟨m', hm'⟩ : ∃ m', m' = (l ++ [x]).length := ⟨_, rfl⟩
  rw [← hm'] at hv'
  have HR' := hide hR'
  have HS1 := hide S1
  have HKA := hide KA
  have hloc' : Hid (∀ k, v'.ownBlock = some k → v.ownBlock = some k ∨ k = w.heap.size + 1) := fun k hk => by
    rcases hloc with e | e
    · exact .inl (by rw [HV.out, ← e]; exact hk)
    · rw [e] at hk
      injection hk with hk
      exact .inr (by simpa using hk.symm)
  have HV' := hide hv'
  clear hown' hgrow hnil hloc K1 KA S1 M1 hR' HR0 hc0 hm'
  subst hv'
  refine hide ?_
  go_wp2_with (at_mapUpdate; refine wpList_mapUpdate_own _ rfl _ _ _ 110 rfl 9 3 lawStr Tryz.underlying110 _ bm l.length D rfl M2.out (by unfold maxLen; have := HM.out; omega) _ _ (kl x) rfl rfl HKL.out (.lit (.int .i64 n)) [] (plainElem_int Tryz.underlying3 (WalkArith.wf_i64 (by have := Hn.out; omega))) ?_; intro w3 hown3 hgrow3)
  go_ret2
  have hn3 : n = (l.length : Int) := Hn.out
  subst hn3
  have K2 : Kp [s] w1 (w1.setCell ⟨s, 0, none⟩ (.slice ao' m' cc')) := kp_set w1 s 0 _
  have K3 : Kp [bm] (w1.setCell ⟨s, 0, none⟩ (.slice ao' m' cc')) w3 := (Kp.refl _ _).grown hgrow3 (fun k hk => .inl (by simpa using hk.symm))
  have hsz3 := K3.size
  have hsz1 := HKA.out.size
  have hlt0 := HFl.out
  have hR1 := HR'.out
  have hloc2 := hloc'.out
  have hne : ∀ k, (Value.slice ao' m' cc').ownBlock = some k → k ≠ s ∧ k ≠ bm := fun k hk => by
    rcases hloc2 k hk with h | rfl
    · exact (H46.out k h).2
    · have := hlt0 s H4.out
      have := hlt0 bm H5.out
      omega
  have hbm : bm ≠ s := fun e => H7.out e.symm
  have hS3 : Sc w3 s (.slice ao' m' cc') bm := K3.heap (HS1.out.s0 _) (by simp; exact H7.out)
  have hR3 : RowU w3 0 (.slice ao' m' cc') (l ++ [x]) := (hR1.kept K2 (fun i hi hm => (hne i hi).1 (by simpa using hm))).kept K3 (fun i hi hm => (hne i hi).2 (by simpa using hm))
  refine ⟨rfl, fun i => F i ∨ (Value.slice ao' m' cc').ownBlock = some i, ⟨⟨_, bm, hS3, hR3, Mp.put hown3 M2.out.isMap HD.out HB.out HX.out, .inl H4.out, .inl H5.out, fun k hk => ⟨.inr hk, hne k hk⟩, H7.out⟩, ?_, ?_, ?_⟩, ⟨⟨v.ownBlock.toList ++ [s] ++ [bm], ?_, (HKA.out.comp K2).comp K3⟩, ?_⟩⟩
  · rw [List.nodup_append]
    exact ⟨Hrest.out.1, by simp, fun a ha b hb => by simp at hb; subst hb; exact fun e => HX.out (e ▸ ha)⟩
  · intro y hy
    rcases List.mem_append.1 hy with hy | hy
    · exact Hrest.out.2 y hy
    · obtain rfl : y = x := by simpa using hy
      exact ⟨HB.out, Hlx.out⟩
  · rw [List.length_append]; simp; omega
  · intro i hi
    simp only [List.mem_append, List.mem_singleton, Option.mem_toList] at hi
    rcases hi with (hi | rfl) | rfl
    · exact (H46.out i hi).1
    · exact H4.out
    · exact H5.out
  · intro i hi
    rcases hi with hi | hi
    · exact .inl hi
    · rcases hloc2 i hi with h | rfl
      · exact .inl (H46.out i h).1
      · exact .inr ⟨by omega, (hR3.lt hi).2⟩
/-- put of whatever item. -/
theorem put_any (h : Sh w s l F) (hF : ∀ i, F i → i < w.heap.size) (x : List Int) (hB : Bs x) (hl : x.length ≤ 65535) (hn : l.length < 100000) :
    Calls Tryz.prog 91 #[.pointer (some ⟨s, 0, none⟩), .string (strOfNums x)] w fun e w' => e = .returned (.tuple #[.int .i64 (l.idxOf x), .bool (decide (x ∈ l))]) ∧ ∃ F', Sh w' s (insU l x) F' ∧ Stp F w w' F' := by
  by_cases hx : x ∈ l
  · refine (put_old h x hB hl hx).mono ?_
    rintro e w' ⟨rfl, rfl⟩
    exact ⟨by simp [hx], F, by rw [insU_old hx]; exact h, Stp.refl _ _⟩
  · refine (put_new h hF x hB hl hx hn _ rfl).mono ?_
    rintro e w' ⟨rfl, F', h1, h2⟩
    exact ⟨by simp [hx, idx_none hx], F', by rw [insU_new hx]; exact h1, h2⟩
theorem newShelf_any (w : World) : Calls Tryz.prog 89 #[] w fun e w' => ∃ s F, e = .returned (.pointer (some ⟨s, 0, none⟩)) ∧ Sh w' s [] F ∧ (∀ i, F i → w.heap.size ≤ i ∧ i < w'.heap.size) ∧ Kp [] w w' := by
  have hmm := @run_makeMap Tryz.prog
  go_enter Tryz.func89, Tryz.ntmps89
  go_wp2_with fail
  go_ret
  have K1 : Kp [] w (w.alloc (.map #[] 0)) := (Kp.refl [] w).alloc _
  have K2 : Kp [] (w.alloc (.map #[] 0)) ((w.alloc (.map #[] 0)).alloc (.cells #[.slice none 0 0, .map (some w.heap.size)] 112)) := (Kp.refl [] _).alloc _
  refine ⟨w.heap.size + 1, fun i => i = w.heap.size ∨ i = w.heap.size + 1, rfl, ⟨⟨.slice none 0 0, w.heap.size, ?_, World.ownsRow_nil _ _ _ _, ?_, .inr rfl, .inl rfl, (fun k hk => by cases hk), by omega⟩, by simp, by simp, by simp⟩, fun i hi => ?_, K1.trans K2⟩
  · have := heap_alloc_new (w.alloc (.map #[] 0)) (.cells #[.slice none 0 0, .map (some w.heap.size)] 112)
    simpa [Sc] using this
  · refine Mp.kept (S := []) ⟨.map [], World.ownsMap_made w Tryz.prog 9 _, fun x hx => ⟨by simp [Go.Maps.has], fun h => by cases h⟩⟩ K2 (by simp)
  · simp
    omega
end
end Go.Proofs.YtillhpgdlmeajaaGreatDoor
