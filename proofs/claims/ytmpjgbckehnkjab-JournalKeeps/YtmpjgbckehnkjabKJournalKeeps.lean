/-
  JournalKeeps: what is handed in, and what was told, may be turned: it is not seen in the journal.
-/
import Derived.Test.YtmpjgbckehnkjabKJKeep
import Derived.ShutString
import Derived.ChangeOld
import Derived.Below
namespace Go.Proofs.Ytmpjgbckehnkjab.journalKeeps
open Go.ChangeShapes Go.WideShapes Go.ChangeAt Go.RowKit
open Go.Proofs.Ytmpjgbckehnkjab
set_option linter.unusedVariables false

theorem own : ownKnob Try.prog.godebug = none := by kernel_rfl
theorem laidOut : laidOutB Try.prog = true := by kernel_rfl
set_option maxHeartbeats 8000000 in
set_option maxRecDepth 100000 in
theorem walk (v0 : Value) (l0 : List (Value × List Int)) (w : World) (s0 : Lists w v0 l0) :
    Calls Try.prog 3 #[v0] w fun e w' => e = .returned (.bool true) ∧ Below w.heap.size w w' := by
  have HF := hide (few_k v0 l0 10 50 w s0 (by omega))
  obtain ⟨al0, cl0, e0, -⟩ := id s0
  obtain ⟨L0, hL0⟩ : ∃ L, L = l0.length := ⟨_, rfl⟩
  rw [← hL0] at e0
  subst e0
  clear hL0 s0
  go_enter Try.func3, Try.ntmps3
  go_wp2_with fail
  refine HF.out.mono ?_
  rintro ee w1 ⟨ol, oc, la, rfl, La, K1, hla, hsm, hro, hrn⟩
  have HOn := hide (on_any (.slice none 0 0) [] w1 (Sl.nil w1) (fun b hb => by cases hb) (by simp))
  have HK1 := hide K1
  have HLa := hide (fun w' (k : Kp [] w1 w') => La.kept k)
  have HSM0 := hide hsm
  have HSR : Hid (∀ (k : Nat), ∀ r ∈ (la.take k).map (·.2), r.length ≤ 65535) := fun k r hr => by
    obtain ⟨x, hx, rfl⟩ := List.mem_map.1 hr
    exact Nat.le_trans (hsm x (List.mem_of_mem_take hx)) (by omega)
  have HBL : Hid (∀ k, (layP ((la.take k).map (·.2))).length ≤ 5000) := fun k => by
    have := lay_len (la.take k) 10 50 (by simp; omega) (fun x hx => hsm x (List.mem_of_mem_take hx))
    omega
  obtain ⟨L, hL⟩ : ∃ L, L = la.length := ⟨_, rfl⟩
  rw [← hL] at hla ⊢
  rw [← hL] at HLa
  have HL := hide hL
  have hl10 : (L : Int) ≤ 10 := by omega
  clear La K1 hsm hL HF hrn hro
  go_wp2_with fail
  refine HOn.out.mono ?_
  rintro ee w2 ⟨p, v2, rfl, N2⟩
  have HOp := hide (open_ok N2 rfl (Int.le_refl 0) rfl opnP_nil opn0)
  simp only [List.length_nil] at HOp
  clear N2 HOn
  go_wp2_with fail
  refine HOp.out.mono ?_
  rintro ee w3 ⟨j, v3, a3, c3, l3, rfl, J3, -, -, -, -⟩
  have HJ3 := hide J3
  clear J3 HOp
  go_wp2_with fail
  go_loopw [7] (fun i wr => ∃ (k : Nat) (v : Value), k ≤ L ∧ i = .int .i64 k ∧ Jn w1 wr p v (dkOn (layP ((la.take k).map (·.2)))) j k) (fun i _ => L - (intOf i).toNat)
  case atStart => exact ⟨0, v3, by omega, rfl, HJ3.out⟩
  case round =>
    obtain ⟨k, v, hk, rfl, JK⟩ := hrel
    have HJ := hide JK
    clear JK
    by_cases hlt : k < L
    · have hlt' : (k : Int) < (L : Int) := by omega
      have ka : Kp [] wr (wr.alloc (.cells #[] 5)) := (Kp.refl [] wr).alloc _
      have hLw := HLa.out _ (HJ.out.nw.kp.trans ka)
      obtain ⟨ao', c', e', -, hcell⟩ := hLw
      injection e' with e1 e2 e3
      subst e1
      obtain ⟨b, off, rfl, hc, hS, hB⟩ := hcell k (by have := HL.out; omega)
      obtain ⟨x, hx⟩ : ∃ x, x = la[k]'(by have := HL.out; omega) := ⟨_, rfl⟩
      rw [← hx] at hc hS hB
      have hxl : x.2.length ≤ 50 := HSM0.out x (by rw [hx]; exact List.getElem_mem _)
      have he : layP ((la.take (k + 1)).map (·.2)) = layP ((la.take k).map (·.2)) ++ recP x.2 := by
        rw [List.take_succ_eq_append_getElem (by have := HL.out; omega), List.map_append, layP_append, hx]; simp [layP]
      have hbl := HBL.out k
      have hrl : (recP x.2).length ≤ 58 := by rw [recP_len]; omega
      obtain ⟨ax, cx, hxs, -⟩ := id hS
      obtain ⟨nx, hnx⟩ : ∃ n, n = x.2.length := ⟨_, rfl⟩
      rw [← hnx] at hxs
      rw [hxs] at hc hS
      obtain ⟨X, hX⟩ : ∃ X, X = x.2 := ⟨_, rfl⟩
      rw [← hX] at he hS hB hrl hxl hnx
      have HE := hide he
      have HBX := hide hB
      have HXl := hide hxl
      have HBl := hide hbl
      have HRl := hide hrl
      have HNx := hide hnx
      have hr0 := row_none wr
      have hnx50 : (nx : Int) ≤ 50 := by omega
      clear hcell hx hxs hX e2 e3 he hB hbl hrl hnx
      go_wp2_with (at_builtin; refine wpList_append_row rfl (.tmp 40) (.tmp 44) rfl wr.heap.size _ [] rfl hr0 _ X rfl hS (by simp; omega) (by simp) ?_; intro a5 m5 c5 w5 R5 S5; have HK5 : Hid (Kp [] wr w5) := S5.kpn ka hr0; rw [List.nil_append] at R5; obtain rfl : nx = m5 := HNx.out.trans R5.len.symm; have HR5 := hide R5; clear R5 S5 hr0 hS ka)
      have HLJ : Hid (Lj w1 wr w5 p j v (dkOn (layP ((la.take k).map (·.2)))) k (.slice a5 nx c5) X) := by
        refine ⟨HJ.out.on HK5.out, HR5.out, fun i hi hm => ?_, HJ.out.nw.kp.size, HK5.out.size⟩
        have h1 := HR5.out.own i hi
        rcases List.mem_cons.1 hm with rfl | hm
        · have := HJ.out.jr.lt; omega
        · have := HJ.out.nw.dk.lt i hm; omega
      have HAd := hide (jadd_any HLJ.out.jn HR5.out.sl HBX.out (by have := HXl.out; omega) (by omega) true (Dk.add_on _ _ (by have := HBl.out; have := HRl.out; omega)) 0 rfl (k + 1) (by rw [Dk.app_on _ _ (by have := HBl.out; have := HRl.out; omega), if_pos rfl]))
      rw [← HE.out] at HAd
      clear HJ HR5 HK5 HE
      go_wp2_with fail
      refine HAd.out.mono ?_
      rintro ee w6 ⟨rfl, v6, J6, T6⟩
      have HL6 := hide (HLJ.out.disk J6 T6)
      clear HAd J6 T6 HLJ
      go_wp2_with fail
      go_loopw [9] (fun i wr' => ∃ (m : Nat) (Y : List Int), m ≤ nx ∧ i = .int .i64 m ∧ Y.length = nx ∧ Lj w1 wr wr' p j v6 (dkOn (layP ((la.take (k + 1)).map (·.2)))) (k + 1) (.slice a5 nx c5) Y) (fun i _ => nx - (intOf i).toNat)
      case atStart => exact ⟨0, X, by omega, rfl, HNx.out.symm, HL6.out⟩
      case round =>
        obtain ⟨m, Y, hm, rfl, hYl, LY⟩ := hrel
        have HLY := hide LY
        have HYL := hide hYl
        clear LY hYl
        by_cases hltm : m < nx
        · have hltm' : (m : Int) < (nx : Int) := by omega
          obtain ⟨g, rfl, hg1, hg2, hcl, hfz, hst⟩ := HLY.out.row.spot (by omega)
          have hcq := hcl m (by have := HYL.out; omega)
          have hfq := hfz m
          obtain ⟨y, hy⟩ : ∃ y, y = Y[m]'(by have := HYL.out; omega) := ⟨_, rfl⟩
          rw [← hy] at hcq
          have HST := hide (hst m)
          clear hcl hfz hst hy hg1 hg2
          go_wp2_with fail
          go_roundw
          case rel => exact ⟨m + 1, Y.set m ((y + 1) % 256), by omega, by go_num, by rw [List.length_set]; exact HYL.out, HLY.out.more (HST.out _) ⟨(kp_set wr g m _).mono (by simp [Value.ownBlock]), fun _ h => .inl h⟩⟩
          case measure => simp [intOf]; omega
        · obtain rfl : m = nx := by omega
          have hltm' : ¬ (m : Int) < (m : Int) := by omega
          go_wp2_with fail
          go_roundw
          case rel => exact ⟨k + 1, v6, by omega, by go_num, HLY.out.jn⟩
          case measure => simp [intOf]; omega
    · obtain rfl : k = L := by omega
      have hX : la.take k = la := List.take_of_length_le (by have := HL.out; omega)
      rw [hX] at HJ
      have hsr := HSR.out k
      rw [hX] at hsr
      have HOA := hide (opnP_all _ hsr)
      have HOB := hide (Dk.opn_all _ hsr)
      have HO4 := hide (open_ok HJ.out.nw rfl (Int.le_refl 0) rfl HOA.out HOB.out)
      obtain ⟨mm, hmm⟩ : ∃ m, m = (la.map (·.2)).length := ⟨_, rfl⟩
      rw [← hmm] at HO4
      have hmk : mm = k := by rw [hmm, HL.out]; simp
      subst hmk
      have hlt' : ¬ (mm : Int) < (mm : Int) := by omega
      have HMM := hide hmm
      clear hX hsr hmm
      go_wp2_with fail
      refine HO4.out.mono ?_
      rintro ee w6 ⟨j6, v6, am, cm, l6, rfl, J6, -, T6, P6, hl6⟩
      have hl6n : l6.length = mm := by have := congrArg List.length hl6; rw [← HMM.out] at this; simpa using this
      have HLs := hide (lists_any _ _ l6 la hl6 w6 (P6.parts.lists (by omega)) (HLa.out w6 J6.nw.kp))
      have HJ6 := hide J6.nw
      have HP6 := hide P6
      have HL6n := hide hl6n
      have HL6 := hide hl6
      have hsz6 : w1.heap.size ≤ wr.heap.size := HJ.out.nw.kp.size
      have HSZ := hide hsz6
      have HT6 := hide T6
      clear HO4 J6 T6 P6 hl6 hl6n hsz6
      go_wp2_with fail
      refine HLs.out.mono ?_
      rintro ee w7 ⟨rfl, K7⟩
      have HPw := hide ((HP6.out.step (JSt.mid v6 K7)).pw (HJ6.out.on K7) HSZ.out)
      obtain ⟨lw, hlw⟩ : ∃ lw, lw = l6.map fun x => (x.1, x.2.length) := ⟨_, rfl⟩
      rw [← hlw] at HPw
      have hlwn : lw.length = mm := by rw [hlw]; simpa using HL6n.out
      have HLW := hide hlwn
      have HSm : Hid (∀ x ∈ lw, x.2 ≤ 50) := fun x hx => by
        rw [hlw] at hx
        obtain ⟨y, hy, rfl⟩ := List.mem_map.1 hx
        have h1 : y.2 ∈ l6.map (·.2) := List.mem_map_of_mem hy
        rw [HL6.out] at h1
        obtain ⟨z, hz, hz2⟩ := List.mem_map.1 h1
        have := HSM0.out z hz
        rw [hz2] at this
        exact this
      obtain ⟨B7, hB7⟩ : ∃ b, b = wr.heap.size := ⟨_, rfl⟩
      rw [← hB7] at HPw
      clear hB7
      clear K7 HLs hlw hlwn HP6 HJ6
      go_wp2_with fail
      go_loopw [13] (fun i wr' => ∃ (a : Nat), a ≤ mm ∧ i = .int .i64 a ∧ Pw w1 wr' B7 p v6 (dkOn (layP (la.map (·.2)))) (.slice am mm cm) lw) (fun i _ => mm - (intOf i).toNat)
      case atStart => exact ⟨0, by omega, rfl, HPw.out⟩
      case round =>
        obtain ⟨a, ha, rfl, PA⟩ := hrel
        have HPA := hide PA
        clear PA
        by_cases hlta : a < mm
        · have hlta' : (a : Int) < (mm : Int) := by omega
          obtain ⟨go, cap, ego, -⟩ := HPA.out.at a (by have := HLW.out; omega)
          injection ego with eg1 eg2 eg3
          subst eg1
          obtain ⟨x, hx⟩ : ∃ x, x = lw[a]'(by have := HLW.out; omega) := ⟨_, rfl⟩
          have hxm : x ∈ lw := by rw [hx]; exact List.getElem_mem _
          have hx50 := HSm.out x hxm
          have HAt : Hid (∀ w', Pw w1 w' B7 p v6 (dkOn (layP (la.map (·.2)))) (.slice (some ⟨go, 0, none⟩) mm cm) lw → w'.cell? ⟨go, a, none⟩ = some x.1) := fun w' h => by
            obtain ⟨go', cap', e', hc'⟩ := h.at a (by have := HLW.out; omega)
            injection e' with f1 f2 f3
            injection f1 with f1
            injection f1 with f1
            rw [f1, hx]; exact hc'
          obtain ⟨vx, nx⟩ := x
          simp only at hx50 HAt
          obtain ⟨⟨bs0, hr0, hl0⟩, -⟩ := HPA.out.el _ hxm
          simp only at hr0 hl0
          obtain ⟨ax, cx, hvx⟩ := hr0.shape
          rw [hl0] at hvx
          subst hvx
          have HXM := hide hxm
          have hx50' : (nx : Int) ≤ 50 := by omega
          clear hx hr0 hl0 eg2 eg3 hxm
          go_wp2_with fail
          go_loopw [14] (fun i wr' => ∃ (c : Nat), i = .int .i64 c ∧ c ≤ nx ∧ Pw w1 wr' B7 p v6 (dkOn (layP (la.map (·.2)))) (.slice (some ⟨go, 0, none⟩) mm cm) lw) (fun i _ => nx - (intOf i).toNat)
          case atStart => exact ⟨0, rfl, by omega, HPA.out⟩
          case round =>
            obtain ⟨c, rfl, hcn, PC⟩ := hrel
            have HPC := hide PC
            have hcell := HAt.out wr PC
            clear PC
            by_cases hltc : c < nx
            · have hltc' : (c : Int) < (nx : Int) := by omega
              obtain ⟨⟨bs, hr, hl⟩, -⟩ := HPC.out.el _ HXM.out
              simp only at hr hl
              obtain ⟨g, rfl, hg1, hg2, hcl, hfz, hst⟩ := hr.spot (by omega)
              have hcq := hcl c (by omega)
              have hfq := hfz c
              obtain ⟨y, hy⟩ : ∃ y, y = bs[c]'(by omega) := ⟨_, rfl⟩
              rw [← hy] at hcq
              clear hcl hfz hst hy hg1 hg2 hr hl
              go_wp2_with fail
              go_roundw
              case rel => exact ⟨c + 1, by go_num, by omega, HPC.out.poke _ HXM.out g rfl c _⟩
              case measure => simp [intOf]; omega
            · obtain rfl : c = nx := by omega
              have hltc' : ¬ (c : Int) < (c : Int) := by omega
              go_wp2_with fail
              go_roundw
              case rel => exact ⟨a + 1, by omega, by go_num, HPC.out⟩
              case measure => simp [intOf]; omega
        · obtain rfl : a = mm := by omega
          have hlta' : ¬ (a : Int) < (a : Int) := by omega
          have HBy := hide (nw_bytes HPA.out.nw)
          have HNA := hide HPA.out.nw
          clear HPA
          go_wp2_with fail
          refine HBy.out.mono ?_
          rintro ee w8 ⟨ab, nb, cb, rfl, R8, N8, K8, -⟩
          obtain ⟨B8, hB8⟩ : ∃ b, b = wr.heap.size := ⟨_, rfl⟩
          have hlt8 : ∀ i ∈ dfp p v6, i < B8 := fun i hi => by rw [hB8]; exact HNA.out.dk.lt i hi
          have h18 : w1.heap.size ≤ B8 := by rw [hB8]; exact HNA.out.kp.size
          rw [← hB8] at R8
          have hnb : (nb : Int) ≤ 1048576 := by
            have h1 := R8.len
            have h2 := HNA.out.dk.fit.ok.fits
            have h3 := HNA.out.dk.fit.ok.lim
            omega
          have HR8 := hide R8
          have HRl := hide R8.len
          have HN8 := hide N8
          have HLT8 := hide hlt8
          have H18 := hide h18
          clear R8 N8 K8 HBy hB8 hlt8 h18
          go_wp2_with fail
          go_loopw [16] (fun i wr' => ∃ (c : Nat) (bs : List Int), i = .int .i64 c ∧ c ≤ nb ∧ bs.length = nb ∧ Row wr' B8 (.slice ab nb cb) bs ∧ Nw w1 wr' p v6 (dkOn (layP (la.map (·.2))))) (fun i _ => nb - (intOf i).toNat)
          case atStart => exact ⟨0, _, rfl, by omega, HRl.out.symm, HR8.out, HN8.out⟩
          case round =>
            obtain ⟨c, bs, rfl, hcn, hbl, RB, NB⟩ := hrel
            have HRB := hide RB
            have HNB := hide NB
            have HBL8 := hide hbl
            clear RB NB hbl
            by_cases hltc : c < nb
            · have hltc' : (c : Int) < (nb : Int) := by omega
              obtain ⟨g, rfl, hg1, hg2, hcl, hfz, hst⟩ := HRB.out.spot (by omega)
              have hcq := hcl c (by have := HBL8.out; omega)
              have hfq := hfz c
              obtain ⟨y, hy⟩ : ∃ y, y = bs[c]'(by have := HBL8.out; omega) := ⟨_, rfl⟩
              rw [← hy] at hcq
              have HST := hide (hst c)
              have HG1 := hide hg1
              clear hcl hfz hst hy hg1 hg2
              go_wp2_with fail
              go_roundw
              case rel =>
                have kp := kp_set wr g c (.int .u8 ((y + 1) % 256))
                refine ⟨c + 1, bs.set c ((y + 1) % 256), by go_num, by omega, by rw [List.length_set]; exact HBL8.out, HST.out _, HNB.out.dk.kept kp (fun i hi hm => ?_), HNB.out.new, HNB.out.kp.then kp (fun i hi => .inr ?_), HNB.out.arm⟩
                · simp at hm; subst hm; have := HLT8.out _ hi; have := HG1.out; omega
                · simp at hi; subst hi; have := H18.out; have := HG1.out; omega
              case measure => simp [intOf]; omega
            · obtain rfl : c = nb := by omega
              have hltc' : ¬ (c : Int) < (c : Int) := by omega
              have HO9 := hide (open_ok HNB.out rfl (Int.le_refl 0) rfl HOA.out HOB.out)
              rw [← HMM.out] at HO9
              go_wp2_with fail
              refine HO9.out.mono ?_
              rintro ee w9 ⟨j9, v9, a9, c9, l9, rfl, J9, -, -, P9, hl9⟩
              have hl9n : l9.length ≤ 1000 := by have := congrArg List.length hl9; rw [← HMM.out] at this; simp at this; omega
              have HLs9 := hide (lists_any _ _ l9 la hl9 w9 (P9.parts.lists hl9n) (HLa.out w9 J9.nw.kp))
              have HK9 := hide (HK1.out.trans J9.nw.kp)
              clear HO9 J9 P9 hl9 hl9n
              go_wp2_with (first
                | (go_at_call 8; refine HLs9.out.mono ?_; rintro ee w10 ⟨rfl, K10⟩; have HK10 := hide (HK9.out.trans K10); clear HLs9 K10)
                | (go_at_call 10; refine (jknown_any w10).mono ?_; rintro ee w11 ⟨rfl, K11⟩; have HK11 := hide (HK10.out.trans K11); clear K11))
              go_ret
              exact ⟨rfl, HK11.out.below (Nat.le_refl _) (by simp)⟩

set_option maxRecDepth 100000 in
theorem lifted (os : Os) (started : os.Started) (H : Type) (enc : TypeId × Value → H) :
    ReturnsInHanded {} Try.checked os 3 .any (Rows.journalKeepsSpec.pre6 enc Try.prog Try.f3 Rows.journalKeepsRow.domain false) (Rows.journalKeepsSpec.post enc Try.prog Try.f3 false true false false) := by
  refine returnsInHanded_of_change (C := Try.checked) own started (by kernel_rfl) Try.func3
    (ChangeSpec.witness6 (enc := enc) (C := Try.checked) false ⟨#[], #[.slice none 0 0], []⟩ 8 (by kernel_rfl) (by kernel_rfl) (by kernel_rfl) (by kernel_rfl)) ?_
  intro W base args ds gs before hval0 hW hcnd _
  have hval : ∀ (j : Nat) t v, Try.f3.params[j]? = some t → args[j]? = some v → Value.okWide Try.prog W .any base t v := hval0
  have hW' := hW
  obtain ⟨p, q, hA0, hV, rfl, hfz, hnd⟩ := hW
  have hA : DataW.TrodAll enc Try.prog W 0 (fun _ => true) true Try.f3.params.toList args.toList ds p := hA0
  rw [Try.params3] at hA hval
  obtain ⟨v0, vs0, d0, ds0, p0, q0, hargs, rfl, rfl, h0, r0⟩ := trodAll_cons hA
  obtain ⟨rfl, rfl, rfl⟩ := trodAll_nil r0
  obtain rfl : args = #[v0] := by cases args; simp_all
  obtain ⟨rfl, rfl⟩ := trodVars_none hV
  obtain ⟨a0, len0, cap0, rfl⟩ := okWide_slice Try.underlying22 (hval 0 22 v0 rfl rfl)
  have k0 := h0
  have lt0 : ∀ x ∈ p0, x.block < W.heap.size := by obtain ⟨m, hm⟩ := k0; exact DataW.trod_lt m _ _ _ hm
  obtain ⟨l0, s0⟩ : ∃ l, Lists W (.slice a0 len0 cap0) l := by
    obtain ⟨fuel, hf⟩ := h0
    exact lists_of_trod (by simpa [Value.cells] using hf)
  clear hA0 hval0
  refine (walk (.slice a0 len0 cap0) l0 W s0).mono fun e W' ⟨he, bel⟩ => ?_
  subst he
  exact ⟨_, rfl, _, _, _, [], _, [], hW', trodAll_mk1 (shut_bool Try.underlying4 _), (trodAll_cons_mk (Below.trod laidOut (by kernel_rfl) (of_decide_eq_true (by kernel_rfl)) k0 bel lt0) trodAll_mk0), rfl, bel.frame _, fun h => by cases h⟩

theorem over : Rows.journalKeepsRow.holds Try.pinned (OpenSpec.ofChange Rows.journalKeepsSpec) :=
  OpenClaim.holds_of_wide 3 Try.f3 rfl rfl rfl rfl rfl rfl rfl ⟨rfl, rfl, rfl, rfl, rfl⟩ rfl rfl rfl rfl rfl (by kernel_rfl) Try.func3 (by kernel_rfl)
    (of_decide_eq_true (by kernel_rfl)) (by unfold Func.isWrapper; first | (rw [if_pos (by decide +kernel)]; kernel_rfl) | (rw [if_neg (by decide +kernel)]; exact ⟨rfl, rfl⟩))
    (fun os started H enc _ => lifted os started H enc)
end Go.Proofs.Ytmpjgbckehnkjab.journalKeeps

namespace Go.Proofs.Ytmpjgbckehnkjab
/-- The given statement. -/
theorem JournalKeeps_holds : Rows.JournalKeepsSaid := journalKeeps.over
#print axioms JournalKeeps_holds
end Go.Proofs.Ytmpjgbckehnkjab
