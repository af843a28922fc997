/-
  slices.Clone over the queue; rows of ints; sort.Sort of an empty queue.
-/
import Derived.Test.YtlmbheobaiibeaaQDel
import Derived.Test.YtlmbheobaiibeaaQSortG
import Derived.Maps.AppendAt
import Derived.OwnWalk
import Derived.Lib.SliceRun
namespace Go.Proofs.Ytlmbheobaiibeaa
open Go.RowKit Go.Sort Go.Lib

theorem cells_one (d : Array En) : ∀ u ∈ flat d, u.oneCell' = true := by
  intro u hu
  unfold flat at hu
  obtain ⟨e, _, he⟩ := List.mem_flatMap.1 hu
  simp only [En.cells, List.mem_cons, List.mem_nil_iff, or_false] at he
  rcases he with rfl | rfl | rfl <;> rfl

set_option maxHeartbeats 1000000 in
theorem clone_any (p : Nat) (v : Value) (d : Array En) (k : Int) (w : World) (h : Qs w p v d k) (hn : d.size ≤ 1000000) :
    Calls Try.prog 27 #[v] w fun r w' => ∃ v', r = .returned v' ∧ w'.ownsRow 0 53 3 v' d.size (flat d) ∧ Kp [] w w' ∧ ∀ i, v'.ownBlock = some i → w.heap.size ≤ i := by
  obtain ⟨i0, hi0, hz0, hz1, hz2⟩ := info_parts Try.infoEn
  rcases h.own.2 with ⟨rfl, h0⟩ | ⟨g, cap, cur, rfl, hrest⟩
  · have HO := hide h.own
    have heq : ∀ w, (binOp .eql 47 (.slice none 0 0) (.slice none 0 0)).run Try.prog w = .ok (.bool true) w := fun w => run_eql_slice_nil w _ 53 none 0 0 0 0 (by kernel_rfl)
    clear h
    go_enter Try.func27, Try.ntmps27
    go_wp2
    go_ret
    exact ⟨_, rfl, owns_rebase HO.out (fun _ _ => Nat.zero_le _), Kp.refl _ _, fun i hi => by cases hi⟩
  · clear hrest
    obtain ⟨_, ro, _⟩ := h.ro
    have hcell : ∀ j u, (flat d)[j]? = some u → w.cell? ((⟨g, 0, none⟩ : Addr).add j) = some u := ro.own.cells (g := g) rfl
    have hlt := ro.lt
    have hfl := flat_length d
    have hone := cells_one d
    obtain ⟨F, hF⟩ : ∃ F, F = flat d := ⟨_, rfl⟩
    rw [← hF] at hcell hfl hone ⊢
    clear h ro hF
    generalize d.size = n at *
    have heq : ∀ w, (binOp .eql 47 (.slice (some ⟨g, 0, none⟩) n cap) (.slice none 0 0)).run Try.prog w = .ok (.bool false) w := fun w => run_eql_slice_nil w _ 53 (some ⟨g, 0, none⟩) n cap 0 0 (by kernel_rfl)
    have K0 : Kp [] w (w.alloc (.cells #[] 53)) := (Kp.refl [] w).alloc _
    have O0 : (w.alloc (.cells #[] 53)).ownsRow 0 53 3 (.slice (some ⟨w.heap.size, 0, none⟩) 0 0) 0 [] := World.ownsRow_made w #[] 0 (Nat.zero_le _) (by simp [maxLen]) (by simp)
    have hcell' : ∀ j u, F[j]? = some u → (w.alloc (.cells #[] 53)).cell? ((⟨g, 0, none⟩ : Addr).add j) = some u := fun j u hu => K0.cell (hcell j u hu) (by simp)
    go_enter Try.func27, Try.ntmps27
    go_wp2_with (at_builtin; refine wpList_append_own_at _ rfl (.tmp 5) (.tmp 6) 47 rfl 0 53 i0 _ 3 24 (by kernel_rfl) hi0 hz0 hz1 hz2 rfl (by omega) (.slice (some ⟨w.heap.size, 0, none⟩) 0 0) 0 [] rfl O0 ⟨g, 0, none⟩ n cap F rfl hfl hcell' hone (by unfold maxLen; omega) (by omega) (Nat.zero_le _) ?_; intro v' w1 hown hgrow hnil hat)
    go_ret
    refine ⟨v', rfl, by simpa using hown, ?_, ?_⟩
    · exact K0.grown hgrow (fun i hi => .inr (by simp only [Value.ownBlock, Option.some.injEq] at hi; subst hi; exact Nat.le_refl _))
    · intro i hi
      rcases hat with e | e
      · rw [e] at hi; simp only [Value.ownBlock, Option.some.injEq] at hi; subst hi; exact Nat.le_refl _
      · rw [e] at hi; simp only [Option.some.injEq] at hi; subst hi; simp

theorem sort_nil (w : World) : Calls Try.prog 28 #[.iface 47 (.slice none 0 0)] w fun e w' => e = .returned (.tuple #[]) ∧ w' = w := by
  have mN := q_len none 0 0
  have hlen := fun w => len_any none 0 0 w
  go_enter Try.func28, Try.ntmps28
  go_wp2_with (go_at_call 66; refine (hlen _).mono ?_; rintro e w' ⟨rfl, hw⟩; subst w')
  (try simp only [Exit.inBlock, Exit.then]); refine bodyPost_ret (results_none rfl _ _ _) rfl ?_
  exact ⟨rfl, rfl⟩

/-- v is a slice that reads as these ints. -/
def IntsA (w : World) (v : Value) (l : List Int) : Prop := ∃ ao c, v = .slice ao l.length c ∧ l.length ≤ maxLen ∧ ∀ i (h : i < l.length), ∃ a, ao = some a ∧ w.cell? (a.add i) = some (.int .i64 l[i])
theorem IntsA.kept {w w' : World} {v : Value} {l : List Int} (h : IntsA w v l) (k : Kp [] w w') : IntsA w' v l := by
  obtain ⟨ao, c, rfl, h1, h2⟩ := h
  exact ⟨ao, c, rfl, h1, fun i hi => by obtain ⟨a, e, h3⟩ := h2 i hi; exact ⟨a, e, k.cell h3 (by simp)⟩⟩
theorem ints_of_owns {w : World} {base : Nat} {v : Value} {l : List Int} (h : w.ownsRow base 3 1 v l.length (l.map (Value.int .i64))) (hl : l.length ≤ maxLen) : IntsA w v l := by
  rcases h.2 with ⟨rfl, h0⟩ | ⟨g, cap, cur, rfl, hrest⟩
  · have : l = [] := List.eq_nil_of_length_eq_zero h0
    subst this
    exact ⟨none, 0, rfl, by simp [maxLen], fun i hi => by cases hi⟩
  · exact ⟨some ⟨g, 0, none⟩, cap, rfl, hl, fun i hi => ⟨_, rfl, h.cells (g := g) rfl i _ (by simp [List.getElem?_eq_getElem hi])⟩⟩
theorem Try.infoInt : (Try.prog.info? 3).map (fun i => (i.zero, i.size, i.bytes)) = some (some (.int .i64 0), 1, 8) := by kernel_rfl
end Go.Proofs.Ytlmbheobaiibeaa
