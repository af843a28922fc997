/-
  The queue behind a pointer: how container/heap comes to its methods; (*queue).Push and Pop.
-/
import Derived.Test.YtlmbheobaiibeaaQSortA
namespace Go.Proofs.Ytlmbheobaiibeaa
open Go.RowKit Go.Sort Go.Lib

theorem info_meth (t : TypeId) (name : String) (f : Nat) (b : Bool) (h : (Try.prog.info? t).bind (fun i => (i.methods.find? (·.name == name)).map fun m => (m.path.toList.length, m.func)) = some (0, some (f, b))) :
    ∃ i m, Try.prog.info? t = some i ∧ i.methods.find? (·.name == name) = some m ∧ m.path = #[] ∧ m.func = some (f, b) := by
  cases hi : Try.prog.info? t with
  | none => simp [hi] at h
  | some i =>
    cases hm : i.methods.find? (·.name == name) with
    | none => simp [hi, hm] at h
    | some m =>
      simp [hi, hm] at h
      exact ⟨i, m, rfl, hm, h.1, h.2⟩

theorem wrap_ok (ts : Array TypeId) (t : TypeId) (a : Addr) (s1 s2 : String) : Builtin.ssaWrapNilChk_ ts t #[.pointer (some a), strVal s1, strVal s2] = pure (.pointer (some a)) := rfl
theorem meth_load (k : Nat) (t e : TypeId) (name : String) (f : Nat) (a : Addr) (v : Value) (w : World) (h : (Try.prog.info? t).bind (fun i => (i.methods.find? (·.name == name)).map fun m => (m.path.toList.length, m.func)) = some (0, some (f, false)))
    (hu : Try.prog.underlying t = some (.pointer e)) (ha : ∀ w, (isAgg e).run Try.prog w = .ok false w) (hc : w.cell? a = some v) : Sem.run Try.prog (method (k + 1) t (.pointer (some a)) name) w = .ok (f, v) w := by
  obtain ⟨i, m, hi, hm, hp, hf⟩ := info_meth t name f false h
  simp [go_sem, method, typeInfo, hi, hm, hp, hf, follow, receiverAt, underlying, hu, Place.get, wrap_ok, loadVar, ha, hc]
theorem meth_ptr (k : Nat) (t e : TypeId) (name : String) (f : Nat) (a : Addr) (w : World) (h : (Try.prog.info? t).bind (fun i => (i.methods.find? (·.name == name)).map fun m => (m.path.toList.length, m.func)) = some (0, some (f, true)))
    (hu : Try.prog.underlying t = some (.pointer e)) : Sem.run Try.prog (method (k + 1) t (.pointer (some a)) name) w = .ok (f, .pointer (some a)) w := by
  obtain ⟨i, m, hi, hm, hp, hf⟩ := info_meth t name f true h
  simp [go_sem, method, typeInfo, hi, hm, hp, hf, follow, receiverAt, underlying, hu, Place.get]
theorem q_agg (w : World) : (isAgg 47).run Try.prog w = .ok false w := by kernel_rfl
theorem pq_less {a : Addr} {v : Value} {w : World} (hc : w.cell? a = some v) : Sem.run Try.prog (method 210 51 (.pointer (some a)) "Less") w = .ok (67, v) w :=
  meth_load _ _ _ _ _ a v w (by kernel_rfl) (by kernel_rfl) q_agg hc
theorem pq_swap {a : Addr} {v : Value} {w : World} (hc : w.cell? a = some v) : Sem.run Try.prog (method 210 51 (.pointer (some a)) "Swap") w = .ok (68, v) w :=
  meth_load _ _ _ _ _ a v w (by kernel_rfl) (by kernel_rfl) q_agg hc
theorem pq_len {a : Addr} {v : Value} {w : World} (hc : w.cell? a = some v) : Sem.run Try.prog (method 210 51 (.pointer (some a)) "Len") w = .ok (66, v) w :=
  meth_load _ _ _ _ _ a v w (by kernel_rfl) (by kernel_rfl) q_agg hc
theorem pq_push {a : Addr} (w : World) : Sem.run Try.prog (method 210 51 (.pointer (some a)) "Push") w = .ok (70, .pointer (some a)) w :=
  meth_ptr _ _ 47 _ _ a w (by kernel_rfl) (by kernel_rfl)
theorem pq_pop {a : Addr} (w : World) : Sem.run Try.prog (method 210 51 (.pointer (some a)) "Pop") w = .ok (69, .pointer (some a)) w :=
  meth_ptr _ _ 47 _ _ a w (by kernel_rfl) (by kernel_rfl)
end Go.Proofs.Ytlmbheobaiibeaa
