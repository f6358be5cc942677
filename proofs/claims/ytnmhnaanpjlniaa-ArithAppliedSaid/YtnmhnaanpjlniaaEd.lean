import Derived.Test.YtnmhnaanpjlniaaEa
import Derived.Test.YtnmhnaanpjlniaaEc
import Derived.Test.YtnmhnaanpjlniaaAm
import Derived.WalkKit
import Derived.WalkSpells
import Derived.WalkSmall
import Derived.Deep.QuietTactic
import Derived.BigQuiet
import Derived.Deep.RegionWith
import Derived.Defers
import Derived.Recover
/-
  Eval: the deferred function, and what Eval answers for two numbers, for an atom, and for an unbound variable.
-/
namespace Go.Proofs.Ytnmhnaanpjlniaa
open Go.RowKit

/-- the reckoner's own block -/
structure Rk (w : World) (b : Nat) (s : Addr) (m : Nat) (k : Int) : Prop where
  blk : w.heap[b]? = some (.cells #[.pointer (some s), .map (some m), .int .i64 k] 79 (0, 0))

theorem Rk.lt {w : World} {b : Nat} {s : Addr} {m : Nat} {k : Int} (h : Rk w b s m k) : b < w.heap.size := (Array.getElem?_eq_some_iff.1 h.blk).1
theorem Rk.subst {w : World} {b : Nat} {s : Addr} {m : Nat} {k : Int} (h : Rk w b s m k) : w.cell? ⟨b, 0, none⟩ = some (.pointer (some s)) := by simp [World.cell?, h.blk]
theorem Rk.by_ {w : World} {b : Nat} {s : Addr} {m : Nat} {k : Int} (h : Rk w b s m k) : w.cell? ⟨b, 1, none⟩ = some (.map (some m)) := by simp [World.cell?, h.blk]
theorem Rk.nodes {w : World} {b : Nat} {s : Addr} {m : Nat} {k : Int} (h : Rk w b s m k) : w.cell? ⟨b, 2, none⟩ = some (.int .i64 k) := by simp [World.cell?, h.blk]
theorem Rk.free {w : World} {b : Nat} {s : Addr} {m : Nat} {k : Int} (h : Rk w b s m k) : w.frozen? ⟨b, 2, none⟩ = false := by simp [World.frozen?, h.blk]
theorem Rk.put {w : World} {b : Nat} {s : Addr} {m : Nat} {k : Int} (h : Rk w b s m k) (k' : Int) : Rk (w.setCell ⟨b, 2, none⟩ (.int .i64 k')) b s m k' := by
  refine ⟨?_⟩
  simp only [World.setCell, Array.getElem?_modify, if_pos, h.blk]
  rfl
theorem Rk.below {w w' : World} {b : Nat} {s : Addr} {m : Nat} {k : Int} (h : Rk w b s m k) (hB : Below w.heap.size w w') : Rk w' b s m k := ⟨(hB.block b h.lt).trans h.blk⟩

set_option maxHeartbeats 1000000 in
/-- the deferred function, a number of an error being thrown -/
theorem catch_thrown (bn be : Nat) (n : Int) (w : World) (v0 : Int) (e0 : Int) (_hne : bn ≠ be)
    (c0 : w.cell? ⟨bn, 0, none⟩ = some (.int .i64 v0)) (f0 : w.frozen? ⟨bn, 0, none⟩ = false) (c1 : w.cell? ⟨be, 0, none⟩ = some (.int .i64 e0)) (f1 : w.frozen? ⟨be, 0, none⟩ = false) :
    CallsD Try.prog 54 #[.pointer (some ⟨bn, 0, none⟩), .pointer (some ⟨be, 0, none⟩)] (.panicking ({ v := .iface 31 (.int .i64 n), recovered := false } :: [])) w fun e u' w' =>
      e = .returned (.tuple #[]) ∧ u' = .panicking ({ v := .iface 31 (.int .i64 n), recovered := true } :: []) ∧ w' = (w.setCell ⟨bn, 0, none⟩ (.int .i64 0)).setCell ⟨be, 0, none⟩ (.int .i64 n) := by
  have hta : ∀ w : World, (Instr.typeAssert (.iface 31 (.int .i64 n)) 20 31 true).run Try.prog w = .ok (.tuple #[.int .i64 n, .bool true]) w := fun _ => by kernel_rfl
  refine callsD_of_wpS Try.func54 rfl fun c₀ cs hu => ?_
  apply wpS_seq
  apply wpS_region
  simp [wpOpsS, go_sem, recoverD, hu, Try.ntmps54, Exit.thenS, hta]
  apply wpS_seq
  apply wpS_region
  simp [wpOpsS, go_sem, Exit.thenS]
  refine wpS_cond (t := true) (by simp [Act.eval, Array.replicate]) ?_
  simp only [if_true]
  apply wpS_region
  simp [wpOpsS, go_sem, c0, f0, c1, f1, bodyPostS, results, Try.results54]

set_option maxHeartbeats 1000000 in
/-- the deferred function, nothing being thrown -/
theorem catch_idle (bn be : Nat) (w : World) :
    CallsD Try.prog 54 #[.pointer (some ⟨bn, 0, none⟩), .pointer (some ⟨be, 0, none⟩)] .returning w fun e u' w' =>
      e = .returned (.tuple #[]) ∧ u' = .returning ∧ w' = w := by
  have hta : ∀ w : World, (Instr.typeAssert .nilIface 20 31 true).run Try.prog w = .ok (.tuple #[.int .i64 0, .bool false]) w := fun _ => by kernel_rfl
  refine callsD_of_wpS Try.func54 rfl fun c₀ cs hu => ?_
  apply wpS_seq
  apply wpS_region
  simp [wpOpsS, go_sem, recoverD, hu, Try.ntmps54, Exit.thenS, hta]
  apply wpS_seq
  apply wpS_region
  simp [wpOpsS, go_sem, Exit.thenS]
  refine wpS_cond (t := false) (by simp [Act.eval, Array.replicate]) ?_
  simp only [Bool.false_eq_true, if_false]
  refine wpS_of_wp (wp_skip ?_)
  cases c₀
  simp_all [bodyPostS, results, Try.results54]

set_option maxHeartbeats 1000000 in
/-- Eval, by what the reckoner comes to -/
theorem eval_any (t0 t1 t2 t3 : Value) (w : World) (s : Addr) (R : Int × Int)
    (hrec : ∀ (W : World) (b m : Nat), Below w.heap.size w W → w.heap.size ≤ m → m < b → Rk W b s m 0 → OpInv m 0 (fun _ => true) W →
      Calls Try.prog 56 #[.pointer (some ⟨b, 0, none⟩), .agg #[t0, t1, t2, t3]] W fun e w' => e = endsAs R ∧ Below b W w') :
    Calls Try.prog 14 #[.pointer (some s), .agg #[t0, t1, t2, t3]] w fun e w' =>
      e = .returned (.tuple #[.int .i64 (if R.2 = 0 then R.1 else 0), .int .i64 R.2]) ∧ Below w.heap.size w w' := by
  have hmf : ∀ (fn : Fn) (first cap : Array Value) (w : World), (Instr.makeFunc fn first cap).run Try.prog w = .ok (.func fn first cap) w := fun _ _ _ _ => rfl
  have HR := Lib.hid hrec
  clear hrec
  go_enter_defers Try.func14, Try.ntmps14
  go_wp2_with fail
  refine (operators_any _).mono ?_
  rintro e w1 ⟨rfl, hB, hO⟩
  obtain ⟨hc, hf⟩ := stays hB
  have hlt : w.heap.size + 3 < w1.heap.size := by
    obtain ⟨D, n, hown, _⟩ := hO.has
    have := hown.lt
    simpa using this
  have hz0 : w.heap.size < w1.heap.size := by omega
  have hz1 : w.heap.size + 1 < w1.heap.size := by omega
  have hz2 : w.heap.size + 1 + 1 < w1.heap.size := by omega
  have HO := Lib.hid hO
  clear hO
  go_wp2_with fail
  have hm : (((w.alloc (Obj.cells #[t0, t1, t2, t3] 25)).alloc (Obj.cells #[Value.int IntKind.i64 0] 2)).alloc (Obj.cells #[Value.int IntKind.i64 0] 31)).heap.size = w.heap.size + 1 + 1 + 1 := by simp
  rw [hm] at HO
  have B1 : Below w.heap.size w w1 := ((((Below.refl _ _).alloc (Nat.le_refl _) _).alloc (by simp) _).alloc (by simp; omega) _).trans (hB.mono (by simp; omega))
  refine (HR.out _ w1.heap.size (w.heap.size + 1 + 1 + 1) ?_ ?_ ?_ ?_ ?_).mono ?_
  · exact B1.alloc (by omega) _
  · omega
  · omega
  · exact ⟨by show (Array.push _ _)[w1.heap.size]? = _; rw [Array.getElem?_push_size]⟩
  · exact HO.out.same (Below.heap_alloc _ _ _ (by omega))
  rintro e w2 ⟨rfl, hB2⟩
  have B2 : Below w.heap.size w w2 := (B1.alloc (by omega) _).trans (hB2.mono (by omega))
  have hc2 : ∀ b o, b < w1.heap.size → w2.cell? ⟨b, o, none⟩ = w1.cell? ⟨b, o, none⟩ := fun b o hb => (hB2.cell (p := ⟨b, o, none⟩) hb).trans (World.cell?_alloc_past _ _ _ hb)
  have hf2 : ∀ b o, b < w1.heap.size → w2.frozen? ⟨b, o, none⟩ = w1.frozen? ⟨b, o, none⟩ := fun b o hb => (hB2.frozen (p := ⟨b, o, none⟩) hb).trans (World.frozen?_alloc_past _ _ _ hb)
  have hs2 : w1.heap.size < w2.heap.size := by have := hB2.size; simp at this; omega
  by_cases hR : R.2 = 0
  · rw [show endsAs R = .returned (.int .i64 R.1) from if_pos hR]
    go_wp2
    refine leaves_cons (f := 54) (args := #[.pointer (some ⟨w.heap.size + 1, 0, none⟩), .pointer (some ⟨w.heap.size + 1 + 1, 0, none⟩)]) (by simp) (by simp [go_sem]) ?_
    refine (catch_idle (w.heap.size + 1) (w.heap.size + 1 + 1) _).mono ?_
    rintro e u' w3 ⟨rfl, rfl, rfl⟩
    simp [Leaves, settle, results, Try.results14, go_sem, hc2, hz1, hz2, hc]
    repeat (first | exact B2 | refine Below.setCell (p := ⟨w.heap.size + 1, _, none⟩) ?_ (by simp) _ | refine Below.setCell (p := ⟨w.heap.size + 1 + 1, _, none⟩) ?_ (by simp; omega) _)
  · rw [show endsAs R = .panicked (thrown R.2) from if_neg hR]
    refine leaves_cons (f := 54) (args := #[.pointer (some ⟨w.heap.size + 1, 0, none⟩), .pointer (some ⟨w.heap.size + 1 + 1, 0, none⟩)]) (by simp) (by simp [go_sem]) ?_
    refine (catch_thrown (w.heap.size + 1) (w.heap.size + 1 + 1) R.2 _ 0 0 (by omega) ?_ ?_ ?_ ?_).mono ?_
    · simp [go_sem, hc2, hz1, hc]
    · simp [go_sem, hf2, hz1, hf]
    · simp [go_sem, hc2, hz2, hc]
    · simp [go_sem, hf2, hz2, hf]
    rintro e u' w3 ⟨rfl, rfl, rfl⟩
    simp [Leaves, settle, results, Try.results14, go_sem, hc2, hz1, hz2, hc]
    refine ⟨fun h => absurd h hR, ?_⟩
    repeat (first | exact B2 | refine Below.setCell (p := ⟨w.heap.size + 1, _, none⟩) ?_ (by simp) _ | refine Below.setCell (p := ⟨w.heap.size + 1 + 1, _, none⟩) ?_ (by simp; omega) _)

end Go.Proofs.Ytnmhnaanpjlniaa
