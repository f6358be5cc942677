/-
  A structure of two parts that are no structures: what F makes.
-/
import Derived.Test.YtbpacicbbepdhaaRe
namespace Go.Proofs.Ytbpacicbbepdhaa
open Go.RowKit

set_option maxHeartbeats 400000 in
theorem new_any (w : World) :
    Calls Try.prog 7 #[] w fun e w' => e = .returned (.pointer (some ⟨w.heap.size, 0, none⟩)) ∧ w' = w.alloc (.cells #[.pointer none, .int .u64 0, .int .i64 0] 46) := by
  go_enter Try.func7, Try.ntmps7
  go_wp2
  go_ret
  exact ⟨rfl, rfl⟩

set_option maxHeartbeats 400000 in
theorem clones_nil (w : World) :
    Calls Try.prog 15 #[.slice none 0 0] w fun e w' => e = .returned (.slice none 0 0) ∧ w' = w := by
  go_enter Try.func15, Try.ntmps15
  go_wp2
  go_ret
  exact ⟨rfl, rfl⟩

def leaf (k : Int) (s : ByteArray) (n : Int) : Array Value := #[.int .u8 k, .string s, .int .i64 n, .slice none 0 0]

set_option maxHeartbeats 1000000 in
theorem clones_two (w : World) (ab : Nat) (hab : ab < w.heap.size) (k1 k2 n1 n2 : Int) (s1 s2 : ByteArray)
    (x0 : w.cell? ⟨ab, 0, none⟩ = some (.int .u8 k1)) (x1 : w.cell? ⟨ab, 1, none⟩ = some (.string s1)) (x2 : w.cell? ⟨ab, 2, none⟩ = some (.int .i64 n1)) (x3 : w.cell? ⟨ab, 3, none⟩ = some (.slice none 0 0))
    (y0 : w.cell? ⟨ab, 4, none⟩ = some (.int .u8 k2)) (y1 : w.cell? ⟨ab, 5, none⟩ = some (.string s2)) (y2 : w.cell? ⟨ab, 6, none⟩ = some (.int .i64 n2)) (y3 : w.cell? ⟨ab, 7, none⟩ = some (.slice none 0 0)) :
    Calls Try.prog 15 #[.slice (some ⟨ab, 0, none⟩) 2 2] w fun e w' => e = .returned (.slice (some ⟨w.heap.size, 0, none⟩) 2 2) ∧ Below w.heap.size w w' ∧ w.heap.size < w'.heap.size ∧
      w'.heap[w.heap.size]? = some (.cells #[.int .u8 k1, .string s1, .int .i64 n1, .slice none 0 0, .int .u8 k2, .string s2, .int .i64 n2, .slice none 0 0] 32) := by
  have hmk : ∀ w : World, (Instr.makeSlice 30 (.int .i64 2) (.int .i64 2)).run Try.prog w = .ok (.slice (some ⟨w.heap.size, 0, none⟩) 2 2) (w.alloc (.cells #[.int .u8 0, .string ⟨#[]⟩, .int .i64 0, .slice none 0 0, .int .u8 0, .string ⟨#[]⟩, .int .i64 0, .slice none 0 0] 32)) := fun _ => by kernel_rfl
  go_enter Try.func15, Try.ntmps15
  go_wp2
  refine wp_loop_rounds 3 ?_
  rw [rounds_succ]
  have tok := Lib.hid hmk
  clear hmk
  go_wp2_with fail
  refine (clones_nil _).mono ?_
  rintro e w' ⟨rfl, rfl⟩
  go_wp2_with fail
  rw [rounds_succ]
  go_wp2_with fail
  refine (clones_nil _).mono ?_
  rintro e w' ⟨rfl, rfl⟩
  go_wp2_with fail
  rw [rounds_succ]
  go_wp2
  go_ret
  refine ⟨rfl, ?_, ?_, ?_⟩
  · repeat (first | exact Below.refl _ _ | refine Below.alloc ?_ (by first | (simp; omega) | (simp; done)) _)
  · simp; omega
  · rw [Below.heap_alloc _ _ _ (by simp; omega), Below.heap_alloc _ _ _ (by simp)]
    exact (MapKept.heap_alloc _ _).1

def leafKind (v : Value) : Prop := ∃ k s n, v = .agg #[.int .u8 k, .string s, .int .i64 n, .slice none 0 0]

set_option maxHeartbeats 1000000 in
theorem f_two (w : World) (c : ByteArray) (ab : Nat) (hab : ab < w.heap.size) (k1 k2 n1 n2 : Int) (s1 s2 : ByteArray)
    (x0 : w.cell? ⟨ab, 0, none⟩ = some (.int .u8 k1)) (x1 : w.cell? ⟨ab, 1, none⟩ = some (.string s1)) (x2 : w.cell? ⟨ab, 2, none⟩ = some (.int .i64 n1)) (x3 : w.cell? ⟨ab, 3, none⟩ = some (.slice none 0 0))
    (y0 : w.cell? ⟨ab, 4, none⟩ = some (.int .u8 k2)) (y1 : w.cell? ⟨ab, 5, none⟩ = some (.string s2)) (y2 : w.cell? ⟨ab, 6, none⟩ = some (.int .i64 n2)) (y3 : w.cell? ⟨ab, 7, none⟩ = some (.slice none 0 0)) :
    Calls Try.prog 8 #[.string c, .slice (some ⟨ab, 0, none⟩) 2 2] w fun e w' => e = .returned (.agg #[.int .u8 4, .string c, .int .i64 0, .slice (some ⟨w.heap.size + 1, 0, none⟩) 2 2]) ∧ Below w.heap.size w w' ∧ w.heap.size + 1 < w'.heap.size ∧
      w'.heap[w.heap.size + 1]? = some (.cells #[.int .u8 k1, .string s1, .int .i64 n1, .slice none 0 0, .int .u8 k2, .string s2, .int .i64 n2, .slice none 0 0] 32) := by
  go_enter Try.func8, Try.ntmps8
  go_wp2_with fail
  refine (clones_two _ ab ?_ k1 k2 n1 n2 s1 s2 ?_ ?_ ?_ ?_ ?_ ?_ ?_ ?_).mono ?_
  · simp; omega
  all_goals try (simp [go_sem, hab, x0, x1, x2, x3, y0, y1, y2, y3]; done)
  rintro e w1 ⟨rfl, hB, hz, hblk⟩
  obtain ⟨hc, hf⟩ := stays hB
  have HB := Lib.hid hblk
  clear hblk
  have hz1 : w.heap.size < w1.heap.size := by have := hB.size; simp at this; omega
  go_wp2
  have B1 : Below w.heap.size w w1 := ((Below.refl _ _).alloc (Nat.le_refl _) _).trans (hB.mono (by simp))
  have hz2 : w.heap.size + 1 < w1.heap.size := by simpa using hz
  refine bodyPost_ret (v := .agg #[.int .u8 4, .string c, .int .i64 0, .slice (some ⟨w.heap.size + 1, 0, none⟩) 2 2]) (by simp [results, Try.results8, go_sem, hc]) rfl ⟨rfl, ?_, ?_, ?_⟩
  · repeat (first | exact B1 | refine Below.setCell (p := ⟨w.heap.size, _, none⟩) ?_ (by simp) _)
  · simpa using hz2
  · repeat (rw [Below.heap_setCell _ _ _ _ (by simp)])
    have := HB.out
    simpa using this

end Go.Proofs.Ytbpacicbbepdhaa
