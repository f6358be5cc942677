/-
  What walking an unbound variable by an empty substitution does, and what the reckoner throws for it.
-/
import Derived.Test.YtbpacicbbepdhaaRd
namespace Go.Proofs.Ytbpacicbbepdhaa
open Go.RowKit

/-- what stays, as two rules for a walk -/
theorem stays {W w1 : World} (hb : Below W.heap.size W w1) : (∀ b o, b < W.heap.size → w1.cell? ⟨b, o, none⟩ = W.cell? ⟨b, o, none⟩) ∧ (∀ b o, b < W.heap.size → w1.frozen? ⟨b, o, none⟩ = W.frozen? ⟨b, o, none⟩) :=
  ⟨fun b o h => hb.cell (p := ⟨b, o, none⟩) h, fun b o h => hb.frozen (p := ⟨b, o, none⟩) h⟩

set_option maxHeartbeats 400000 in
theorem beyond_zero (w : World) :
    Calls Try.prog 30 #[.int .i64 0, .int .u64 0] w fun e w' => e = .returned (.bool false) ∧ w' = w := by
  go_enter Try.func30, Try.ntmps30
  go_wp2
  go_ret
  exact ⟨rfl, rfl⟩

set_option maxHeartbeats 400000 in
theorem binding_none (w : World) (sb : Nat) (q0 : w.cell? ⟨sb, 0, none⟩ = some (.pointer none)) (q1 : w.cell? ⟨sb, 1, none⟩ = some (.int .u64 0)) (hb : sb < w.heap.size) :
    Calls Try.prog 29 #[.pointer (some ⟨sb, 0, none⟩), .int .i64 0] w fun e w' => e = .returned (.tuple #[.agg #[.int .u8 0, .string ⟨#[]⟩, .int .i64 0, .slice none 0 0], .bool false]) ∧ Below w.heap.size w w' := by
  go_enter Try.func29, Try.ntmps29
  go_wp2
  refine wp_loop_rounds 1 ?_
  rw [rounds_succ]
  go_wp2
  refine bodyPost_ret (v := .tuple #[.agg #[.int .u8 0, .string ⟨#[]⟩, .int .i64 0, .slice none 0 0], .bool false]) (by simp [results, Try.results29, go_sem]) rfl ⟨rfl, ?_⟩
  exact (Below.refl _ _).alloc (Nat.le_refl _) _

set_option maxHeartbeats 400000 in
theorem walked_none (w : World) (sb : Nat) (q0 : w.cell? ⟨sb, 0, none⟩ = some (.pointer none)) (q1 : w.cell? ⟨sb, 1, none⟩ = some (.int .u64 0)) (hb : sb < w.heap.size) :
    Calls Try.prog 28 #[.pointer (some ⟨sb, 0, none⟩), leafV 0] w fun e w' => e = .returned (leafV 0) ∧ Below w.heap.size w w' := by
  unfold leafV
  go_enter Try.func28, Try.ntmps28
  go_wp2
  refine wp_loop_rounds 1 ?_
  rw [rounds_succ]
  go_wp2_with fail
  refine (binding_none _ sb ?_ ?_ ?_).mono ?_
  · simp [go_sem, q0, hb]
  · simp [go_sem, q1, hb]
  · simp; omega
  rintro e w1 ⟨rfl, hB⟩
  obtain ⟨hc, hf⟩ := stays hB
  have hz : w.heap.size + 1 < w1.heap.size := by have := hB.size; simp at this; omega
  have hz0 : w.heap.size < w1.heap.size := by omega
  go_wp2
  have B1 : Below w.heap.size w w1 := (((Below.refl _ _).alloc (Nat.le_refl _) _).alloc (by simp) _).trans (hB.mono (by simp; omega))
  refine bodyPost_ret (v := leafV 0) (by simp [results, Try.results28, go_sem, leafV, hc, hz]) rfl ⟨rfl, ?_⟩
  repeat (first | exact B1 | refine Below.alloc ?_ (by first | (simp; omega) | (simp; done)) _ | refine Below.setCell (p := ⟨w.heap.size + 1, _, none⟩) ?_ (by simp) _)


set_option maxHeartbeats 400000 in
theorem clone_leaf (w : World) (n : Int) :
    Calls Try.prog 27 #[.agg #[.int .u8 1, .string ⟨#[]⟩, .int .i64 n, .slice none 0 0]] w fun e w' => e = .returned (leafV n) ∧ Below w.heap.size w w' := by
  go_enter Try.func27, Try.ntmps27
  go_wp2
  refine bodyPost_ret (v := leafV n) (by simp [results, Try.results27, go_sem, leafV]) rfl ⟨rfl, ?_⟩
  exact ((Below.refl _ _).alloc (Nat.le_refl _) _).alloc (by simp) _

set_option maxHeartbeats 400000 in
theorem walk_none (w : World) (sb : Nat) (q0 : w.cell? ⟨sb, 0, none⟩ = some (.pointer none)) (q1 : w.cell? ⟨sb, 1, none⟩ = some (.int .u64 0)) (hb : sb < w.heap.size) :
    Calls Try.prog 22 #[.pointer (some ⟨sb, 0, none⟩), .agg #[.int .u8 1, .string ⟨#[]⟩, .int .i64 0, .slice none 0 0]] w fun e w' => e = .returned (leafV 0) ∧ Below w.heap.size w w' := by
  go_enter Try.func22, Try.ntmps22
  go_wp2_with fail
  refine (walked_none _ sb ?_ ?_ ?_).mono ?_
  · simp [go_sem, q0, hb]
  · simp [go_sem, q1, hb]
  · simp; omega
  rintro e w1 ⟨rfl, hB⟩
  obtain ⟨hc, hf⟩ := stays hB
  have hz : w.heap.size + 1 < w1.heap.size := by have := hB.size; simp at this; omega
  have hz0 : w.heap.size < w1.heap.size := by omega
  unfold leafV
  go_wp2_with fail
  refine (clone_leaf _ 0).mono ?_
  rintro e w2 ⟨rfl, hB2⟩
  obtain ⟨hc2, hf2⟩ := stays hB2
  have hz2 : w.heap.size + 1 < w2.heap.size := by have := hB2.size; omega
  unfold leafV
  go_wp2
  have B1 : Below w.heap.size w w1 := (((Below.refl _ _).alloc (Nat.le_refl _) _).alloc (by simp) _).trans (hB.mono (by simp; omega))
  have B2 : Below w.heap.size w w2 := B1.trans (hB2.mono (by omega))
  refine bodyPost_ret (v := leafV 0) (by simp [results, Try.results22, go_sem, leafV, hc, hz, hc2]) rfl ⟨rfl, ?_⟩
  repeat (first | exact B2 | refine Below.setCell (p := ⟨w.heap.size + 1, _, none⟩) ?_ (by simp) _)


set_option maxHeartbeats 400000 in
theorem reckon_var (w : World) (b sb : Nat) (m : Nat) (k : Int) (h : Rk w b ⟨sb, 0, none⟩ m k) (hsb : sb < b) (q0 : w.cell? ⟨sb, 0, none⟩ = some (.pointer none)) (q1 : w.cell? ⟨sb, 1, none⟩ = some (.int .u64 0)) (hk0 : 0 ≤ k) (hk : k < 4096) :
    Calls Try.prog 14 #[.pointer (some ⟨b, 0, none⟩), leafV 0] w fun e w' => e = .panicked (thrown 20) ∧ Below b w w' := by
  obtain ⟨h0, h1, h2, h3, h4⟩ := h
  have s1 : sb < w.heap.size := by omega
  have s2 : ¬ sb = b := by omega
  have s3 : ¬ b = sb := by omega
  unfold leafV
  go_enter Try.func14, Try.ntmps14
  go_wp2
  go_region_with (go_at_call 22; refine (walk_none _ sb (by simp [go_sem, q0, s1]) (by simp [go_sem, q1, s1]) (by simp; omega)).mono ?_; rintro e w1 ⟨rfl, hB⟩; have hc := (stays hB).1; have hf := (stays hB).2; have hz : w.heap.size < w1.heap.size := (by have := hB.size; simp at this; omega); unfold leafV)
  all_goals
    go_wp2
    refine ⟨rfl, rfl, ?_⟩
    have B1 : Below b w w1 := (Below.drew ((Below.setCell (p := ⟨b, 2, none⟩) (Below.refl b w) (Nat.le_refl _) _).alloc (by simp; omega) _)).trans (hB.mono (by simp; omega))
    repeat (first | exact B1 | refine Below.setCell (p := ⟨w.heap.size, _, none⟩) ?_ (by simp; omega) _)

set_option maxHeartbeats 400000 in
theorem reckon_two_var (c : ByteArray) (hc : c.size ≤ maxLen) (f : Nat) (hf : opFound (funKey c 2) = .func (.func f) #[] #[]) (x : Int) (w : World) (b : Nat) (sb : Nat) (m : Nat) (k : Int) (h : Rk w b ⟨sb, 0, none⟩ m k) (hm : m < b) (hM : OpInv m 0 (fun _ => true) w) (hk0 : 0 ≤ k) (hk : k + 2 < 4096)
    (ab : Nat) (hab : ab < b) (c0 : ∀ i v, (leafI x).cells[i]? = some v → w.cell? ⟨ab, i, none⟩ = some v) (c1 : ∀ i v, (leafV 0).cells[i]? = some v → w.cell? ⟨ab, 4 + i, none⟩ = some v)
    (hsb : sb < b) (q0 : w.cell? ⟨sb, 0, none⟩ = some (.pointer none)) (q1 : w.cell? ⟨sb, 1, none⟩ = some (.int .u64 0)) :
    Calls Try.prog 14 #[.pointer (some ⟨b, 0, none⟩), .agg #[.int .u8 4, .string c, .int .i64 0, .slice (some ⟨ab, 0, none⟩) 2 2]] w fun e w' => e = .panicked (thrown 20) ∧ Below b w w' := by
  have hrk := Lib.hid h
  obtain ⟨h0, h1, h2, h3, h4⟩ := h
  have hl : ∀ nq, (Instr.lookup 38 (.map (some m)) (.agg #[.string c, .int .i64 2]) false).run Try.prog ((lookW w b (k + 1) #[.int .u8 4, .string c, .int .i64 0, .slice (some ⟨ab, 0, none⟩) 2 2]).drewN nq) =
      .ok (.func (.func f) #[] #[]) ((lookW w b (k + 1) #[.int .u8 4, .string c, .int .i64 0, .slice (some ⟨ab, 0, none⟩) 2 2]).drewN nq) := fun nq => by
    have := (hM.same (w' := (lookW w b (k + 1) #[.int .u8 4, .string c, .int .i64 0, .slice (some ⟨ab, 0, none⟩) 2 2]).drewN nq) (by rw [show ((lookW w b (k + 1) #[.int .u8 4, .string c, .int .i64 0, .slice (some ⟨ab, 0, none⟩) 2 2]).drewN nq).heap = (lookW w b (k + 1) #[.int .u8 4, .string c, .int .i64 0, .slice (some ⟨ab, 0, none⟩) 2 2]).heap from by simp]; exact lookW_same hm h0)).lookup c 2 hc (by decide)
    rw [hf] at this
    exact this
  unfold lookW at hl
  have x0 : w.cell? ⟨ab, 0, none⟩ = some (.int .u8 2) := c0 0 _ rfl
  have x1 : w.cell? ⟨ab, 1, none⟩ = some (.string ⟨#[]⟩) := c0 1 _ rfl
  have x2 : w.cell? ⟨ab, 2, none⟩ = some (.int .i64 x) := c0 2 _ rfl
  have x3 : w.cell? ⟨ab, 3, none⟩ = some (.slice none 0 0) := c0 3 _ rfl
  have y0 : w.cell? ⟨ab, 4, none⟩ = some (.int .u8 1) := c1 0 _ rfl
  have y1 : w.cell? ⟨ab, 5, none⟩ = some (.string ⟨#[]⟩) := c1 1 _ rfl
  have y2 : w.cell? ⟨ab, 6, none⟩ = some (.int .i64 0) := c1 2 _ rfl
  have y3 : w.cell? ⟨ab, 7, none⟩ = some (.slice none 0 0) := c1 3 _ rfl
  have hfn : ∀ w, (binOp .eql 52 (.func (.func f) #[] #[]) .nilFunc).run Try.prog w = .ok (.bool false) w := fun w => by kernel_rfl
  have HM := Lib.hid hM
  have HF := Lib.hid hf
  have hab2 : ab < w.heap.size := by omega
  have hab3 : ¬ ab = b := by omega
  have hab4 : ¬ b = ab := by omega
  have s1 : sb < w.heap.size := by omega
  have s2 : ¬ sb = b := by omega
  have s3 : ¬ b = sb := by omega
  clear hM hf c0 c1
  go_enter Try.func14, Try.ntmps14
  go_wp2
  go_quiet (fail)
  go_wp2_with fail
  refine (reckon_int x _ b ⟨sb, 0, none⟩ m (k + 1) ?_ (by omega) (by omega)).mono ?_
  · refine ⟨?_, ?_, ?_, ?_, ?_⟩
    all_goals (simp [go_sem, h0, h1, h2, h3, h4]; try omega)
  rintro e w' ⟨rfl, rfl⟩
  go_wp2_with fail
  refine (reckon_var _ b sb m (k + 1 + 1) ?_ hsb ?_ ?_ (by omega) (by omega)).mono ?_
  · refine ⟨?_, ?_, ?_, ?_, ?_⟩
    all_goals (simp [go_sem, h0, h1, h2, h3, h4]; try omega)
  · simp [go_sem, q0, s1]
  · simp [go_sem, q1, s1]
  rintro e w' ⟨rfl, hB⟩
  refine ⟨rfl, rfl, Below.trans ?_ hB⟩
  repeat (first | exact Below.refl _ _ | refine Below.alloc ?_ (by first | (simp; omega) | (simp; done)) _ | refine Below.setCell (p := ⟨b, 2, none⟩) ?_ (Nat.le_refl _) _ | refine below_drewN ?_ _)

end Go.Proofs.Ytbpacicbbepdhaa
