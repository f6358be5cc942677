/-
  The reckoner: what it does to a number, and to a structure of two numbers.
-/
import Derived.Test.YtbpacicbbepdhaaRa
import Derived.Test.YtbpacicbbepdhaaRc
import Derived.WalkKit
import Derived.WalkSpells
import Derived.WalkSmall
import Derived.Deep.QuietTactic
import Derived.BigQuiet
import Derived.Deep.RegionWith
namespace Go.Proofs.Ytbpacicbbepdhaa
open Go.RowKit

/-- the reckoner's own cells -/
structure Rk (w : World) (b : Nat) (s : Addr) (m : Nat) (k : Int) : Prop where
  lt : b < w.heap.size
  subst : w.cell? ⟨b, 0, none⟩ = some (.pointer (some s))
  by_ : w.cell? ⟨b, 1, none⟩ = some (.map (some m))
  nodes : w.cell? ⟨b, 2, none⟩ = some (.int .i64 k)
  free : w.frozen? ⟨b, 2, none⟩ = false

set_option maxHeartbeats 400000 in
theorem reckon_int (n : Int) (w : World) (b : Nat) (s : Addr) (m : Nat) (k : Int) (h : Rk w b s m k) (hk0 : 0 ≤ k) (hk : k < 4096) :
    Calls Try.prog 14 #[.pointer (some ⟨b, 0, none⟩), leafI n] w fun e w' => e = .returned (.int .i64 n) ∧
      w' = (w.setCell ⟨b, 2, none⟩ (.int .i64 (k + 1))).alloc (.cells #[.int .u8 2, .string ⟨#[]⟩, .int .i64 n, .slice none 0 0] 32) := by
  obtain ⟨h0, h1, h2, h3, h4⟩ := h
  unfold leafI
  go_enter Try.func14, Try.ntmps14
  go_wp2
  go_ret
  exact ⟨rfl, rfl⟩

/-- the world at the look-up -/
def lookW (w : World) (b : Nat) (k : Int) (t : Array Value) : World := (w.setCell ⟨b, 2, none⟩ (.int .i64 k)).alloc (.cells t 32)

theorem lookW_same {w : World} {b m : Nat} {k : Int} {t : Array Value} (hm : m < b) (hb : b < w.heap.size) : (lookW w b k t).heap[m]? = w.heap[m]? := by
  unfold lookW
  rw [Below.heap_alloc _ _ _ (by simp; omega), Below.heap_setCell _ _ _ _ (by simp; omega)]

set_option maxHeartbeats 400000 in
theorem reckon_atom (c : ByteArray) (hc : c.size ≤ maxLen) (hno : opIdx (funKey c 0) = none) (w : World) (b : Nat) (s : Addr) (m : Nat) (k : Int) (h : Rk w b s m k) (hm : m < b) (hM : OpInv m 0 (fun _ => true) w) (hk0 : 0 ≤ k) (hk : k < 4096) :
    Calls Try.prog 14 #[.pointer (some ⟨b, 0, none⟩), leafA c] w fun e w' => e = .panicked (thrown 21) ∧ Below b w w' := by
  obtain ⟨h0, h1, h2, h3, h4⟩ := h
  unfold leafA
  have hl : ∀ nq, (Instr.lookup 38 (.map (some m)) (.agg #[.string c, .int .i64 0]) false).run Try.prog ((lookW w b (k + 1) #[.int .u8 3, .string c, .int .i64 0, .slice none 0 0]).drewN nq) =
      .ok .nilFunc ((lookW w b (k + 1) #[.int .u8 3, .string c, .int .i64 0, .slice none 0 0]).drewN nq) := fun nq => by
    have := (hM.same (w' := (lookW w b (k + 1) #[.int .u8 3, .string c, .int .i64 0, .slice none 0 0]).drewN nq) (by rw [show ((lookW w b (k + 1) #[.int .u8 3, .string c, .int .i64 0, .slice none 0 0]).drewN nq).heap = (lookW w b (k + 1) #[.int .u8 3, .string c, .int .i64 0, .slice none 0 0]).heap from by simp]; exact lookW_same hm h0)).lookup c 0 hc (by decide)
    rw [show opFound (funKey c 0) = .nilFunc from by unfold opFound; rw [hno]] at this
    exact this
  unfold lookW at hl
  have HM := Lib.hid hM
  have HN := Lib.hid hno
  clear hM hno
  go_enter Try.func14, Try.ntmps14
  go_wp2
  go_quiet (fail)
  go_wp2
  exact ⟨rfl, rfl, below_drewN (((Below.refl b w).setCell (p := ⟨b, 2, none⟩) (Nat.le_refl _) _).alloc (by simp; omega) _) _⟩

set_option maxHeartbeats 400000 in
theorem reckon_two (c : ByteArray) (hc : c.size ≤ maxLen) (f : Nat) (hf : opFound (funKey c 2) = .func (.func f) #[] #[]) (x y : Int) (w : World) (b : Nat) (s : Addr) (m : Nat) (k : Int) (h : Rk w b s m k) (hm : m < b) (hM : OpInv m 0 (fun _ => true) w) (hk0 : 0 ≤ k) (hk : k + 2 < 4096)
    (ab : Nat) (hab : ab < b) (c0 : ∀ i v, (leafI x).cells[i]? = some v → w.cell? ⟨ab, i, none⟩ = some v) (c1 : ∀ i v, (leafI y).cells[i]? = some v → w.cell? ⟨ab, 4 + i, none⟩ = some v)
    (hcf : ∀ args W, (callFunc f args).run Try.prog W = .ok (.enter f args) W) (R : Int × Int) (hop : ∀ W, Calls Try.prog f #[.int .i64 x, .int .i64 y] W fun e w' => e = endsAs R ∧ w' = W) :
    Calls Try.prog 14 #[.pointer (some ⟨b, 0, none⟩), .agg #[.int .u8 4, .string c, .int .i64 0, .slice (some ⟨ab, 0, none⟩) 2 2]] w fun e w' => e = endsAs R ∧ Below b w w' := by
  have hrk := Lib.hid h
  obtain ⟨h0, h1, h2, h3, h4⟩ := h
  have hl : ∀ nq, (Instr.lookup 38 (.map (some m)) (.agg #[.string c, .int .i64 2]) false).run Try.prog ((lookW w b (k + 1) #[.int .u8 4, .string c, .int .i64 0, .slice (some ⟨ab, 0, none⟩) 2 2]).drewN nq) =
      .ok (.func (.func f) #[] #[]) ((lookW w b (k + 1) #[.int .u8 4, .string c, .int .i64 0, .slice (some ⟨ab, 0, none⟩) 2 2]).drewN nq) := fun nq => by
    have := (hM.same (w' := (lookW w b (k + 1) #[.int .u8 4, .string c, .int .i64 0, .slice (some ⟨ab, 0, none⟩) 2 2]).drewN nq) (by rw [show ((lookW w b (k + 1) #[.int .u8 4, .string c, .int .i64 0, .slice (some ⟨ab, 0, none⟩) 2 2]).drewN nq).heap = (lookW w b (k + 1) #[.int .u8 4, .string c, .int .i64 0, .slice (some ⟨ab, 0, none⟩) 2 2]).heap from by simp]; exact lookW_same hm h0)).lookup c 2 hc (by decide)
    rw [hf] at this
    exact this
  unfold lookW at hl
  have x0 : w.cell? ⟨ab, 0, none⟩ = some (.int .u8 2) := c0 0 _ rfl
  have x1 : w.cell? ⟨ab, 1, none⟩ = some (.string ⟨#[]⟩) := c0 1 _ rfl
  have x2 : w.cell? ⟨ab, 2, none⟩ = some (.int .i64 x) := c0 2 _ rfl
  have x3 : w.cell? ⟨ab, 3, none⟩ = some (.slice none 0 0) := c0 3 _ rfl
  have y0 : w.cell? ⟨ab, 4, none⟩ = some (.int .u8 2) := c1 0 _ rfl
  have y1 : w.cell? ⟨ab, 5, none⟩ = some (.string ⟨#[]⟩) := c1 1 _ rfl
  have y2 : w.cell? ⟨ab, 6, none⟩ = some (.int .i64 y) := c1 2 _ rfl
  have y3 : w.cell? ⟨ab, 7, none⟩ = some (.slice none 0 0) := c1 3 _ rfl
  have hfn : ∀ w, (binOp .eql 52 (.func (.func f) #[] #[]) .nilFunc).run Try.prog w = .ok (.bool false) w := fun w => by kernel_rfl
  have HM := Lib.hid hM
  have HF := Lib.hid hf
  have HOP := Lib.hid hop
  have hab2 : ab < w.heap.size := by omega
  have hab3 : ¬ ab = b := by omega
  have hab4 : ¬ b = ab := by omega
  clear hM hf c0 c1 hop
  go_enter Try.func14, Try.ntmps14
  go_wp2
  go_quiet (fail)
  go_wp2_with fail
  refine (reckon_int x _ b s m (k + 1) ?_ (by omega) (by omega)).mono ?_
  · refine ⟨?_, ?_, ?_, ?_, ?_⟩
    all_goals (simp [go_sem, h0, h1, h2, h3, h4]; try omega)
  rintro e w' ⟨rfl, rfl⟩
  go_wp2_with fail
  refine (reckon_int y _ b s m (k + 1 + 1) ?_ (by omega) (by omega)).mono ?_
  · refine ⟨?_, ?_, ?_, ?_, ?_⟩
    all_goals (simp [go_sem, h0, h1, h2, h3, h4]; try omega)
  rintro e w' ⟨rfl, rfl⟩
  go_wp2_with fail
  refine (HOP.out _).mono ?_
  rintro e w' ⟨rfl, rfl⟩
  by_cases hR : R.2 = 0
  · rw [show endsAs R = .returned (.int .i64 R.1) from if_pos hR]
    go_wp2
    go_ret
    refine ⟨(show endsAs R = .returned (.int .i64 R.1) from if_pos hR).symm, ?_⟩
    repeat (first | exact Below.refl _ _ | refine Below.alloc ?_ (by first | (simp; omega) | (simp; done)) _ | refine Below.setCell (p := ⟨b, 2, none⟩) ?_ (Nat.le_refl _) _ | refine below_drewN ?_ _)
  · rw [show endsAs R = .panicked (thrown R.2) from if_neg hR]
    refine ⟨rfl, (show endsAs R = .panicked (thrown R.2) from if_neg hR).symm, ?_⟩
    repeat (first | exact Below.refl _ _ | refine Below.alloc ?_ (by first | (simp; omega) | (simp; done)) _ | refine Below.setCell (p := ⟨b, 2, none⟩) ?_ (Nat.le_refl _) _ | refine below_drewN ?_ _)

end Go.Proofs.Ytbpacicbbepdhaa
