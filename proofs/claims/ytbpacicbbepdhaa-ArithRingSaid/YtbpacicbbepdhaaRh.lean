/-
  Two numbers and an operator, from F on: what the law's own helper answers.
-/
import Derived.Test.YtbpacicbbepdhaaRg
namespace Go.Proofs.Ytbpacicbbepdhaa
open Go.RowKit

/-- what a call answers that reckons two numbers -/
def ansOf (R : Int × Int) : Value := .tuple #[.int .i64 (if R.2 = 0 then R.1 else 0), .int .i64 R.2]

theorem leaf_cells {w W : World} {ab : Nat} {k1 k2 n1 n2 : Int} {s1 s2 : ByteArray}
    (h : w.heap[ab]? = some (.cells #[.int .u8 k1, .string s1, .int .i64 n1, .slice none 0 0, .int .u8 k2, .string s2, .int .i64 n2, .slice none 0 0] 32)) (hab : ab < w.heap.size) (hB : Below w.heap.size w W) :
    (∀ i v, (Value.agg #[.int .u8 k1, .string s1, .int .i64 n1, .slice none 0 0]).cells[i]? = some v → W.cell? ⟨ab, i, none⟩ = some v) ∧
    (∀ i v, (Value.agg #[.int .u8 k2, .string s2, .int .i64 n2, .slice none 0 0]).cells[i]? = some v → W.cell? ⟨ab, 4 + i, none⟩ = some v) := by
  have hW : W.heap[ab]? = some (.cells #[.int .u8 k1, .string s1, .int .i64 n1, .slice none 0 0, .int .u8 k2, .string s2, .int .i64 n2, .slice none 0 0] 32) := (hB.block ab hab).trans h
  constructor
  · intro i v hv
    have hi : i < 4 := by
      rcases Nat.lt_or_ge i 4 with h | h
      · exact h
      · simp [Value.cells, h] at hv
    match i, hi with
    | 0, _ | 1, _ | 2, _ | 3, _ => simp [Value.cells] at hv; subst hv; simp [World.cell?, hW]
  · intro i v hv
    have hi : i < 4 := by
      rcases Nat.lt_or_ge i 4 with h | h
      · exact h
      · simp [Value.cells, h] at hv
    match i, hi with
    | 0, _ | 1, _ | 2, _ | 3, _ => simp [Value.cells] at hv; subst hv; simp [World.cell?, hW]

set_option maxHeartbeats 1000000 in
theorem two_any (c : ByteArray) (hc : c.size ≤ maxLen) (f : Nat) (hf : opFound (funKey c 2) = .func (.func f) #[] #[]) (x y : Int)
    (hcf : ∀ args W, (callFunc f args).run Try.prog W = .ok (.enter f args) W) (R : Int × Int) (hop : ∀ W, Calls Try.prog f #[.int .i64 x, .int .i64 y] W fun e w' => e = endsAs R ∧ w' = W) (w : World) :
    Calls Try.prog 4 #[.string c, .int .i64 x, .int .i64 y] w fun e w' => e = .returned (ansOf R) ∧ Below w.heap.size w w' := by
  have HC := Lib.hid hc
  have HF := Lib.hid hf
  have HCF := Lib.hid hcf
  have HOP := Lib.hid hop
  clear hc hf hcf hop
  go_enter Try.func4, Try.ntmps4
  go_wp2_with fail
  refine (new_any _).mono ?_
  rintro e w' ⟨rfl, rfl⟩
  go_wp2_with fail
  refine (i_any x _).mono ?_
  rintro e w1 ⟨rfl, hB1⟩
  go_wp2_with fail
  refine (i_any y _).mono ?_
  rintro e w2 ⟨rfl, hB2⟩
  unfold leafI
  go_wp2_with fail
  refine (f_two _ c w2.heap.size ?_ 2 2 x y ⟨#[]⟩ ⟨#[]⟩ ?_ ?_ ?_ ?_ ?_ ?_ ?_ ?_).mono ?_
  · simp
  all_goals try (simp [go_sem]; done)
  rintro e w3 ⟨rfl, hB3, hlt3, hblk⟩
  go_wp2_with fail
  have hsz : (w2.alloc (Obj.cells #[Value.int IntKind.u8 2, Value.string ⟨#[]⟩, Value.int IntKind.i64 x, Value.slice none 0 0, Value.int IntKind.u8 2, Value.string ⟨#[]⟩, Value.int IntKind.i64 y, Value.slice none 0 0] 32)).heap.size + 1 = w2.heap.size + 1 + 1 := by simp
  rw [hsz] at hlt3 hblk
  have B1 : Below w.heap.size w w1 := ((Below.refl _ _).alloc (Nat.le_refl _) _).trans (hB1.mono (by simp))
  have B2 : Below w.heap.size w w2 := B1.trans (hB2.mono (by have := B1.size; omega))
  have B3 : Below w.heap.size w w3 := (B2.alloc (by have := B2.size; omega) _).trans (hB3.mono (by have := B2.size; simp; omega))
  refine (eval_any _ _ _ _ w3 ⟨w.heap.size, 0, none⟩ R ?_).mono ?_
  · intro W b m hW hm hmb hrk hO
    obtain ⟨q0, q1⟩ := leaf_cells hblk (by omega) hW
    exact reckon_two c HC.out f HF.out x y W b _ m 0 hrk hmb hO (by omega) (by omega) _ (by omega) q0 q1 HCF.out R HOP.out
  rintro e w4 ⟨rfl, hB4⟩
  have B4 : Below w.heap.size w w4 := B3.trans (hB4.mono (by have := B3.size; omega))
  obtain ⟨v, hv⟩ : ∃ v, v = if R.2 = 0 then R.1 else 0 := ⟨_, rfl⟩
  obtain ⟨k, hk⟩ : ∃ k, k = R.2 := ⟨_, rfl⟩
  have hans : ansOf R = .tuple #[.int .i64 v, .int .i64 k] := by rw [hv, hk]; rfl
  rw [← hv, ← hk]
  have HA := Lib.hid hans
  clear hans hv hk
  go_wp2
  go_ret2
  rw [HA.out]
  exact ⟨rfl, B4⟩

set_option maxHeartbeats 1000000 in
/-- a number and an unbound variable, by the law's own line -/
theorem f_any_var (c : ByteArray) (hc : c.size ≤ maxLen) (f : Nat) (hf : opFound (funKey c 2) = .func (.func f) #[] #[]) (x : Int) (w : World) (sb ab : Nat) (hsb : sb < w.heap.size) (hab : ab < w.heap.size)
    (q0 : w.cell? ⟨sb, 0, none⟩ = some (.pointer none)) (q1 : w.cell? ⟨sb, 1, none⟩ = some (.int .u64 0))
    (hblk : w.heap[ab]? = some (.cells #[.int .u8 2, .string ⟨#[]⟩, .int .i64 x, .slice none 0 0, .int .u8 1, .string ⟨#[]⟩, .int .i64 0, .slice none 0 0] 32)) :
    Calls Try.prog 6 #[.pointer (some ⟨sb, 0, none⟩), .agg #[.int .u8 4, .string c, .int .i64 0, .slice (some ⟨ab, 0, none⟩) 2 2]] w fun e w' =>
      e = .returned (.tuple #[.int .i64 0, .int .i64 20]) ∧ Below w.heap.size w w' := by
  refine (eval_any _ _ _ _ w ⟨sb, 0, none⟩ (0, 20) ?_).mono ?_
  · intro W b m hW hm hmb hrk hO
    obtain ⟨r0, r1⟩ := leaf_cells hblk hab hW
    exact reckon_two_var c hc f hf x W b sb m 0 hrk hmb hO (by omega) (by omega) ab (by omega) r0 r1 (by omega) ((hW.cell (p := ⟨sb, 0, none⟩) hsb).trans q0) ((hW.cell (p := ⟨sb, 1, none⟩) hsb).trans q1)
  · exact fun e w' h => h

set_option maxHeartbeats 1000000 in
theorem eval_atom (c : ByteArray) (hc : c.size ≤ maxLen) (hno : opIdx (funKey c 0) = none) (w : World) (s : Addr) :
    Calls Try.prog 6 #[.pointer (some s), leafA c] w fun e w' =>
      e = .returned (.tuple #[.int .i64 0, .int .i64 21]) ∧ Below w.heap.size w w' := by
  refine (eval_any _ _ _ _ w s (0, 21) ?_).mono ?_
  · intro W b m hW hm hmb hrk hO
    exact reckon_atom c hc hno W b s m 0 hrk hmb hO (by omega) (by omega)
  · exact fun e w' h => h

theorem plus_enters : ∀ args W, (callFunc 16 args).run Try.prog W = .ok (.enter 16 args) W := fun _ _ => by kernel_rfl
theorem minus_enters : ∀ args W, (callFunc 17 args).run Try.prog W = .ok (.enter 17 args) W := fun _ _ => by kernel_rfl
theorem times_enters : ∀ args W, (callFunc 18 args).run Try.prog W = .ok (.enter 18 args) W := fun _ _ => by kernel_rfl
theorem quotient_enters : ∀ args W, (callFunc 19 args).run Try.prog W = .ok (.enter 19 args) W := fun _ _ => by kernel_rfl
theorem remainder_enters : ∀ args W, (callFunc 20 args).run Try.prog W = .ok (.enter 20 args) W := fun _ _ => by kernel_rfl
theorem modulo_enters : ∀ args W, (callFunc 21 args).run Try.prog W = .ok (.enter 21 args) W := fun _ _ => by kernel_rfl

theorem two_plus (x y : Int) (hx : isI64 x) (hy : isI64 y) (w : World) : Calls Try.prog 4 #[.string ⟨#[43]⟩, .int .i64 x, .int .i64 y] w fun e w' => e = .returned (ansOf (plusR x y)) ∧ Below w.heap.size w w' :=
  two_any ⟨#[43]⟩ (by decide) 16 rfl x y plus_enters _ (fun W => plus_any x y hx hy W) w
theorem two_minus (x y : Int) (hx : isI64 x) (hy : isI64 y) (w : World) : Calls Try.prog 4 #[.string ⟨#[45]⟩, .int .i64 x, .int .i64 y] w fun e w' => e = .returned (ansOf (minusR x y)) ∧ Below w.heap.size w w' :=
  two_any ⟨#[45]⟩ (by decide) 17 rfl x y minus_enters _ (fun W => minus_any x y hx hy W) w
theorem two_times (x y : Int) (hx : isI64 x) (hy : isI64 y) (w : World) : Calls Try.prog 4 #[.string ⟨#[42]⟩, .int .i64 x, .int .i64 y] w fun e w' => e = .returned (ansOf (timesR x y)) ∧ Below w.heap.size w w' :=
  two_any ⟨#[42]⟩ (by decide) 18 rfl x y times_enters _ (fun W => times_any x y hx hy W) w
theorem two_quot (x y : Int) (hx : isI64 x) (hy : isI64 y) (w : World) : Calls Try.prog 4 #[.string ⟨#[47, 47]⟩, .int .i64 x, .int .i64 y] w fun e w' => e = .returned (ansOf (quotR x y)) ∧ Below w.heap.size w w' :=
  two_any ⟨#[47, 47]⟩ (by decide) 19 rfl x y quotient_enters _ (fun W => quotient_any x y hx hy W) w
theorem two_rem (x y : Int) (hx : isI64 x) (hy : isI64 y) (w : World) : Calls Try.prog 4 #[.string ⟨#[114, 101, 109]⟩, .int .i64 x, .int .i64 y] w fun e w' => e = .returned (ansOf (remR x y)) ∧ Below w.heap.size w w' :=
  two_any ⟨#[114, 101, 109]⟩ (by decide) 20 rfl x y remainder_enters _ (fun W => remainder_any x y hx hy W) w
theorem two_mod (x y : Int) (hx : isI64 x) (hy : isI64 y) (w : World) : Calls Try.prog 4 #[.string ⟨#[109, 111, 100]⟩, .int .i64 x, .int .i64 y] w fun e w' => e = .returned (ansOf (modR x y)) ∧ Below w.heap.size w w' :=
  two_any ⟨#[109, 111, 100]⟩ (by decide) 21 rfl x y modulo_enters _ (fun W => modulo_any x y hx hy W) w

end Go.Proofs.Ytbpacicbbepdhaa
