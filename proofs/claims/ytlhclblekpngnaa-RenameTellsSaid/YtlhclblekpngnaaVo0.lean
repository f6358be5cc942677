/-
  Plain facts for the law RenameShifts.
-/
import Derived.Test.YtlhclblekpngnaaVn
import Derived.Test.YtlhclblekpngnaaUa
namespace Go.Proofs.Ytlhclblekpngnaa
open Go.RowKit

theorem twin_one {us : Ts} {k : Int} {s : ByteArray} {n : Int} {p : Option Addr} {c : Nat} {ts : Ts} (h : Ts.twin us (.cons k s n p c ts .nil)) : ∃ q d u, us = .cons k s n q d u .nil ∧ Ts.twin u ts := by
  cases us with
  | nil => exact h.elim
  | cons k' s' n' q d u r =>
    cases r with
    | nil =>
      obtain ⟨rfl, rfl, rfl, h1, _⟩ := h
      exact ⟨q, d, u, rfl, h1⟩
    | cons => exact h.2.2.2.2.elim

theorem shN_eq (a k n : Int) : (if (k == 1) = true then stepS a () n else (n, ())).1 = shN a k n := by
  unfold shN stepS
  split <;> rfl

theorem shs_x {a k : Int} {s : ByteArray} {n : Int} {p : Option Addr} {c : Nat} {ts : Ts} {q : Option Addr} {d : Nat} {us : Ts} (h : Ts.twin us (renT (stepS a) ts ()).1) :
    Ts.twin (.cons k s (shN a k n) q d us .nil) (renT (stepS a) (.cons k s n p c ts .nil) ()).1 := by
  simp only [renT]
  exact ⟨rfl, rfl, (shN_eq a k n).symm, h, trivial⟩

theorem shs_shN {M : Int} (hM : M ≤ 1099511627776) {a b : Int} (ha : 0 ≤ a ∧ a ≤ 1099511627776) (hb : 0 ≤ b ∧ b ≤ 1099511627776) {k n : Int} {s : ByteArray} {p : Option Addr} {c : Nat} {ts : Ts} (h : numsIn M (.cons k s n p c ts .nil)) : shN b k (shN a k n) = shN (a + b) k n := by
  unfold shN
  split
  · rename_i hk
    have := h.1 hk
    rw [wrap64_in (x := n + a) (by omega), wrap64_in (by omega), wrap64_in (by omega)]
    omega
  · rfl

theorem shs_alike {M : Int} (hM : M ≤ 1099511627776) {a b : Int} (ha : 0 ≤ a ∧ a ≤ 1099511627776) (hb : 0 ≤ b ∧ b ≤ 1099511627776) {k n : Int} {s : ByteArray} {p : Option Addr} {c : Nat} {ts u v x : Ts}
    (h : numsIn M (.cons k s n p c ts .nil)) (hx : Ts.twin x (renT (stepS a) ts ()).1) (hu : Ts.twin u (renT (stepS b) x ()).1) (hv : Ts.twin v (renT (stepS (a + b)) ts ()).1) :
    (headAlike k k s s (shN b k (shN a k n)) (shN (a + b) k n) && alike u v) = true := by
  rw [shs_shN hM ha hb h, renT_twin _ hx, shift_shift hM a b ha hb h.2.1] at *
  rw [twin_alike_both hu hv, alike_refl]
  simp [headAlike]

theorem shs_canon {ts us : Ts} (h : Ts.twin us (renT stepC ts []).1) : cntL us = (numsOf ((nodesOf ts).map Ts.mark)).length := by
  rw [cntL_twin h]
  have h1 := canon_cnt ts []
  rw [canon_state] at h1
  simpa [numsOf] using h1

theorem shs_count {M : Int} (hM : M ≤ 1099511627776) {a : Int} (ha : 0 ≤ a ∧ a ≤ 1099511627776) {ts us : Ts} (h : numsIn M ts) (hx : Ts.twin us (renT (stepS a) ts ()).1) :
    ((numsOf ((nodesOf ts).map Ts.mark)).length = 0 → cntL us = 0) ∧ ((numsOf ((nodesOf ts).map Ts.mark)).length ≠ 0 → cntL us = cntL ts + a.toNat) := by
  rw [cntL_twin hx]
  have h1 := shift_cnt hM a ha h
  refine ⟨fun hz => (h1.1 ?_).1, fun hz => h1.2 ?_⟩
  · rw [noVar_marks, numsOf_nil]; simp [List.length_eq_zero_iff.1 hz]
  · rw [noVar_marks, numsOf_nil]
    simp only [beq_eq_false_iff_ne, ne_eq]
    first | exact hz | (intro h; apply hz; simp [h])

theorem wrap_i64 (x : Int) : IntKind.i64.wrap x = wrap64 x := by
  have h1 : (IntKind.i64.wrap x) = (let m := x % (2 ^ 64 : Int); if true && decide (m ≥ (2 ^ 63 : Int)) then m - (2 ^ 64 : Int) else m) := rfl
  rw [h1]
  unfold wrap64
  simp only [Bool.true_and, decide_eq_true_eq]
  split <;> omega

theorem cntL_in {M : Int} (hM : 0 ≤ M) : ∀ {ts : Ts}, numsIn M ts → ((cntL ts : Nat) : Int) ≤ M + 1
  | .nil, _ => by simp only [cntL]; omega
  | .cons k s n p c kids rest, h => by
    have h1 := cntL_in hM h.2.1
    have h2 := cntL_in hM h.2.2
    have h3 := h.1
    simp only [cntL]
    split
    · rename_i hk
      have := h3 hk
      omega
    · omega

theorem one_el {kc nc : Int} {sc : ByteArray} {pc : Option Addr} {cc : Nat} {uc : Ts} {w : World} {q : Option Addr} (h : Ts.At w q (.cons kc sc nc pc cc uc .nil)) : ∃ b o, q = some ⟨b, o, none⟩ ∧ El b o kc sc nc pc cc uc w := by
  obtain ⟨b, o, h1, h2, h3, h4, h5, h6, h7⟩ := h
  rcases h1 with h1 | h1
  · cases h1
  · exact ⟨b, o, h1, World.block_lt_of_cell? _ _ h2, h2, h3, h4, h5, h6⟩

end Go.Proofs.Ytlhclblekpngnaa
