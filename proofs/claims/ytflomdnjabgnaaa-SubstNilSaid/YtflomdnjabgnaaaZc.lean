/-
  The law SubstNil, walked over its known terms. (Written by gen_zc.py.)
-/
import Derived.Test.YtflomdnjabgnaaaZa
import Derived.Test.YtflomdnjabgnaaaUa0
import Derived.Test.YtflomdnjabgnaaaTw
import Derived.Test.YtflomdnjabgnaaaTr
namespace Go.Proofs.Ytflomdnjabgnaaa
open Go.RowKit

/-- a clone of a term -/
def WkOf (k : Int) (s : ByteArray) (n : Int) (ts : Ts) (v : Value) (w : World) : Prop := ∃ us q d, v = tv k s n q us.len d ∧ Ts.At w q us ∧ Ts.twin us ts ∧ us.ok ∧ (us.len ≤ d ∧ d ≤ 9223372036854775807)

theorem WkOf.below {k : Int} {s : ByteArray} {n : Int} {ts : Ts} {v : Value} {w w' : World} (h : WkOf k s n ts v w) (hB : Below w.heap.size w w') : WkOf k s n ts v w' := by
  obtain ⟨us, q, d, h1, h2, h3⟩ := h
  exact ⟨us, q, d, h1, h2.below hB, h3⟩

set_option maxRecDepth 100000 in
set_option maxHeartbeats 20000000 in
theorem substNil_of (hwk : ∀ w : World, Calls Try.prog 16 #[] w fun e w' => e = .returned (.bool true) ∧ Below w.heap.size w w') (w : World) (k : Int) (s : ByteArray) (n : Int) (p : Option Addr) (c : Nat) (ts : Ts) (v : Int)
    (hok : Ts.ok (.cons k s n p c ts .nil)) (hat : Ts.At w p ts) (_hv : -9223372036854775808 ≤ v ∧ v ≤ 9223372036854775807) :
    Calls Try.prog 3 #[tv k s n p ts.len c, .int .i64 v] w fun e w' => e = .returned (.bool true) ∧ Below w.heap.size w w' := by
  unfold tv
  have WK := Lib.hid hwk
  have OK := Lib.hid hok
  have AT := Lib.hid hat
  have hlt : ts.len ≤ 9223372036854775807 := by have h1 : ts.len ≤ c ∧ c ≤ 9223372036854775807 := hok.2.2.2.1; omega
  clear hok hat hwk _hv
  go_enter Try.func3, Try.ntmps3
  go_wp2_with fail
  obtain ⟨W0, hW0, hs0, hA0, hTa⟩ := box1 w #[Value.int IntKind.u8 k, Value.string s, Value.int IntKind.i64 n, Value.slice p ts.len c] 24
  rw [← hW0]
  have Z0 := Lib.hid hW0
  clear hW0
  have TA : TT w w.heap.size k s n p c ts W0 := ⟨hA0, by omega, hTa 0 _ rfl, hTa 1 _ rfl, hTa 2 _ rfl, hTa 3 _ rfl, AT.out.below hA0⟩
  obtain ⟨W1, hW1, hs1, hA1, hc1⟩ := box1 W0 #[Value.int IntKind.u8 k, Value.string s, Value.int IntKind.i64 n, Value.slice p ts.len c] 24
  rw [← hW1]
  have Z1 := Lib.hid hW1
  clear hW1 hTa hA0
  replace TA := TA.below hA1
  rw [← hs0]
  have L1 := Lib.hid (lies_one rfl hc1 TA.tat)
  by_cases hg : decide (1000 < manyP (.cons k s n p c ts .nil) 0) = true
  · refine (great_is (.cons k s n p c ts .nil) OK.out true hg W1 _ 1 L1.out (by simp [Ts.len])).mono ?_
    rintro e w2 ⟨rfl, hB⟩
    replace TA := TA.below hB
    clear hg hB hc1 hA1
    go_wp2_with fail
    refine (WK.out _).mono ?_
    rintro e w9 ⟨rfl, hB⟩
    replace TA := TA.below hB
    go_wp2
    go_ret
    exact ⟨rfl, TA.B⟩
  rw [Bool.not_eq_true] at hg
  have hsz0 := small_of_many hg
  have hsz : ts.size ≤ 999 := by simp only [Ts.size] at hsz0; omega
  refine (great_is (.cons k s n p c ts .nil) OK.out false hg W1 _ 1 L1.out (by simp [Ts.len])).mono ?_
  rintro e w2 ⟨rfl, hB⟩
  replace TA := TA.below hB
  clear hg hB hc1 hA1 L1 hsz0
  have k0 := TA.c0
  have k1 := TA.c1
  have k2 := TA.c2
  have k3 := TA.c3
  go_wp2_with fail
  refine (occursNil_any v k s n p ts.len c w2).mono ?_
  rintro e w3 ⟨rfl, hB⟩
  replace TA := TA.below hB
  clear hB k0 k1 k2 k3
  have k0 := TA.c0
  have k1 := TA.c1
  have k2 := TA.c2
  have k3 := TA.c3
  go_wp2_with fail
  refine (applyNil_any k s n p ts.len c w3).mono ?_
  rintro e w4 ⟨rfl, hB⟩
  replace TA := TA.below hB
  unfold tv
  clear hB k0 k1 k2 k3
  go_wp2_with fail
  obtain ⟨W5, hW5, hs5, hA5, -⟩ := box1 w4 #[Value.int IntKind.u8 0, Value.string ⟨#[]⟩, Value.int IntKind.i64 0, Value.slice none 0 0] 24
  rw [← hW5]
  have Z5 := Lib.hid hW5
  replace TA := TA.below hA5
  clear hW5 hA5
  refine region_by_facts (fun W => TT w w.heap.size k s n p c ts W)
    [fun u _ => u = .pointer none, fun u _ => u = .pointer none, fun u _ => u = .bool true, fun u _ => u = .bool true, fun u _ => u = .pointer none, fun u _ => u = .int .i64 0, fun u _ => u = .bool true, fun u _ => u = .bool true, fun u _ => u = .bool true, fun u _ => u = .pointer none, fun u _ => u = tv k s n p ts.len c, WkOf k s n ts, fun u _ => u = tv k s n p ts.len c, fun u _ => u = .bool true, fun u _ => u = .bool true, fun u _ => u = .bool true, fun u _ => u = .int .i64 2, fun u _ => u = .bool true, fun u _ => u = .bool true, fun u _ => u = .bool true, fun u _ => u = .int .i64 2, fun u _ => u = .bool true, fun u _ => u = .bool true, fun u _ => u = .bool true, fun u _ => u = .pointer none, fun u _ => u = .int .i64 v, fun u _ => u = tv k s n p ts.len c, fun u _ => u = .int .i64 2, fun u _ => u = .bool true, fun u _ => u = .bool true, fun u _ => u = .bool true, fun u _ => u = .bool true, fun u _ => u = .bool true, fun u _ => u = .bool true]
    ⟨.eq _, .eq _, .eq _, .eq _, .eq _, .eq _, .eq _, .eq _, .eq _, .eq _, .eq _, fun _ _ _ h => h.below, .eq _, .eq _, .eq _, .eq _, .eq _, .eq _, .eq _, .eq _, .eq _, .eq _, .eq _, .eq _, .eq _, .eq _, .eq _, .eq _, .eq _, .eq _, .eq _, .eq _, .eq _, .eq _, trivial⟩
    (by kernel_rfl) (by kernel_rfl) (by kernel_rfl) ?h0 ?steps ?done
  case h0 => exact TA.drewN 1
  case steps =>
    refine ⟨?_, ?_, ?_, ?_, ?_, ?_, ?_, ?_, ?_, ?_, ?_, ?_, ?_, ?_, ?_, ?_, ?_, ?_, ?_, ?_, ?_, ?_, ?_, ?_, ?_, ?_, ?_, ?_, ?_, ?_, ?_, ?_, ?_, ?_, trivial⟩
    · intro f W hI hd K hK
      simp only [frameOf, Act.put, List.setIfInBounds_toArray, List.set_cons_zero, List.set_cons_succ]
      go_simp
      refine hK.out (.pointer none) _ W ?_ hI (Below.refl _ _) rfl
      simp only [frameOf, Act.put, List.setIfInBounds_toArray, List.set_cons_zero, List.set_cons_succ]
    · intro f W hI hd K hK
      simp only [frameOf, Act.put, List.setIfInBounds_toArray, List.set_cons_zero, List.set_cons_succ]
      have h0 : f 0 = .pointer none := hd 0 (by kernel_rfl)
      rw [h0]
      go_simp
      refine (cloneNil_any W).mono ?_
      rintro e w' ⟨rfl, rfl⟩
      refine hK.out (.pointer none) _ _ ?_ hI (Below.refl _ _) rfl
      simp only [frameOf, Act.put, List.setIfInBounds_toArray, List.set_cons_zero, List.set_cons_succ, Nat.zero_add, Nat.reduceAdd, h0]
    · intro f W hI hd K hK
      simp only [frameOf, Act.put, List.setIfInBounds_toArray, List.set_cons_zero, List.set_cons_succ]
      have h1 : f 1 = .pointer none := hd 1 (by kernel_rfl)
      rw [h1]
      go_simp
      refine hK.out (.bool true) _ W ?_ hI (Below.refl _ _) rfl
      simp only [frameOf, Act.put, List.setIfInBounds_toArray, List.set_cons_zero, List.set_cons_succ, Nat.zero_add, Nat.reduceAdd, h1]
    · intro f W hI hd K hK
      simp only [frameOf, Act.put, List.setIfInBounds_toArray, List.set_cons_zero, List.set_cons_succ]
      have h2 : f 2 = .bool true := hd 2 (by kernel_rfl)
      rw [h2]
      go_simp
      refine hK.out (.bool true) _ W ?_ hI (Below.refl _ _) rfl
      simp only [frameOf, Act.put, List.setIfInBounds_toArray, List.set_cons_zero, List.set_cons_succ, Nat.zero_add, Nat.reduceAdd, h2]
    · intro f W hI hd K hK
      simp only [frameOf, Act.put, List.setIfInBounds_toArray, List.set_cons_zero, List.set_cons_succ]
      have h3 : f 3 = .bool true := hd 3 (by kernel_rfl)
      rw [h3]
      go_simp
      refine hK.out (.pointer none) _ W ?_ hI (Below.refl _ _) rfl
      simp only [frameOf, Act.put, List.setIfInBounds_toArray, List.set_cons_zero, List.set_cons_succ, Nat.zero_add, Nat.reduceAdd, h3]
    · intro f W hI hd K hK
      simp only [frameOf, Act.put, List.setIfInBounds_toArray, List.set_cons_zero, List.set_cons_succ]
      have h3 : f 3 = .bool true := hd 3 (by kernel_rfl)
      have h4 : f 4 = .pointer none := hd 4 (by kernel_rfl)
      rw [h3, h4]
      go_simp
      refine (lenNil_any W).mono ?_
      rintro e w' ⟨rfl, rfl⟩
      refine hK.out (.int .i64 0) _ _ ?_ hI (Below.refl _ _) rfl
      simp only [frameOf, Act.put, List.setIfInBounds_toArray, List.set_cons_zero, List.set_cons_succ, Nat.zero_add, Nat.reduceAdd, h3, h4]
    · intro f W hI hd K hK
      simp only [frameOf, Act.put, List.setIfInBounds_toArray, List.set_cons_zero, List.set_cons_succ]
      have h3 : f 3 = .bool true := hd 3 (by kernel_rfl)
      have h5 : f 5 = .int .i64 0 := hd 5 (by kernel_rfl)
      rw [h3, h5]
      go_simp
      refine hK.out (.bool true) _ W ?_ hI (Below.refl _ _) rfl
      simp only [frameOf, Act.put, List.setIfInBounds_toArray, List.set_cons_zero, List.set_cons_succ, Nat.zero_add, Nat.reduceAdd, h3, h5]
    · intro f W hI hd K hK
      simp only [frameOf, Act.put, List.setIfInBounds_toArray, List.set_cons_zero, List.set_cons_succ]
      have h3 : f 3 = .bool true := hd 3 (by kernel_rfl)
      have h6 : f 6 = .bool true := hd 6 (by kernel_rfl)
      rw [h3, h6]
      go_simp
      refine hK.out (.bool true) _ W ?_ hI (Below.refl _ _) rfl
      simp only [frameOf, Act.put, List.setIfInBounds_toArray, List.set_cons_zero, List.set_cons_succ, Nat.zero_add, Nat.reduceAdd, h3, h6]
    · intro f W hI hd K hK
      simp only [frameOf, Act.put, List.setIfInBounds_toArray, List.set_cons_zero, List.set_cons_succ]
      have h7 : f 7 = .bool true := hd 7 (by kernel_rfl)
      rw [h7]
      go_simp
      refine hK.out (.bool true) _ W ?_ hI (Below.refl _ _) rfl
      simp only [frameOf, Act.put, List.setIfInBounds_toArray, List.set_cons_zero, List.set_cons_succ, Nat.zero_add, Nat.reduceAdd, h7]
    · intro f W hI hd K hK
      simp only [frameOf, Act.put, List.setIfInBounds_toArray, List.set_cons_zero, List.set_cons_succ]
      have h8 : f 8 = .bool true := hd 8 (by kernel_rfl)
      rw [h8]
      go_simp
      refine hK.out (.pointer none) _ W ?_ hI (Below.refl _ _) rfl
      simp only [frameOf, Act.put, List.setIfInBounds_toArray, List.set_cons_zero, List.set_cons_succ, Nat.zero_add, Nat.reduceAdd, h8]
    · intro f W hI hd K hK
      simp only [frameOf, Act.put, List.setIfInBounds_toArray, List.set_cons_zero, List.set_cons_succ]
      have h8 : f 8 = .bool true := hd 8 (by kernel_rfl)
      have k0 := hI.c0
      have k1 := hI.c1
      have k2 := hI.c2
      have k3 := hI.c3
      rw [h8]
      go_simp
      refine hK.out (tv k s n p ts.len c) _ W ?_ hI (Below.refl _ _) rfl
      simp only [tv, frameOf, Act.put, List.setIfInBounds_toArray, List.set_cons_zero, List.set_cons_succ, Nat.zero_add, Nat.reduceAdd, h8]
    · intro f W hI hd K hK
      simp only [frameOf, Act.put, List.setIfInBounds_toArray, List.set_cons_zero, List.set_cons_succ]
      have h8 : f 8 = .bool true := hd 8 (by kernel_rfl)
      have h9 : f 9 = .pointer none := hd 9 (by kernel_rfl)
      have h10 : f 10 = tv k s n p ts.len c := hd 10 (by kernel_rfl)
      unfold tv at h10
      rw [h8, h9, h10]
      go_simp
      refine (walkNil_any ts (by omega) OK.out.2.2.2.2.2.1 k s n W p c hI.tat).mono ?_
      rintro e w' ⟨us, p', c', rfl, hat, htw, hok, hcl, hB⟩
      refine hK.out (tv k s n p' us.len c') _ _ ?_ (hI.below hB) hB ⟨us, p', c', rfl, hat, htw, hok, hcl⟩
      simp only [frameOf, Act.put, List.setIfInBounds_toArray, List.set_cons_zero, List.set_cons_succ, Nat.zero_add, Nat.reduceAdd, h8, h9, h10]
    · intro f W hI hd K hK
      simp only [frameOf, Act.put, List.setIfInBounds_toArray, List.set_cons_zero, List.set_cons_succ]
      have h8 : f 8 = .bool true := hd 8 (by kernel_rfl)
      have k0 := hI.c0
      have k1 := hI.c1
      have k2 := hI.c2
      have k3 := hI.c3
      rw [h8]
      go_simp
      refine hK.out (tv k s n p ts.len c) _ W ?_ hI (Below.refl _ _) rfl
      simp only [tv, frameOf, Act.put, List.setIfInBounds_toArray, List.set_cons_zero, List.set_cons_succ, Nat.zero_add, Nat.reduceAdd, h8]
    · intro f W hI hd K hK
      simp only [frameOf, Act.put, List.setIfInBounds_toArray, List.set_cons_zero, List.set_cons_succ]
      have h8 : f 8 = .bool true := hd 8 (by kernel_rfl)
      obtain ⟨u11, q11, d11, e11, a11, t11, o11, l11⟩ : WkOf k s n ts (f 11) W := hd 11 (by kernel_rfl)
      unfold tv at e11
      have h12 : f 12 = tv k s n p ts.len c := hd 12 (by kernel_rfl)
      unfold tv at h12
      rw [h8, e11, h12]
      go_simp
      have hal : (headAlike k k s s n n && alike u11 ts) = true := by rw [Ts.twin_alike _ _ _ t11, alike_refl]; simp [headAlike]
      refine (same_of u11 ts (fun w p p' c c' h h' => all_any _ u11 ts (Nat.lt_succ_self _) o11 OK.out.2.2.2.2.2.1 (by omega) hlt w p p' c c' h h') k k s s n n q11 p d11 c W a11 hI.tat).mono ?_
      rintro e w' ⟨rfl, hB⟩
      rw [hal]
      refine hK.out (.bool true) _ _ ?_ (hI.below hB) hB rfl
      simp only [frameOf, Act.put, List.setIfInBounds_toArray, List.set_cons_zero, List.set_cons_succ, Nat.zero_add, Nat.reduceAdd, h8, e11, h12]
    · intro f W hI hd K hK
      simp only [frameOf, Act.put, List.setIfInBounds_toArray, List.set_cons_zero, List.set_cons_succ]
      have h8 : f 8 = .bool true := hd 8 (by kernel_rfl)
      have h13 : f 13 = .bool true := hd 13 (by kernel_rfl)
      rw [h8, h13]
      go_simp
      refine hK.out (.bool true) _ W ?_ hI (Below.refl _ _) rfl
      simp only [frameOf, Act.put, List.setIfInBounds_toArray, List.set_cons_zero, List.set_cons_succ, Nat.zero_add, Nat.reduceAdd, h8, h13]
    · intro f W hI hd K hK
      simp only [frameOf, Act.put, List.setIfInBounds_toArray, List.set_cons_zero, List.set_cons_succ]
      have h14 : f 14 = .bool true := hd 14 (by kernel_rfl)
      rw [h14]
      go_simp
      refine hK.out (.bool true) _ W ?_ hI (Below.refl _ _) rfl
      simp only [frameOf, Act.put, List.setIfInBounds_toArray, List.set_cons_zero, List.set_cons_succ, Nat.zero_add, Nat.reduceAdd, h14]
    · intro f W hI hd K hK
      simp only [frameOf, Act.put, List.setIfInBounds_toArray, List.set_cons_zero, List.set_cons_succ]
      have h15 : f 15 = .bool true := hd 15 (by kernel_rfl)
      rw [h15]
      go_simp
      refine hK.out (.int .i64 2) _ W ?_ hI (Below.refl _ _) rfl
      simp only [frameOf, Act.put, List.setIfInBounds_toArray, List.set_cons_zero, List.set_cons_succ, Nat.zero_add, Nat.reduceAdd, h15]
    · intro f W hI hd K hK
      simp only [frameOf, Act.put, List.setIfInBounds_toArray, List.set_cons_zero, List.set_cons_succ]
      have h15 : f 15 = .bool true := hd 15 (by kernel_rfl)
      have h16 : f 16 = .int .i64 2 := hd 16 (by kernel_rfl)
      rw [h15, h16]
      go_simp
      refine hK.out (.bool true) _ W ?_ hI (Below.refl _ _) rfl
      simp only [frameOf, Act.put, List.setIfInBounds_toArray, List.set_cons_zero, List.set_cons_succ, Nat.zero_add, Nat.reduceAdd, h15, h16]
    · intro f W hI hd K hK
      simp only [frameOf, Act.put, List.setIfInBounds_toArray, List.set_cons_zero, List.set_cons_succ]
      have h15 : f 15 = .bool true := hd 15 (by kernel_rfl)
      have h17 : f 17 = .bool true := hd 17 (by kernel_rfl)
      rw [h15, h17]
      go_simp
      refine hK.out (.bool true) _ W ?_ hI (Below.refl _ _) rfl
      simp only [frameOf, Act.put, List.setIfInBounds_toArray, List.set_cons_zero, List.set_cons_succ, Nat.zero_add, Nat.reduceAdd, h15, h17]
    · intro f W hI hd K hK
      simp only [frameOf, Act.put, List.setIfInBounds_toArray, List.set_cons_zero, List.set_cons_succ]
      have h18 : f 18 = .bool true := hd 18 (by kernel_rfl)
      rw [h18]
      go_simp
      refine hK.out (.bool true) _ W ?_ hI (Below.refl _ _) rfl
      simp only [frameOf, Act.put, List.setIfInBounds_toArray, List.set_cons_zero, List.set_cons_succ, Nat.zero_add, Nat.reduceAdd, h18]
    · intro f W hI hd K hK
      simp only [frameOf, Act.put, List.setIfInBounds_toArray, List.set_cons_zero, List.set_cons_succ]
      have h19 : f 19 = .bool true := hd 19 (by kernel_rfl)
      rw [h19]
      go_simp
      refine hK.out (.int .i64 2) _ W ?_ hI (Below.refl _ _) rfl
      simp only [frameOf, Act.put, List.setIfInBounds_toArray, List.set_cons_zero, List.set_cons_succ, Nat.zero_add, Nat.reduceAdd, h19]
    · intro f W hI hd K hK
      simp only [frameOf, Act.put, List.setIfInBounds_toArray, List.set_cons_zero, List.set_cons_succ]
      have h19 : f 19 = .bool true := hd 19 (by kernel_rfl)
      have h20 : f 20 = .int .i64 2 := hd 20 (by kernel_rfl)
      rw [h19, h20]
      go_simp
      refine hK.out (.bool true) _ W ?_ hI (Below.refl _ _) rfl
      simp only [frameOf, Act.put, List.setIfInBounds_toArray, List.set_cons_zero, List.set_cons_succ, Nat.zero_add, Nat.reduceAdd, h19, h20]
    · intro f W hI hd K hK
      simp only [frameOf, Act.put, List.setIfInBounds_toArray, List.set_cons_zero, List.set_cons_succ]
      have h19 : f 19 = .bool true := hd 19 (by kernel_rfl)
      have h21 : f 21 = .bool true := hd 21 (by kernel_rfl)
      rw [h19, h21]
      go_simp
      refine hK.out (.bool true) _ W ?_ hI (Below.refl _ _) rfl
      simp only [frameOf, Act.put, List.setIfInBounds_toArray, List.set_cons_zero, List.set_cons_succ, Nat.zero_add, Nat.reduceAdd, h19, h21]
    · intro f W hI hd K hK
      simp only [frameOf, Act.put, List.setIfInBounds_toArray, List.set_cons_zero, List.set_cons_succ]
      have h22 : f 22 = .bool true := hd 22 (by kernel_rfl)
      rw [h22]
      go_simp
      refine hK.out (.bool true) _ W ?_ hI (Below.refl _ _) rfl
      simp only [frameOf, Act.put, List.setIfInBounds_toArray, List.set_cons_zero, List.set_cons_succ, Nat.zero_add, Nat.reduceAdd, h22]
    · intro f W hI hd K hK
      simp only [frameOf, Act.put, List.setIfInBounds_toArray, List.set_cons_zero, List.set_cons_succ]
      have h23 : f 23 = .bool true := hd 23 (by kernel_rfl)
      rw [h23]
      go_simp
      refine hK.out (.pointer none) _ W ?_ hI (Below.refl _ _) rfl
      simp only [frameOf, Act.put, List.setIfInBounds_toArray, List.set_cons_zero, List.set_cons_succ, Nat.zero_add, Nat.reduceAdd, h23]
    · intro f W hI hd K hK
      simp only [frameOf, Act.put, List.setIfInBounds_toArray, List.set_cons_zero, List.set_cons_succ]
      have h23 : f 23 = .bool true := hd 23 (by kernel_rfl)
      rw [h23]
      go_simp
      refine hK.out (.int .i64 v) _ W ?_ hI (Below.refl _ _) rfl
      simp only [frameOf, Act.put, List.setIfInBounds_toArray, List.set_cons_zero, List.set_cons_succ, Nat.zero_add, Nat.reduceAdd, h23]
    · intro f W hI hd K hK
      simp only [frameOf, Act.put, List.setIfInBounds_toArray, List.set_cons_zero, List.set_cons_succ]
      have h23 : f 23 = .bool true := hd 23 (by kernel_rfl)
      have k0 := hI.c0
      have k1 := hI.c1
      have k2 := hI.c2
      have k3 := hI.c3
      rw [h23]
      go_simp
      refine hK.out (tv k s n p ts.len c) _ W ?_ hI (Below.refl _ _) rfl
      simp only [tv, frameOf, Act.put, List.setIfInBounds_toArray, List.set_cons_zero, List.set_cons_succ, Nat.zero_add, Nat.reduceAdd, h23]
    · intro f W hI hd K hK
      simp only [frameOf, Act.put, List.setIfInBounds_toArray, List.set_cons_zero, List.set_cons_succ]
      have h23 : f 23 = .bool true := hd 23 (by kernel_rfl)
      have h24 : f 24 = .pointer none := hd 24 (by kernel_rfl)
      have h25 : f 25 = .int .i64 v := hd 25 (by kernel_rfl)
      have h26 : f 26 = tv k s n p ts.len c := hd 26 (by kernel_rfl)
      unfold tv at h26
      rw [h23, h24, h25, h26]
      go_simp
      refine (bindNil_any v k s n p ts.len c W).mono ?_
      rintro e w' ⟨rfl, hB⟩
      refine hK.out (.int .i64 2) _ _ ?_ (hI.below hB) hB rfl
      simp only [frameOf, Act.put, List.setIfInBounds_toArray, List.set_cons_zero, List.set_cons_succ, Nat.zero_add, Nat.reduceAdd, h23, h24, h25, h26]
    · intro f W hI hd K hK
      simp only [frameOf, Act.put, List.setIfInBounds_toArray, List.set_cons_zero, List.set_cons_succ]
      have h23 : f 23 = .bool true := hd 23 (by kernel_rfl)
      have h27 : f 27 = .int .i64 2 := hd 27 (by kernel_rfl)
      rw [h23, h27]
      go_simp
      refine hK.out (.bool true) _ W ?_ hI (Below.refl _ _) rfl
      simp only [frameOf, Act.put, List.setIfInBounds_toArray, List.set_cons_zero, List.set_cons_succ, Nat.zero_add, Nat.reduceAdd, h23, h27]
    · intro f W hI hd K hK
      simp only [frameOf, Act.put, List.setIfInBounds_toArray, List.set_cons_zero, List.set_cons_succ]
      have h23 : f 23 = .bool true := hd 23 (by kernel_rfl)
      have h28 : f 28 = .bool true := hd 28 (by kernel_rfl)
      rw [h23, h28]
      go_simp
      refine hK.out (.bool true) _ W ?_ hI (Below.refl _ _) rfl
      simp only [frameOf, Act.put, List.setIfInBounds_toArray, List.set_cons_zero, List.set_cons_succ, Nat.zero_add, Nat.reduceAdd, h23, h28]
    · intro f W hI hd K hK
      simp only [frameOf, Act.put, List.setIfInBounds_toArray, List.set_cons_zero, List.set_cons_succ]
      have h29 : f 29 = .bool true := hd 29 (by kernel_rfl)
      rw [h29]
      go_simp
      refine hK.out (.bool true) _ W ?_ hI (Below.refl _ _) rfl
      simp only [frameOf, Act.put, List.setIfInBounds_toArray, List.set_cons_zero, List.set_cons_succ, Nat.zero_add, Nat.reduceAdd, h29]
    · intro f W hI hd K hK
      simp only [frameOf, Act.put, List.setIfInBounds_toArray, List.set_cons_zero, List.set_cons_succ]
      have h30 : f 30 = .bool true := hd 30 (by kernel_rfl)
      rw [h30]
      go_simp
      refine (WK.out W).mono ?_
      rintro e w' ⟨rfl, hB⟩
      refine hK.out (.bool true) _ _ ?_ (hI.below hB) hB rfl
      simp only [frameOf, Act.put, List.setIfInBounds_toArray, List.set_cons_zero, List.set_cons_succ, Nat.zero_add, Nat.reduceAdd, h30]
    · intro f W hI hd K hK
      simp only [frameOf, Act.put, List.setIfInBounds_toArray, List.set_cons_zero, List.set_cons_succ]
      have h30 : f 30 = .bool true := hd 30 (by kernel_rfl)
      have h31 : f 31 = .bool true := hd 31 (by kernel_rfl)
      rw [h30, h31]
      go_simp
      refine hK.out (.bool true) _ W ?_ hI (Below.refl _ _) rfl
      simp only [frameOf, Act.put, List.setIfInBounds_toArray, List.set_cons_zero, List.set_cons_succ, Nat.zero_add, Nat.reduceAdd, h30, h31]
    · intro f W hI hd K hK
      simp only [frameOf, Act.put, List.setIfInBounds_toArray, List.set_cons_zero, List.set_cons_succ]
      have h32 : f 32 = .bool true := hd 32 (by kernel_rfl)
      rw [h32]
      go_simp
      refine hK.out (.bool true) _ W ?_ hI (Below.refl _ _) rfl
      simp only [frameOf, Act.put, List.setIfInBounds_toArray, List.set_cons_zero, List.set_cons_succ, Nat.zero_add, Nat.reduceAdd, h32]
  case done =>
    intro f W hI hF
    have h33 : f 33 = .bool true := hF 33 (by decide)
    simp only [frameOf, Act.put, List.setIfInBounds_toArray, List.set_cons_zero, List.set_cons_succ]
    rw [h33]
    clear hF h33 TA
    have BB := Lib.hid hI.B
    clear hI
    go_wp2
    go_ret
    exact ⟨rfl, BB.out⟩

end Go.Proofs.Ytflomdnjabgnaaa
