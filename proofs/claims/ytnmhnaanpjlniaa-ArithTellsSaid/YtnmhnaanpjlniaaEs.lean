import Derived.Test.YtnmhnaanpjlniaaEo
import Derived.Test.YtnmhnaanpjlniaaEq
import Derived.Test.YtnmhnaanpjlniaaCj
/-
  Layer 13: the document's operations: quotient, rest, mod. (Written by gen_es.py.)
-/
namespace Go.Proofs.Ytnmhnaanpjlniaa
open Go.RowKit

set_option maxRecDepth 100000 in
set_option maxHeartbeats 4000000 in
theorem tog_quot (a b : Int) (ha : isI64 a) (hb : isI64 b) (w : World) : Calls Try.prog 58 #[.string ⟨#[47, 47]⟩, .int .i64 a, .int .i64 b] w fun e w' => e = .returned (ansR (quotR a b)) ∧ Below w.heap.size w w' := by
  have HA := Lib.hid ha
  have HB := Lib.hid hb
  have hA := nat_bd ha
  have hB := nat_bd hb
  clear ha hb
  have BW := Lib.hid (Below.refl w.heap.size w)
  go_enter Try.func58, Try.ntmps58
  go_wp2_with fail
  refine (of13_any a HA.out _).mono ?_
  rintro e w1 ⟨rfl, hI⟩
  replace BW := Lib.hid (BW.out.trans (hI.mono BW.out.size))
  clear hI
  go_wp2_with fail
  refine (of13_any b HB.out _).mono ?_
  rintro e w2 ⟨rfl, hI⟩
  replace BW := Lib.hid (BW.out.trans (hI.mono BW.out.size))
  clear hI
  unfold numV
  obtain ⟨p, hp⟩ : ∃ p, p = decide (a < 0) := ⟨_, rfl⟩
  obtain ⟨q, hq⟩ : ∃ q, q = decide (b < 0) := ⟨_, rfl⟩
  obtain ⟨x, hx⟩ : ∃ x, x = a.natAbs := ⟨_, rfl⟩
  obtain ⟨y, hy⟩ : ∃ y, y = b.natAbs := ⟨_, rfl⟩
  rw [← hp, ← hq, ← hx, ← hy]
  rw [← hx] at hA
  rw [← hy] at hB
  have PE := Lib.hid hp
  have QE := Lib.hid hq
  have XE := Lib.hid hx
  have YE := Lib.hid hy
  clear hp hq hx hy
  by_cases h0 : (b == 0) = true
  · have hb0 : b = 0 := by simpa using h0
    have RE : Hid (quotR a b = (0, 23)) := Lib.hid (by unfold quotR; rw [if_pos hb0])
    clear hb0
    go_wp2
    go_ret2
    rw [RE.out]
    exact ⟨rfl, BW.out.trans ((below2 w2 _ _).mono BW.out.size)⟩
  · rw [Bool.not_eq_true] at h0
    have hy0 : ¬ ((y : Int) = 0) := by have := beq_eq_false_iff_ne.1 h0; have := YE.out; omega
    have hyn : ¬ y = 0 := by omega
    have hy1 : ((y : Int) == 0) = false := by simpa using hy0
    have hy2 : 0 < y := by omega
    have hb0 : b ≠ 0 := beq_eq_false_iff_ne.1 h0
    have HB0 := Lib.hid hb0
    have HB0' := HB
    clear hb0
    go_upto_region 12 with fail
    obtain ⟨W3, hW3⟩ : ∃ W3, W3 = ((w2.alloc (.cells #[.bool p, .int .u64 0, .int .u64 x] 117)).alloc (.cells #[.bool q, .int .u64 0, .int .u64 y] 117)) := ⟨_, rfl⟩
    rw [← hW3]
    have Hc0 : Hid (W3.cell? ⟨w2.heap.size, 0, none⟩ = some (.bool p)) := Lib.hid (by rw [hW3]; simp [go_sem])
    have Hc2 : Hid (W3.cell? ⟨w2.heap.size, 2, none⟩ = some (.int .u64 x)) := Lib.hid (by rw [hW3]; simp [go_sem])
    have Hd0 : Hid (W3.cell? ⟨w2.heap.size + 1, 0, none⟩ = some (.bool q)) := Lib.hid (by rw [hW3]; simp [go_sem])
    have Hd2 : Hid (W3.cell? ⟨w2.heap.size + 1, 2, none⟩ = some (.int .u64 y)) := Lib.hid (by rw [hW3]; simp [go_sem])
    have Hd1 : Hid (W3.cell? ⟨w2.heap.size + 1, 1, none⟩ = some (.int .u64 0)) := Lib.hid (by rw [hW3]; simp [go_sem])
    have HW23 : Hid (w2.heap.size ≤ W3.heap.size) := Lib.hid (by rw [hW3]; simp; omega)
    have hl8 : w2.heap.size < W3.heap.size := by rw [hW3]; simp; omega
    have hl9 : w2.heap.size + 1 < W3.heap.size := by rw [hW3]; simp
    have Hdq : Hid ((x : Int) / (y : Int) = ((x / y : Nat) : Int)) := Lib.hid (Int.natCast_ediv x y).symm
    have Hdw : Hid (IntKind.u64.wrap ((x : Int) / (y : Int)) = ((x / y : Nat) : Int)) := Lib.hid (by have h1 := Nat.div_le_self x y; rw [show (x : Int) / (y : Int) = ((x / y : Nat) : Int) from (Int.natCast_ediv x y).symm, Mul64.wrapN _ (by omega)])
    have Hdt : Hid ((x : Int).tmod (y : Int) = (x : Int) % (y : Int)) := Lib.hid (Int.tmod_eq_emod_of_nonneg (by omega))
    have Hdr : Hid ((x : Int) % (y : Int) = ((x % y : Nat) : Int)) := Lib.hid (Int.natCast_emod x y).symm
    replace BW := Lib.hid (BW.out.trans ((by rw [hW3]; exact below2 w2 _ _ : Below w2.heap.size w2 W3).mono BW.out.size))
    clear hW3
    refine region_by_inv (D2 W3 (valOf2 [.pointer (some ⟨w2.heap.size, 0, none⟩), .bool p, .pointer (some ⟨(w2.heap.size + 1), 0, none⟩), .bool q, .bool (!(p == q)), .pointer (some ⟨w2.heap.size, 2, none⟩), .int .u64 (x : Int), .pointer (some ⟨(w2.heap.size + 1), 2, none⟩), .int .u64 (y : Int), .int .u64 ((x : Int) / (y : Int)), .agg #[.bool (!(p == q)), .int .u64 0, .int .u64 ((x : Int) / (y : Int))], .pointer (some ⟨w2.heap.size, 0, none⟩), .bool p, .pointer (some ⟨w2.heap.size, 2, none⟩), .int .u64 (x : Int), .pointer (some ⟨(w2.heap.size + 1), 2, none⟩), .int .u64 (y : Int), .int .u64 ((x : Int) % (y : Int)), .agg #[.bool p, .int .u64 0, .int .u64 ((x : Int) % (y : Int))]]) #[.bool (!(p == q)), .int .u64 0, .int .u64 ((x : Int) / (y : Int))] #[.bool p, .int .u64 0, .int .u64 ((x : Int) % (y : Int))]) (by kernel_rfl) (by kernel_rfl) (by kernel_rfl) ?h0r ?stepsr ?doner
    case h0r => exact fun f => D2.start (Below.refl _ _).drew f
    case stepsr =>
      refine ⟨?_, ?_, ?_, ?_, ?_, ?_, ?_, ?_, ?_, ?_, ?_, ?_, ?_, ?_, ?_, ?_, ?_, ?_, ?_, ?_, ?_, ?_, ?_, trivial⟩
      · intro L f W hi hw hG K hK
        simp only [frameOf, Act.put, Nat.zero_add, Nat.reduceAdd, List.setIfInBounds_toArray, List.set_cons_zero, List.set_cons_succ]
        go_simp
        refine hK.out (.pointer (some ⟨w2.heap.size, 0, none⟩)) _ W ?_ (hG.pure (by omega) rfl)
        simp only [frameOf, Act.put, Nat.zero_add, Nat.reduceAdd, List.setIfInBounds_toArray, List.set_cons_zero, List.set_cons_succ]
      · intro L f W hi hw hG K hK
        simp only [frameOf, Act.put, Nat.zero_add, Nat.reduceAdd, List.setIfInBounds_toArray, List.set_cons_zero, List.set_cons_succ]
        have h0 : f 0 = .pointer (some ⟨w2.heap.size, 0, none⟩) := hG.v 0 (by omega) (hw 0 (by kernel_rfl))
        rw [h0]
        have c0 := ((stays hG.B).1 _ _ hl8).trans Hc0.out
        go_simp
        refine hK.out (.bool p) _ W ?_ (hG.pure (by omega) rfl)
        simp only [frameOf, Act.put, Nat.zero_add, Nat.reduceAdd, List.setIfInBounds_toArray, List.set_cons_zero, List.set_cons_succ, h0]
      · intro L f W hi hw hG K hK
        simp only [frameOf, Act.put, Nat.zero_add, Nat.reduceAdd, List.setIfInBounds_toArray, List.set_cons_zero, List.set_cons_succ]
        go_simp
        refine hK.out (.pointer (some ⟨(w2.heap.size + 1), 0, none⟩)) _ W ?_ (hG.pure (by omega) rfl)
        simp only [frameOf, Act.put, Nat.zero_add, Nat.reduceAdd, List.setIfInBounds_toArray, List.set_cons_zero, List.set_cons_succ]
      · intro L f W hi hw hG K hK
        simp only [frameOf, Act.put, Nat.zero_add, Nat.reduceAdd, List.setIfInBounds_toArray, List.set_cons_zero, List.set_cons_succ]
        have h2 : f 2 = .pointer (some ⟨(w2.heap.size + 1), 0, none⟩) := hG.v 2 (by omega) (hw 2 (by kernel_rfl))
        rw [h2]
        have d0 := ((stays hG.B).1 _ _ hl9).trans Hd0.out
        go_simp
        refine hK.out (.bool q) _ W ?_ (hG.pure (by omega) rfl)
        simp only [frameOf, Act.put, Nat.zero_add, Nat.reduceAdd, List.setIfInBounds_toArray, List.set_cons_zero, List.set_cons_succ, h2]
      · intro L f W hi hw hG K hK
        simp only [frameOf, Act.put, Nat.zero_add, Nat.reduceAdd, List.setIfInBounds_toArray, List.set_cons_zero, List.set_cons_succ]
        have h1 : f 1 = .bool p := hG.v 1 (by omega) (hw 1 (by kernel_rfl))
        have h3 : f 3 = .bool q := hG.v 3 (by omega) (hw 3 (by kernel_rfl))
        rw [h1, h3]
        go_simp
        refine hK.out (.bool (!(p == q))) _ W ?_ (hG.pure (by omega) rfl)
        simp only [frameOf, Act.put, Nat.zero_add, Nat.reduceAdd, List.setIfInBounds_toArray, List.set_cons_zero, List.set_cons_succ, h1, h3]
      · intro L f W hi hw hG K hK
        simp only [frameOf, Act.put, Nat.zero_add, Nat.reduceAdd, List.setIfInBounds_toArray, List.set_cons_zero, List.set_cons_succ]
        go_simp
        refine hK.out (.pointer (some ⟨w2.heap.size, 2, none⟩)) _ W ?_ (hG.pure (by omega) rfl)
        simp only [frameOf, Act.put, Nat.zero_add, Nat.reduceAdd, List.setIfInBounds_toArray, List.set_cons_zero, List.set_cons_succ]
      · intro L f W hi hw hG K hK
        simp only [frameOf, Act.put, Nat.zero_add, Nat.reduceAdd, List.setIfInBounds_toArray, List.set_cons_zero, List.set_cons_succ]
        have h5 : f 5 = .pointer (some ⟨w2.heap.size, 2, none⟩) := hG.v 5 (by omega) (hw 5 (by kernel_rfl))
        rw [h5]
        have c2 := ((stays hG.B).1 _ _ hl8).trans Hc2.out
        go_simp
        refine hK.out (.int .u64 (x : Int)) _ W ?_ (hG.pure (by omega) rfl)
        simp only [frameOf, Act.put, Nat.zero_add, Nat.reduceAdd, List.setIfInBounds_toArray, List.set_cons_zero, List.set_cons_succ, h5]
      · intro L f W hi hw hG K hK
        simp only [frameOf, Act.put, Nat.zero_add, Nat.reduceAdd, List.setIfInBounds_toArray, List.set_cons_zero, List.set_cons_succ]
        go_simp
        refine hK.out (.pointer (some ⟨(w2.heap.size + 1), 2, none⟩)) _ W ?_ (hG.pure (by omega) rfl)
        simp only [frameOf, Act.put, Nat.zero_add, Nat.reduceAdd, List.setIfInBounds_toArray, List.set_cons_zero, List.set_cons_succ]
      · intro L f W hi hw hG K hK
        simp only [frameOf, Act.put, Nat.zero_add, Nat.reduceAdd, List.setIfInBounds_toArray, List.set_cons_zero, List.set_cons_succ]
        have h7 : f 7 = .pointer (some ⟨(w2.heap.size + 1), 2, none⟩) := hG.v 7 (by omega) (hw 7 (by kernel_rfl))
        rw [h7]
        have d2 := ((stays hG.B).1 _ _ hl9).trans Hd2.out
        go_simp
        refine hK.out (.int .u64 (y : Int)) _ W ?_ (hG.pure (by omega) rfl)
        simp only [frameOf, Act.put, Nat.zero_add, Nat.reduceAdd, List.setIfInBounds_toArray, List.set_cons_zero, List.set_cons_succ, h7]
      · intro L f W hi hw hG K hK
        simp only [frameOf, Act.put, Nat.zero_add, Nat.reduceAdd, List.setIfInBounds_toArray, List.set_cons_zero, List.set_cons_succ]
        have h6 : f 6 = .int .u64 (x : Int) := hG.v 6 (by omega) (hw 6 (by kernel_rfl))
        have h8 : f 8 = .int .u64 (y : Int) := hG.v 8 (by omega) (hw 8 (by kernel_rfl))
        rw [h6, h8]
        have dq := Hdw.out
        go_simp
        refine hK.out (.int .u64 ((x : Int) / (y : Int))) _ W ?_ (hG.pure (by omega) rfl)
        simp only [frameOf, Act.put, Nat.zero_add, Nat.reduceAdd, List.setIfInBounds_toArray, List.set_cons_zero, List.set_cons_succ, h6, h8]
      · intro L f W hi hw hG K hK
        simp only [frameOf, Act.put, Nat.zero_add, Nat.reduceAdd, List.setIfInBounds_toArray, List.set_cons_zero, List.set_cons_succ]
        have h4 : f 4 = .bool (!(p == q)) := hG.v 4 (by omega) (hw 4 (by kernel_rfl))
        have h9 : f 9 = .int .u64 ((x : Int) / (y : Int)) := hG.v 9 (by omega) (hw 9 (by kernel_rfl))
        rw [h4, h9]
        go_simp
        refine hK.out (.agg #[.bool (!(p == q)), .int .u64 0, .int .u64 ((x : Int) / (y : Int))]) _ W ?_ (hG.pure (by omega) rfl)
        simp only [frameOf, Act.put, Nat.zero_add, Nat.reduceAdd, List.setIfInBounds_toArray, List.set_cons_zero, List.set_cons_succ, h4, h9]
      · intro L f W hi hw hG K hK
        simp only [frameOf, Act.put, Nat.zero_add, Nat.reduceAdd, List.setIfInBounds_toArray, List.set_cons_zero, List.set_cons_succ]
        go_simp
        refine hK.out (.pointer (some ⟨w2.heap.size, 0, none⟩)) _ W ?_ (hG.pure (by omega) rfl)
        simp only [frameOf, Act.put, Nat.zero_add, Nat.reduceAdd, List.setIfInBounds_toArray, List.set_cons_zero, List.set_cons_succ]
      · intro L f W hi hw hG K hK
        simp only [frameOf, Act.put, Nat.zero_add, Nat.reduceAdd, List.setIfInBounds_toArray, List.set_cons_zero, List.set_cons_succ]
        have h11 : f 11 = .pointer (some ⟨w2.heap.size, 0, none⟩) := hG.v 11 (by omega) (hw 11 (by kernel_rfl))
        rw [h11]
        have c0 := ((stays hG.B).1 _ _ hl8).trans Hc0.out
        go_simp
        refine hK.out (.bool p) _ W ?_ (hG.pure (by omega) rfl)
        simp only [frameOf, Act.put, Nat.zero_add, Nat.reduceAdd, List.setIfInBounds_toArray, List.set_cons_zero, List.set_cons_succ, h11]
      · intro L f W hi hw hG K hK
        simp only [frameOf, Act.put, Nat.zero_add, Nat.reduceAdd, List.setIfInBounds_toArray, List.set_cons_zero, List.set_cons_succ]
        go_simp
        refine hK.out (.pointer (some ⟨w2.heap.size, 2, none⟩)) _ W ?_ (hG.pure (by omega) rfl)
        simp only [frameOf, Act.put, Nat.zero_add, Nat.reduceAdd, List.setIfInBounds_toArray, List.set_cons_zero, List.set_cons_succ]
      · intro L f W hi hw hG K hK
        simp only [frameOf, Act.put, Nat.zero_add, Nat.reduceAdd, List.setIfInBounds_toArray, List.set_cons_zero, List.set_cons_succ]
        have h13 : f 13 = .pointer (some ⟨w2.heap.size, 2, none⟩) := hG.v 13 (by omega) (hw 13 (by kernel_rfl))
        rw [h13]
        have c2 := ((stays hG.B).1 _ _ hl8).trans Hc2.out
        go_simp
        refine hK.out (.int .u64 (x : Int)) _ W ?_ (hG.pure (by omega) rfl)
        simp only [frameOf, Act.put, Nat.zero_add, Nat.reduceAdd, List.setIfInBounds_toArray, List.set_cons_zero, List.set_cons_succ, h13]
      · intro L f W hi hw hG K hK
        simp only [frameOf, Act.put, Nat.zero_add, Nat.reduceAdd, List.setIfInBounds_toArray, List.set_cons_zero, List.set_cons_succ]
        go_simp
        refine hK.out (.pointer (some ⟨(w2.heap.size + 1), 2, none⟩)) _ W ?_ (hG.pure (by omega) rfl)
        simp only [frameOf, Act.put, Nat.zero_add, Nat.reduceAdd, List.setIfInBounds_toArray, List.set_cons_zero, List.set_cons_succ]
      · intro L f W hi hw hG K hK
        simp only [frameOf, Act.put, Nat.zero_add, Nat.reduceAdd, List.setIfInBounds_toArray, List.set_cons_zero, List.set_cons_succ]
        have h15 : f 15 = .pointer (some ⟨(w2.heap.size + 1), 2, none⟩) := hG.v 15 (by omega) (hw 15 (by kernel_rfl))
        rw [h15]
        have d2 := ((stays hG.B).1 _ _ hl9).trans Hd2.out
        go_simp
        refine hK.out (.int .u64 (y : Int)) _ W ?_ (hG.pure (by omega) rfl)
        simp only [frameOf, Act.put, Nat.zero_add, Nat.reduceAdd, List.setIfInBounds_toArray, List.set_cons_zero, List.set_cons_succ, h15]
      · intro L f W hi hw hG K hK
        simp only [frameOf, Act.put, Nat.zero_add, Nat.reduceAdd, List.setIfInBounds_toArray, List.set_cons_zero, List.set_cons_succ]
        have h14 : f 14 = .int .u64 (x : Int) := hG.v 14 (by omega) (hw 14 (by kernel_rfl))
        have h16 : f 16 = .int .u64 (y : Int) := hG.v 16 (by omega) (hw 16 (by kernel_rfl))
        rw [h14, h16]
        go_simp
        refine hK.out (.int .u64 ((x : Int) % (y : Int))) _ W ?_ (hG.pure (by omega) rfl)
        simp only [frameOf, Act.put, Nat.zero_add, Nat.reduceAdd, List.setIfInBounds_toArray, List.set_cons_zero, List.set_cons_succ, h14, h16, Hdt.out]
      · intro L f W hi hw hG K hK
        simp only [frameOf, Act.put, Nat.zero_add, Nat.reduceAdd, List.setIfInBounds_toArray, List.set_cons_zero, List.set_cons_succ]
        have h12 : f 12 = .bool p := hG.v 12 (by omega) (hw 12 (by kernel_rfl))
        have h17 : f 17 = .int .u64 ((x : Int) % (y : Int)) := hG.v 17 (by omega) (hw 17 (by kernel_rfl))
        rw [h12, h17]
        go_simp
        refine hK.out (.agg #[.bool p, .int .u64 0, .int .u64 ((x : Int) % (y : Int))]) _ W ?_ (hG.pure (by omega) rfl)
        simp only [frameOf, Act.put, Nat.zero_add, Nat.reduceAdd, List.setIfInBounds_toArray, List.set_cons_zero, List.set_cons_succ, h12, h17]
      · intro L f W hi hw hG K hK
        simp only [frameOf, Act.put, Nat.zero_add, Nat.reduceAdd, List.setIfInBounds_toArray, List.set_cons_zero, List.set_cons_succ]
        go_simp
        refine hK.out (.pointer (some ⟨W.heap.size, 0, none⟩)) _ _ ?_ (hG.new19 hi)
        simp only [frameOf, Act.put, Nat.zero_add, Nat.reduceAdd, List.setIfInBounds_toArray, List.set_cons_zero, List.set_cons_succ]
      · intro L f W hi hw hG K hK
        simp only [frameOf, Act.put, Nat.zero_add, Nat.reduceAdd, List.setIfInBounds_toArray, List.set_cons_zero, List.set_cons_succ]
        go_simp
        refine hK.out (.pointer (some ⟨W.heap.size, 0, none⟩)) _ _ ?_ (hG.new20 hi)
        simp only [frameOf, Act.put, Nat.zero_add, Nat.reduceAdd, List.setIfInBounds_toArray, List.set_cons_zero, List.set_cons_succ]
      · intro L f W hi hw hG K hK
        simp only [frameOf, Act.put, Nat.zero_add, Nat.reduceAdd, List.setIfInBounds_toArray, List.set_cons_zero, List.set_cons_succ]
        have h10 : f 10 = .agg #[.bool (!(p == q)), .int .u64 0, .int .u64 ((x : Int) / (y : Int))] := hG.v 10 (by omega) (hw 10 (by kernel_rfl))
        have hL := hw 19 (by kernel_rfl)
        obtain ⟨b0, hb0, hb1, hb2, hb3⟩ := hG.a hL
        rw [if_neg (by rw [hi]; simp)] at hb3
        have z0 : W.cell? ⟨b0, 0, none⟩ = some (.bool false) := by simp [World.cell?, hb3, zNum]
        have z1 : W.cell? ⟨b0, 1, none⟩ = some (.int .u64 0) := by simp [World.cell?, hb3, zNum]
        have z2 : W.cell? ⟨b0, 2, none⟩ = some (.int .u64 0) := by simp [World.cell?, hb3, zNum]
        have zf : ∀ i, W.frozen? ⟨b0, i, none⟩ = false := fun i => by simp [World.frozen?, hb3]
        rw [h10, hb0]
        go_simp
        refine hK.out undef _ _ ?_ (hG.put21 hi hL hb0)
        simp only [frameOf, Act.put, Nat.zero_add, Nat.reduceAdd, List.setIfInBounds_toArray, List.set_cons_zero, List.set_cons_succ, h10, hb0]
      · intro L f W hi hw hG K hK
        simp only [frameOf, Act.put, Nat.zero_add, Nat.reduceAdd, List.setIfInBounds_toArray, List.set_cons_zero, List.set_cons_succ]
        have h18 : f 18 = .agg #[.bool p, .int .u64 0, .int .u64 ((x : Int) % (y : Int))] := hG.v 18 (by omega) (hw 18 (by kernel_rfl))
        have hL := hw 20 (by kernel_rfl)
        obtain ⟨b0, hb0, hb1, hb2, hb3⟩ := hG.b hL
        rw [if_neg (by rw [hi]; simp)] at hb3
        have z0 : W.cell? ⟨b0, 0, none⟩ = some (.bool false) := by simp [World.cell?, hb3, zNum]
        have z1 : W.cell? ⟨b0, 1, none⟩ = some (.int .u64 0) := by simp [World.cell?, hb3, zNum]
        have z2 : W.cell? ⟨b0, 2, none⟩ = some (.int .u64 0) := by simp [World.cell?, hb3, zNum]
        have zf : ∀ i, W.frozen? ⟨b0, i, none⟩ = false := fun i => by simp [World.frozen?, hb3]
        rw [h18, hb0]
        go_simp
        refine hK.out undef _ _ ?_ (hG.put22 hi hL hb0)
        simp only [frameOf, Act.put, Nat.zero_add, Nat.reduceAdd, List.setIfInBounds_toArray, List.set_cons_zero, List.set_cons_succ, h18, hb0]
    case doner =>
      intro L f W hall hG
      obtain ⟨bq, hq0, hq1, hq2, hq3⟩ := hG.a (hall 19 (by decide))
      obtain ⟨br, hr0, hr1, hr2, hr3⟩ := hG.b (hall 20 (by decide))
      rw [if_pos (hall 21 (by decide))] at hq3
      rw [if_pos (hall 22 (by decide))] at hr3
      have hqr : bq ≠ br := fun e => hG.ne (hall 19 (by decide)) (hall 20 (by decide)) (by rw [hq0, hr0, e])
      have hbw : w.heap.size ≤ W3.heap.size := by have := BW.out.size; have := HW23.out; omega
      replace BW : Hid (Below w.heap.size w W) := Lib.hid (BW.out.trans (hG.B.mono BW.out.size))
      have YC : Hid (∀ o, W.cell? ⟨w2.heap.size + 1, o, none⟩ = W3.cell? ⟨w2.heap.size + 1, o, none⟩) := Lib.hid fun o => (stays hG.B).1 _ _ hl9
      simp only [frameOf, Act.put, Nat.zero_add, Nat.reduceAdd, List.setIfInBounds_toArray, List.set_cons_zero, List.set_cons_succ, hq0, hr0, Nat.zero_add, Nat.reduceAdd]
      rw [Hdq.out] at hq3
      rw [Hdr.out] at hr3
      obtain ⟨Z, hZ⟩ : ∃ Z, Z = x / y := ⟨_, rfl⟩
      obtain ⟨M, hM⟩ : ∃ M, M = x % y := ⟨_, rfl⟩
      have hZb : Z ≤ 9223372036854775808 := by rw [hZ]; exact Nat.le_trans (Nat.div_le_self x y) hA
      have hMb : M ≤ 9223372036854775808 := by rw [hM]; exact Nat.le_trans (Nat.mod_le x y) hA
      have REM : Hid (backR (!(p == q)) 0 ((x / y : Nat) : Int) = quotR a b) := Lib.hid (back_quot HA.out HB0'.out HB0.out PE.out QE.out XE.out YE.out)
      rw [← hZ] at hq3
      rw [← hM] at hr3
      obtain ⟨k, hk⟩ : ∃ k, k = (!(p == q)) := ⟨_, rfl⟩
      rw [← hk] at hq3
      rw [← hZ, ← hk] at REM
      have Hq0 : W.cell? ⟨bq, 0, none⟩ = some (.bool k) := by simp [World.cell?, hq3]
      have Hq1 : W.cell? ⟨bq, 1, none⟩ = some (.int .u64 0) := by simp [World.cell?, hq3]
      have Hq2 : W.cell? ⟨bq, 2, none⟩ = some (.int .u64 (Z : Int)) := by simp [World.cell?, hq3]
      have Hr0 : W.cell? ⟨br, 0, none⟩ = some (.bool p) := by simp [World.cell?, hr3]
      have Hr1 : W.cell? ⟨br, 1, none⟩ = some (.int .u64 0) := by simp [World.cell?, hr3]
      have Hr2 : W.cell? ⟨br, 2, none⟩ = some (.int .u64 (M : Int)) := by simp [World.cell?, hr3]
      have Hrf : Hid (∀ i, W.frozen? ⟨br, i, none⟩ = false) := Lib.hid fun i => by simp [World.frozen?, hr3]
      have hbr : w.heap.size ≤ br := by omega
      have Hd0' : W.cell? ⟨w2.heap.size + 1, 0, none⟩ = some (.bool q) := (YC.out 0).trans Hd0.out
      have Hd1' : W.cell? ⟨w2.heap.size + 1, 1, none⟩ = some (.int .u64 0) := (YC.out 1).trans Hd1.out
      have Hd2' : W.cell? ⟨w2.heap.size + 1, 2, none⟩ = some (.int .u64 (y : Int)) := (YC.out 2).trans Hd2.out
      clear hG hall hq0 hr0 hqr hq3 hr3 hZ hM hk YC Hc0 Hc2 Hd0 Hd1 Hd2 Hdq Hdr Hdt Hdw hl8 hl9 hq1 hr1 HW23 hbw
      go_wp2_with fail
      refine (back13_any k 0 (Z : Int) (by omega) (by omega) _).mono ?_
      rintro e w4 ⟨rfl, hI⟩
      replace BW := Lib.hid (BW.out.trans (hI.mono BW.out.size))
      clear hI
      rw [REM.out]
      obtain ⟨R, hR⟩ : ∃ R, R = quotR a b := ⟨_, rfl⟩
      have HR := Lib.hid hR
      rw [← hR]
      clear hR REM
      go_wp2
      go_ret2
      rw [← HR.out]
      exact ⟨rfl, BW.out⟩

set_option maxRecDepth 100000 in
set_option maxHeartbeats 4000000 in
theorem tog_rem (a b : Int) (ha : isI64 a) (hb : isI64 b) (w : World) : Calls Try.prog 58 #[.string ⟨#[114, 101, 109]⟩, .int .i64 a, .int .i64 b] w fun e w' => e = .returned (ansR (remR a b)) ∧ Below w.heap.size w w' := by
  have HA := Lib.hid ha
  have HB := Lib.hid hb
  have hA := nat_bd ha
  have hB := nat_bd hb
  clear ha hb
  have BW := Lib.hid (Below.refl w.heap.size w)
  go_enter Try.func58, Try.ntmps58
  go_wp2_with fail
  refine (of13_any a HA.out _).mono ?_
  rintro e w1 ⟨rfl, hI⟩
  replace BW := Lib.hid (BW.out.trans (hI.mono BW.out.size))
  clear hI
  go_wp2_with fail
  refine (of13_any b HB.out _).mono ?_
  rintro e w2 ⟨rfl, hI⟩
  replace BW := Lib.hid (BW.out.trans (hI.mono BW.out.size))
  clear hI
  unfold numV
  obtain ⟨p, hp⟩ : ∃ p, p = decide (a < 0) := ⟨_, rfl⟩
  obtain ⟨q, hq⟩ : ∃ q, q = decide (b < 0) := ⟨_, rfl⟩
  obtain ⟨x, hx⟩ : ∃ x, x = a.natAbs := ⟨_, rfl⟩
  obtain ⟨y, hy⟩ : ∃ y, y = b.natAbs := ⟨_, rfl⟩
  rw [← hp, ← hq, ← hx, ← hy]
  rw [← hx] at hA
  rw [← hy] at hB
  have PE := Lib.hid hp
  have QE := Lib.hid hq
  have XE := Lib.hid hx
  have YE := Lib.hid hy
  clear hp hq hx hy
  by_cases h0 : (b == 0) = true
  · have hb0 : b = 0 := by simpa using h0
    have RE : Hid (remR a b = (0, 23)) := Lib.hid (by unfold remR; rw [if_pos hb0])
    clear hb0
    go_wp2
    go_ret2
    rw [RE.out]
    exact ⟨rfl, BW.out.trans ((below2 w2 _ _).mono BW.out.size)⟩
  · rw [Bool.not_eq_true] at h0
    have hy0 : ¬ ((y : Int) = 0) := by have := beq_eq_false_iff_ne.1 h0; have := YE.out; omega
    have hyn : ¬ y = 0 := by omega
    have hy1 : ((y : Int) == 0) = false := by simpa using hy0
    have hy2 : 0 < y := by omega
    have hb0 : b ≠ 0 := beq_eq_false_iff_ne.1 h0
    have HB0 := Lib.hid hb0
    have HB0' := HB
    clear hb0
    go_upto_region 12 with fail
    obtain ⟨W3, hW3⟩ : ∃ W3, W3 = ((w2.alloc (.cells #[.bool p, .int .u64 0, .int .u64 x] 117)).alloc (.cells #[.bool q, .int .u64 0, .int .u64 y] 117)) := ⟨_, rfl⟩
    rw [← hW3]
    have Hc0 : Hid (W3.cell? ⟨w2.heap.size, 0, none⟩ = some (.bool p)) := Lib.hid (by rw [hW3]; simp [go_sem])
    have Hc2 : Hid (W3.cell? ⟨w2.heap.size, 2, none⟩ = some (.int .u64 x)) := Lib.hid (by rw [hW3]; simp [go_sem])
    have Hd0 : Hid (W3.cell? ⟨w2.heap.size + 1, 0, none⟩ = some (.bool q)) := Lib.hid (by rw [hW3]; simp [go_sem])
    have Hd2 : Hid (W3.cell? ⟨w2.heap.size + 1, 2, none⟩ = some (.int .u64 y)) := Lib.hid (by rw [hW3]; simp [go_sem])
    have Hd1 : Hid (W3.cell? ⟨w2.heap.size + 1, 1, none⟩ = some (.int .u64 0)) := Lib.hid (by rw [hW3]; simp [go_sem])
    have HW23 : Hid (w2.heap.size ≤ W3.heap.size) := Lib.hid (by rw [hW3]; simp; omega)
    have hl8 : w2.heap.size < W3.heap.size := by rw [hW3]; simp; omega
    have hl9 : w2.heap.size + 1 < W3.heap.size := by rw [hW3]; simp
    have Hdq : Hid ((x : Int) / (y : Int) = ((x / y : Nat) : Int)) := Lib.hid (Int.natCast_ediv x y).symm
    have Hdw : Hid (IntKind.u64.wrap ((x : Int) / (y : Int)) = ((x / y : Nat) : Int)) := Lib.hid (by have h1 := Nat.div_le_self x y; rw [show (x : Int) / (y : Int) = ((x / y : Nat) : Int) from (Int.natCast_ediv x y).symm, Mul64.wrapN _ (by omega)])
    have Hdt : Hid ((x : Int).tmod (y : Int) = (x : Int) % (y : Int)) := Lib.hid (Int.tmod_eq_emod_of_nonneg (by omega))
    have Hdr : Hid ((x : Int) % (y : Int) = ((x % y : Nat) : Int)) := Lib.hid (Int.natCast_emod x y).symm
    replace BW := Lib.hid (BW.out.trans ((by rw [hW3]; exact below2 w2 _ _ : Below w2.heap.size w2 W3).mono BW.out.size))
    clear hW3
    refine region_by_inv (D2 W3 (valOf2 [.pointer (some ⟨w2.heap.size, 0, none⟩), .bool p, .pointer (some ⟨(w2.heap.size + 1), 0, none⟩), .bool q, .bool (!(p == q)), .pointer (some ⟨w2.heap.size, 2, none⟩), .int .u64 (x : Int), .pointer (some ⟨(w2.heap.size + 1), 2, none⟩), .int .u64 (y : Int), .int .u64 ((x : Int) / (y : Int)), .agg #[.bool (!(p == q)), .int .u64 0, .int .u64 ((x : Int) / (y : Int))], .pointer (some ⟨w2.heap.size, 0, none⟩), .bool p, .pointer (some ⟨w2.heap.size, 2, none⟩), .int .u64 (x : Int), .pointer (some ⟨(w2.heap.size + 1), 2, none⟩), .int .u64 (y : Int), .int .u64 ((x : Int) % (y : Int)), .agg #[.bool p, .int .u64 0, .int .u64 ((x : Int) % (y : Int))]]) #[.bool (!(p == q)), .int .u64 0, .int .u64 ((x : Int) / (y : Int))] #[.bool p, .int .u64 0, .int .u64 ((x : Int) % (y : Int))]) (by kernel_rfl) (by kernel_rfl) (by kernel_rfl) ?h0r ?stepsr ?doner
    case h0r => exact fun f => D2.start (Below.refl _ _).drew f
    case stepsr =>
      refine ⟨?_, ?_, ?_, ?_, ?_, ?_, ?_, ?_, ?_, ?_, ?_, ?_, ?_, ?_, ?_, ?_, ?_, ?_, ?_, ?_, ?_, ?_, ?_, trivial⟩
      · intro L f W hi hw hG K hK
        simp only [frameOf, Act.put, Nat.zero_add, Nat.reduceAdd, List.setIfInBounds_toArray, List.set_cons_zero, List.set_cons_succ]
        go_simp
        refine hK.out (.pointer (some ⟨w2.heap.size, 0, none⟩)) _ W ?_ (hG.pure (by omega) rfl)
        simp only [frameOf, Act.put, Nat.zero_add, Nat.reduceAdd, List.setIfInBounds_toArray, List.set_cons_zero, List.set_cons_succ]
      · intro L f W hi hw hG K hK
        simp only [frameOf, Act.put, Nat.zero_add, Nat.reduceAdd, List.setIfInBounds_toArray, List.set_cons_zero, List.set_cons_succ]
        have h0 : f 0 = .pointer (some ⟨w2.heap.size, 0, none⟩) := hG.v 0 (by omega) (hw 0 (by kernel_rfl))
        rw [h0]
        have c0 := ((stays hG.B).1 _ _ hl8).trans Hc0.out
        go_simp
        refine hK.out (.bool p) _ W ?_ (hG.pure (by omega) rfl)
        simp only [frameOf, Act.put, Nat.zero_add, Nat.reduceAdd, List.setIfInBounds_toArray, List.set_cons_zero, List.set_cons_succ, h0]
      · intro L f W hi hw hG K hK
        simp only [frameOf, Act.put, Nat.zero_add, Nat.reduceAdd, List.setIfInBounds_toArray, List.set_cons_zero, List.set_cons_succ]
        go_simp
        refine hK.out (.pointer (some ⟨(w2.heap.size + 1), 0, none⟩)) _ W ?_ (hG.pure (by omega) rfl)
        simp only [frameOf, Act.put, Nat.zero_add, Nat.reduceAdd, List.setIfInBounds_toArray, List.set_cons_zero, List.set_cons_succ]
      · intro L f W hi hw hG K hK
        simp only [frameOf, Act.put, Nat.zero_add, Nat.reduceAdd, List.setIfInBounds_toArray, List.set_cons_zero, List.set_cons_succ]
        have h2 : f 2 = .pointer (some ⟨(w2.heap.size + 1), 0, none⟩) := hG.v 2 (by omega) (hw 2 (by kernel_rfl))
        rw [h2]
        have d0 := ((stays hG.B).1 _ _ hl9).trans Hd0.out
        go_simp
        refine hK.out (.bool q) _ W ?_ (hG.pure (by omega) rfl)
        simp only [frameOf, Act.put, Nat.zero_add, Nat.reduceAdd, List.setIfInBounds_toArray, List.set_cons_zero, List.set_cons_succ, h2]
      · intro L f W hi hw hG K hK
        simp only [frameOf, Act.put, Nat.zero_add, Nat.reduceAdd, List.setIfInBounds_toArray, List.set_cons_zero, List.set_cons_succ]
        have h1 : f 1 = .bool p := hG.v 1 (by omega) (hw 1 (by kernel_rfl))
        have h3 : f 3 = .bool q := hG.v 3 (by omega) (hw 3 (by kernel_rfl))
        rw [h1, h3]
        go_simp
        refine hK.out (.bool (!(p == q))) _ W ?_ (hG.pure (by omega) rfl)
        simp only [frameOf, Act.put, Nat.zero_add, Nat.reduceAdd, List.setIfInBounds_toArray, List.set_cons_zero, List.set_cons_succ, h1, h3]
      · intro L f W hi hw hG K hK
        simp only [frameOf, Act.put, Nat.zero_add, Nat.reduceAdd, List.setIfInBounds_toArray, List.set_cons_zero, List.set_cons_succ]
        go_simp
        refine hK.out (.pointer (some ⟨w2.heap.size, 2, none⟩)) _ W ?_ (hG.pure (by omega) rfl)
        simp only [frameOf, Act.put, Nat.zero_add, Nat.reduceAdd, List.setIfInBounds_toArray, List.set_cons_zero, List.set_cons_succ]
      · intro L f W hi hw hG K hK
        simp only [frameOf, Act.put, Nat.zero_add, Nat.reduceAdd, List.setIfInBounds_toArray, List.set_cons_zero, List.set_cons_succ]
        have h5 : f 5 = .pointer (some ⟨w2.heap.size, 2, none⟩) := hG.v 5 (by omega) (hw 5 (by kernel_rfl))
        rw [h5]
        have c2 := ((stays hG.B).1 _ _ hl8).trans Hc2.out
        go_simp
        refine hK.out (.int .u64 (x : Int)) _ W ?_ (hG.pure (by omega) rfl)
        simp only [frameOf, Act.put, Nat.zero_add, Nat.reduceAdd, List.setIfInBounds_toArray, List.set_cons_zero, List.set_cons_succ, h5]
      · intro L f W hi hw hG K hK
        simp only [frameOf, Act.put, Nat.zero_add, Nat.reduceAdd, List.setIfInBounds_toArray, List.set_cons_zero, List.set_cons_succ]
        go_simp
        refine hK.out (.pointer (some ⟨(w2.heap.size + 1), 2, none⟩)) _ W ?_ (hG.pure (by omega) rfl)
        simp only [frameOf, Act.put, Nat.zero_add, Nat.reduceAdd, List.setIfInBounds_toArray, List.set_cons_zero, List.set_cons_succ]
      · intro L f W hi hw hG K hK
        simp only [frameOf, Act.put, Nat.zero_add, Nat.reduceAdd, List.setIfInBounds_toArray, List.set_cons_zero, List.set_cons_succ]
        have h7 : f 7 = .pointer (some ⟨(w2.heap.size + 1), 2, none⟩) := hG.v 7 (by omega) (hw 7 (by kernel_rfl))
        rw [h7]
        have d2 := ((stays hG.B).1 _ _ hl9).trans Hd2.out
        go_simp
        refine hK.out (.int .u64 (y : Int)) _ W ?_ (hG.pure (by omega) rfl)
        simp only [frameOf, Act.put, Nat.zero_add, Nat.reduceAdd, List.setIfInBounds_toArray, List.set_cons_zero, List.set_cons_succ, h7]
      · intro L f W hi hw hG K hK
        simp only [frameOf, Act.put, Nat.zero_add, Nat.reduceAdd, List.setIfInBounds_toArray, List.set_cons_zero, List.set_cons_succ]
        have h6 : f 6 = .int .u64 (x : Int) := hG.v 6 (by omega) (hw 6 (by kernel_rfl))
        have h8 : f 8 = .int .u64 (y : Int) := hG.v 8 (by omega) (hw 8 (by kernel_rfl))
        rw [h6, h8]
        have dq := Hdw.out
        go_simp
        refine hK.out (.int .u64 ((x : Int) / (y : Int))) _ W ?_ (hG.pure (by omega) rfl)
        simp only [frameOf, Act.put, Nat.zero_add, Nat.reduceAdd, List.setIfInBounds_toArray, List.set_cons_zero, List.set_cons_succ, h6, h8]
      · intro L f W hi hw hG K hK
        simp only [frameOf, Act.put, Nat.zero_add, Nat.reduceAdd, List.setIfInBounds_toArray, List.set_cons_zero, List.set_cons_succ]
        have h4 : f 4 = .bool (!(p == q)) := hG.v 4 (by omega) (hw 4 (by kernel_rfl))
        have h9 : f 9 = .int .u64 ((x : Int) / (y : Int)) := hG.v 9 (by omega) (hw 9 (by kernel_rfl))
        rw [h4, h9]
        go_simp
        refine hK.out (.agg #[.bool (!(p == q)), .int .u64 0, .int .u64 ((x : Int) / (y : Int))]) _ W ?_ (hG.pure (by omega) rfl)
        simp only [frameOf, Act.put, Nat.zero_add, Nat.reduceAdd, List.setIfInBounds_toArray, List.set_cons_zero, List.set_cons_succ, h4, h9]
      · intro L f W hi hw hG K hK
        simp only [frameOf, Act.put, Nat.zero_add, Nat.reduceAdd, List.setIfInBounds_toArray, List.set_cons_zero, List.set_cons_succ]
        go_simp
        refine hK.out (.pointer (some ⟨w2.heap.size, 0, none⟩)) _ W ?_ (hG.pure (by omega) rfl)
        simp only [frameOf, Act.put, Nat.zero_add, Nat.reduceAdd, List.setIfInBounds_toArray, List.set_cons_zero, List.set_cons_succ]
      · intro L f W hi hw hG K hK
        simp only [frameOf, Act.put, Nat.zero_add, Nat.reduceAdd, List.setIfInBounds_toArray, List.set_cons_zero, List.set_cons_succ]
        have h11 : f 11 = .pointer (some ⟨w2.heap.size, 0, none⟩) := hG.v 11 (by omega) (hw 11 (by kernel_rfl))
        rw [h11]
        have c0 := ((stays hG.B).1 _ _ hl8).trans Hc0.out
        go_simp
        refine hK.out (.bool p) _ W ?_ (hG.pure (by omega) rfl)
        simp only [frameOf, Act.put, Nat.zero_add, Nat.reduceAdd, List.setIfInBounds_toArray, List.set_cons_zero, List.set_cons_succ, h11]
      · intro L f W hi hw hG K hK
        simp only [frameOf, Act.put, Nat.zero_add, Nat.reduceAdd, List.setIfInBounds_toArray, List.set_cons_zero, List.set_cons_succ]
        go_simp
        refine hK.out (.pointer (some ⟨w2.heap.size, 2, none⟩)) _ W ?_ (hG.pure (by omega) rfl)
        simp only [frameOf, Act.put, Nat.zero_add, Nat.reduceAdd, List.setIfInBounds_toArray, List.set_cons_zero, List.set_cons_succ]
      · intro L f W hi hw hG K hK
        simp only [frameOf, Act.put, Nat.zero_add, Nat.reduceAdd, List.setIfInBounds_toArray, List.set_cons_zero, List.set_cons_succ]
        have h13 : f 13 = .pointer (some ⟨w2.heap.size, 2, none⟩) := hG.v 13 (by omega) (hw 13 (by kernel_rfl))
        rw [h13]
        have c2 := ((stays hG.B).1 _ _ hl8).trans Hc2.out
        go_simp
        refine hK.out (.int .u64 (x : Int)) _ W ?_ (hG.pure (by omega) rfl)
        simp only [frameOf, Act.put, Nat.zero_add, Nat.reduceAdd, List.setIfInBounds_toArray, List.set_cons_zero, List.set_cons_succ, h13]
      · intro L f W hi hw hG K hK
        simp only [frameOf, Act.put, Nat.zero_add, Nat.reduceAdd, List.setIfInBounds_toArray, List.set_cons_zero, List.set_cons_succ]
        go_simp
        refine hK.out (.pointer (some ⟨(w2.heap.size + 1), 2, none⟩)) _ W ?_ (hG.pure (by omega) rfl)
        simp only [frameOf, Act.put, Nat.zero_add, Nat.reduceAdd, List.setIfInBounds_toArray, List.set_cons_zero, List.set_cons_succ]
      · intro L f W hi hw hG K hK
        simp only [frameOf, Act.put, Nat.zero_add, Nat.reduceAdd, List.setIfInBounds_toArray, List.set_cons_zero, List.set_cons_succ]
        have h15 : f 15 = .pointer (some ⟨(w2.heap.size + 1), 2, none⟩) := hG.v 15 (by omega) (hw 15 (by kernel_rfl))
        rw [h15]
        have d2 := ((stays hG.B).1 _ _ hl9).trans Hd2.out
        go_simp
        refine hK.out (.int .u64 (y : Int)) _ W ?_ (hG.pure (by omega) rfl)
        simp only [frameOf, Act.put, Nat.zero_add, Nat.reduceAdd, List.setIfInBounds_toArray, List.set_cons_zero, List.set_cons_succ, h15]
      · intro L f W hi hw hG K hK
        simp only [frameOf, Act.put, Nat.zero_add, Nat.reduceAdd, List.setIfInBounds_toArray, List.set_cons_zero, List.set_cons_succ]
        have h14 : f 14 = .int .u64 (x : Int) := hG.v 14 (by omega) (hw 14 (by kernel_rfl))
        have h16 : f 16 = .int .u64 (y : Int) := hG.v 16 (by omega) (hw 16 (by kernel_rfl))
        rw [h14, h16]
        go_simp
        refine hK.out (.int .u64 ((x : Int) % (y : Int))) _ W ?_ (hG.pure (by omega) rfl)
        simp only [frameOf, Act.put, Nat.zero_add, Nat.reduceAdd, List.setIfInBounds_toArray, List.set_cons_zero, List.set_cons_succ, h14, h16, Hdt.out]
      · intro L f W hi hw hG K hK
        simp only [frameOf, Act.put, Nat.zero_add, Nat.reduceAdd, List.setIfInBounds_toArray, List.set_cons_zero, List.set_cons_succ]
        have h12 : f 12 = .bool p := hG.v 12 (by omega) (hw 12 (by kernel_rfl))
        have h17 : f 17 = .int .u64 ((x : Int) % (y : Int)) := hG.v 17 (by omega) (hw 17 (by kernel_rfl))
        rw [h12, h17]
        go_simp
        refine hK.out (.agg #[.bool p, .int .u64 0, .int .u64 ((x : Int) % (y : Int))]) _ W ?_ (hG.pure (by omega) rfl)
        simp only [frameOf, Act.put, Nat.zero_add, Nat.reduceAdd, List.setIfInBounds_toArray, List.set_cons_zero, List.set_cons_succ, h12, h17]
      · intro L f W hi hw hG K hK
        simp only [frameOf, Act.put, Nat.zero_add, Nat.reduceAdd, List.setIfInBounds_toArray, List.set_cons_zero, List.set_cons_succ]
        go_simp
        refine hK.out (.pointer (some ⟨W.heap.size, 0, none⟩)) _ _ ?_ (hG.new19 hi)
        simp only [frameOf, Act.put, Nat.zero_add, Nat.reduceAdd, List.setIfInBounds_toArray, List.set_cons_zero, List.set_cons_succ]
      · intro L f W hi hw hG K hK
        simp only [frameOf, Act.put, Nat.zero_add, Nat.reduceAdd, List.setIfInBounds_toArray, List.set_cons_zero, List.set_cons_succ]
        go_simp
        refine hK.out (.pointer (some ⟨W.heap.size, 0, none⟩)) _ _ ?_ (hG.new20 hi)
        simp only [frameOf, Act.put, Nat.zero_add, Nat.reduceAdd, List.setIfInBounds_toArray, List.set_cons_zero, List.set_cons_succ]
      · intro L f W hi hw hG K hK
        simp only [frameOf, Act.put, Nat.zero_add, Nat.reduceAdd, List.setIfInBounds_toArray, List.set_cons_zero, List.set_cons_succ]
        have h10 : f 10 = .agg #[.bool (!(p == q)), .int .u64 0, .int .u64 ((x : Int) / (y : Int))] := hG.v 10 (by omega) (hw 10 (by kernel_rfl))
        have hL := hw 19 (by kernel_rfl)
        obtain ⟨b0, hb0, hb1, hb2, hb3⟩ := hG.a hL
        rw [if_neg (by rw [hi]; simp)] at hb3
        have z0 : W.cell? ⟨b0, 0, none⟩ = some (.bool false) := by simp [World.cell?, hb3, zNum]
        have z1 : W.cell? ⟨b0, 1, none⟩ = some (.int .u64 0) := by simp [World.cell?, hb3, zNum]
        have z2 : W.cell? ⟨b0, 2, none⟩ = some (.int .u64 0) := by simp [World.cell?, hb3, zNum]
        have zf : ∀ i, W.frozen? ⟨b0, i, none⟩ = false := fun i => by simp [World.frozen?, hb3]
        rw [h10, hb0]
        go_simp
        refine hK.out undef _ _ ?_ (hG.put21 hi hL hb0)
        simp only [frameOf, Act.put, Nat.zero_add, Nat.reduceAdd, List.setIfInBounds_toArray, List.set_cons_zero, List.set_cons_succ, h10, hb0]
      · intro L f W hi hw hG K hK
        simp only [frameOf, Act.put, Nat.zero_add, Nat.reduceAdd, List.setIfInBounds_toArray, List.set_cons_zero, List.set_cons_succ]
        have h18 : f 18 = .agg #[.bool p, .int .u64 0, .int .u64 ((x : Int) % (y : Int))] := hG.v 18 (by omega) (hw 18 (by kernel_rfl))
        have hL := hw 20 (by kernel_rfl)
        obtain ⟨b0, hb0, hb1, hb2, hb3⟩ := hG.b hL
        rw [if_neg (by rw [hi]; simp)] at hb3
        have z0 : W.cell? ⟨b0, 0, none⟩ = some (.bool false) := by simp [World.cell?, hb3, zNum]
        have z1 : W.cell? ⟨b0, 1, none⟩ = some (.int .u64 0) := by simp [World.cell?, hb3, zNum]
        have z2 : W.cell? ⟨b0, 2, none⟩ = some (.int .u64 0) := by simp [World.cell?, hb3, zNum]
        have zf : ∀ i, W.frozen? ⟨b0, i, none⟩ = false := fun i => by simp [World.frozen?, hb3]
        rw [h18, hb0]
        go_simp
        refine hK.out undef _ _ ?_ (hG.put22 hi hL hb0)
        simp only [frameOf, Act.put, Nat.zero_add, Nat.reduceAdd, List.setIfInBounds_toArray, List.set_cons_zero, List.set_cons_succ, h18, hb0]
    case doner =>
      intro L f W hall hG
      obtain ⟨bq, hq0, hq1, hq2, hq3⟩ := hG.a (hall 19 (by decide))
      obtain ⟨br, hr0, hr1, hr2, hr3⟩ := hG.b (hall 20 (by decide))
      rw [if_pos (hall 21 (by decide))] at hq3
      rw [if_pos (hall 22 (by decide))] at hr3
      have hqr : bq ≠ br := fun e => hG.ne (hall 19 (by decide)) (hall 20 (by decide)) (by rw [hq0, hr0, e])
      have hbw : w.heap.size ≤ W3.heap.size := by have := BW.out.size; have := HW23.out; omega
      replace BW : Hid (Below w.heap.size w W) := Lib.hid (BW.out.trans (hG.B.mono BW.out.size))
      have YC : Hid (∀ o, W.cell? ⟨w2.heap.size + 1, o, none⟩ = W3.cell? ⟨w2.heap.size + 1, o, none⟩) := Lib.hid fun o => (stays hG.B).1 _ _ hl9
      simp only [frameOf, Act.put, Nat.zero_add, Nat.reduceAdd, List.setIfInBounds_toArray, List.set_cons_zero, List.set_cons_succ, hq0, hr0, Nat.zero_add, Nat.reduceAdd]
      rw [Hdq.out] at hq3
      rw [Hdr.out] at hr3
      obtain ⟨Z, hZ⟩ : ∃ Z, Z = x / y := ⟨_, rfl⟩
      obtain ⟨M, hM⟩ : ∃ M, M = x % y := ⟨_, rfl⟩
      have hZb : Z ≤ 9223372036854775808 := by rw [hZ]; exact Nat.le_trans (Nat.div_le_self x y) hA
      have hMb : M ≤ 9223372036854775808 := by rw [hM]; exact Nat.le_trans (Nat.mod_le x y) hA
      have REM : Hid (backR p 0 ((x % y : Nat) : Int) = remR a b) := Lib.hid (back_rem HB0'.out HB0.out PE.out XE.out YE.out)
      rw [← hZ] at hq3
      rw [← hM] at hr3
      obtain ⟨k, hk⟩ : ∃ k, k = (!(p == q)) := ⟨_, rfl⟩
      rw [← hk] at hq3
      rw [← hM] at REM
      have Hq0 : W.cell? ⟨bq, 0, none⟩ = some (.bool k) := by simp [World.cell?, hq3]
      have Hq1 : W.cell? ⟨bq, 1, none⟩ = some (.int .u64 0) := by simp [World.cell?, hq3]
      have Hq2 : W.cell? ⟨bq, 2, none⟩ = some (.int .u64 (Z : Int)) := by simp [World.cell?, hq3]
      have Hr0 : W.cell? ⟨br, 0, none⟩ = some (.bool p) := by simp [World.cell?, hr3]
      have Hr1 : W.cell? ⟨br, 1, none⟩ = some (.int .u64 0) := by simp [World.cell?, hr3]
      have Hr2 : W.cell? ⟨br, 2, none⟩ = some (.int .u64 (M : Int)) := by simp [World.cell?, hr3]
      have Hrf : Hid (∀ i, W.frozen? ⟨br, i, none⟩ = false) := Lib.hid fun i => by simp [World.frozen?, hr3]
      have hbr : w.heap.size ≤ br := by omega
      have Hd0' : W.cell? ⟨w2.heap.size + 1, 0, none⟩ = some (.bool q) := (YC.out 0).trans Hd0.out
      have Hd1' : W.cell? ⟨w2.heap.size + 1, 1, none⟩ = some (.int .u64 0) := (YC.out 1).trans Hd1.out
      have Hd2' : W.cell? ⟨w2.heap.size + 1, 2, none⟩ = some (.int .u64 (y : Int)) := (YC.out 2).trans Hd2.out
      clear hG hall hq0 hr0 hqr hq3 hr3 hZ hM hk YC Hc0 Hc2 Hd0 Hd1 Hd2 Hdq Hdr Hdt Hdw hl8 hl9 hq1 hr1 HW23 hbw
      go_wp2_with fail
      refine (back13_any p 0 (M : Int) (by omega) (by omega) _).mono ?_
      rintro e w4 ⟨rfl, hI⟩
      replace BW := Lib.hid (BW.out.trans (hI.mono BW.out.size))
      clear hI
      rw [REM.out]
      obtain ⟨R, hR⟩ : ∃ R, R = remR a b := ⟨_, rfl⟩
      have HR := Lib.hid hR
      rw [← hR]
      clear hR REM
      go_wp2
      go_ret2
      rw [← HR.out]
      exact ⟨rfl, BW.out⟩

set_option maxRecDepth 100000 in
set_option maxHeartbeats 4000000 in
theorem tog_mod (a b : Int) (ha : isI64 a) (hb : isI64 b) (w : World) : Calls Try.prog 58 #[.string ⟨#[109, 111, 100]⟩, .int .i64 a, .int .i64 b] w fun e w' => e = .returned (ansR (modR a b)) ∧ Below w.heap.size w w' := by
  have HA := Lib.hid ha
  have HB := Lib.hid hb
  have hA := nat_bd ha
  have hB := nat_bd hb
  clear ha hb
  have BW := Lib.hid (Below.refl w.heap.size w)
  go_enter Try.func58, Try.ntmps58
  go_wp2_with fail
  refine (of13_any a HA.out _).mono ?_
  rintro e w1 ⟨rfl, hI⟩
  replace BW := Lib.hid (BW.out.trans (hI.mono BW.out.size))
  clear hI
  go_wp2_with fail
  refine (of13_any b HB.out _).mono ?_
  rintro e w2 ⟨rfl, hI⟩
  replace BW := Lib.hid (BW.out.trans (hI.mono BW.out.size))
  clear hI
  unfold numV
  obtain ⟨p, hp⟩ : ∃ p, p = decide (a < 0) := ⟨_, rfl⟩
  obtain ⟨q, hq⟩ : ∃ q, q = decide (b < 0) := ⟨_, rfl⟩
  obtain ⟨x, hx⟩ : ∃ x, x = a.natAbs := ⟨_, rfl⟩
  obtain ⟨y, hy⟩ : ∃ y, y = b.natAbs := ⟨_, rfl⟩
  rw [← hp, ← hq, ← hx, ← hy]
  rw [← hx] at hA
  rw [← hy] at hB
  have PE := Lib.hid hp
  have QE := Lib.hid hq
  have XE := Lib.hid hx
  have YE := Lib.hid hy
  clear hp hq hx hy
  by_cases h0 : (b == 0) = true
  · have hb0 : b = 0 := by simpa using h0
    have RE : Hid (modR a b = (0, 23)) := Lib.hid (by unfold modR; rw [if_pos hb0])
    clear hb0
    go_wp2
    go_ret2
    rw [RE.out]
    exact ⟨rfl, BW.out.trans ((below2 w2 _ _).mono BW.out.size)⟩
  · rw [Bool.not_eq_true] at h0
    have hy0 : ¬ ((y : Int) = 0) := by have := beq_eq_false_iff_ne.1 h0; have := YE.out; omega
    have hyn : ¬ y = 0 := by omega
    have hy1 : ((y : Int) == 0) = false := by simpa using hy0
    have hy2 : 0 < y := by omega
    have hb0 : b ≠ 0 := beq_eq_false_iff_ne.1 h0
    have HB0 := Lib.hid hb0
    have HB0' := HB
    clear hb0
    go_upto_region 12 with fail
    obtain ⟨W3, hW3⟩ : ∃ W3, W3 = ((w2.alloc (.cells #[.bool p, .int .u64 0, .int .u64 x] 117)).alloc (.cells #[.bool q, .int .u64 0, .int .u64 y] 117)) := ⟨_, rfl⟩
    rw [← hW3]
    have Hc0 : Hid (W3.cell? ⟨w2.heap.size, 0, none⟩ = some (.bool p)) := Lib.hid (by rw [hW3]; simp [go_sem])
    have Hc2 : Hid (W3.cell? ⟨w2.heap.size, 2, none⟩ = some (.int .u64 x)) := Lib.hid (by rw [hW3]; simp [go_sem])
    have Hd0 : Hid (W3.cell? ⟨w2.heap.size + 1, 0, none⟩ = some (.bool q)) := Lib.hid (by rw [hW3]; simp [go_sem])
    have Hd2 : Hid (W3.cell? ⟨w2.heap.size + 1, 2, none⟩ = some (.int .u64 y)) := Lib.hid (by rw [hW3]; simp [go_sem])
    have Hd1 : Hid (W3.cell? ⟨w2.heap.size + 1, 1, none⟩ = some (.int .u64 0)) := Lib.hid (by rw [hW3]; simp [go_sem])
    have HW23 : Hid (w2.heap.size ≤ W3.heap.size) := Lib.hid (by rw [hW3]; simp; omega)
    have hl8 : w2.heap.size < W3.heap.size := by rw [hW3]; simp; omega
    have hl9 : w2.heap.size + 1 < W3.heap.size := by rw [hW3]; simp
    have Hdq : Hid ((x : Int) / (y : Int) = ((x / y : Nat) : Int)) := Lib.hid (Int.natCast_ediv x y).symm
    have Hdw : Hid (IntKind.u64.wrap ((x : Int) / (y : Int)) = ((x / y : Nat) : Int)) := Lib.hid (by have h1 := Nat.div_le_self x y; rw [show (x : Int) / (y : Int) = ((x / y : Nat) : Int) from (Int.natCast_ediv x y).symm, Mul64.wrapN _ (by omega)])
    have Hdt : Hid ((x : Int).tmod (y : Int) = (x : Int) % (y : Int)) := Lib.hid (Int.tmod_eq_emod_of_nonneg (by omega))
    have Hdr : Hid ((x : Int) % (y : Int) = ((x % y : Nat) : Int)) := Lib.hid (Int.natCast_emod x y).symm
    replace BW := Lib.hid (BW.out.trans ((by rw [hW3]; exact below2 w2 _ _ : Below w2.heap.size w2 W3).mono BW.out.size))
    clear hW3
    refine region_by_inv (D2 W3 (valOf2 [.pointer (some ⟨w2.heap.size, 0, none⟩), .bool p, .pointer (some ⟨(w2.heap.size + 1), 0, none⟩), .bool q, .bool (!(p == q)), .pointer (some ⟨w2.heap.size, 2, none⟩), .int .u64 (x : Int), .pointer (some ⟨(w2.heap.size + 1), 2, none⟩), .int .u64 (y : Int), .int .u64 ((x : Int) / (y : Int)), .agg #[.bool (!(p == q)), .int .u64 0, .int .u64 ((x : Int) / (y : Int))], .pointer (some ⟨w2.heap.size, 0, none⟩), .bool p, .pointer (some ⟨w2.heap.size, 2, none⟩), .int .u64 (x : Int), .pointer (some ⟨(w2.heap.size + 1), 2, none⟩), .int .u64 (y : Int), .int .u64 ((x : Int) % (y : Int)), .agg #[.bool p, .int .u64 0, .int .u64 ((x : Int) % (y : Int))]]) #[.bool (!(p == q)), .int .u64 0, .int .u64 ((x : Int) / (y : Int))] #[.bool p, .int .u64 0, .int .u64 ((x : Int) % (y : Int))]) (by kernel_rfl) (by kernel_rfl) (by kernel_rfl) ?h0r ?stepsr ?doner
    case h0r => exact fun f => D2.start (Below.refl _ _).drew f
    case stepsr =>
      refine ⟨?_, ?_, ?_, ?_, ?_, ?_, ?_, ?_, ?_, ?_, ?_, ?_, ?_, ?_, ?_, ?_, ?_, ?_, ?_, ?_, ?_, ?_, ?_, trivial⟩
      · intro L f W hi hw hG K hK
        simp only [frameOf, Act.put, Nat.zero_add, Nat.reduceAdd, List.setIfInBounds_toArray, List.set_cons_zero, List.set_cons_succ]
        go_simp
        refine hK.out (.pointer (some ⟨w2.heap.size, 0, none⟩)) _ W ?_ (hG.pure (by omega) rfl)
        simp only [frameOf, Act.put, Nat.zero_add, Nat.reduceAdd, List.setIfInBounds_toArray, List.set_cons_zero, List.set_cons_succ]
      · intro L f W hi hw hG K hK
        simp only [frameOf, Act.put, Nat.zero_add, Nat.reduceAdd, List.setIfInBounds_toArray, List.set_cons_zero, List.set_cons_succ]
        have h0 : f 0 = .pointer (some ⟨w2.heap.size, 0, none⟩) := hG.v 0 (by omega) (hw 0 (by kernel_rfl))
        rw [h0]
        have c0 := ((stays hG.B).1 _ _ hl8).trans Hc0.out
        go_simp
        refine hK.out (.bool p) _ W ?_ (hG.pure (by omega) rfl)
        simp only [frameOf, Act.put, Nat.zero_add, Nat.reduceAdd, List.setIfInBounds_toArray, List.set_cons_zero, List.set_cons_succ, h0]
      · intro L f W hi hw hG K hK
        simp only [frameOf, Act.put, Nat.zero_add, Nat.reduceAdd, List.setIfInBounds_toArray, List.set_cons_zero, List.set_cons_succ]
        go_simp
        refine hK.out (.pointer (some ⟨(w2.heap.size + 1), 0, none⟩)) _ W ?_ (hG.pure (by omega) rfl)
        simp only [frameOf, Act.put, Nat.zero_add, Nat.reduceAdd, List.setIfInBounds_toArray, List.set_cons_zero, List.set_cons_succ]
      · intro L f W hi hw hG K hK
        simp only [frameOf, Act.put, Nat.zero_add, Nat.reduceAdd, List.setIfInBounds_toArray, List.set_cons_zero, List.set_cons_succ]
        have h2 : f 2 = .pointer (some ⟨(w2.heap.size + 1), 0, none⟩) := hG.v 2 (by omega) (hw 2 (by kernel_rfl))
        rw [h2]
        have d0 := ((stays hG.B).1 _ _ hl9).trans Hd0.out
        go_simp
        refine hK.out (.bool q) _ W ?_ (hG.pure (by omega) rfl)
        simp only [frameOf, Act.put, Nat.zero_add, Nat.reduceAdd, List.setIfInBounds_toArray, List.set_cons_zero, List.set_cons_succ, h2]
      · intro L f W hi hw hG K hK
        simp only [frameOf, Act.put, Nat.zero_add, Nat.reduceAdd, List.setIfInBounds_toArray, List.set_cons_zero, List.set_cons_succ]
        have h1 : f 1 = .bool p := hG.v 1 (by omega) (hw 1 (by kernel_rfl))
        have h3 : f 3 = .bool q := hG.v 3 (by omega) (hw 3 (by kernel_rfl))
        rw [h1, h3]
        go_simp
        refine hK.out (.bool (!(p == q))) _ W ?_ (hG.pure (by omega) rfl)
        simp only [frameOf, Act.put, Nat.zero_add, Nat.reduceAdd, List.setIfInBounds_toArray, List.set_cons_zero, List.set_cons_succ, h1, h3]
      · intro L f W hi hw hG K hK
        simp only [frameOf, Act.put, Nat.zero_add, Nat.reduceAdd, List.setIfInBounds_toArray, List.set_cons_zero, List.set_cons_succ]
        go_simp
        refine hK.out (.pointer (some ⟨w2.heap.size, 2, none⟩)) _ W ?_ (hG.pure (by omega) rfl)
        simp only [frameOf, Act.put, Nat.zero_add, Nat.reduceAdd, List.setIfInBounds_toArray, List.set_cons_zero, List.set_cons_succ]
      · intro L f W hi hw hG K hK
        simp only [frameOf, Act.put, Nat.zero_add, Nat.reduceAdd, List.setIfInBounds_toArray, List.set_cons_zero, List.set_cons_succ]
        have h5 : f 5 = .pointer (some ⟨w2.heap.size, 2, none⟩) := hG.v 5 (by omega) (hw 5 (by kernel_rfl))
        rw [h5]
        have c2 := ((stays hG.B).1 _ _ hl8).trans Hc2.out
        go_simp
        refine hK.out (.int .u64 (x : Int)) _ W ?_ (hG.pure (by omega) rfl)
        simp only [frameOf, Act.put, Nat.zero_add, Nat.reduceAdd, List.setIfInBounds_toArray, List.set_cons_zero, List.set_cons_succ, h5]
      · intro L f W hi hw hG K hK
        simp only [frameOf, Act.put, Nat.zero_add, Nat.reduceAdd, List.setIfInBounds_toArray, List.set_cons_zero, List.set_cons_succ]
        go_simp
        refine hK.out (.pointer (some ⟨(w2.heap.size + 1), 2, none⟩)) _ W ?_ (hG.pure (by omega) rfl)
        simp only [frameOf, Act.put, Nat.zero_add, Nat.reduceAdd, List.setIfInBounds_toArray, List.set_cons_zero, List.set_cons_succ]
      · intro L f W hi hw hG K hK
        simp only [frameOf, Act.put, Nat.zero_add, Nat.reduceAdd, List.setIfInBounds_toArray, List.set_cons_zero, List.set_cons_succ]
        have h7 : f 7 = .pointer (some ⟨(w2.heap.size + 1), 2, none⟩) := hG.v 7 (by omega) (hw 7 (by kernel_rfl))
        rw [h7]
        have d2 := ((stays hG.B).1 _ _ hl9).trans Hd2.out
        go_simp
        refine hK.out (.int .u64 (y : Int)) _ W ?_ (hG.pure (by omega) rfl)
        simp only [frameOf, Act.put, Nat.zero_add, Nat.reduceAdd, List.setIfInBounds_toArray, List.set_cons_zero, List.set_cons_succ, h7]
      · intro L f W hi hw hG K hK
        simp only [frameOf, Act.put, Nat.zero_add, Nat.reduceAdd, List.setIfInBounds_toArray, List.set_cons_zero, List.set_cons_succ]
        have h6 : f 6 = .int .u64 (x : Int) := hG.v 6 (by omega) (hw 6 (by kernel_rfl))
        have h8 : f 8 = .int .u64 (y : Int) := hG.v 8 (by omega) (hw 8 (by kernel_rfl))
        rw [h6, h8]
        have dq := Hdw.out
        go_simp
        refine hK.out (.int .u64 ((x : Int) / (y : Int))) _ W ?_ (hG.pure (by omega) rfl)
        simp only [frameOf, Act.put, Nat.zero_add, Nat.reduceAdd, List.setIfInBounds_toArray, List.set_cons_zero, List.set_cons_succ, h6, h8]
      · intro L f W hi hw hG K hK
        simp only [frameOf, Act.put, Nat.zero_add, Nat.reduceAdd, List.setIfInBounds_toArray, List.set_cons_zero, List.set_cons_succ]
        have h4 : f 4 = .bool (!(p == q)) := hG.v 4 (by omega) (hw 4 (by kernel_rfl))
        have h9 : f 9 = .int .u64 ((x : Int) / (y : Int)) := hG.v 9 (by omega) (hw 9 (by kernel_rfl))
        rw [h4, h9]
        go_simp
        refine hK.out (.agg #[.bool (!(p == q)), .int .u64 0, .int .u64 ((x : Int) / (y : Int))]) _ W ?_ (hG.pure (by omega) rfl)
        simp only [frameOf, Act.put, Nat.zero_add, Nat.reduceAdd, List.setIfInBounds_toArray, List.set_cons_zero, List.set_cons_succ, h4, h9]
      · intro L f W hi hw hG K hK
        simp only [frameOf, Act.put, Nat.zero_add, Nat.reduceAdd, List.setIfInBounds_toArray, List.set_cons_zero, List.set_cons_succ]
        go_simp
        refine hK.out (.pointer (some ⟨w2.heap.size, 0, none⟩)) _ W ?_ (hG.pure (by omega) rfl)
        simp only [frameOf, Act.put, Nat.zero_add, Nat.reduceAdd, List.setIfInBounds_toArray, List.set_cons_zero, List.set_cons_succ]
      · intro L f W hi hw hG K hK
        simp only [frameOf, Act.put, Nat.zero_add, Nat.reduceAdd, List.setIfInBounds_toArray, List.set_cons_zero, List.set_cons_succ]
        have h11 : f 11 = .pointer (some ⟨w2.heap.size, 0, none⟩) := hG.v 11 (by omega) (hw 11 (by kernel_rfl))
        rw [h11]
        have c0 := ((stays hG.B).1 _ _ hl8).trans Hc0.out
        go_simp
        refine hK.out (.bool p) _ W ?_ (hG.pure (by omega) rfl)
        simp only [frameOf, Act.put, Nat.zero_add, Nat.reduceAdd, List.setIfInBounds_toArray, List.set_cons_zero, List.set_cons_succ, h11]
      · intro L f W hi hw hG K hK
        simp only [frameOf, Act.put, Nat.zero_add, Nat.reduceAdd, List.setIfInBounds_toArray, List.set_cons_zero, List.set_cons_succ]
        go_simp
        refine hK.out (.pointer (some ⟨w2.heap.size, 2, none⟩)) _ W ?_ (hG.pure (by omega) rfl)
        simp only [frameOf, Act.put, Nat.zero_add, Nat.reduceAdd, List.setIfInBounds_toArray, List.set_cons_zero, List.set_cons_succ]
      · intro L f W hi hw hG K hK
        simp only [frameOf, Act.put, Nat.zero_add, Nat.reduceAdd, List.setIfInBounds_toArray, List.set_cons_zero, List.set_cons_succ]
        have h13 : f 13 = .pointer (some ⟨w2.heap.size, 2, none⟩) := hG.v 13 (by omega) (hw 13 (by kernel_rfl))
        rw [h13]
        have c2 := ((stays hG.B).1 _ _ hl8).trans Hc2.out
        go_simp
        refine hK.out (.int .u64 (x : Int)) _ W ?_ (hG.pure (by omega) rfl)
        simp only [frameOf, Act.put, Nat.zero_add, Nat.reduceAdd, List.setIfInBounds_toArray, List.set_cons_zero, List.set_cons_succ, h13]
      · intro L f W hi hw hG K hK
        simp only [frameOf, Act.put, Nat.zero_add, Nat.reduceAdd, List.setIfInBounds_toArray, List.set_cons_zero, List.set_cons_succ]
        go_simp
        refine hK.out (.pointer (some ⟨(w2.heap.size + 1), 2, none⟩)) _ W ?_ (hG.pure (by omega) rfl)
        simp only [frameOf, Act.put, Nat.zero_add, Nat.reduceAdd, List.setIfInBounds_toArray, List.set_cons_zero, List.set_cons_succ]
      · intro L f W hi hw hG K hK
        simp only [frameOf, Act.put, Nat.zero_add, Nat.reduceAdd, List.setIfInBounds_toArray, List.set_cons_zero, List.set_cons_succ]
        have h15 : f 15 = .pointer (some ⟨(w2.heap.size + 1), 2, none⟩) := hG.v 15 (by omega) (hw 15 (by kernel_rfl))
        rw [h15]
        have d2 := ((stays hG.B).1 _ _ hl9).trans Hd2.out
        go_simp
        refine hK.out (.int .u64 (y : Int)) _ W ?_ (hG.pure (by omega) rfl)
        simp only [frameOf, Act.put, Nat.zero_add, Nat.reduceAdd, List.setIfInBounds_toArray, List.set_cons_zero, List.set_cons_succ, h15]
      · intro L f W hi hw hG K hK
        simp only [frameOf, Act.put, Nat.zero_add, Nat.reduceAdd, List.setIfInBounds_toArray, List.set_cons_zero, List.set_cons_succ]
        have h14 : f 14 = .int .u64 (x : Int) := hG.v 14 (by omega) (hw 14 (by kernel_rfl))
        have h16 : f 16 = .int .u64 (y : Int) := hG.v 16 (by omega) (hw 16 (by kernel_rfl))
        rw [h14, h16]
        go_simp
        refine hK.out (.int .u64 ((x : Int) % (y : Int))) _ W ?_ (hG.pure (by omega) rfl)
        simp only [frameOf, Act.put, Nat.zero_add, Nat.reduceAdd, List.setIfInBounds_toArray, List.set_cons_zero, List.set_cons_succ, h14, h16, Hdt.out]
      · intro L f W hi hw hG K hK
        simp only [frameOf, Act.put, Nat.zero_add, Nat.reduceAdd, List.setIfInBounds_toArray, List.set_cons_zero, List.set_cons_succ]
        have h12 : f 12 = .bool p := hG.v 12 (by omega) (hw 12 (by kernel_rfl))
        have h17 : f 17 = .int .u64 ((x : Int) % (y : Int)) := hG.v 17 (by omega) (hw 17 (by kernel_rfl))
        rw [h12, h17]
        go_simp
        refine hK.out (.agg #[.bool p, .int .u64 0, .int .u64 ((x : Int) % (y : Int))]) _ W ?_ (hG.pure (by omega) rfl)
        simp only [frameOf, Act.put, Nat.zero_add, Nat.reduceAdd, List.setIfInBounds_toArray, List.set_cons_zero, List.set_cons_succ, h12, h17]
      · intro L f W hi hw hG K hK
        simp only [frameOf, Act.put, Nat.zero_add, Nat.reduceAdd, List.setIfInBounds_toArray, List.set_cons_zero, List.set_cons_succ]
        go_simp
        refine hK.out (.pointer (some ⟨W.heap.size, 0, none⟩)) _ _ ?_ (hG.new19 hi)
        simp only [frameOf, Act.put, Nat.zero_add, Nat.reduceAdd, List.setIfInBounds_toArray, List.set_cons_zero, List.set_cons_succ]
      · intro L f W hi hw hG K hK
        simp only [frameOf, Act.put, Nat.zero_add, Nat.reduceAdd, List.setIfInBounds_toArray, List.set_cons_zero, List.set_cons_succ]
        go_simp
        refine hK.out (.pointer (some ⟨W.heap.size, 0, none⟩)) _ _ ?_ (hG.new20 hi)
        simp only [frameOf, Act.put, Nat.zero_add, Nat.reduceAdd, List.setIfInBounds_toArray, List.set_cons_zero, List.set_cons_succ]
      · intro L f W hi hw hG K hK
        simp only [frameOf, Act.put, Nat.zero_add, Nat.reduceAdd, List.setIfInBounds_toArray, List.set_cons_zero, List.set_cons_succ]
        have h10 : f 10 = .agg #[.bool (!(p == q)), .int .u64 0, .int .u64 ((x : Int) / (y : Int))] := hG.v 10 (by omega) (hw 10 (by kernel_rfl))
        have hL := hw 19 (by kernel_rfl)
        obtain ⟨b0, hb0, hb1, hb2, hb3⟩ := hG.a hL
        rw [if_neg (by rw [hi]; simp)] at hb3
        have z0 : W.cell? ⟨b0, 0, none⟩ = some (.bool false) := by simp [World.cell?, hb3, zNum]
        have z1 : W.cell? ⟨b0, 1, none⟩ = some (.int .u64 0) := by simp [World.cell?, hb3, zNum]
        have z2 : W.cell? ⟨b0, 2, none⟩ = some (.int .u64 0) := by simp [World.cell?, hb3, zNum]
        have zf : ∀ i, W.frozen? ⟨b0, i, none⟩ = false := fun i => by simp [World.frozen?, hb3]
        rw [h10, hb0]
        go_simp
        refine hK.out undef _ _ ?_ (hG.put21 hi hL hb0)
        simp only [frameOf, Act.put, Nat.zero_add, Nat.reduceAdd, List.setIfInBounds_toArray, List.set_cons_zero, List.set_cons_succ, h10, hb0]
      · intro L f W hi hw hG K hK
        simp only [frameOf, Act.put, Nat.zero_add, Nat.reduceAdd, List.setIfInBounds_toArray, List.set_cons_zero, List.set_cons_succ]
        have h18 : f 18 = .agg #[.bool p, .int .u64 0, .int .u64 ((x : Int) % (y : Int))] := hG.v 18 (by omega) (hw 18 (by kernel_rfl))
        have hL := hw 20 (by kernel_rfl)
        obtain ⟨b0, hb0, hb1, hb2, hb3⟩ := hG.b hL
        rw [if_neg (by rw [hi]; simp)] at hb3
        have z0 : W.cell? ⟨b0, 0, none⟩ = some (.bool false) := by simp [World.cell?, hb3, zNum]
        have z1 : W.cell? ⟨b0, 1, none⟩ = some (.int .u64 0) := by simp [World.cell?, hb3, zNum]
        have z2 : W.cell? ⟨b0, 2, none⟩ = some (.int .u64 0) := by simp [World.cell?, hb3, zNum]
        have zf : ∀ i, W.frozen? ⟨b0, i, none⟩ = false := fun i => by simp [World.frozen?, hb3]
        rw [h18, hb0]
        go_simp
        refine hK.out undef _ _ ?_ (hG.put22 hi hL hb0)
        simp only [frameOf, Act.put, Nat.zero_add, Nat.reduceAdd, List.setIfInBounds_toArray, List.set_cons_zero, List.set_cons_succ, h18, hb0]
    case doner =>
      intro L f W hall hG
      obtain ⟨bq, hq0, hq1, hq2, hq3⟩ := hG.a (hall 19 (by decide))
      obtain ⟨br, hr0, hr1, hr2, hr3⟩ := hG.b (hall 20 (by decide))
      rw [if_pos (hall 21 (by decide))] at hq3
      rw [if_pos (hall 22 (by decide))] at hr3
      have hqr : bq ≠ br := fun e => hG.ne (hall 19 (by decide)) (hall 20 (by decide)) (by rw [hq0, hr0, e])
      have hbw : w.heap.size ≤ W3.heap.size := by have := BW.out.size; have := HW23.out; omega
      replace BW : Hid (Below w.heap.size w W) := Lib.hid (BW.out.trans (hG.B.mono BW.out.size))
      have YC : Hid (∀ o, W.cell? ⟨w2.heap.size + 1, o, none⟩ = W3.cell? ⟨w2.heap.size + 1, o, none⟩) := Lib.hid fun o => (stays hG.B).1 _ _ hl9
      simp only [frameOf, Act.put, Nat.zero_add, Nat.reduceAdd, List.setIfInBounds_toArray, List.set_cons_zero, List.set_cons_succ, hq0, hr0, Nat.zero_add, Nat.reduceAdd]
      rw [Hdq.out] at hq3
      rw [Hdr.out] at hr3
      obtain ⟨Z, hZ⟩ : ∃ Z, Z = x / y := ⟨_, rfl⟩
      obtain ⟨M, hM⟩ : ∃ M, M = x % y := ⟨_, rfl⟩
      have hZb : Z ≤ 9223372036854775808 := by rw [hZ]; exact Nat.le_trans (Nat.div_le_self x y) hA
      have hMb : M ≤ 9223372036854775808 := by rw [hM]; exact Nat.le_trans (Nat.mod_le x y) hA
      have REM : Hid True := Lib.hid trivial
      rw [← hZ] at hq3
      rw [← hM] at hr3
      obtain ⟨k, hk⟩ : ∃ k, k = (!(p == q)) := ⟨_, rfl⟩
      rw [← hk] at hq3
      have RE0 : Hid (¬ (M ≠ 0 ∧ p ≠ q) → backR p 0 ((M : Nat) : Int) = modR a b) := Lib.hid (by rw [hM]; exact back_mod0 HB0'.out HB0.out PE.out QE.out XE.out YE.out)
      have RE1 : Hid (M ≠ 0 → p ≠ q → backR (plusN p ((M : Nat) : Int) q (y : Int)).1 (plusN p ((M : Nat) : Int) q (y : Int)).2.1 (plusN p ((M : Nat) : Int) q (y : Int)).2.2 = modR a b) := Lib.hid (by rw [hM]; exact back_mod1 HB0'.out HB0.out PE.out QE.out XE.out YE.out)
      have Hq0 : W.cell? ⟨bq, 0, none⟩ = some (.bool k) := by simp [World.cell?, hq3]
      have Hq1 : W.cell? ⟨bq, 1, none⟩ = some (.int .u64 0) := by simp [World.cell?, hq3]
      have Hq2 : W.cell? ⟨bq, 2, none⟩ = some (.int .u64 (Z : Int)) := by simp [World.cell?, hq3]
      have Hr0 : W.cell? ⟨br, 0, none⟩ = some (.bool p) := by simp [World.cell?, hr3]
      have Hr1 : W.cell? ⟨br, 1, none⟩ = some (.int .u64 0) := by simp [World.cell?, hr3]
      have Hr2 : W.cell? ⟨br, 2, none⟩ = some (.int .u64 (M : Int)) := by simp [World.cell?, hr3]
      have Hrf : Hid (∀ i, W.frozen? ⟨br, i, none⟩ = false) := Lib.hid fun i => by simp [World.frozen?, hr3]
      have hbr : w.heap.size ≤ br := by omega
      have Hd0' : W.cell? ⟨w2.heap.size + 1, 0, none⟩ = some (.bool q) := (YC.out 0).trans Hd0.out
      have Hd1' : W.cell? ⟨w2.heap.size + 1, 1, none⟩ = some (.int .u64 0) := (YC.out 1).trans Hd1.out
      have Hd2' : W.cell? ⟨w2.heap.size + 1, 2, none⟩ = some (.int .u64 (y : Int)) := (YC.out 2).trans Hd2.out
      clear hG hall hq0 hr0 hqr hq3 hr3 hZ hM hk YC Hc0 Hc2 Hd0 Hd1 Hd2 Hdq Hdr Hdt Hdw hl8 hl9 hq1 hr1 HW23 hbw
      by_cases hM0 : M = 0
      · replace REM : Hid (backR p 0 ((M : Nat) : Int) = modR a b) := Lib.hid (RE0.out (fun h => h.1 hM0))
        clear RE0 RE1
        subst hM0
        go_wp2_with fail
        refine (back13_any p 0 ((0 : Nat) : Int) (by omega) (by omega) _).mono ?_
        rintro e w4 ⟨rfl, hI⟩
        replace BW := Lib.hid (BW.out.trans (hI.mono BW.out.size))
        clear hI
        rw [REM.out]
        obtain ⟨R, hR⟩ : ∃ R, R = modR a b := ⟨_, rfl⟩
        have HR := Lib.hid hR
        rw [← hR]
        clear hR REM
        go_wp2
        go_ret2
        rw [← HR.out]
        exact ⟨rfl, BW.out⟩
      · by_cases hpq : p = q
        · replace REM : Hid (backR p 0 ((M : Nat) : Int) = modR a b) := Lib.hid (RE0.out (fun h => h.2 hpq))
          clear RE0 RE1
          subst hpq
          go_wp2_with fail
          refine (back13_any p 0 (M : Int) (by omega) (by omega) _).mono ?_
          rintro e w4 ⟨rfl, hI⟩
          replace BW := Lib.hid (BW.out.trans (hI.mono BW.out.size))
          clear hI
          rw [REM.out]
          obtain ⟨R, hR⟩ : ∃ R, R = modR a b := ⟨_, rfl⟩
          have HR := Lib.hid hR
          rw [← hR]
          clear hR REM
          go_wp2
          go_ret2
          rw [← HR.out]
          exact ⟨rfl, BW.out⟩
        · have REM := Lib.hid (RE1.out hM0 hpq)
          clear RE0 RE1
          have hpq' : (p == q) = false := by simpa using hpq
          have hb0 := plusN_bd p M q y hMb hB
          go_wp2_with fail
          refine (plus13_any p (M : Int) q (y : Int) (by omega) (by omega) _).mono ?_
          rintro e w3 ⟨rfl, hI⟩
          unfold nV numV
          obtain ⟨P, hP⟩ : ∃ P, P = plusN p (M : Int) q (y : Int) := ⟨_, rfl⟩
          rw [← hP] at REM hb0 ⊢
          clear hP
          have f0 := ((stays hI).2 br 0 hr2).trans (Hrf.out 0)
          have f1 := ((stays hI).2 br 1 hr2).trans (Hrf.out 1)
          have f2 := ((stays hI).2 br 2 hr2).trans (Hrf.out 2)
          have g0 := ((stays hI).1 br 0 hr2).trans Hr0
          have g1 := ((stays hI).1 br 1 hr2).trans Hr1
          have g2 := ((stays hI).1 br 2 hr2).trans Hr2
          replace BW := Lib.hid (BW.out.trans (hI.mono BW.out.size))
          clear hI Hq0 Hq1 Hq2 Hr0 Hr1 Hr2 Hd0' Hd1' Hd2'
          go_wp2_with fail
          refine (back13_any P.1 P.2.1 P.2.2 hb0.1 hb0.2 _).mono ?_
          rintro e w4 ⟨rfl, hI⟩
          replace BW := Lib.hid (((BW.out.setCell (p := ⟨br, 0, none⟩) hbr (.bool P.1)).setCell (p := ⟨br, 1, none⟩) hbr (.int .u64 P.2.1)).setCell (p := ⟨br, 2, none⟩) hbr (.int .u64 P.2.2))
          replace BW := Lib.hid (BW.out.trans (hI.mono BW.out.size))
          clear hI
          rw [REM.out]
          obtain ⟨R, hR⟩ : ∃ R, R = modR a b := ⟨_, rfl⟩
          have HR := Lib.hid hR
          rw [← hR]
          clear hR REM
          go_wp2
          go_ret2
          rw [← HR.out]
          exact ⟨rfl, BW.out⟩

end Go.Proofs.Ytnmhnaanpjlniaa
