import Derived.Test.YtnmhnaanpjlniaaTf
/-
  Whether a term is good.
-/
namespace Go.Proofs.Ytnmhnaanpjlniaa
open Go.RowKit

/-- whether a node, without its parts, is as it should be -/
noncomputable def headB (k : Int) (s : ByteArray) (n : Int) (len : Nat) : Bool :=
  if k = 1 then decide (0 ≤ n) && ((s.toList == []) && ((len : Int) == 0))
  else if k = 2 then (s.toList == []) && ((len : Int) == 0)
  else if k = 3 then (n == 0) && (((len : Int) == 0) && nameB s)
  else (k == 4) && ((n == 0) && (decide (0 < len) && (decide (len ≤ 16) && nameB s)))

theorem head_ways (k : Int) (s : ByteArray) (n : Int) (len : Nat) :
    ((k == 1) = true ∧ n < 0 ∧ headB k s n len = false) ∨
    ((k == 1) = true ∧ 0 ≤ n ∧ (s.toList == []) = false ∧ headB k s n len = false) ∨
    ((k == 1) = true ∧ 0 ≤ n ∧ (s.toList == []) = true ∧ headB k s n len = ((len : Int) == 0)) ∨
    ((k == 1) = false ∧ (k == 2) = true ∧ (s.toList == []) = false ∧ headB k s n len = false) ∨
    ((k == 1) = false ∧ (k == 2) = true ∧ (s.toList == []) = true ∧ headB k s n len = ((len : Int) == 0)) ∨
    ((k == 1) = false ∧ (k == 2) = false ∧ (k == 3) = true ∧ (n == 0) = false ∧ headB k s n len = false) ∨
    ((k == 1) = false ∧ (k == 2) = false ∧ (k == 3) = true ∧ (n == 0) = true ∧ ((len : Int) == 0) = false ∧ headB k s n len = false) ∨
    ((k == 1) = false ∧ (k == 2) = false ∧ (k == 3) = true ∧ (n == 0) = true ∧ ((len : Int) == 0) = true ∧ headB k s n len = nameB s) ∨
    ((k == 1) = false ∧ (k == 2) = false ∧ (k == 3) = false ∧ (k == 4) = false ∧ headB k s n len = false) ∨
    ((k == 1) = false ∧ (k == 2) = false ∧ (k == 3) = false ∧ (k == 4) = true ∧ (n == 0) = false ∧ headB k s n len = false) ∨
    ((k == 1) = false ∧ (k == 2) = false ∧ (k == 3) = false ∧ (k == 4) = true ∧ (n == 0) = true ∧ (len : Int) ≤ 0 ∧ headB k s n len = false) ∨
    ((k == 1) = false ∧ (k == 2) = false ∧ (k == 3) = false ∧ (k == 4) = true ∧ (n == 0) = true ∧ 0 < (len : Int) ∧ 16 < (len : Int) ∧ headB k s n len = false) ∨
    ((k == 1) = false ∧ (k == 2) = false ∧ (k == 3) = false ∧ (k == 4) = true ∧ (n == 0) = true ∧ 0 < (len : Int) ∧ (len : Int) ≤ 16 ∧ headB k s n len = nameB s) := by
  by_cases e1 : k = 1
  · have hh : headB k s n len = (decide (0 ≤ n) && ((s.toList == []) && ((len : Int) == 0))) := by unfold headB; rw [if_pos e1]
    have f1 : (k == 1) = true := by simp [e1]
    rw [hh]
    by_cases a : n < 0
    · exact .inl ⟨f1, a, by rw [decide_eq_false (by omega)]; rfl⟩
    · cases b : (s.toList == []) with
      | false => exact .inr (.inl ⟨f1, by omega, rfl, by simp⟩)
      | true => exact .inr (.inr (.inl ⟨f1, by omega, rfl, by rw [decide_eq_true (by omega)]; rfl⟩))
  · have f1 : (k == 1) = false := by simp [e1]
    by_cases e2 : k = 2
    · have hh : headB k s n len = ((s.toList == []) && ((len : Int) == 0)) := by unfold headB; rw [if_neg e1, if_pos e2]
      have f2 : (k == 2) = true := by simp [e2]
      rw [hh]
      cases b : (s.toList == []) with
      | false => exact .inr (.inr (.inr (.inl ⟨f1, f2, rfl, rfl⟩)))
      | true => exact .inr (.inr (.inr (.inr (.inl ⟨f1, f2, rfl, rfl⟩))))
    · have f2 : (k == 2) = false := by simp [e2]
      by_cases e3 : k = 3
      · have hh : headB k s n len = ((n == 0) && (((len : Int) == 0) && nameB s)) := by unfold headB; rw [if_neg e1, if_neg e2, if_pos e3]
        have f3 : (k == 3) = true := by simp [e3]
        rw [hh]
        cases a : (n == 0) with
        | false => exact .inr (.inr (.inr (.inr (.inr (.inl ⟨f1, f2, f3, rfl, rfl⟩)))))
        | true =>
          cases b : ((len : Int) == 0) with
          | false => exact .inr (.inr (.inr (.inr (.inr (.inr (.inl ⟨f1, f2, f3, rfl, rfl, rfl⟩))))))
          | true => exact .inr (.inr (.inr (.inr (.inr (.inr (.inr (.inl ⟨f1, f2, f3, rfl, rfl, rfl⟩)))))))
      · have hh : headB k s n len = ((k == 4) && ((n == 0) && (decide (0 < len) && (decide (len ≤ 16) && nameB s)))) := by unfold headB; rw [if_neg e1, if_neg e2, if_neg e3]
        have f3 : (k == 3) = false := by simp [e3]
        rw [hh]
        cases f4 : (k == 4) with
        | false => exact .inr (.inr (.inr (.inr (.inr (.inr (.inr (.inr (.inl ⟨f1, f2, f3, rfl, rfl⟩))))))))
        | true =>
          cases a : (n == 0) with
          | false => exact .inr (.inr (.inr (.inr (.inr (.inr (.inr (.inr (.inr (.inl ⟨f1, f2, f3, rfl, rfl, rfl⟩)))))))))
          | true =>
            by_cases b : 0 < len
            · by_cases c : len ≤ 16
              · exact .inr (.inr (.inr (.inr (.inr (.inr (.inr (.inr (.inr (.inr (.inr (.inr ⟨f1, f2, f3, rfl, rfl, by omega, by omega, by rw [decide_eq_true b, decide_eq_true c]; rfl⟩)))))))))))
              · exact .inr (.inr (.inr (.inr (.inr (.inr (.inr (.inr (.inr (.inr (.inr (.inl ⟨f1, f2, f3, rfl, rfl, by omega, by omega, by rw [decide_eq_false c, decide_eq_true b]; rfl⟩)))))))))))
            · exact .inr (.inr (.inr (.inr (.inr (.inr (.inr (.inr (.inr (.inr (.inl ⟨f1, f2, f3, rfl, rfl, by omega, by rw [decide_eq_false b]; rfl⟩))))))))))

noncomputable def shapeL : Ts → Bool
  | .nil => true
  | .cons k s n _ _ kids rest => (shapeL kids && headB k s n kids.len) && shapeL rest

set_option maxRecDepth 100000 in
set_option maxHeartbeats 2000000 in
theorem rshape_any : ∀ (sz : Nat) (ts : Ts), ts.size < sz → ts.size ≤ 1000000 → ts.ok → ∀ (k : Int) (s : ByteArray) (n : Int) (w : World) (p : Option Addr) (c : Nat), s.size ≤ 140737488351232 → Ts.At w p ts →
    Calls Try.prog 63 #[.agg #[.int .u8 k, .string s, .int .i64 n, .slice p ts.len c]] w fun e w' =>
      e = .returned (.bool (shapeL ts && headB k s n ts.len)) ∧ Below w.heap.size w w' := by
  intro sz
  induction sz with
  | zero => intro ts h; omega
  | succ sz ih =>
    intro ts hsz hbig hok k s n w p c hs hat
    have hls := Ts.len_size ts
    obtain ⟨W2, hW2, hsz2, hB2, hc1⟩ := box1 w #[.int .u8 k, .string s, .int .i64 n, .slice p ts.len c] 25
    have a0 : W2.cell? ⟨w.heap.size, 0, none⟩ = some (.int .u8 k) := hc1 0 _ rfl
    have a1 : W2.cell? ⟨w.heap.size, 1, none⟩ = some (.string s) := hc1 1 _ rfl
    have a2 : W2.cell? ⟨w.heap.size, 2, none⟩ = some (.int .i64 n) := hc1 2 _ rfl
    have a3 : W2.cell? ⟨w.heap.size, 3, none⟩ = some (.slice p ts.len c) := hc1 3 _ rfl
    obtain ⟨b, o, hp, hlies⟩ := hat.below hB2
    go_enter Try.func63, Try.ntmps63
    go_wp2
    rw [← hW2]
    have Z := Lib.hid hW2
    have BW := Lib.hid hB2
    clear hB2 hc1 hW2
    go_loopw [3] (fun i wr => ∃ (j : Nat), j ≤ ts.len ∧ i = .int .i64 j ∧ shapeL (ts.drop j) = shapeL ts ∧ Below W2.heap.size W2 wr) (fun i _ => ts.len - (intOf i).toNat)
    case atStart => exact ⟨0, Nat.zero_le _, rfl, rfl, Below.refl _ _⟩
    case round =>
      rename_i wr _
      obtain ⟨j, hk, rfl, hrel, hB⟩ := hrel
      have B := Lib.hid hB
      have R := Lib.hid hrel
      clear hrel
      have a0' := (hB.cell (p := ⟨w.heap.size, 0, none⟩) (by rw [hsz2]; simp)).trans a0
      have a1' := (hB.cell (p := ⟨w.heap.size, 1, none⟩) (by rw [hsz2]; simp)).trans a1
      have a2' := (hB.cell (p := ⟨w.heap.size, 2, none⟩) (by rw [hsz2]; simp)).trans a2
      have a3' := (hB.cell (p := ⟨w.heap.size, 3, none⟩) (by rw [hsz2]; simp)).trans a3
      by_cases hlt : j < ts.len
      · obtain ⟨kk, s1, nn, pp, cc, kids, rest, D, l0, l1, l2, l3, A1, O1, hkl, hsz3, _, hs1, _⟩ := Ts.open_at hlies hB hok hlt
        obtain rfl := Ts.some_of hp hlt
        clear hB hp
        go_wp2_with fail
        refine (ih kids (by omega) (by omega) O1.out kk s1 nn wr pp cc hs1 A1.out).mono ?_
        rintro e w' ⟨rfl, hB3⟩
        have B3 := Lib.hid (B.out.trans (hB3.mono B.out.size))
        clear hB3 l0 l1 l2 l3 a3' a0' a1' a2'
        by_cases hq : (shapeL kids && headB kk s1 nn kids.len) = true
        · rw [hq]
          have Q := Lib.hid hq
          clear hq
          go_wp2
          go_roundw
          case rel =>
            refine ⟨j + 1, by omega, by go_num, ?_, B3.out⟩
            rw [Ts.drop_succ j ts D.out, ← R.out, D.out]
            simp only [shapeL, Q.out, Bool.true_and]
          case measure => simp [intOf]; omega
        · rw [Bool.not_eq_true] at hq
          rw [hq]
          have Q := Lib.hid hq
          clear hq
          go_wp2
          go_ret
          refine ⟨?_, BW.out.trans (B3.out.mono BW.out.size)⟩
          rw [← R.out, D.out]
          simp only [shapeL, Q.out, Bool.false_and]
          rfl
      · have hd := Ts.drop_end hlt
        have h := R.out
        rw [hd] at h
        have H : Hid ((shapeL ts && headB k s n ts.len) = headB k s n ts.len) := Lib.hid (by rw [← h]; rfl)
        have BB : Hid (Below w.heap.size w wr) := Lib.hid (BW.out.trans (B.out.mono BW.out.size))
        clear h hd hB R B Z BW hlies hp hat a0 a1 a2 a3
        rcases head_ways k s n ts.len with ⟨h1, h2, HB⟩ | ⟨h1, h2, h3, HB⟩ | ⟨h1, h2, h3, HB⟩ | ⟨h1, h2, h3, HB⟩ | ⟨h1, h2, h3, HB⟩ | ⟨h1, h2, h3, h4, HB⟩ | ⟨h1, h2, h3, h4, h5, HB⟩ | ⟨h1, h2, h3, h4, h5, HB⟩ | ⟨h1, h2, h3, h4, HB⟩ | ⟨h1, h2, h3, h4, h5, HB⟩ | ⟨h1, h2, h3, h4, h5, h6, HB⟩ | ⟨h1, h2, h3, h4, h5, h6, h7, HB⟩ | ⟨h1, h2, h3, h4, h5, h6, h7, HB⟩
        all_goals (have HB2 := Lib.hid HB; clear HB)
        all_goals go_wp2_with (go_at_call 95; refine (rname_any s hs _).mono ?_; rintro e w' ⟨rfl, rfl⟩)
        all_goals go_ret
        all_goals exact ⟨by rw [H.out, HB2.out]; rfl, BB.out⟩

end Go.Proofs.Ytnmhnaanpjlniaa
