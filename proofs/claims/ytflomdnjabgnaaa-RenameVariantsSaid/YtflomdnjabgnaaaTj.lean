import Derived.Test.YtflomdnjabgnaaaTf
/-
  Whether a term is good.
-/
namespace Go.Proofs.Ytflomdnjabgnaaa
open Go.RowKit

/-- whether a node, without its parts, is as it should be -/
noncomputable def headB (k : Int) (s : ByteArray) (n : Int) (len : Nat) : Bool :=
  if k = 1 then decide (0 ≤ n) && ((s.toList == []) && ((len : Int) == 0))
  else if k = 2 then (s.toList == []) && ((len : Int) == 0)
  else if k = 3 then (n == 0) && (((len : Int) == 0) && nameB s)
  else (k == 4) && ((n == 0) && (decide (0 < len) && (decide (len ≤ 16) && nameB s)))

theorem head_ways (k : Int) (s : ByteArray) (n : Int) (len : Nat) :
    ((k == 1) = true ∧ n < 0 ∧ headB k s n len = false) ∨
    ((k == 1) = true ∧ 0 ≤ n ∧ (s.toList == []) = false ∧ headB k s n len = false) ∨
    ((k == 1) = true ∧ 0 ≤ n ∧ (s.toList == []) = true ∧ headB k s n len = ((len : Int) == 0)) ∨
    ((k == 1) = false ∧ (k == 2) = true ∧ (s.toList == []) = false ∧ headB k s n len = false) ∨
    ((k == 1) = false ∧ (k == 2) = true ∧ (s.toList == []) = true ∧ headB k s n len = ((len : Int) == 0)) ∨
    ((k == 1) = false ∧ (k == 2) = false ∧ (k == 3) = true ∧ (n == 0) = false ∧ headB k s n len = false) ∨
    ((k == 1) = false ∧ (k == 2) = false ∧ (k == 3) = true ∧ (n == 0) = true ∧ ((len : Int) == 0) = false ∧ headB k s n len = false) ∨
    ((k == 1) = false ∧ (k == 2) = false ∧ (k == 3) = true ∧ (n == 0) = true ∧ ((len : Int) == 0) = true ∧ headB k s n len = nameB s) ∨
    ((k == 1) = false ∧ (k == 2) = false ∧ (k == 3) = false ∧ (k == 4) = false ∧ headB k s n len = false) ∨
    ((k == 1) = false ∧ (k == 2) = false ∧ (k == 3) = false ∧ (k == 4) = true ∧ (n == 0) = false ∧ headB k s n len = false) ∨
    ((k == 1) = false ∧ (k == 2) = false ∧ (k == 3) = false ∧ (k == 4) = true ∧ (n == 0) = true ∧ (len : Int) ≤ 0 ∧ headB k s n len = false) ∨
    ((k == 1) = false ∧ (k == 2) = false ∧ (k == 3) = false ∧ (k == 4) = true ∧ (n == 0) = true ∧ 0 < (len : Int) ∧ 16 < (len : Int) ∧ headB k s n len = false) ∨
    ((k == 1) = false ∧ (k == 2) = false ∧ (k == 3) = false ∧ (k == 4) = true ∧ (n == 0) = true ∧ 0 < (len : Int) ∧ (len : Int) ≤ 16 ∧ headB k s n len = nameB s) := by
  by_cases e1 : k = 1
  · have hh : headB k s n len = (decide (0 ≤ n) && ((s.toList == []) && ((len : Int) == 0))) := by unfold headB; rw [if_pos e1]
    have f1 : (k == 1) = true := by simp [e1]
    rw [hh]
    by_cases a : n < 0
    · exact .inl ⟨f1, a, by rw [decide_eq_false (by omega)]; rfl⟩
    · cases b : (s.toList == []) with
      | false => exact .inr (.inl ⟨f1, by omega, rfl, by simp⟩)
      | true => exact .inr (.inr (.inl ⟨f1, by omega, rfl, by rw [decide_eq_true (by omega)]; rfl⟩))
  · have f1 : (k == 1) = false := by simp [e1]
    by_cases e2 : k = 2
    · have hh : headB k s n len = ((s.toList == []) && ((len : Int) == 0)) := by unfold headB; rw [if_neg e1, if_pos e2]
      have f2 : (k == 2) = true := by simp [e2]
      rw [hh]
      cases b : (s.toList == []) with
      | false => exact .inr (.inr (.inr (.inl ⟨f1, f2, rfl, rfl⟩)))
      | true => exact .inr (.inr (.inr (.inr (.inl ⟨f1, f2, rfl, rfl⟩))))
    · have f2 : (k == 2) = false := by simp [e2]
      by_cases e3 : k = 3
      · have hh : headB k s n len = ((n == 0) && (((len : Int) == 0) && nameB s)) := by unfold headB; rw [if_neg e1, if_neg e2, if_pos e3]
        have f3 : (k == 3) = true := by simp [e3]
        rw [hh]
        cases a : (n == 0) with
        | false => exact .inr (.inr (.inr (.inr (.inr (.inl ⟨f1, f2, f3, rfl, rfl⟩)))))
        | true =>
          cases b : ((len : Int) == 0) with
          | false => exact .inr (.inr (.inr (.inr (.inr (.inr (.inl ⟨f1, f2, f3, rfl, rfl, rfl⟩))))))
          | true => exact .inr (.inr (.inr (.inr (.inr (.inr (.inr (.inl ⟨f1, f2, f3, rfl, rfl, rfl⟩)))))))
      · have hh : headB k s n len = ((k == 4) && ((n == 0) && (decide (0 < len) && (decide (len ≤ 16) && nameB s)))) := by unfold headB; rw [if_neg e1, if_neg e2, if_neg e3]
        have f3 : (k == 3) = false := by simp [e3]
        rw [hh]
        cases f4 : (k == 4) with
        | false => exact .inr (.inr (.inr (.inr (.inr (.inr (.inr (.inr (.inl ⟨f1, f2, f3, rfl, rfl⟩))))))))
        | true =>
          cases a : (n == 0) with
          | false => exact .inr (.inr (.inr (.inr (.inr (.inr (.inr (.inr (.inr (.inl ⟨f1, f2, f3, rfl, rfl, rfl⟩)))))))))
          | true =>
            by_cases b : 0 < len
            · by_cases c : len ≤ 16
              · exact .inr (.inr (.inr (.inr (.inr (.inr (.inr (.inr (.inr (.inr (.inr (.inr ⟨f1, f2, f3, rfl, rfl, by omega, by omega, by rw [decide_eq_true b, decide_eq_true c]; rfl⟩)))))))))))
              · exact .inr (.inr (.inr (.inr (.inr (.inr (.inr (.inr (.inr (.inr (.inr (.inl ⟨f1, f2, f3, rfl, rfl, by omega, by omega, by rw [decide_eq_false c, decide_eq_true b]; rfl⟩)))))))))))
            · exact .inr (.inr (.inr (.inr (.inr (.inr (.inr (.inr (.inr (.inr (.inl ⟨f1, f2, f3, rfl, rfl, by omega, by rw [decide_eq_false b]; rfl⟩))))))))))

noncomputable def shapeL : Ts → Bool
  | .nil => true
  | .cons k s n _ _ kids rest => (shapeL kids && headB k s n kids.len) && shapeL rest

set_option maxRecDepth 100000 in
set_option maxHeartbeats 2000000 in
theorem rshape_any : ∀ (sz : Nat) (ts : Ts), ts.size < sz → ts.size ≤ 1000000 → ts.ok → ∀ (k : Int) (s : ByteArray) (n : Int) (w : World) (p : Option Addr) (c : Nat), s.size ≤ 140737488351232 → Ts.At w p ts →
    Calls Try.prog 70 #[.agg #[.int .u8 k, .string s, .int .i64 n, .slice p ts.len c]] w fun e w' =>
      e = .returned (.bool (shapeL ts && headB k s n ts.len)) ∧ Below w.heap.size w w' := by
  intro sz
  induction sz with
  | zero => intro ts h; omega
  | succ sz ih =>
    intro ts hsz hbig hok k s n w p c hs hat
    have hls := Ts.len_size ts
    obtain ⟨W2, hW2, hsz2, hB2, hc1⟩ := box1 w #[.int .u8 k, .string s, .int .i64 n, .slice p ts.len c] 24
    have a0 : W2.cell? ⟨w.heap.size, 0, none⟩ = some (.int .u8 k) := hc1 0 _ rfl
    have a1 : W2.cell? ⟨w.heap.size, 1, none⟩ = some (.string s) := hc1 1 _ rfl
    have a2 : W2.cell? ⟨w.heap.size, 2, none⟩ = some (.int .i64 n) := hc1 2 _ rfl
    have a3 : W2.cell? ⟨w.heap.size, 3, none⟩ = some (.slice p ts.len c) := hc1 3 _ rfl
    obtain ⟨b, o, hp, hlies⟩ := hat.below hB2
    go_enter Try.func70, Try.ntmps70
    go_wp2
    rw [← hW2]
    have Z := Lib.hid hW2
    have BW := Lib.hid hB2
    clear hB2 hc1 hW2
    go_loopw [3] (fun i wr => ∃ (j : Nat), j ≤ ts.len ∧ i = .int .i64 j ∧ shapeL (ts.drop j) = shapeL ts ∧ Below W2.heap.size W2 wr) (fun i _ => ts.len - (intOf i).toNat)
    case atStart => exact ⟨0, Nat.zero_le _, rfl, rfl, Below.refl _ _⟩
    case round =>
      rename_i wr _
      obtain ⟨j, hk, rfl, hrel, hB⟩ := hrel
      have B := Lib.hid hB
      have R := Lib.hid hrel
      clear hrel
      have a0' := (hB.cell (p := ⟨w.heap.size, 0, none⟩) (by rw [hsz2]; simp)).trans a0
      have a1' := (hB.cell (p := ⟨w.heap.size, 1, none⟩) (by rw [hsz2]; simp)).trans a1
      have a2' := (hB.cell (p := ⟨w.heap.size, 2, none⟩) (by rw [hsz2]; simp)).trans a2
      have a3' := (hB.cell (p := ⟨w.heap.size, 3, none⟩) (by rw [hsz2]; simp)).trans a3
      by_cases hlt : j < ts.len
      · obtain ⟨kk, s1, nn, pp, cc, kids, rest, D, l0, l1, l2, l3, A1, O1, hkl, hsz3, _, hs1, _⟩ := Ts.open_at hlies hB hok hlt
        obtain rfl := Ts.some_of hp hlt
        clear hB hp
        go_wp2_with fail
        refine (ih kids (by omega) (by omega) O1.out kk s1 nn wr pp cc hs1 A1.out).mono ?_
        rintro e w' ⟨rfl, hB3⟩
        have B3 := Lib.hid (B.out.trans (hB3.mono B.out.size))
        clear hB3 l0 l1 l2 l3 a3' a0' a1' a2'
        by_cases hq : (shapeL kids && headB kk s1 nn kids.len) = true
        · rw [hq]
          have Q := Lib.hid hq
          clear hq
          go_wp2
          go_roundw
          case rel =>
            refine ⟨j + 1, by omega, by go_num, ?_, B3.out⟩
            rw [Ts.drop_succ j ts D.out, ← R.out, D.out]
            simp only [shapeL, Q.out, Bool.true_and]
          case measure => simp [intOf]; omega
        · rw [Bool.not_eq_true] at hq
          rw [hq]
          have Q := Lib.hid hq
          clear hq
          go_wp2
          go_ret
          refine ⟨?_, BW.out.trans (B3.out.mono BW.out.size)⟩
          rw [← R.out, D.out]
          simp only [shapeL, Q.out, Bool.false_and]
          rfl
      · have hd := Ts.drop_end hlt
        have h := R.out
        rw [hd] at h
        have H : Hid ((shapeL ts && headB k s n ts.len) = headB k s n ts.len) := Lib.hid (by rw [← h]; rfl)
        have BB : Hid (Below w.heap.size w wr) := Lib.hid (BW.out.trans (B.out.mono BW.out.size))
        clear h hd hB R B Z BW hlies hp hat a0 a1 a2 a3
        rcases head_ways k s n ts.len with ⟨h1, h2, HB⟩ | ⟨h1, h2, h3, HB⟩ | ⟨h1, h2, h3, HB⟩ | ⟨h1, h2, h3, HB⟩ | ⟨h1, h2, h3, HB⟩ | ⟨h1, h2, h3, h4, HB⟩ | ⟨h1, h2, h3, h4, h5, HB⟩ | ⟨h1, h2, h3, h4, h5, HB⟩ | ⟨h1, h2, h3, h4, HB⟩ | ⟨h1, h2, h3, h4, h5, HB⟩ | ⟨h1, h2, h3, h4, h5, h6, HB⟩ | ⟨h1, h2, h3, h4, h5, h6, h7, HB⟩ | ⟨h1, h2, h3, h4, h5, h6, h7, HB⟩
        all_goals (have HB2 := Lib.hid HB; clear HB)
        all_goals go_wp2_with (go_at_call 84; refine (rname_any s hs _).mono ?_; rintro e w' ⟨rfl, rfl⟩)
        all_goals go_ret
        all_goals exact ⟨by rw [H.out, HB2.out]; rfl, BB.out⟩

end Go.Proofs.Ytflomdnjabgnaaa
/-
  Whether a term is good, by the code under proof.
-/
namespace Go.Proofs.Ytflomdnjabgnaaa
open Go.RowKit

noncomputable def goodL (d : Nat) (ts : Ts) : Bool := decide (depthL ts ≤ d) && shapeL ts

theorem goodL_cons (d : Nat) (k : Int) (s : ByteArray) (n : Int) (p : Option Addr) (c : Nat) (kids rest : Ts) :
    goodL d (.cons k s n p c kids rest) = ((decide (depthL kids + 1 ≤ d) && (shapeL kids && headB k s n kids.len)) && goodL d rest) := by
  simp only [goodL, depthL, shapeL, Nat.max_le]
  by_cases h1 : depthL kids + 1 ≤ d <;> by_cases h2 : depthL rest ≤ d <;> simp [h1, h2, Bool.and_assoc]

noncomputable def goodB (d : Nat) (k : Int) (s : ByteArray) (n : Int) (ts : Ts) : Bool := decide (depthL ts + 1 ≤ d) && (shapeL ts && headB k s n ts.len)

theorem goodB_small {d : Nat} {k : Int} {s : ByteArray} {n : Int} {ts : Ts} {v : Bool} (hd : 0 < d) (hv : headB k s n ts.len = v) (h : v = true → ts.len = 0) : goodB d k s n ts = v := by
  cases v with
  | false => simp [goodB, hv]
  | true =>
    obtain rfl := Ts.len_zero (h rfl)
    have hv' : headB k s n 0 = true := hv
    have : decide (0 + 1 ≤ d) = true := decide_eq_true (by omega)
    simp only [goodB, depthL, shapeL, Ts.len, hv', Bool.and_true]
    exact this

set_option maxRecDepth 100000 in
set_option maxHeartbeats 2000000 in
theorem tgood_any : ∀ (sz : Nat) (ts : Ts), ts.size < sz → ts.size ≤ 1000000 → ts.ok → ∀ (d : Nat) (k : Int) (s : ByteArray) (n : Int) (w : World) (p : Option Addr) (c : Nat), d ≤ 64 → s.size ≤ 140737488351232 → Ts.At w p ts →
    Calls Try.prog 77 #[.agg #[.int .u8 k, .string s, .int .i64 n, .slice p ts.len c], .int .i64 d] w fun e w' =>
      e = .returned (.bool (goodB d k s n ts)) ∧ Below w.heap.size w w' := by
  intro sz
  induction sz with
  | zero => intro ts h; omega
  | succ sz ih =>
    intro ts hsz hbig hok d k s n w p c hd64 hs hat
    have hls := Ts.len_size ts
    obtain ⟨W2, hW2, hsz2, hB2, hc1⟩ := box1 w #[.int .u8 k, .string s, .int .i64 n, .slice p ts.len c] 24
    have a0 : W2.cell? ⟨w.heap.size, 0, none⟩ = some (.int .u8 k) := hc1 0 _ rfl
    have a1 : W2.cell? ⟨w.heap.size, 1, none⟩ = some (.string s) := hc1 1 _ rfl
    have a2 : W2.cell? ⟨w.heap.size, 2, none⟩ = some (.int .i64 n) := hc1 2 _ rfl
    have a3 : W2.cell? ⟨w.heap.size, 3, none⟩ = some (.slice p ts.len c) := hc1 3 _ rfl
    by_cases hd0 : d = 0
    · have G : Hid (goodB d k s n ts = false) := Lib.hid (by simp [goodB, hd0])
      have e0 : ((d : Int) == 0) = true := by simp [hd0]
      clear hd0
      go_enter Try.func77, Try.ntmps77
      go_wp2
      rw [← hW2]
      go_ret
      exact ⟨by rw [G.out]; rfl, hB2⟩
    · have e0 : ((d : Int) == 0) = false := by simp [hd0]
      have HD := Lib.hid hd0
      clear hd0
      rcases head_ways k s n ts.len with ⟨h1, h2, HB⟩ | ⟨h1, h2, h3, HB⟩ | ⟨h1, h2, h3, HB⟩ | ⟨h1, h2, h3, HB⟩ | ⟨h1, h2, h3, HB⟩ | ⟨h1, h2, h3, h4, HB⟩ | ⟨h1, h2, h3, h4, h5, HB⟩ | ⟨h1, h2, h3, h4, h5, HB⟩ | ⟨h1, h2, h3, h4, HB⟩ | ⟨h1, h2, h3, h4, h5, HB⟩ | ⟨h1, h2, h3, h4, h5, h6, HB⟩ | ⟨h1, h2, h3, h4, h5, h6, h7, HB⟩ | ⟨h1, h2, h3, h4, h5, h6, h7, HB⟩
      · have G : Hid (goodB d k s n ts = false) := Lib.hid (by simp [goodB, HB])
        clear HB
        go_enter Try.func77, Try.ntmps77
        go_wp2_with (go_at_call 88; refine (tname_any s hs _).mono ?_; rintro e w' ⟨rfl, rfl⟩)
        rw [← hW2]
        go_ret
        exact ⟨by rw [G.out]; rfl, hB2⟩
      · have G : Hid (goodB d k s n ts = false) := Lib.hid (by simp [goodB, HB])
        clear HB
        go_enter Try.func77, Try.ntmps77
        go_wp2_with (go_at_call 88; refine (tname_any s hs _).mono ?_; rintro e w' ⟨rfl, rfl⟩)
        rw [← hW2]
        go_ret
        exact ⟨by rw [G.out]; rfl, hB2⟩
      · have G : Hid (goodB d k s n ts = ((ts.len : Int) == 0)) := Lib.hid (goodB_small (by have := HD.out; omega) HB (fun h => by simp at h; omega))
        clear HB
        go_enter Try.func77, Try.ntmps77
        go_wp2_with (go_at_call 88; refine (tname_any s hs _).mono ?_; rintro e w' ⟨rfl, rfl⟩)
        rw [← hW2]
        go_ret
        exact ⟨by rw [G.out]; rfl, hB2⟩
      · have G : Hid (goodB d k s n ts = false) := Lib.hid (by simp [goodB, HB])
        clear HB
        go_enter Try.func77, Try.ntmps77
        go_wp2_with (go_at_call 88; refine (tname_any s hs _).mono ?_; rintro e w' ⟨rfl, rfl⟩)
        rw [← hW2]
        go_ret
        exact ⟨by rw [G.out]; rfl, hB2⟩
      · have G : Hid (goodB d k s n ts = ((ts.len : Int) == 0)) := Lib.hid (goodB_small (by have := HD.out; omega) HB (fun h => by simp at h; omega))
        clear HB
        go_enter Try.func77, Try.ntmps77
        go_wp2_with (go_at_call 88; refine (tname_any s hs _).mono ?_; rintro e w' ⟨rfl, rfl⟩)
        rw [← hW2]
        go_ret
        exact ⟨by rw [G.out]; rfl, hB2⟩
      · have G : Hid (goodB d k s n ts = false) := Lib.hid (by simp [goodB, HB])
        clear HB
        go_enter Try.func77, Try.ntmps77
        go_wp2_with (go_at_call 88; refine (tname_any s hs _).mono ?_; rintro e w' ⟨rfl, rfl⟩)
        rw [← hW2]
        go_ret
        exact ⟨by rw [G.out]; rfl, hB2⟩
      · have G : Hid (goodB d k s n ts = false) := Lib.hid (by simp [goodB, HB])
        clear HB
        go_enter Try.func77, Try.ntmps77
        go_wp2_with (go_at_call 88; refine (tname_any s hs _).mono ?_; rintro e w' ⟨rfl, rfl⟩)
        rw [← hW2]
        go_ret
        exact ⟨by rw [G.out]; rfl, hB2⟩
      · have hl0 : ts.len = 0 := by simp at h5; omega
        have G : Hid (goodB d k s n ts = nameB s) := Lib.hid (goodB_small (by have := HD.out; omega) HB (fun _ => hl0))
        clear hl0
        clear HB
        go_enter Try.func77, Try.ntmps77
        go_wp2_with (go_at_call 88; refine (tname_any s hs _).mono ?_; rintro e w' ⟨rfl, rfl⟩)
        rw [← hW2]
        go_ret
        exact ⟨by rw [G.out]; rfl, hB2⟩
      · have G : Hid (goodB d k s n ts = false) := Lib.hid (by simp [goodB, HB])
        clear HB
        go_enter Try.func77, Try.ntmps77
        go_wp2_with (go_at_call 88; refine (tname_any s hs _).mono ?_; rintro e w' ⟨rfl, rfl⟩)
        rw [← hW2]
        go_ret
        exact ⟨by rw [G.out]; rfl, hB2⟩
      · have G : Hid (goodB d k s n ts = false) := Lib.hid (by simp [goodB, HB])
        have x1 : (n != 0) = true := by simp [bne, h5]
        clear HB
        go_enter Try.func77, Try.ntmps77
        go_wp2_with (go_at_call 88; refine (tname_any s hs _).mono ?_; rintro e w' ⟨rfl, rfl⟩)
        rw [← hW2]
        go_ret
        exact ⟨by rw [G.out]; rfl, hB2⟩
      · have G : Hid (goodB d k s n ts = false) := Lib.hid (by simp [goodB, HB])
        have x1 : (n != 0) = false := by simp [bne, h5]
        have x2 : ((ts.len : Int) == 0) = true := by simp; omega
        clear HB
        go_enter Try.func77, Try.ntmps77
        go_wp2_with (go_at_call 88; refine (tname_any s hs _).mono ?_; rintro e w' ⟨rfl, rfl⟩)
        rw [← hW2]
        go_ret
        exact ⟨by rw [G.out]; rfl, hB2⟩
      · have G : Hid (goodB d k s n ts = false) := Lib.hid (by simp [goodB, HB])
        have x1 : (n != 0) = false := by simp [bne, h5]
        have x2 : ((ts.len : Int) == 0) = false := by simp; omega
        clear HB
        go_enter Try.func77, Try.ntmps77
        go_wp2_with (go_at_call 88; refine (tname_any s hs _).mono ?_; rintro e w' ⟨rfl, rfl⟩)
        rw [← hW2]
        go_ret
        exact ⟨by rw [G.out]; rfl, hB2⟩
      · have x1 : (n != 0) = false := by simp [bne, h5]
        have x2 : ((ts.len : Int) == 0) = false := by simp; omega
        by_cases hn : nameB s = true
        · have NB := Lib.hid hn
          have HB2 := Lib.hid (HB.trans hn)
          clear HB
          obtain ⟨b, o, hp, hlies⟩ := hat.below hB2
          go_enter Try.func77, Try.ntmps77
          go_wp2_with (go_at_call 88; refine (tname_any s hs _).mono ?_; rintro e w' ⟨rfl, rfl⟩; rw [hn])
          rw [← hW2]
          have Z := Lib.hid hW2
          have BW := Lib.hid hB2
          clear hB2 hc1 hW2 hn h1 h2 h3 h4 h5 x1 x2 e0
          have ed : (d : Int) - 1 = ((d - 1 : Nat) : Int) := by have := HD.out; omega
          go_loopw [80] (fun i wr => ∃ (j : Nat), j ≤ ts.len ∧ i = .int .i64 j ∧ goodL (d - 1) (ts.drop j) = goodL (d - 1) ts ∧ Below W2.heap.size W2 wr) (fun i _ => ts.len - (intOf i).toNat)
          case atStart => exact ⟨0, Nat.zero_le _, rfl, rfl, Below.refl _ _⟩
          case round =>
            rename_i wr _
            obtain ⟨j, hk, rfl, hrel, hB⟩ := hrel
            have B := Lib.hid hB
            have R := Lib.hid hrel
            clear hrel
            by_cases hlt : j < ts.len
            · obtain ⟨kk, s1, nn, pp, cc, kids, rest, D, l0, l1, l2, l3, A1, O1, hkl, hsz3, _, hs1, _⟩ := Ts.open_at hlies hB hok hlt
              obtain rfl := Ts.some_of hp hlt
              clear hB hp
              go_wp2_with fail
              have hB0 : Below wr.heap.size wr (wr.alloc (.cells #[.int .u8 kk, .string s1, .int .i64 nn, .slice pp kids.len cc] 24)) := (Below.refl _ _).alloc (Nat.le_refl _) _
              refine (ih kids (by omega) (by omega) O1.out (d - 1) kk s1 nn _ pp cc (by omega) hs1 (A1.out.below hB0)).mono ?_
              rintro e w' ⟨rfl, hB3⟩
              have B3 := Lib.hid (B.out.trans ((hB0.trans (hB3.mono hB0.size)).mono B.out.size))
              clear hB3 hB0 l0 l1 l2 l3
              by_cases hq : goodB (d - 1) kk s1 nn kids = true
              · rw [hq]
                have Q := Lib.hid hq
                clear hq
                go_wp2
                go_roundw
                case rel =>
                  refine ⟨j + 1, by omega, by go_num, ?_, B3.out⟩
                  rw [Ts.drop_succ j ts D.out, ← R.out, D.out, goodL_cons]
                  have h := Q.out
                  rw [goodB] at h
                  rw [h, Bool.true_and]
                case measure => simp [intOf]; omega
              · rw [Bool.not_eq_true] at hq
                rw [hq]
                have Q := Lib.hid hq
                clear hq
                go_wp2
                go_ret
                refine ⟨?_, BW.out.trans (B3.out.mono BW.out.size)⟩
                have h1 : goodL (d - 1) ts = false := by
                  have h := Q.out
                  rw [goodB] at h
                  rw [← R.out, D.out, goodL_cons, h, Bool.false_and]
                have h2 : goodB d k s n ts = false := by
                  rw [goodL] at h1
                  rw [goodB, HB2.out, Bool.and_true, ← h1]
                  congr 1
                  have := HD.out
                  simp only [decide_eq_decide]
                  omega
                rw [h2]
                rfl
            · have hd := Ts.drop_end hlt
              have h := R.out
              rw [hd] at h
              have h2 : goodB d k s n ts = true := by
                have h1 : goodL (d - 1) ts = true := by rw [← h]; simp [goodL, depthL, shapeL]
                rw [goodL] at h1
                rw [goodB, HB2.out, Bool.and_true, ← h1]
                congr 1
                have := HD.out
                simp only [decide_eq_decide]
                omega
              have H2 := Lib.hid h2
              clear h hd hB R h2
              go_wp2
              go_ret
              exact ⟨by rw [H2.out]; rfl, BW.out.trans (B.out.mono BW.out.size)⟩
        · rw [Bool.not_eq_true] at hn
          have G : Hid (goodB d k s n ts = false) := Lib.hid (by simp [goodB, HB, hn])
          clear HB
          go_enter Try.func77, Try.ntmps77
          go_wp2_with (go_at_call 88; refine (tname_any s hs _).mono ?_; rintro e w' ⟨rfl, rfl⟩; rw [hn])
          rw [← hW2]
          go_ret
          exact ⟨by rw [G.out]; rfl, hB2⟩

end Go.Proofs.Ytflomdnjabgnaaa
/-
  Good, of both.
-/
namespace Go.Proofs.Ytflomdnjabgnaaa
open Go.RowKit

set_option maxHeartbeats 1000000 in
theorem tGood_any (ts : Ts) (hbig : ts.size ≤ 1000000) (hok : ts.ok) (k : Int) (s : ByteArray) (n : Int) (w : World) (p : Option Addr) (c : Nat) (hs : s.size ≤ 140737488351232) (hat : Ts.At w p ts) :
    Calls Try.prog 46 #[.agg #[.int .u8 k, .string s, .int .i64 n, .slice p ts.len c]] w fun e w' =>
      e = .returned (.bool (goodB 64 k s n ts)) ∧ Below w.heap.size w w' := by
  go_enter Try.func46, Try.ntmps46
  go_wp2_with fail
  have hB0 : Below w.heap.size w (w.alloc (.cells #[.int .u8 k, .string s, .int .i64 n, .slice p ts.len c] 24)) := (Below.refl _ _).alloc (Nat.le_refl _) _
  refine (tgood_any _ ts (Nat.lt_succ_self _) hbig hok 64 k s n _ p c (Nat.le_refl _) hs (hat.below hB0)).mono ?_
  rintro e w' ⟨rfl, hB⟩
  have B := Lib.hid (hB0.trans (hB.mono hB0.size))
  clear hB hB0
  go_wp2
  go_ret
  exact ⟨rfl, B.out⟩

set_option maxHeartbeats 1000000 in
theorem rGood_any (ts : Ts) (hbig : ts.size ≤ 1000000) (hok : ts.ok) (k : Int) (s : ByteArray) (n : Int) (w : World) (p : Option Addr) (c : Nat) (hs : s.size ≤ 140737488351232) (hat : Ts.At w p ts) :
    Calls Try.prog 36 #[.agg #[.int .u8 k, .string s, .int .i64 n, .slice p ts.len c]] w fun e w' =>
      e = .returned (.bool (goodB 64 k s n ts)) ∧ Below w.heap.size w w' := by
  have hds := depthL_size ts
  obtain ⟨W2, hW2, hsz2, hB2, hc1⟩ := box1 w #[.int .u8 k, .string s, .int .i64 n, .slice p ts.len c] 24
  have a0 : W2.cell? ⟨w.heap.size, 0, none⟩ = some (.int .u8 k) := hc1 0 _ rfl
  have a1 : W2.cell? ⟨w.heap.size, 1, none⟩ = some (.string s) := hc1 1 _ rfl
  have a2 : W2.cell? ⟨w.heap.size, 2, none⟩ = some (.int .i64 n) := hc1 2 _ rfl
  have a3 : W2.cell? ⟨w.heap.size, 3, none⟩ = some (.slice p ts.len c) := hc1 3 _ rfl
  have A2 := Lib.hid (hat.below hB2)
  go_enter Try.func36, Try.ntmps36
  go_wp2_with fail
  rw [← hW2]
  have BW := Lib.hid hB2
  have Z := Lib.hid hW2
  clear hB2 hc1 hW2
  refine (rdepth_any _ ts (Nat.lt_succ_self _) hbig hok k s n _ p c A2.out).mono ?_
  rintro e w' ⟨rfl, hB⟩
  have a0' := (hB.cell (p := ⟨w.heap.size, 0, none⟩) (by rw [hsz2]; simp)).trans a0
  have a1' := (hB.cell (p := ⟨w.heap.size, 1, none⟩) (by rw [hsz2]; simp)).trans a1
  have a2' := (hB.cell (p := ⟨w.heap.size, 2, none⟩) (by rw [hsz2]; simp)).trans a2
  have a3' := (hB.cell (p := ⟨w.heap.size, 3, none⟩) (by rw [hsz2]; simp)).trans a3
  have A3 := Lib.hid (A2.out.below hB)
  have B := Lib.hid (BW.out.trans (hB.mono BW.out.size))
  clear hB a0 a1 a2 a3
  by_cases hd : ((depthL ts + 1 : Nat) : Int) ≤ 64
  · have G : Hid (goodB 64 k s n ts = (shapeL ts && headB k s n ts.len)) := Lib.hid (by
      have : decide (depthL ts + 1 ≤ 64) = true := decide_eq_true (by omega)
      rw [goodB, this, Bool.true_and])
    go_wp2_with fail
    refine (rshape_any _ ts (Nat.lt_succ_self _) hbig hok k s n _ p c hs A3.out).mono ?_
    rintro e w'' ⟨rfl, hB⟩
    have B' := Lib.hid (B.out.trans (hB.mono B.out.size))
    clear hB a0' a1' a2' a3'
    go_wp2
    go_ret
    exact ⟨by rw [G.out]; rfl, B'.out⟩
  · have G : Hid (goodB 64 k s n ts = false) := Lib.hid (by
      have : decide (depthL ts + 1 ≤ 64) = false := decide_eq_false (by omega)
      rw [goodB, this, Bool.false_and])
    go_wp2
    go_ret
    exact ⟨by rw [G.out]; rfl, B.out⟩

end Go.Proofs.Ytflomdnjabgnaaa
/-
  Clones of terms.
-/
namespace Go.Proofs.Ytflomdnjabgnaaa
open Go.RowKit

namespace Ts
/-- like lies, in blocks from one on -/
def liesB (B : Nat) (w : World) : Nat → Nat → Ts → Prop
  | _, _, .nil => True
  | b, o, .cons k s n p cap kids rest =>
    B ≤ b ∧ w.cell? ⟨b, o, none⟩ = some (.int .u8 k) ∧ w.cell? ⟨b, o + 1, none⟩ = some (.string s) ∧ w.cell? ⟨b, o + 2, none⟩ = some (.int .i64 n) ∧ w.cell? ⟨b, o + 3, none⟩ = some (.slice p kids.len cap) ∧
    (∃ b' o', (kids = .nil ∨ p = some ⟨b', o', none⟩) ∧ liesB B w b' o' kids) ∧ liesB B w b (o + 4) rest

def AtB (B : Nat) (w : World) (p : Option Addr) (ts : Ts) : Prop := ∃ b o, (ts = .nil ∨ p = some ⟨b, o, none⟩) ∧ ts.liesB B w b o

theorem liesB_lies {B : Nat} {w : World} : ∀ (ts : Ts) {b o : Nat}, ts.liesB B w b o → ts.lies w b o
  | .nil, _, _, _ => trivial
  | .cons _ _ _ _ _ kids rest, _, _, ⟨_, h0, h1, h2, h3, ⟨b', o', h4, h5⟩, h6⟩ => ⟨h0, h1, h2, h3, ⟨b', o', h4, liesB_lies kids h5⟩, liesB_lies rest h6⟩

theorem AtB.at {B : Nat} {w : World} {p : Option Addr} {ts : Ts} (h : AtB B w p ts) : At w p ts := by
  obtain ⟨b, o, h1, h2⟩ := h
  exact ⟨b, o, h1, liesB_lies ts h2⟩

theorem liesB_stay {B B' : Nat} {w w' : World} (hBB : B' ≤ B) (hc : ∀ b o, B ≤ b → b < w.heap.size → w'.cell? ⟨b, o, none⟩ = w.cell? ⟨b, o, none⟩) : ∀ (ts : Ts) {b o : Nat}, ts.liesB B w b o → ts.liesB B' w' b o
  | .nil, _, _, _ => trivial
  | .cons k s n p cap kids rest, b, o, ⟨hb, h0, h1, h2, h3, ⟨b', o', h4, h5⟩, h6⟩ => by
    have hlt : b < w.heap.size := World.block_lt_of_cell? _ _ h0
    exact ⟨Nat.le_trans hBB hb, (hc _ _ hb hlt).trans h0, (hc _ _ hb hlt).trans h1, (hc _ _ hb hlt).trans h2, (hc _ _ hb hlt).trans h3, ⟨b', o', h4, liesB_stay hBB hc kids h5⟩, liesB_stay hBB hc rest h6⟩

theorem AtB.stay {B B' : Nat} {w w' : World} {p : Option Addr} {ts : Ts} (h : AtB B w p ts) (hBB : B' ≤ B) (hc : ∀ b o, B ≤ b → b < w.heap.size → w'.cell? ⟨b, o, none⟩ = w.cell? ⟨b, o, none⟩) : AtB B' w' p ts := by
  obtain ⟨b, o, h1, h2⟩ := h
  exact ⟨b, o, h1, liesB_stay hBB hc ts h2⟩

/-- the same terms, lying elsewhere -/
def twin : Ts → Ts → Prop
  | .nil, .nil => True
  | .cons k s n _ _ kids rest, .cons k' s' n' _ _ kids' rest' => k = k' ∧ s = s' ∧ n = n' ∧ twin kids kids' ∧ twin rest rest'
  | _, _ => False

theorem twin_len : ∀ (us ts : Ts), twin us ts → us.len = ts.len
  | .nil, .nil, _ => rfl
  | .cons _ _ _ _ _ _ r, .cons _ _ _ _ _ _ r', h => by simp only [len]; rw [twin_len r r' h.2.2.2.2]
  | .nil, .cons .., h => h.elim
  | .cons .., .nil, h => h.elim

theorem twin_size : ∀ (us ts : Ts), twin us ts → us.size = ts.size
  | .nil, .nil, _ => rfl
  | .cons _ _ _ _ _ k r, .cons _ _ _ _ _ k' r', h => by simp only [size]; rw [twin_size k k' h.2.2.2.1, twin_size r r' h.2.2.2.2]
  | .nil, .cons .., h => h.elim
  | .cons .., .nil, h => h.elim

theorem twin_refl : ∀ ts : Ts, twin ts ts
  | .nil => trivial
  | .cons _ _ _ _ _ k r => ⟨rfl, rfl, rfl, twin_refl k, twin_refl r⟩

/-- the first elements have been copied -/
def Done (w : World) (R : Nat) (ts : Ts) (j : Nat) : Prop := ∀ m, m < j → ∀ k s n p c kids rest, ts.drop m = .cons k s n p c kids rest →
  ∃ p' c' kids', w.cell? ⟨R, m * 4, none⟩ = some (.int .u8 k) ∧ w.cell? ⟨R, m * 4 + 1, none⟩ = some (.string s) ∧ w.cell? ⟨R, m * 4 + 2, none⟩ = some (.int .i64 n) ∧ w.cell? ⟨R, m * 4 + 3, none⟩ = some (.slice p' kids'.len c') ∧
    AtB (R + 1) w p' kids' ∧ twin kids' kids ∧ kids'.ok ∧ (kids'.len ≤ c' ∧ c' ≤ 9223372036854775807) ∧ (p' = none → c' = 0)

theorem Done.made {w : World} {R : Nat} {ts : Ts} (h : Done w R ts ts.len) (hok : ts.ok) : ∃ us : Ts, us.liesB R w R 0 ∧ twin us ts ∧ us.ok := by
  have build : ∀ i, i ≤ ts.len → ∃ us : Ts, us.liesB R w R ((ts.len - i) * 4) ∧ twin us (ts.drop (ts.len - i)) ∧ us.ok := by
    intro i
    induction i with
    | zero =>
      intro _
      refine ⟨.nil, trivial, ?_, trivial⟩
      rw [Ts.len_zero (ts := ts.drop (ts.len - 0)) (by rw [Ts.drop_len]; omega)]
      trivial
    | succ i ih =>
      intro hi
      obtain ⟨us, h1, h2, h3⟩ := ih (by omega)
      have hlt : ts.len - (i + 1) < ts.len := by omega
      obtain ⟨k, s, n, p, c, kids, rest, hd⟩ := Ts.drop_cons hlt
      have hokd := Ts.ok_drop (ts.len - (i + 1)) ts hok
      rw [hd] at hokd
      obtain ⟨p', c', kids', c0, c1, c2, c3, hat, ht, hok', hl, hp⟩ := h _ hlt _ _ _ _ _ _ _ hd
      have hs := Ts.drop_succ _ ts hd
      rw [show ts.len - (i + 1) + 1 = ts.len - i from by omega] at hs
      rw [hs] at h2
      obtain ⟨b', o', e1, e2⟩ := hat
      refine ⟨.cons k s n p' c' kids' us, ⟨Nat.le_refl _, c0, c1, c2, c3, ⟨b', o', e1, liesB_stay (Nat.le_succ R) (fun _ _ _ _ => rfl) kids' e2⟩, ?_⟩, ?_, ⟨hokd.1, hokd.2.1, hokd.2.2.1, hl, hp, hok', h3⟩⟩
      · rw [show (ts.len - (i + 1)) * 4 + 4 = (ts.len - i) * 4 from by omega]; exact h1
      · rw [hd]; exact ⟨rfl, rfl, rfl, ht, h2⟩
  obtain ⟨us, h1, h2, h3⟩ := build ts.len (Nat.le_refl _)
  rw [Nat.sub_self] at h1 h2
  exact ⟨us, by simpa using h1, h2, h3⟩
end Ts

def zeroTerm : Value := .agg #[.int .u8 0, .string ByteArray.empty, .int .i64 0, .slice none 0 0]
def zeroCells (n : Nat) : Array Value := madeCells zeroTerm.cells (n * 4)
theorem size_zeroCells (n : Nat) : (zeroCells n).size = n * 4 := size_madeCells _ _
theorem infoTerm : (Try.prog.info? 24).map (fun i => (i.zero, i.size, i.bytes)) = some (some zeroTerm, 4, 56) := by kernel_rfl

theorem make_terms (n : Nat) (hn : n ≤ 1000000) (w : World) :
    (Instr.makeSlice 22 (.int .i64 (n : Int)) (.int .i64 (n : Int))).run Try.prog w = .ok (.slice (some ⟨w.heap.size, 0, none⟩) n n) (w.alloc (.cells (zeroCells n) 24)) := by
  obtain ⟨i, hi, hz, hs, hb⟩ := info_parts infoTerm
  have h := run_make (w := w) 22 24 i zeroTerm Try.underlying22 hi hz .i64 .i64 (n : Int) (n : Int) (by omega) (by omega) (by rw [hb]; omega) (by omega)
  rw [hs] at h
  exact h

end Go.Proofs.Ytflomdnjabgnaaa
