import Derived.Test.YtnmhnaanpjlniaaGreatTf
/-
  Whether a term is good.
-/
namespace Go.Proofs.YtnmhnaanpjlniaaGreat
open Go.RowKit

/-- whether a node, without its parts, is as it should be -/
noncomputable def headB (k : Int) (s : ByteArray) (n : Int) (len : Nat) : Bool :=
  if k = 1 then decide (0 ≤ n) && ((s.toList == []) && ((len : Int) == 0))
  else if k = 2 then (s.toList == []) && ((len : Int) == 0)
  else if k = 3 then (n == 0) && (((len : Int) == 0) && nameB s)
  else (k == 4) && ((n == 0) && (decide (0 < len) && (decide (len ≤ 16) && nameB s)))

theorem head_ways (k : Int) (s : ByteArray) (n : Int) (len : Nat) :
    ((k == 1) = true ∧ n < 0 ∧ headB k s n len = false) ∨
    ((k == 1) = true ∧ 0 ≤ n ∧ (s.toList == []) = false ∧ headB k s n len = false) ∨
    ((k == 1) = true ∧ 0 ≤ n ∧ (s.toList == []) = true ∧ headB k s n len = ((len : Int) == 0)) ∨
    ((k == 1) = false ∧ (k == 2) = true ∧ (s.toList == []) = false ∧ headB k s n len = false) ∨
    ((k == 1) = false ∧ (k == 2) = true ∧ (s.toList == []) = true ∧ headB k s n len = ((len : Int) == 0)) ∨
    ((k == 1) = false ∧ (k == 2) = false ∧ (k == 3) = true ∧ (n == 0) = false ∧ headB k s n len = false) ∨
    ((k == 1) = false ∧ (k == 2) = false ∧ (k == 3) = true ∧ (n == 0) = true ∧ ((len : Int) == 0) = false ∧ headB k s n len = false) ∨
    ((k == 1) = false ∧ (k == 2) = false ∧ (k == 3) = true ∧ (n == 0) = true ∧ ((len : Int) == 0) = true ∧ headB k s n len = nameB s) ∨
    ((k == 1) = false ∧ (k == 2) = false ∧ (k == 3) = false ∧ (k == 4) = false ∧ headB k s n len = false) ∨
    ((k == 1) = false ∧ (k == 2) = false ∧ (k == 3) = false ∧ (k == 4) = true ∧ (n == 0) = false ∧ headB k s n len = false) ∨
    ((k == 1) = false ∧ (k == 2) = false ∧ (k == 3) = false ∧ (k == 4) = true ∧ (n == 0) = true ∧ (len : Int) ≤ 0 ∧ headB k s n len = false) ∨
    ((k == 1) = false ∧ (k == 2) = false ∧ (k == 3) = false ∧ (k == 4) = true ∧ (n == 0) = true ∧ 0 < (len : Int) ∧ 16 < (len : Int) ∧ headB k s n len = false) ∨
    ((k == 1) = false ∧ (k == 2) = false ∧ (k == 3) = false ∧ (k == 4) = true ∧ (n == 0) = true ∧ 0 < (len : Int) ∧ (len : Int) ≤ 16 ∧ headB k s n len = nameB s) := by
  by_cases e1 : k = 1
  · have hh : headB k s n len = (decide (0 ≤ n) && ((s.toList == []) && ((len : Int) == 0))) := by unfold headB; rw [if_pos e1]
    have f1 : (k == 1) = true := by simp [e1]
    rw [hh]
    by_cases a : n < 0
    · exact .inl ⟨f1, a, by rw [decide_eq_false (by omega)]; rfl⟩
    · cases b : (s.toList == []) with
      | false => exact .inr (.inl ⟨f1, by omega, rfl, by simp⟩)
      | true => exact .inr (.inr (.inl ⟨f1, by omega, rfl, by rw [decide_eq_true (by omega)]; rfl⟩))
  · have f1 : (k == 1) = false := by simp [e1]
    by_cases e2 : k = 2
    · have hh : headB k s n len = ((s.toList == []) && ((len : Int) == 0)) := by unfold headB; rw [if_neg e1, if_pos e2]
      have f2 : (k == 2) = true := by simp [e2]
      rw [hh]
      cases b : (s.toList == []) with
      | false => exact .inr (.inr (.inr (.inl ⟨f1, f2, rfl, rfl⟩)))
      | true => exact .inr (.inr (.inr (.inr (.inl ⟨f1, f2, rfl, rfl⟩))))
    · have f2 : (k == 2) = false := by simp [e2]
      by_cases e3 : k = 3
      · have hh : headB k s n len = ((n == 0) && (((len : Int) == 0) && nameB s)) := by unfold headB; rw [if_neg e1, if_neg e2, if_pos e3]
        have f3 : (k == 3) = true := by simp [e3]
        rw [hh]
        cases a : (n == 0) with
        | false => exact .inr (.inr (.inr (.inr (.inr (.inl ⟨f1, f2, f3, rfl, rfl⟩)))))
        | true =>
          cases b : ((len : Int) == 0) with
          | false => exact .inr (.inr (.inr (.inr (.inr (.inr (.inl ⟨f1, f2, f3, rfl, rfl, rfl⟩))))))
          | true => exact .inr (.inr (.inr (.inr (.inr (.inr (.inr (.inl ⟨f1, f2, f3, rfl, rfl, rfl⟩)))))))
      · have hh : headB k s n len = ((k == 4) && ((n == 0) && (decide (0 < len) && (decide (len ≤ 16) && nameB s)))) := by unfold headB; rw [if_neg e1, if_neg e2, if_neg e3]
        have f3 : (k == 3) = false := by simp [e3]
        rw [hh]
        cases f4 : (k == 4) with
        | false => exact .inr (.inr (.inr (.inr (.inr (.inr (.inr (.inr (.inl ⟨f1, f2, f3, rfl, rfl⟩))))))))
        | true =>
          cases a : (n == 0) with
          | false => exact .inr (.inr (.inr (.inr (.inr (.inr (.inr (.inr (.inr (.inl ⟨f1, f2, f3, rfl, rfl, rfl⟩)))))))))
          | true =>
            by_cases b : 0 < len
            · by_cases c : len ≤ 16
              · exact .inr (.inr (.inr (.inr (.inr (.inr (.inr (.inr (.inr (.inr (.inr (.inr ⟨f1, f2, f3, rfl, rfl, by omega, by omega, by rw [decide_eq_true b, decide_eq_true c]; rfl⟩)))))))))))
              · exact .inr (.inr (.inr (.inr (.inr (.inr (.inr (.inr (.inr (.inr (.inr (.inl ⟨f1, f2, f3, rfl, rfl, by omega, by omega, by rw [decide_eq_false c, decide_eq_true b]; rfl⟩)))))))))))
            · exact .inr (.inr (.inr (.inr (.inr (.inr (.inr (.inr (.inr (.inr (.inl ⟨f1, f2, f3, rfl, rfl, by omega, by rw [decide_eq_false b]; rfl⟩))))))))))

noncomputable def shapeL : Ts → Bool
  | .nil => true
  | .cons k s n _ _ kids rest => (shapeL kids && headB k s n kids.len) && shapeL rest

set_option maxRecDepth 100000 in
set_option maxHeartbeats 2000000 in
theorem rshape_any : ∀ (sz : Nat) (ts : Ts), ts.size < sz → ts.size ≤ 1000000 → ts.ok → ∀ (k : Int) (s : ByteArray) (n : Int) (w : World) (p : Option Addr) (c : Nat), s.size ≤ 140737488351232 → Ts.At w p ts →
    Calls Tryz.prog 32 #[.agg #[.int .u8 k, .string s, .int .i64 n, .slice p ts.len c]] w fun e w' =>
      e = .returned (.bool (shapeL ts && headB k s n ts.len)) ∧ Below w.heap.size w w' := by
  intro sz
  induction sz with
  | zero => intro ts h; omega
  | succ sz ih =>
    intro ts hsz hbig hok k s n w p c hs hat
    have hls := Ts.len_size ts
    obtain ⟨W2, hW2, hsz2, hB2, hc1⟩ := box1 w #[.int .u8 k, .string s, .int .i64 n, .slice p ts.len c] 25
    have a0 : W2.cell? ⟨w.heap.size, 0, none⟩ = some (.int .u8 k) := hc1 0 _ rfl
    have a1 : W2.cell? ⟨w.heap.size, 1, none⟩ = some (.string s) := hc1 1 _ rfl
    have a2 : W2.cell? ⟨w.heap.size, 2, none⟩ = some (.int .i64 n) := hc1 2 _ rfl
    have a3 : W2.cell? ⟨w.heap.size, 3, none⟩ = some (.slice p ts.len c) := hc1 3 _ rfl
    obtain ⟨b, o, hp, hlies⟩ := hat.below hB2
    go_enter Tryz.func32, Tryz.ntmps32
    go_wp2
    rw [← hW2]
    have Z := Lib.hid hW2
    have BW := Lib.hid hB2
    clear hB2 hc1 hW2
    go_loopw [3] (fun i wr => ∃ (j : Nat), j ≤ ts.len ∧ i = .int .i64 j ∧ shapeL (ts.drop j) = shapeL ts ∧ Below W2.heap.size W2 wr) (fun i _ => ts.len - (intOf i).toNat)
    case atStart => exact ⟨0, Nat.zero_le _, rfl, rfl, Below.refl _ _⟩
    case round =>
      rename_i wr _
      obtain ⟨j, hk, rfl, hrel, hB⟩ := hrel
      have B := Lib.hid hB
      have R := Lib.hid hrel
      clear hrel
      have a0' := (hB.cell (p := ⟨w.heap.size, 0, none⟩) (by rw [hsz2]; simp)).trans a0
      have a1' := (hB.cell (p := ⟨w.heap.size, 1, none⟩) (by rw [hsz2]; simp)).trans a1
      have a2' := (hB.cell (p := ⟨w.heap.size, 2, none⟩) (by rw [hsz2]; simp)).trans a2
      have a3' := (hB.cell (p := ⟨w.heap.size, 3, none⟩) (by rw [hsz2]; simp)).trans a3
      by_cases hlt : j < ts.len
      · obtain ⟨kk, s1, nn, pp, cc, kids, rest, D, l0, l1, l2, l3, A1, O1, hkl, hsz3, _, hs1, _⟩ := Ts.open_at hlies hB hok hlt
        obtain rfl := Ts.some_of hp hlt
        clear hB hp
        go_wp2_with fail
        refine (ih kids (by omega) (by omega) O1.out kk s1 nn wr pp cc hs1 A1.out).mono ?_
        rintro e w' ⟨rfl, hB3⟩
        have B3 := Lib.hid (B.out.trans (hB3.mono B.out.size))
        clear hB3 l0 l1 l2 l3 a3' a0' a1' a2'
        by_cases hq : (shapeL kids && headB kk s1 nn kids.len) = true
        · rw [hq]
          have Q := Lib.hid hq
          clear hq
          go_wp2
          go_roundw
          case rel =>
            refine ⟨j + 1, by omega, by go_num, ?_, B3.out⟩
            rw [Ts.drop_succ j ts D.out, ← R.out, D.out]
            simp only [shapeL, Q.out, Bool.true_and]
          case measure => simp [intOf]; omega
        · rw [Bool.not_eq_true] at hq
          rw [hq]
          have Q := Lib.hid hq
          clear hq
          go_wp2
          go_ret
          refine ⟨?_, BW.out.trans (B3.out.mono BW.out.size)⟩
          rw [← R.out, D.out]
          simp only [shapeL, Q.out, Bool.false_and]
          rfl
      · have hd := Ts.drop_end hlt
        have h := R.out
        rw [hd] at h
        have H : Hid ((shapeL ts && headB k s n ts.len) = headB k s n ts.len) := Lib.hid (by rw [← h]; rfl)
        have BB : Hid (Below w.heap.size w wr) := Lib.hid (BW.out.trans (B.out.mono BW.out.size))
        clear h hd hB R B Z BW hlies hp hat a0 a1 a2 a3
        rcases head_ways k s n ts.len with ⟨h1, h2, HB⟩ | ⟨h1, h2, h3, HB⟩ | ⟨h1, h2, h3, HB⟩ | ⟨h1, h2, h3, HB⟩ | ⟨h1, h2, h3, HB⟩ | ⟨h1, h2, h3, h4, HB⟩ | ⟨h1, h2, h3, h4, h5, HB⟩ | ⟨h1, h2, h3, h4, h5, HB⟩ | ⟨h1, h2, h3, h4, HB⟩ | ⟨h1, h2, h3, h4, h5, HB⟩ | ⟨h1, h2, h3, h4, h5, h6, HB⟩ | ⟨h1, h2, h3, h4, h5, h6, h7, HB⟩ | ⟨h1, h2, h3, h4, h5, h6, h7, HB⟩
        all_goals (have HB2 := Lib.hid HB; clear HB)
        all_goals go_wp2_with (go_at_call 66; refine (rname_any s hs _).mono ?_; rintro e w' ⟨rfl, rfl⟩)
        all_goals go_ret
        all_goals exact ⟨by rw [H.out, HB2.out]; rfl, BB.out⟩

end Go.Proofs.YtnmhnaanpjlniaaGreat
/-
  Whether a term is good, by the code under proof.
-/
namespace Go.Proofs.YtnmhnaanpjlniaaGreat
open Go.RowKit



noncomputable def goodB (d : Nat) (k : Int) (s : ByteArray) (n : Int) (ts : Ts) : Bool := decide (depthL ts + 1 ≤ d) && (shapeL ts && headB k s n ts.len)



end Go.Proofs.YtnmhnaanpjlniaaGreat
/-
  Good, of both.
-/
namespace Go.Proofs.YtnmhnaanpjlniaaGreat
open Go.RowKit


set_option maxHeartbeats 1000000 in
theorem rGood_any (ts : Ts) (hbig : ts.size ≤ 1000000) (hok : ts.ok) (k : Int) (s : ByteArray) (n : Int) (w : World) (p : Option Addr) (c : Nat) (hs : s.size ≤ 140737488351232) (hat : Ts.At w p ts) :
    Calls Tryz.prog 9 #[.agg #[.int .u8 k, .string s, .int .i64 n, .slice p ts.len c]] w fun e w' =>
      e = .returned (.bool (goodB 64 k s n ts)) ∧ Below w.heap.size w w' := by
  have hds := depthL_size ts
  obtain ⟨W2, hW2, hsz2, hB2, hc1⟩ := box1 w #[.int .u8 k, .string s, .int .i64 n, .slice p ts.len c] 25
  have a0 : W2.cell? ⟨w.heap.size, 0, none⟩ = some (.int .u8 k) := hc1 0 _ rfl
  have a1 : W2.cell? ⟨w.heap.size, 1, none⟩ = some (.string s) := hc1 1 _ rfl
  have a2 : W2.cell? ⟨w.heap.size, 2, none⟩ = some (.int .i64 n) := hc1 2 _ rfl
  have a3 : W2.cell? ⟨w.heap.size, 3, none⟩ = some (.slice p ts.len c) := hc1 3 _ rfl
  have A2 := Lib.hid (hat.below hB2)
  go_enter Tryz.func9, Tryz.ntmps9
  go_wp2_with fail
  rw [← hW2]
  have BW := Lib.hid hB2
  have Z := Lib.hid hW2
  clear hB2 hc1 hW2
  refine (rdepth_any _ ts (Nat.lt_succ_self _) hbig hok k s n _ p c A2.out).mono ?_
  rintro e w' ⟨rfl, hB⟩
  have a0' := (hB.cell (p := ⟨w.heap.size, 0, none⟩) (by rw [hsz2]; simp)).trans a0
  have a1' := (hB.cell (p := ⟨w.heap.size, 1, none⟩) (by rw [hsz2]; simp)).trans a1
  have a2' := (hB.cell (p := ⟨w.heap.size, 2, none⟩) (by rw [hsz2]; simp)).trans a2
  have a3' := (hB.cell (p := ⟨w.heap.size, 3, none⟩) (by rw [hsz2]; simp)).trans a3
  have A3 := Lib.hid (A2.out.below hB)
  have B := Lib.hid (BW.out.trans (hB.mono BW.out.size))
  clear hB a0 a1 a2 a3
  by_cases hd : ((depthL ts + 1 : Nat) : Int) ≤ 64
  · have G : Hid (goodB 64 k s n ts = (shapeL ts && headB k s n ts.len)) := Lib.hid (by
      have : decide (depthL ts + 1 ≤ 64) = true := decide_eq_true (by omega)
      rw [goodB, this, Bool.true_and])
    go_wp2_with fail
    refine (rshape_any _ ts (Nat.lt_succ_self _) hbig hok k s n _ p c hs A3.out).mono ?_
    rintro e w'' ⟨rfl, hB⟩
    have B' := Lib.hid (B.out.trans (hB.mono B.out.size))
    clear hB a0' a1' a2' a3'
    go_wp2
    go_ret
    exact ⟨by rw [G.out]; rfl, B'.out⟩
  · have G : Hid (goodB 64 k s n ts = false) := Lib.hid (by
      have : decide (depthL ts + 1 ≤ 64) = false := decide_eq_false (by omega)
      rw [goodB, this, Bool.false_and])
    go_wp2
    go_ret
    exact ⟨by rw [G.out]; rfl, B.out⟩

end Go.Proofs.YtnmhnaanpjlniaaGreat
/-
  Clones of terms.
-/
namespace Go.Proofs.YtnmhnaanpjlniaaGreat
open Go.RowKit

namespace Ts
/-- like lies, in blocks from one on -/
def liesB (B : Nat) (w : World) : Nat → Nat → Ts → Prop
  | _, _, .nil => True
  | b, o, .cons k s n p cap kids rest =>
    B ≤ b ∧ w.cell? ⟨b, o, none⟩ = some (.int .u8 k) ∧ w.cell? ⟨b, o + 1, none⟩ = some (.string s) ∧ w.cell? ⟨b, o + 2, none⟩ = some (.int .i64 n) ∧ w.cell? ⟨b, o + 3, none⟩ = some (.slice p kids.len cap) ∧
    (∃ b' o', (kids = .nil ∨ p = some ⟨b', o', none⟩) ∧ liesB B w b' o' kids) ∧ liesB B w b (o + 4) rest

def AtB (B : Nat) (w : World) (p : Option Addr) (ts : Ts) : Prop := ∃ b o, (ts = .nil ∨ p = some ⟨b, o, none⟩) ∧ ts.liesB B w b o

theorem liesB_lies {B : Nat} {w : World} : ∀ (ts : Ts) {b o : Nat}, ts.liesB B w b o → ts.lies w b o
  | .nil, _, _, _ => trivial
  | .cons _ _ _ _ _ kids rest, _, _, ⟨_, h0, h1, h2, h3, ⟨b', o', h4, h5⟩, h6⟩ => ⟨h0, h1, h2, h3, ⟨b', o', h4, liesB_lies kids h5⟩, liesB_lies rest h6⟩

theorem AtB.at {B : Nat} {w : World} {p : Option Addr} {ts : Ts} (h : AtB B w p ts) : At w p ts := by
  obtain ⟨b, o, h1, h2⟩ := h
  exact ⟨b, o, h1, liesB_lies ts h2⟩

theorem liesB_stay {B B' : Nat} {w w' : World} (hBB : B' ≤ B) (hc : ∀ b o, B ≤ b → b < w.heap.size → w'.cell? ⟨b, o, none⟩ = w.cell? ⟨b, o, none⟩) : ∀ (ts : Ts) {b o : Nat}, ts.liesB B w b o → ts.liesB B' w' b o
  | .nil, _, _, _ => trivial
  | .cons k s n p cap kids rest, b, o, ⟨hb, h0, h1, h2, h3, ⟨b', o', h4, h5⟩, h6⟩ => by
    have hlt : b < w.heap.size := World.block_lt_of_cell? _ _ h0
    exact ⟨Nat.le_trans hBB hb, (hc _ _ hb hlt).trans h0, (hc _ _ hb hlt).trans h1, (hc _ _ hb hlt).trans h2, (hc _ _ hb hlt).trans h3, ⟨b', o', h4, liesB_stay hBB hc kids h5⟩, liesB_stay hBB hc rest h6⟩

theorem AtB.stay {B B' : Nat} {w w' : World} {p : Option Addr} {ts : Ts} (h : AtB B w p ts) (hBB : B' ≤ B) (hc : ∀ b o, B ≤ b → b < w.heap.size → w'.cell? ⟨b, o, none⟩ = w.cell? ⟨b, o, none⟩) : AtB B' w' p ts := by
  obtain ⟨b, o, h1, h2⟩ := h
  exact ⟨b, o, h1, liesB_stay hBB hc ts h2⟩

/-- the same terms, lying elsewhere -/
def twin : Ts → Ts → Prop
  | .nil, .nil => True
  | .cons k s n _ _ kids rest, .cons k' s' n' _ _ kids' rest' => k = k' ∧ s = s' ∧ n = n' ∧ twin kids kids' ∧ twin rest rest'
  | _, _ => False

theorem twin_len : ∀ (us ts : Ts), twin us ts → us.len = ts.len
  | .nil, .nil, _ => rfl
  | .cons _ _ _ _ _ _ r, .cons _ _ _ _ _ _ r', h => by simp only [len]; rw [twin_len r r' h.2.2.2.2]
  | .nil, .cons .., h => h.elim
  | .cons .., .nil, h => h.elim

theorem twin_size : ∀ (us ts : Ts), twin us ts → us.size = ts.size
  | .nil, .nil, _ => rfl
  | .cons _ _ _ _ _ k r, .cons _ _ _ _ _ k' r', h => by simp only [size]; rw [twin_size k k' h.2.2.2.1, twin_size r r' h.2.2.2.2]
  | .nil, .cons .., h => h.elim
  | .cons .., .nil, h => h.elim

theorem twin_refl : ∀ ts : Ts, twin ts ts
  | .nil => trivial
  | .cons _ _ _ _ _ k r => ⟨rfl, rfl, rfl, twin_refl k, twin_refl r⟩

/-- the first elements have been copied -/
def Done (w : World) (R : Nat) (ts : Ts) (j : Nat) : Prop := ∀ m, m < j → ∀ k s n p c kids rest, ts.drop m = .cons k s n p c kids rest →
  ∃ p' c' kids', w.cell? ⟨R, m * 4, none⟩ = some (.int .u8 k) ∧ w.cell? ⟨R, m * 4 + 1, none⟩ = some (.string s) ∧ w.cell? ⟨R, m * 4 + 2, none⟩ = some (.int .i64 n) ∧ w.cell? ⟨R, m * 4 + 3, none⟩ = some (.slice p' kids'.len c') ∧
    AtB (R + 1) w p' kids' ∧ twin kids' kids ∧ kids'.ok ∧ (kids'.len ≤ c' ∧ c' ≤ 9223372036854775807) ∧ (p' = none → c' = 0)

theorem Done.made {w : World} {R : Nat} {ts : Ts} (h : Done w R ts ts.len) (hok : ts.ok) : ∃ us : Ts, us.liesB R w R 0 ∧ twin us ts ∧ us.ok := by
  have build : ∀ i, i ≤ ts.len → ∃ us : Ts, us.liesB R w R ((ts.len - i) * 4) ∧ twin us (ts.drop (ts.len - i)) ∧ us.ok := by
    intro i
    induction i with
    | zero =>
      intro _
      refine ⟨.nil, trivial, ?_, trivial⟩
      rw [Ts.len_zero (ts := ts.drop (ts.len - 0)) (by rw [Ts.drop_len]; omega)]
      trivial
    | succ i ih =>
      intro hi
      obtain ⟨us, h1, h2, h3⟩ := ih (by omega)
      have hlt : ts.len - (i + 1) < ts.len := by omega
      obtain ⟨k, s, n, p, c, kids, rest, hd⟩ := Ts.drop_cons hlt
      have hokd := Ts.ok_drop (ts.len - (i + 1)) ts hok
      rw [hd] at hokd
      obtain ⟨p', c', kids', c0, c1, c2, c3, hat, ht, hok', hl, hp⟩ := h _ hlt _ _ _ _ _ _ _ hd
      have hs := Ts.drop_succ _ ts hd
      rw [show ts.len - (i + 1) + 1 = ts.len - i from by omega] at hs
      rw [hs] at h2
      obtain ⟨b', o', e1, e2⟩ := hat
      refine ⟨.cons k s n p' c' kids' us, ⟨Nat.le_refl _, c0, c1, c2, c3, ⟨b', o', e1, liesB_stay (Nat.le_succ R) (fun _ _ _ _ => rfl) kids' e2⟩, ?_⟩, ?_, ⟨hokd.1, hokd.2.1, hokd.2.2.1, hl, hp, hok', h3⟩⟩
      · rw [show (ts.len - (i + 1)) * 4 + 4 = (ts.len - i) * 4 from by omega]; exact h1
      · rw [hd]; exact ⟨rfl, rfl, rfl, ht, h2⟩
  obtain ⟨us, h1, h2, h3⟩ := build ts.len (Nat.le_refl _)
  rw [Nat.sub_self] at h1 h2
  exact ⟨us, by simpa using h1, h2, h3⟩
end Ts

def zeroTerm : Value := .agg #[.int .u8 0, .string ByteArray.empty, .int .i64 0, .slice none 0 0]
def zeroCells (n : Nat) : Array Value := madeCells zeroTerm.cells (n * 4)
theorem size_zeroCells (n : Nat) : (zeroCells n).size = n * 4 := size_madeCells _ _
theorem infoTerm : (Tryz.prog.info? 25).map (fun i => (i.zero, i.size, i.bytes)) = some (some zeroTerm, 4, 56) := by kernel_rfl

theorem make_terms (n : Nat) (hn : n ≤ 1000000) (w : World) :
    (Instr.makeSlice 23 (.int .i64 (n : Int)) (.int .i64 (n : Int))).run Tryz.prog w = .ok (.slice (some ⟨w.heap.size, 0, none⟩) n n) (w.alloc (.cells (zeroCells n) 25)) := by
  obtain ⟨i, hi, hz, hs, hb⟩ := info_parts infoTerm
  have h := run_make (w := w) 23 25 i zeroTerm Tryz.underlying23 hi hz .i64 .i64 (n : Int) (n : Int) (by omega) (by omega) (by rw [hb]; omega) (by omega)
  rw [hs] at h
  exact h

end Go.Proofs.YtnmhnaanpjlniaaGreat
/-
  Clones of terms: the walk.
-/
namespace Go.Proofs.YtnmhnaanpjlniaaGreat
open Go.RowKit

theorem alloc_new (w : World) (A : Array Value) (t : TypeId) : ∃ W, W = w.alloc (.cells A t) ∧ W.heap.size = w.heap.size + 1 ∧ Below w.heap.size w W ∧ (∀ i v, A[i]? = some v → W.cell? ⟨w.heap.size, i, none⟩ = some v) ∧ (∀ i, W.frozen? ⟨w.heap.size, i, none⟩ = false) := by
  refine ⟨_, rfl, by simp, (Below.refl _ _).alloc (Nat.le_refl _) _, fun i v h => ?_, fun i => ?_⟩
  · rw [_root_.Go.Joins.cell_alloc_mark_at w A t _ _ i rfl]; exact h
  · exact World.frozen?_alloc_new w A t i

/-- a value put into a box, and a term into a list's place -/
theorem put_step (w' : World) (T R x : Nat) (v v0 v1 v2 v3 : Value) (hne : T ≠ R) (r0 : (w'.cell? ⟨R, x, none⟩).isSome) (r1 : (w'.cell? ⟨R, x + 1, none⟩).isSome) (r2 : (w'.cell? ⟨R, x + 2, none⟩).isSome) (r3 : (w'.cell? ⟨R, x + 3, none⟩).isSome) :
    ∃ W, W = (((((w'.setCell ⟨T, 3, none⟩ v).setCell ⟨R, x, none⟩ v0).setCell ⟨R, x + 1, none⟩ v1).setCell ⟨R, x + 2, none⟩ v2).setCell ⟨R, x + 3, none⟩ v3) ∧ W.heap.size = w'.heap.size ∧
      (∀ b y, b ≠ T → b ≠ R → W.cell? ⟨b, y, none⟩ = w'.cell? ⟨b, y, none⟩) ∧ (∀ y, y < x ∨ x + 4 ≤ y → W.cell? ⟨R, y, none⟩ = w'.cell? ⟨R, y, none⟩) ∧
      W.cell? ⟨R, x, none⟩ = some v0 ∧ W.cell? ⟨R, x + 1, none⟩ = some v1 ∧ W.cell? ⟨R, x + 2, none⟩ = some v2 ∧ W.cell? ⟨R, x + 3, none⟩ = some v3 ∧ (∀ b y, W.frozen? ⟨b, y, none⟩ = w'.frozen? ⟨b, y, none⟩) ∧
      (∀ B (w : World), B ≤ T → B ≤ R → Below B w w' → Below B w W) := by
  have hneq : ∀ y z : Nat, y ≠ z → (⟨R, y, none⟩ : Addr) ≠ ⟨R, z, none⟩ := fun y z h e => h (by injection e)
  have hnT : ∀ y z : Nat, (⟨T, y, none⟩ : Addr) ≠ ⟨R, z, none⟩ := fun y z e => hne (by injection e)
  have other : ∀ (u : World) (p q : Addr) (v : Value), p ≠ q → (u.setCell p v).cell? q = u.cell? q := fun u p q v h => World.cell?_setCell_other _ _ _ _ h
  have same : ∀ (u : World) (p : Addr) (v y : Value), u.cell? p = some y → (u.setCell p v).cell? p = some v := fun u p v y h => World.cell?_setCell_same _ _ _ h
  obtain ⟨u0, r0⟩ := Option.isSome_iff_exists.1 r0
  obtain ⟨u1, r1⟩ := Option.isSome_iff_exists.1 r1
  obtain ⟨u2, r2⟩ := Option.isSome_iff_exists.1 r2
  obtain ⟨u3, r3⟩ := Option.isSome_iff_exists.1 r3
  refine ⟨_, rfl, by simp, fun b y h1 h2 => ?_, fun y hy => ?_, ?_, ?_, ?_, ?_, fun b y => by simp, fun B w hT hR hB => ?_⟩
  · have hb : ∀ z : Nat, (⟨R, z, none⟩ : Addr) ≠ ⟨b, y, none⟩ := fun z e => h2 (by injection e with e1; exact e1.symm)
    rw [other _ _ _ _ (hb _), other _ _ _ _ (hb _), other _ _ _ _ (hb _), other _ _ _ _ (hb _), other _ _ _ _ (fun e => h1 (by injection e with e1; exact e1.symm))]
  · rw [other _ _ _ _ (hneq _ _ (by omega)), other _ _ _ _ (hneq _ _ (by omega)), other _ _ _ _ (hneq _ _ (by omega)), other _ _ _ _ (hneq _ _ (by omega)), other _ _ _ _ (hnT _ _)]
  · rw [other _ _ _ _ (hneq _ _ (by omega)), other _ _ _ _ (hneq _ _ (by omega)), other _ _ _ _ (hneq _ _ (by omega))]
    exact same _ _ _ u0 (by rw [other _ _ _ _ (hnT _ _)]; exact r0)
  · rw [other _ _ _ _ (hneq _ _ (by omega)), other _ _ _ _ (hneq _ _ (by omega))]
    exact same _ _ _ u1 (by rw [other _ _ _ _ (hneq _ _ (by omega)), other _ _ _ _ (hnT _ _)]; exact r1)
  · rw [other _ _ _ _ (hneq _ _ (by omega))]
    exact same _ _ _ u2 (by rw [other _ _ _ _ (hneq _ _ (by omega)), other _ _ _ _ (hneq _ _ (by omega)), other _ _ _ _ (hnT _ _)]; exact r2)
  · exact same _ _ _ u3 (by rw [other _ _ _ _ (hneq _ _ (by omega)), other _ _ _ _ (hneq _ _ (by omega)), other _ _ _ _ (hneq _ _ (by omega)), other _ _ _ _ (hnT _ _)]; exact r3)
  · exact ((((hB.setCell (p := ⟨T, 3, none⟩) hT _).setCell (p := ⟨R, x, none⟩) hR _).setCell (p := ⟨R, x + 1, none⟩) hR _).setCell (p := ⟨R, x + 2, none⟩) hR _).setCell (p := ⟨R, x + 3, none⟩) hR _

set_option maxRecDepth 100000 in
set_option maxHeartbeats 2000000 in
theorem clones_any : ∀ (sz : Nat) (ts : Ts), ts.size < sz → ts.size ≤ 1000000 → ts.ok → ∀ (w : World) (p : Option Addr) (c : Nat), Ts.At w p ts →
    Calls Tryz.prog 41 #[.slice p ts.len c] w fun e w' => ∃ (us : Ts) (p' : Option Addr) (c' : Nat), e = .returned (.slice p' us.len c') ∧ Ts.AtB w.heap.size w' p' us ∧ Ts.twin us ts ∧ us.ok ∧ (us.len ≤ c' ∧ c' ≤ 9223372036854775807) ∧ (p' = none → c' = 0) ∧ Below w.heap.size w w' := by
  intro sz
  induction sz with
  | zero => intro ts h; omega
  | succ sz ih =>
    intro ts hsz hbig hok w p c hat
    have hls := Ts.len_size ts
    by_cases h0 : ((ts.len : Int) == 0) = true
    · obtain rfl : ts = .nil := Ts.len_zero (by simp at h0; omega)
      clear h0
      have h0 : Ts.nil.len = 0 := rfl
      go_enter Tryz.func41, Tryz.ntmps41
      go_wp2
      go_ret
      exact ⟨.nil, none, 0, rfl, ⟨0, 0, .inl rfl, trivial⟩, trivial, trivial, ⟨Nat.le_refl _, by omega⟩, fun _ => rfl, Below.refl _ _⟩
    · rw [Bool.not_eq_true] at h0
      have hmk := make_terms ts.len (by omega)
      obtain ⟨b, o, hp, hlies⟩ := hat
      obtain ⟨W1, hW1, hs1, hB1, hc1, hf1⟩ := alloc_new w (zeroCells ts.len) 25
      have hc1' : ∀ x, x < ts.len * 4 → ∃ v, W1.cell? ⟨w.heap.size, x, none⟩ = some v := fun x hx => ⟨_, hc1 x _ (Array.getElem?_eq_getElem (by rw [size_zeroCells]; exact hx))⟩
      go_enter Tryz.func41, Tryz.ntmps41
      go_wp2
      rw [← hW1]
      clear hmk
      have Z := Lib.hid hW1
      have B1 := Lib.hid hB1
      have C1 := Lib.hid hc1'
      have F1 := Lib.hid hf1
      clear hW1 hB1 hc1 hc1' hf1 h0
      go_loopw [14] (fun i wr => ∃ (j : Nat), j ≤ ts.len ∧ i = .int .i64 j ∧ Below w.heap.size w wr ∧ w.heap.size < wr.heap.size ∧ Ts.Done wr w.heap.size ts j ∧ (∀ x, x < ts.len * 4 → ∃ v, wr.cell? ⟨w.heap.size, x, none⟩ = some v) ∧ (∀ x, wr.frozen? ⟨w.heap.size, x, none⟩ = false)) (fun i _ => ts.len - (intOf i).toNat)
      case atStart => exact ⟨0, Nat.zero_le _, rfl, B1.out, by omega, fun m hm => by omega, C1.out, F1.out⟩
      case round =>
        rename_i wr _
        obtain ⟨j, hk, rfl, hB, hR, hD, hC, hF⟩ := hrel
        have B := Lib.hid hB
        have DN := Lib.hid hD
        have C := Lib.hid hC
        have F := Lib.hid hF
        clear hD hC hF
        by_cases hlt : j < ts.len
        · obtain ⟨kk, s1, nn, pp, cc, kids, rest, D, l0, l1, l2, l3, A1, O1, hkl, hsz3, _, hs1, _⟩ := Ts.open_at hlies hB hok hlt
          obtain rfl := Ts.some_of hp hlt
          clear hB hp
          obtain ⟨W3, hW3, hs3, hB3, hc3, hf3⟩ := alloc_new wr #[.int .u8 kk, .string s1, .int .i64 nn, .slice pp kids.len cc] 25
          go_wp2_with fail
          rw [← hW3]
          refine (ih kids (by omega) (by omega) O1.out W3 pp cc (A1.out.below hB3)).mono ?_
          rintro e w' ⟨us, p', c', rfl, hat', htw, hok', hcl, hpn, hB4⟩
          have t0 : w'.cell? ⟨wr.heap.size, 0, none⟩ = some (.int .u8 kk) := (hB4.cell (p := ⟨wr.heap.size, 0, none⟩) (by rw [hs3]; simp)).trans (hc3 0 _ rfl)
          have t1 : w'.cell? ⟨wr.heap.size, 1, none⟩ = some (.string s1) := (hB4.cell (p := ⟨wr.heap.size, 1, none⟩) (by rw [hs3]; simp)).trans (hc3 1 _ rfl)
          have t2 : w'.cell? ⟨wr.heap.size, 2, none⟩ = some (.int .i64 nn) := (hB4.cell (p := ⟨wr.heap.size, 2, none⟩) (by rw [hs3]; simp)).trans (hc3 2 _ rfl)
          have t3 : w'.cell? ⟨wr.heap.size, 3, none⟩ = some (.slice pp kids.len cc) := (hB4.cell (p := ⟨wr.heap.size, 3, none⟩) (by rw [hs3]; simp)).trans (hc3 3 _ rfl)
          have ft : w'.frozen? ⟨wr.heap.size, 3, none⟩ = false := (hB4.frozen (p := ⟨wr.heap.size, 3, none⟩) (by rw [hs3]; simp)).trans (hf3 3)
          have hold : ∀ x, w'.cell? ⟨w.heap.size, x, none⟩ = wr.cell? ⟨w.heap.size, x, none⟩ := fun x => (hB4.cell (p := ⟨w.heap.size, x, none⟩) (by rw [hs3]; simp; omega)).trans (hB3.cell (p := ⟨w.heap.size, x, none⟩) hR)
          have hfold : ∀ x, w'.frozen? ⟨w.heap.size, x, none⟩ = false := fun x => (hB4.frozen (p := ⟨w.heap.size, x, none⟩) (by rw [hs3]; simp; omega)).trans ((hB3.frozen (p := ⟨w.heap.size, x, none⟩) hR).trans (F.out x))
          obtain ⟨x0, r0⟩ := C.out (j * 4) (by omega)
          obtain ⟨x1, r1⟩ := C.out (j * 4 + 1) (by omega)
          obtain ⟨x2, r2⟩ := C.out (j * 4 + 2) (by omega)
          obtain ⟨x3, r3⟩ := C.out (j * 4 + 3) (by omega)
          rw [← hold] at r0 r1 r2 r3
          have f0 := hfold (j * 4)
          have f1 := hfold (j * 4 + 1)
          have f2 := hfold (j * 4 + 2)
          have f3 := hfold (j * 4 + 3)
          have hne : ¬ w.heap.size = wr.heap.size := by omega
          have hne' : ¬ wr.heap.size = w.heap.size := by omega
          have HO := Lib.hid hold
          have HF := Lib.hid hfold
          have AT := Lib.hid hat'
          have TW := Lib.hid htw
          have B4 := Lib.hid hB4
          have B3 := Lib.hid hB3
          have Z3 := Lib.hid hW3
          clear hold hfold hat' htw hB4 hB3 hW3 l0 l1 l2 l3 hc3 hf3
          obtain ⟨W5, hW5, hs5, hc5, hr5, q0, q1, q2, q3, hf5, hB5⟩ := put_step w' wr.heap.size w.heap.size (j * 4) (.slice p' us.len c') (.int .u8 kk) (.string s1) (.int .i64 nn) (.slice p' us.len c') hne' (by rw [r0]; rfl) (by rw [r1]; rfl) (by rw [r2]; rfl) (by rw [r3]; rfl)
          have W5E := Lib.hid hW5
          have W5C := Lib.hid (And.intro hc5 (And.intro hr5 (And.intro hf5 hB5)))
          have W5Q := Lib.hid (And.intro q0 (And.intro q1 (And.intro q2 q3)))
          clear hc5 hr5 hf5 hB5 q0 q1 q2 q3 hW5
          go_wp2
          go_roundw
          case rel =>
            rw [← W5E.out]
            obtain ⟨hc5, hr5, hf5, hB5⟩ := W5C.out
            obtain ⟨q0, q1, q2, q3⟩ := W5Q.out
            have hB34 : Below w.heap.size w w' := (B.out.trans (B3.out.mono B.out.size)).trans (B4.out.mono (by rw [hs3]; omega))
            have hsz5 : w.heap.size < W5.heap.size := by rw [hs5]; have := B4.out.size; omega
            refine ⟨j + 1, by omega, by go_num, hB5 _ _ (by omega) (Nat.le_refl _) hB34, hsz5, ?_, ?_, fun x => by rw [hf5]; exact HF.out x⟩
            · intro m hm k s n pk ck kd rs hd
              by_cases e : m = j
              · subst e
                rw [D.out] at hd
                injection hd with e1 e2 e3 e4 e5 e6 e7
                subst e1 e2 e3 e4 e5 e6 e7
                refine ⟨p', c', us, q0, q1, q2, q3, AT.out.stay (by rw [hs3]; omega) (fun b y hb hlt => hc5 b y (by rw [hs3] at hb; omega) (by rw [hs3] at hb; omega)), TW.out, hok', hcl, hpn⟩
              · obtain ⟨p2, c2, k2, d0, d1, d2, d3, d4, d5, d6, d7, d8⟩ := DN.out m (by omega) _ _ _ _ _ _ _ hd
                have hsame : ∀ y, y < j * 4 → W5.cell? ⟨w.heap.size, y, none⟩ = wr.cell? ⟨w.heap.size, y, none⟩ := fun y hy => (hr5 y (.inl hy)).trans (HO.out y)
                have hm' : m * 4 + 3 < j * 4 := by omega
                refine ⟨p2, c2, k2, (hsame _ (by omega)).trans d0, (hsame _ (by omega)).trans d1, (hsame _ (by omega)).trans d2, (hsame _ (by omega)).trans d3, d4.stay (Nat.le_refl _) (fun b y hb hlt => ?_), d5, d6, d7, d8⟩
                rw [hc5 b y (by omega) (by omega)]
                exact (B4.out.cell (p := ⟨b, y, none⟩) (by rw [hs3]; simp; omega)).trans (B3.out.cell (p := ⟨b, y, none⟩) hlt)
            · intro x hx
              by_cases h1 : x < j * 4 ∨ j * 4 + 4 ≤ x
              · rw [hr5 x h1, HO.out]; exact C.out x hx
              · obtain h2 | h2 | h2 | h2 : x = j * 4 ∨ x = j * 4 + 1 ∨ x = j * 4 + 2 ∨ x = j * 4 + 3 := by omega
                · exact ⟨_, by rw [h2]; exact q0⟩
                · exact ⟨_, by rw [h2]; exact q1⟩
                · exact ⟨_, by rw [h2]; exact q2⟩
                · exact ⟨_, by rw [h2]; exact q3⟩
          case measure => simp [intOf]; omega
        · have hj : j = ts.len := by omega
          subst hj
          obtain ⟨us, hl, htw, hok'⟩ := DN.out.made hok
          have hlen := Ts.twin_len us ts htw
          have HL := Lib.hid hlen
          have LI := Lib.hid hl
          have TW := Lib.hid htw
          clear hl htw hlen hB
          go_wp2
          go_ret
          exact ⟨us, some ⟨w.heap.size, 0, none⟩, ts.len, by rw [HL.out]; rfl, ⟨w.heap.size, 0, .inr rfl, LI.out⟩, TW.out, hok', ⟨by rw [HL.out]; exact Nat.le_refl _, by omega⟩, (fun h => by cases h), B.out⟩
end Go.Proofs.YtnmhnaanpjlniaaGreat
/-
  Terms that are made.
-/
namespace Go.Proofs.YtnmhnaanpjlniaaGreat
open Go.RowKit

set_option maxHeartbeats 1000000 in
theorem V_any (n : Int) (w : World) : Calls Tryz.prog 27 #[.int .i64 n] w fun e w' => e = .returned (tv 1 ⟨#[]⟩ n none 0 0) ∧ Below w.heap.size w w' := by
  go_enter Tryz.func27, Tryz.ntmps27
  go_wp2
  exact bodyPost_ret (v := tv 1 ⟨#[]⟩ n none 0 0) (by simp [results, Tryz.results27, go_sem, tv]) rfl ⟨rfl, (Below.refl _ _).alloc (Nat.le_refl _) _⟩

set_option maxHeartbeats 1000000 in
theorem I_any (n : Int) (w : World) : Calls Tryz.prog 34 #[.int .i64 n] w fun e w' => e = .returned (tv 2 ⟨#[]⟩ n none 0 0) ∧ Below w.heap.size w w' := by
  go_enter Tryz.func34, Tryz.ntmps34
  go_wp2
  exact bodyPost_ret (v := tv 2 ⟨#[]⟩ n none 0 0) (by simp [results, Tryz.results34, go_sem, tv]) rfl ⟨rfl, (Below.refl _ _).alloc (Nat.le_refl _) _⟩

set_option maxHeartbeats 1000000 in
theorem A_any (s : ByteArray) (w : World) : Calls Tryz.prog 35 #[.string s] w fun e w' => e = .returned (tv 3 s 0 none 0 0) ∧ Below w.heap.size w w' := by
  go_enter Tryz.func35, Tryz.ntmps35
  go_wp2
  exact bodyPost_ret (v := tv 3 s 0 none 0 0) (by simp [results, Tryz.results35, go_sem, tv]) rfl ⟨rfl, (Below.refl _ _).alloc (Nat.le_refl _) _⟩

set_option maxHeartbeats 1000000 in
theorem F_any (s : ByteArray) (ts : Ts) (hbig : ts.size ≤ 1000000) (hok : ts.ok) (w : World) (p : Option Addr) (c : Nat) (hat : Ts.At w p ts) :
    Calls Tryz.prog 14 #[.string s, .slice p ts.len c] w fun e w' => ∃ (us : Ts) (p' : Option Addr) (c' : Nat), e = .returned (tv (if ts.len = 0 then 3 else 4) s 0 p' us.len c') ∧ Ts.AtB w.heap.size w' p' us ∧ Ts.twin us ts ∧ us.ok ∧ (us.len ≤ c' ∧ c' ≤ 9223372036854775807) ∧ (p' = none → c' = 0) ∧ Below w.heap.size w w' := by
  have hls := Ts.len_size ts
  by_cases h0 : ((ts.len : Int) == 0) = true
  · have hl0 : ts.len = 0 := by simp at h0; omega
    obtain rfl : ts = .nil := Ts.len_zero hl0
    clear h0
    have h0 : Ts.nil.len = 0 := rfl
    go_enter Tryz.func14, Tryz.ntmps14
    go_wp2_with fail
    refine (A_any s _).mono ?_
    rintro e w' ⟨rfl, hB⟩
    unfold tv
    have hB0 : Below w.heap.size w (w.alloc (.cells #[.int .u8 0, .string ⟨#[]⟩, .int .i64 0, .slice none 0 0] 25)) := (Below.refl _ _).alloc (Nat.le_refl _) _
    obtain ⟨hc, hf⟩ := stays hB
    have hz1 : w.heap.size < w'.heap.size := by have := hB.size; simp at this; omega
    go_wp2
    refine bodyPost_ret (v := tv 3 s 0 none 0 0) (by simp [results, Tryz.results14, go_sem, hc, tv]) rfl ⟨.nil, none, 0, rfl, ⟨0, 0, .inl rfl, trivial⟩, trivial, trivial, ⟨Nat.le_refl _, by omega⟩, fun _ => rfl, ?_⟩
    repeat (first | exact hB0.trans (hB.mono hB0.size) | refine Below.setCell (p := ⟨w.heap.size, _, none⟩) ?_ (by simp) _)
  · rw [Bool.not_eq_true] at h0
    have hl0 : Hid (¬ ts.len = 0) := Lib.hid (by simp at h0; omega)
    go_enter Tryz.func14, Tryz.ntmps14
    go_wp2_with fail
    have hB0 : Below w.heap.size w (w.alloc (.cells #[.int .u8 0, .string ⟨#[]⟩, .int .i64 0, .slice none 0 0] 25)) := (Below.refl _ _).alloc (Nat.le_refl _) _
    refine (clones_any _ ts (Nat.lt_succ_self _) hbig hok _ p c (hat.below hB0)).mono ?_
    rintro e w' ⟨us, p', c', rfl, hat', htw, hok', hcl, hpn, hB⟩
    obtain ⟨hc, hf⟩ := stays hB
    have hz1 : w.heap.size < w'.heap.size := by have := hB.size; simp at this; omega
    have AT := Lib.hid hat'
    have TW := Lib.hid htw
    have BB := Lib.hid (hB0.trans (hB.mono hB0.size))
    clear hat' htw
    go_wp2
    refine bodyPost_ret (v := tv 4 s 0 p' us.len c') (by simp [results, Tryz.results14, go_sem, hc, tv]) rfl ⟨us, p', c', rfl, ?_, TW.out, hok', hcl, hpn, ?_⟩
    · refine AT.out.stay (by simp) fun b y hb hlt => ?_
      have hne : b ≠ w.heap.size := by simp at hb; omega
      simp [go_sem]
    · repeat (first | exact BB.out | refine Below.setCell (p := ⟨w.heap.size, _, none⟩) ?_ (by simp) _)
end Go.Proofs.YtnmhnaanpjlniaaGreat
