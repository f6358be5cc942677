import Derived.Test.YtnmhnaanpjlniaaGreatTn
import Derived.Test.YtnmhnaanpjlniaaGreatXf0
import Derived.Test.YtnmhnaanpjlniaaGreatXa
import Derived.Maps.OwnSet
import Derived.Deep.QuietTactic
import Derived.BigQuiet
import Derived.Deep.DeepCutAuto
/-
  Layer 3: no substitution binds nothing: what is called on nil.
-/
namespace Go.Proofs.YtnmhnaanpjlniaaGreat
open Go.RowKit






set_option maxRecDepth 100000 in
set_option maxHeartbeats 4000000 in
theorem sclone_any : ∀ (sz : Nat) (ts : Ts), ts.size < sz → ts.size ≤ 1000000 → ts.ok → ∀ (k : Int) (s : ByteArray) (n : Int) (w : World) (p : Option Addr) (c : Nat), Ts.At w p ts →
    Calls Tryz.prog 42 #[.agg #[.int .u8 k, .string s, .int .i64 n, .slice p ts.len c]] w fun e w' => ∃ (us : Ts) (p' : Option Addr) (c' : Nat), e = .returned (tv k s n p' us.len c') ∧ Ts.AtB w.heap.size w' p' us ∧ Ts.twin us ts ∧ us.ok ∧ (us.len ≤ c' ∧ c' ≤ 9223372036854775807) ∧ (p' = none → c' = 0) ∧ Below w.heap.size w w' := by
  intro sz
  induction sz with
  | zero => intro ts h; omega
  | succ sz ih =>
    intro ts hsz hbig hok k s n w p c hat
    have hls := Ts.len_size ts
    by_cases h0 : ((ts.len : Int) == 0) = true
    · obtain rfl : ts = .nil := Ts.len_zero (by simp at h0; omega)
      clear h0
      have h0 : Ts.nil.len = 0 := rfl
      go_enter Tryz.func42, Tryz.ntmps42
      go_wp2
      exact bodyPost_ret (v := tv k s n none 0 0) (by simp [results, Tryz.results42, go_sem, tv]) rfl ⟨.nil, none, 0, rfl, ⟨0, 0, .inl rfl, trivial⟩, trivial, trivial, ⟨Nat.le_refl _, by omega⟩, fun _ => rfl, ((Below.refl _ _).alloc (Nat.le_refl _) _).alloc (by simp) _⟩
    · rw [Bool.not_eq_true] at h0
      have hmk := make_terms ts.len (by omega)
      obtain ⟨W2, hW2, hs2, hB2, hf1, hf2, hc1, hc2⟩ : ∃ W, W = (w.alloc (.cells #[.int .u8 k, .string s, .int .i64 n, .slice p ts.len c] 25)).alloc (.cells #[.int .u8 0, .string ⟨#[]⟩, .int .i64 0, .slice none 0 0] 25) ∧ W.heap.size = w.heap.size + 2 ∧ Below w.heap.size w W ∧ (∀ y, W.frozen? ⟨w.heap.size, y, none⟩ = false) ∧ (∀ y, W.frozen? ⟨w.heap.size + 1, y, none⟩ = false) ∧
          (∀ y v, (#[Value.int .u8 k, .string s, .int .i64 n, .slice p ts.len c] : Array Value)[y]? = some v → W.cell? ⟨w.heap.size, y, none⟩ = some v) ∧ (∀ y v, (#[Value.int .u8 0, .string ⟨#[]⟩, .int .i64 0, .slice none 0 0] : Array Value)[y]? = some v → W.cell? ⟨w.heap.size + 1, y, none⟩ = some v) := by
        obtain ⟨V, hV, sV, bV, cV, fV⟩ := alloc_new w #[.int .u8 k, .string s, .int .i64 n, .slice p ts.len c] 25
        obtain ⟨U, hU, sU, bU, cU, fU⟩ := alloc_new V #[.int .u8 0, .string ⟨#[]⟩, .int .i64 0, .slice none 0 0] 25
        rw [sV] at cU fU
        exact ⟨U, by rw [hU, hV], by omega, bV.trans (bU.mono (by omega)), fun y => ((stays bU).2 _ _ (by omega)).trans (fV y), fU, fun y v h => ((stays bU).1 _ _ (by omega)).trans (cV y v h), cU⟩
      obtain ⟨W3, hW3, hs3, hB3, hc3, hf3⟩ := alloc_new W2 (zeroCells ts.len) 25
      have hc3' : ∀ x, x < ts.len * 4 → ∃ v, W3.cell? ⟨W2.heap.size, x, none⟩ = some v := fun x hx => ⟨_, hc3 x _ (Array.getElem?_eq_getElem (by rw [size_zeroCells]; exact hx))⟩
      obtain ⟨b, o, hp, hlies⟩ := hat
      have LI : Hid (ts.lies w b o) := Lib.hid hlies
      have HP := Lib.hid hp
      have OK := Lib.hid hok
      go_enter Tryz.func42, Tryz.ntmps42
      go_wp2_with fail
      rw [← hW2]
      rw [show w.heap.size + 1 + 1 = W2.heap.size by omega, ← hW3]
      have Z := Lib.hid (And.intro hW2 hW3)
      have B03 := Lib.hid (hB2.trans (hB3.mono (by omega)))
      have C3 := Lib.hid hc3'
      have F3 := Lib.hid hf3
      have C1 : Hid (∀ y v, (#[Value.int .u8 k, .string s, .int .i64 n, .slice p ts.len c] : Array Value)[y]? = some v → W3.cell? ⟨w.heap.size, y, none⟩ = some v) := Lib.hid (fun y v h => ((stays hB3).1 _ _ (by omega)).trans (hc1 y v h))
      have C2 : Hid (∀ y v, (#[Value.int .u8 0, .string ⟨#[]⟩, .int .i64 0, .slice none 0 0] : Array Value)[y]? = some v → W3.cell? ⟨w.heap.size + 1, y, none⟩ = some v) := Lib.hid (fun y v h => ((stays hB3).1 _ _ (by omega)).trans (hc2 y v h))
      have FF : Hid (∀ b y, w.heap.size ≤ b → b < w.heap.size + 2 → W3.frozen? ⟨b, y, none⟩ = false) := Lib.hid (fun b y h h' => by
        obtain rfl | rfl : b = w.heap.size ∨ b = w.heap.size + 1 := by omega
        · exact ((stays hB3).2 _ _ (by omega)).trans (hf1 y)
        · exact ((stays hB3).2 _ _ (by omega)).trans (hf2 y))
      obtain ⟨R, hR⟩ : ∃ R, W2.heap.size = R := ⟨_, rfl⟩
      rw [hR] at C3 F3 hs3 ⊢
      have hRw : R = w.heap.size + 2 := by omega
      have HRW := Lib.hid hRw
      clear hW2 hW3 hB2 hB3 hc1 hc2 hf1 hf2 hc3 hc3' hf3 hmk h0 hlies hp hok hs2 hR hRw
      go_loopw [19] (fun i wr => ∃ (j : Nat), j ≤ ts.len ∧ i = .int .i64 j ∧ Hid (Below w.heap.size w wr) ∧ R < wr.heap.size ∧ Hid (Ts.Done wr R ts j) ∧ Hid (∀ x, x < ts.len * 4 → ∃ v, wr.cell? ⟨R, x, none⟩ = some v) ∧ Hid (∀ x, wr.frozen? ⟨R, x, none⟩ = false) ∧ Hid (∀ b y, b < R → wr.cell? ⟨b, y, none⟩ = W3.cell? ⟨b, y, none⟩ ∧ wr.frozen? ⟨b, y, none⟩ = W3.frozen? ⟨b, y, none⟩)) (fun i _ => ts.len - (intOf i).toNat)
      case atStart => exact ⟨0, Nat.zero_le _, rfl, B03, by omega, Lib.hid (fun m hm => by omega), C3, F3, Lib.hid (fun _ _ _ => ⟨rfl, rfl⟩)⟩
      case round =>
        obtain ⟨j, hj, rfl, B, hRlt, DN, CE, FE, OLD⟩ := hrel
        by_cases hlt : j < ts.len
        · have hp' := Ts.some_of HP.out hlt
          subst hp'
          obtain ⟨kk, s1, nn, pp, cc, kids, rest, D, EL, hsz1, hoke⟩ := Ts.elem LI.out B.out OK.out hlt
          have OKE := Lib.hid hoke
          clear hoke
          have c0 := EL.c0
          have c1 := EL.c1
          have c2 := EL.c2
          have c3 := EL.c3
          obtain ⟨W4, hW4, hs4, hB4, hc4, hf4⟩ := alloc_new wr #[.int .u8 kk, .string s1, .int .i64 nn, .slice pp kids.len cc] 25
          have AT4 := Lib.hid (EL.tat.below hB4)
          have B4 := Lib.hid hB4
          go_wp2_with fail
          rw [← hW4]
          have Z4 := Lib.hid hW4
          clear hW4 hc4 hf4 hB4 c0 c1 c2 c3
          refine (ih kids (by omega) (by omega) OKE.out.2.2.2.2.2.1 kk s1 nn W4 pp cc AT4.out).mono ?_
          rintro e w' ⟨us, p', c', rfl, hat', htw, hok', hcl, hpn, hB5⟩
          unfold tv
          have hold : ∀ b y, b < wr.heap.size → w'.cell? ⟨b, y, none⟩ = wr.cell? ⟨b, y, none⟩ ∧ w'.frozen? ⟨b, y, none⟩ = wr.frozen? ⟨b, y, none⟩ := fun b y h => ⟨((stays hB5).1 _ _ (by omega)).trans ((stays B4.out).1 _ _ h), ((stays hB5).2 _ _ (by omega)).trans ((stays B4.out).2 _ _ h)⟩
          obtain ⟨x0, r0⟩ := CE.out (j * 4) (by omega)
          obtain ⟨x1, r1⟩ := CE.out (j * 4 + 1) (by omega)
          obtain ⟨x2, r2⟩ := CE.out (j * 4 + 2) (by omega)
          obtain ⟨x3, r3⟩ := CE.out (j * 4 + 3) (by omega)
          rw [← (hold R _ hRlt).1] at r0 r1 r2 r3
          have f0 := (hold R (j * 4) hRlt).2.trans (FE.out _)
          have f1 := (hold R (j * 4 + 1) hRlt).2.trans (FE.out _)
          have f2 := (hold R (j * 4 + 2) hRlt).2.trans (FE.out _)
          have f3 := (hold R (j * 4 + 3) hRlt).2.trans (FE.out _)
          obtain ⟨W5, hW5, hs5, ho5, hr5, q0, q1, q2, q3, hf5, hB6⟩ := put4 w' R (j * 4) (.int .u8 kk) (.string s1) (.int .i64 nn) (.slice p' us.len c') (by rw [r0]; rfl) (by rw [r1]; rfl) (by rw [r2]; rfl) (by rw [r3]; rfl)
          have hsz5 : R < W5.heap.size := by rw [hs5]; have := hB5.size; omega
          have B5 : Hid (Below w.heap.size w W5) := Lib.hid (hB6 _ _ (by have := HRW.out; omega) ((B.out.trans (B4.out.mono B.out.size)).trans (hB5.mono (by have := B.out.size; omega))))
          have DN5 : Hid (Ts.Done W5 R ts (j + 1)) := Lib.hid (by
            intro m hm k s n pk ck kd rs hd
            by_cases e : m = j
            · subst e
              rw [D.out] at hd
              injection hd with e1 e2 e3 e4 e5 e6 e7
              subst e1 e2 e3 e4 e5 e6 e7
              exact ⟨p', c', us, q0, q1, q2, q3, hat'.stay (by omega) (fun b y hb hlt => ho5 b y (by omega)), htw, hok', hcl, hpn⟩
            · obtain ⟨p2, c2, k2, d0, d1, d2, d3, d4, d5, d6, d7, d8⟩ := DN.out m (by omega) _ _ _ _ _ _ _ hd
              have hsame : ∀ y, y < j * 4 → W5.cell? ⟨R, y, none⟩ = wr.cell? ⟨R, y, none⟩ := fun y hy => (hr5 y (.inl hy)).trans (hold R y hRlt).1
              have hm' : m * 4 + 3 < j * 4 := by omega
              exact ⟨p2, c2, k2, (hsame _ (by omega)).trans d0, (hsame _ (by omega)).trans d1, (hsame _ (by omega)).trans d2, (hsame _ (by omega)).trans d3, d4.stay (Nat.le_refl _) (fun b y hb hlt => (ho5 b y (by omega)).trans (hold b y hlt).1), d5, d6, d7, d8⟩)
          have CE5 : Hid (∀ x, x < ts.len * 4 → ∃ v, W5.cell? ⟨R, x, none⟩ = some v) := Lib.hid (by
            intro x hx
            by_cases h1 : x < j * 4 ∨ j * 4 + 4 ≤ x
            · rw [hr5 x h1, (hold R x hRlt).1]; exact CE.out x hx
            · obtain h2 | h2 | h2 | h2 : x = j * 4 ∨ x = j * 4 + 1 ∨ x = j * 4 + 2 ∨ x = j * 4 + 3 := by omega
              · exact ⟨_, by rw [h2]; exact q0⟩
              · exact ⟨_, by rw [h2]; exact q1⟩
              · exact ⟨_, by rw [h2]; exact q2⟩
              · exact ⟨_, by rw [h2]; exact q3⟩)
          have FE5 : Hid (∀ x, W5.frozen? ⟨R, x, none⟩ = false) := Lib.hid (fun x => by rw [hf5, (hold R x hRlt).2]; exact FE.out x)
          have OLD5 : Hid (∀ b y, b < R → W5.cell? ⟨b, y, none⟩ = W3.cell? ⟨b, y, none⟩ ∧ W5.frozen? ⟨b, y, none⟩ = W3.frozen? ⟨b, y, none⟩) := Lib.hid (fun b y hb => ⟨(ho5 b y (by omega)).trans ((hold b y (by omega)).1.trans (OLD.out b y hb).1), (hf5 b y).trans ((hold b y (by omega)).2.trans (OLD.out b y hb).2)⟩)
          have Z5 := Lib.hid hW5
          clear hat' htw hok' hcl hpn hB5 hold q0 q1 q2 q3 hr5 ho5 hf5 hB6 hW5 EL
          go_wp2
          go_roundw
          case rel =>
            rw [← Z5.out]
            exact ⟨j + 1, by omega, by go_num, B5, hsz5, DN5, CE5, FE5, OLD5⟩
          case measure => simp [intOf]; omega
        · have hj : j = ts.len := by omega
          subst hj
          obtain ⟨us, hl, htw, hok'⟩ := DN.out.made OK.out
          have hlen := Ts.twin_len us ts htw
          have HL := Lib.hid hlen
          have LU := Lib.hid hl
          have TW := Lib.hid htw
          have OKU := Lib.hid hok'
          have hw1 : w.heap.size < R := by have := HRW.out; omega
          have hw2 : w.heap.size + 1 < R := by have := HRW.out; omega
          have a0 := (OLD.out _ 0 hw1).1.trans (C1.out 0 _ rfl)
          have a1 := (OLD.out _ 1 hw1).1.trans (C1.out 1 _ rfl)
          have a2 := (OLD.out _ 2 hw1).1.trans (C1.out 2 _ rfl)
          have a3 := (OLD.out _ 3 hw1).1.trans (C1.out 3 _ rfl)
          have b0 := (OLD.out _ 0 hw2).1.trans (C2.out 0 _ rfl)
          have b1 := (OLD.out _ 1 hw2).1.trans (C2.out 1 _ rfl)
          have b2 := (OLD.out _ 2 hw2).1.trans (C2.out 2 _ rfl)
          have b3 := (OLD.out _ 3 hw2).1.trans (C2.out 3 _ rfl)
          have f3 := (OLD.out _ 3 hw1).2.trans (FF.out w.heap.size 3 (Nat.le_refl _) (by omega))
          have g0 := (OLD.out _ 0 hw2).2.trans (FF.out (w.heap.size + 1) 0 (by omega) (by omega))
          have g1 := (OLD.out _ 1 hw2).2.trans (FF.out (w.heap.size + 1) 1 (by omega) (by omega))
          have g2 := (OLD.out _ 2 hw2).2.trans (FF.out (w.heap.size + 1) 2 (by omega) (by omega))
          have g3 := (OLD.out _ 3 hw2).2.trans (FF.out (w.heap.size + 1) 3 (by omega) (by omega))
          obtain ⟨W9, hW9, hs9, ho9, hr9, q0, q1, q2, q3, hf9, hB9⟩ := put_step wr w.heap.size (w.heap.size + 1) 0 (.slice (some ⟨R, 0, none⟩) ts.len ts.len) (.int .u8 k) (.string s) (.int .i64 n) (.slice (some ⟨R, 0, none⟩) ts.len ts.len) (by omega) (by rw [b0]; rfl) (by rw [b1]; rfl) (by rw [b2]; rfl) (by rw [b3]; rfl)
          simp only [Nat.zero_add] at hW9 q1 q2 q3
          have AT9 : Hid (Ts.AtB w.heap.size W9 (some ⟨R, 0, none⟩) us) := Lib.hid (Ts.AtB.stay (B := R) ⟨R, 0, .inr rfl, LU.out⟩ (by have := HRW.out; omega) (fun b y hb _ => ho9 b y (by have := HRW.out; omega) (by have := HRW.out; omega)))
          have B9 := Lib.hid (hB9 _ _ (Nat.le_refl _) (by omega) B.out)
          have Z9 := Lib.hid hW9
          have Q9 := Lib.hid (And.intro q0 (And.intro q1 (And.intro q2 q3)))
          clear hl htw hlen hok' hr9 ho9 hf9 hB9 hW9 q0 q1 q2 q3
          go_wp2
          rw [← Z9.out]
          obtain ⟨q0, q1, q2, q3⟩ := Q9.out
          exact bodyPost_ret (v := tv k s n (some ⟨R, 0, none⟩) ts.len ts.len) (by simp [results, Tryz.results42, go_sem, q0, q1, q2, q3, tv]) rfl ⟨us, some ⟨R, 0, none⟩, ts.len, by rw [HL.out], AT9.out, TW.out, OKU.out, ⟨by rw [HL.out]; exact Nat.le_refl _, by omega⟩, (fun h => by cases h), B9.out⟩


end Go.Proofs.YtnmhnaanpjlniaaGreat
/-
  Layer 3: which kid of a node has a number, and whether a number is beyond what nodes have.
-/
namespace Go.Proofs.YtnmhnaanpjlniaaGreat
open Go.RowKit

/-- which kid of a node of a level has a number -/
def kidOf (v : Int) (l : Nat) : Nat := (v.toNat / 2 ^ (3 + 4 * (l - 1))) % 16
/-- is a number beyond so many levels? -/
def isBeyond (v : Int) (h : Nat) : Prop := ¬ v.toNat / 2 ^ (3 + 4 * h) = 0

theorem kidOf_lt (v : Int) (l : Nat) : kidOf v l < 16 := Nat.mod_lt _ (by omega)

theorem and_15 (n : Nat) (_hn : n < 9223372036854775808) : bits .and .i64 (n : Int) 15 = ((n % 16 : Nat) : Int) := by
  have e1 : BitVec.ofInt 64 (n : Int) = BitVec.ofNat 64 n := by
    apply BitVec.eq_of_toNat_eq
    simp
  have e2 : (BitVec.ofNat 64 n &&& BitVec.ofInt 64 15).toNat = n % 16 := by
    rw [BitVec.toNat_and]
    have : (BitVec.ofInt 64 15).toNat = 2 ^ 4 - 1 := by decide
    rw [this, Nat.and_two_pow_sub_one_eq_mod, BitVec.toNat_ofNat]
    omega
  have e3 : bits .and .i64 (n : Int) 15 = IntKind.i64.wrap ((BitVec.ofInt 64 (n : Int) &&& BitVec.ofInt 64 15).toNat : Int) := rfl
  rw [e3, e1, e2]
  have h16 : n % 16 < 16 := Nat.mod_lt _ (by omega)
  generalize n % 16 = m at *
  exact IntWalk.i64_in _ (by omega)

theorem wf64 {n : Int} (h : -9223372036854775808 ≤ n ∧ n ≤ 9223372036854775807) : (Lit.int .i64 n).wf = true := WalkArith.wf_i64 h

theorem div_cast (v : Int) (hv : 0 ≤ v) (k : Nat) : v / 2 ^ k = ((v.toNat / 2 ^ k : Nat) : Int) := by
  obtain ⟨n, rfl⟩ := Int.eq_ofNat_of_zero_le hv
  simp

set_option maxHeartbeats 1000000 in
theorem kid_any (v : Int) (hv : 0 ≤ v ∧ v ≤ 9223372036854775807) (l : Nat) (hl : 1 ≤ l ∧ l ≤ 15) (w : World) : Calls Tryz.prog 103 #[.int .i64 v, .int .u64 l] w fun e w' => e = .returned (.int .i64 (kidOf v l)) ∧ w' = w := by
  have h2 : v / 2 ^ (3 + 4 * (l - 1)) = ((v.toNat / 2 ^ (3 + 4 * (l - 1)) : Nat) : Int) := div_cast v hv.1 _
  have h3 : v.toNat / 2 ^ (3 + 4 * (l - 1)) < 9223372036854775808 := Nat.lt_of_le_of_lt (Nat.div_le_self _ _) (by omega)
  have h4 : bits .and .i64 (v / 2 ^ (3 + 4 * (l - 1))) 15 = (kidOf v l : Int) := by rw [h2]; exact and_15 _ h3
  have H4 := Lib.hid h4
  clear h2 h3 h4
  go_enter Tryz.func103, Tryz.ntmps103
  go_wp2
  go_ret
  exact ⟨by rw [H4.out]; rfl, rfl⟩

theorem kid_at (v : Int) (hv : 0 ≤ v ∧ v ≤ 9223372036854775807) (l : Nat) (hl : 1 ≤ l ∧ l ≤ 15) (x : Int) (hx : x = (l : Int)) (w : World) : Calls Tryz.prog 103 #[.int .i64 v, .int .u64 x] w fun e w' => e = .returned (.int .i64 (kidOf v l)) ∧ w' = w := by
  subst hx
  exact kid_any v hv l hl w

set_option maxHeartbeats 1000000 in
theorem beyond_no (v : Int) (hv : 0 ≤ v ∧ v ≤ 9223372036854775807) (h : Nat) (hh : h ≤ 15) (hb : ¬ isBeyond v h) (w : World) : Calls Tryz.prog 69 #[.int .i64 v, .int .u64 h] w fun e w' => e = .returned (.bool false) ∧ w' = w := by
  have h2 : v / 2 ^ (3 + 4 * h) = 0 := by rw [div_cast v hv.1]; unfold isBeyond at hb; rw [Classical.not_not.1 hb]; rfl
  have H2 := Lib.hid h2
  clear h2
  go_enter Tryz.func69, Tryz.ntmps69
  go_wp2
  go_ret
  exact ⟨by rw [H2.out]; rfl, rfl⟩

set_option maxHeartbeats 1000000 in
theorem beyond_yes (v : Int) (hv : 0 ≤ v ∧ v ≤ 9223372036854775807) (h : Nat) (hh : h ≤ 15) (hb : isBeyond v h) (w : World) : Calls Tryz.prog 69 #[.int .i64 v, .int .u64 h] w fun e w' => e = .returned (.bool true) ∧ w' = w := by
  have h2 : (v / 2 ^ (3 + 4 * h) != 0) = true := by rw [div_cast v hv.1]; unfold isBeyond at hb; generalize v.toNat / 2 ^ (3 + 4 * h) = q at *; simp; omega
  have H2 := Lib.hid h2
  clear h2
  go_enter Tryz.func69, Tryz.ntmps69
  go_wp2
  go_ret
  exact ⟨by rw [H2.out]; rfl, rfl⟩

end Go.Proofs.YtnmhnaanpjlniaaGreat
/-
  Layer 3: what is bound, walked, visited, applied: plain facts.
-/
namespace Go.Proofs.YtnmhnaanpjlniaaGreat
open Go.RowKit

/-- what numbers are bound to -/
abbrev Sb := Int → Option Nd
def Sb.put (σ : Sb) (v : Int) (x : Nd) : Sb := fun u => if u = v then some x else σ u
def Sb.none : Sb := fun _ => Option.none

theorem Sb.put_same (σ : Sb) (v : Int) (x : Nd) : σ.put v x v = some x := by simp [Sb.put]
theorem Sb.put_other {σ : Sb} {v u : Int} {x : Nd} (h : u ≠ v) : σ.put v x u = σ u := by simp [Sb.put, h]

/-- a term walked, in so many steps -/
inductive Wk (σ : Sb) : Nd → Nd → Nat → Prop
  | stop {t : Nd} (h : (t.k == 1) = false ∨ σ t.n = none) : Wk σ t t 0
  | go {t b r : Nd} {m : Nat} (hk : (t.k == 1) = true) (hb : σ t.n = some b) (h : Wk σ b r m) : Wk σ t r (m + 1)

theorem Wk.det {σ : Sb} {t r : Nd} {m : Nat} (h : Wk σ t r m) : ∀ {r' : Nd} {m' : Nat}, Wk σ t r' m' → r = r' ∧ m = m' := by
  induction h with
  | stop h =>
    intro r' m' h'
    cases h' with
    | stop _ => exact ⟨rfl, rfl⟩
    | go hk hb _ =>
      rcases h with h | h
      · rw [h] at hk; cases hk
      · rw [h] at hb; cases hb
  | go hk hb _ ih =>
    intro r' m' h'
    cases h' with
    | stop h =>
      rcases h with h | h
      · rw [h] at hk; cases hk
      · rw [h] at hb; cases hb
    | go _ hb' h' =>
      rw [hb] at hb'
      cases hb'
      obtain ⟨e1, e2⟩ := ih h'
      exact ⟨e1, by rw [e2]⟩

theorem Wk.ends {σ : Sb} {t r : Nd} {m : Nat} (h : Wk σ t r m) : (r.k == 1) = false ∨ σ r.n = none := by
  induction h with
  | stop h => exact h
  | go _ _ _ ih => exact ih

/-- walking comes to an end -/
def Ends (σ : Sb) : Prop := ∀ t, ∃ r m, Wk σ t r m

open Classical in
noncomputable def wk (σ : Sb) (t : Nd) : Nd := if h : ∃ r m, Wk σ t r m then Classical.choose h else t
open Classical in
noncomputable def wkn (σ : Sb) (t : Nd) : Nat := if h : ∃ m r, Wk σ t r m then Classical.choose h else 0

theorem wk_eq {σ : Sb} {t r : Nd} {m : Nat} (h : Wk σ t r m) : wk σ t = r := by
  have hx : ∃ r m, Wk σ t r m := ⟨r, m, h⟩
  unfold wk
  rw [dif_pos hx]
  obtain ⟨m', h'⟩ := Classical.choose_spec hx
  exact (h'.det h).1
theorem wkn_eq {σ : Sb} {t r : Nd} {m : Nat} (h : Wk σ t r m) : wkn σ t = m := by
  have hx : ∃ m r, Wk σ t r m := ⟨m, r, h⟩
  unfold wkn
  rw [dif_pos hx]
  obtain ⟨r', h'⟩ := Classical.choose_spec hx
  exact (h'.det h).2
theorem wk_spec {σ : Sb} (hE : Ends σ) (t : Nd) : Wk σ t (wk σ t) (wkn σ t) := by
  obtain ⟨r, m, h⟩ := hE t
  rw [wk_eq h, wkn_eq h]
  exact h
theorem wk_stop {σ : Sb} {t : Nd} (h : (t.k == 1) = false ∨ σ t.n = none) : wk σ t = t := wk_eq (.stop h)
theorem wk_go {σ : Sb} (hE : Ends σ) {t b : Nd} (hk : (t.k == 1) = true) (hb : σ t.n = some b) : wk σ t = wk σ b := wk_eq (.go hk hb (wk_spec hE b))
theorem wkn_go {σ : Sb} (hE : Ends σ) {t b : Nd} (hk : (t.k == 1) = true) (hb : σ t.n = some b) : wkn σ t = wkn σ b + 1 := wkn_eq (.go hk hb (wk_spec hE b))

theorem Ends.none : Ends Sb.none := fun t => ⟨t, 0, .stop (.inr rfl)⟩

theorem Wk.put {σ : Sb} {v : Int} {x : Nd} (hv : σ v = none) {t r : Nd} {m : Nat} (h : Wk σ t r m) (hr : ¬ ((r.k == 1) = true ∧ r.n = v)) : Wk (σ.put v x) t r m := by
  induction h with
  | @stop t h =>
    refine .stop ?_
    rcases h with h | h
    · exact .inl h
    · by_cases hk : (t.k == 1) = true
      · exact .inr (by rw [Sb.put_other (fun e => hr ⟨hk, e⟩)]; exact h)
      · exact .inl (by simpa using hk)
  | go hk hb _ ih =>
    refine .go hk ?_ (ih hr)
    rw [Sb.put_other (fun e => by rw [e, hv] at hb; cases hb)]
    exact hb

theorem Wk.put_on {σ : Sb} {v : Int} {x : Nd} (hv : σ v = none) {t r : Nd} {m : Nat} (h : Wk σ t r m) (hr : (r.k == 1) = true ∧ r.n = v) {r' : Nd} {m' : Nat} (hx : Wk (σ.put v x) x r' m') : Wk (σ.put v x) t r' (m + 1 + m') := by
  induction h with
  | stop h =>
    rw [Nat.zero_add, Nat.add_comm]
    exact .go hr.1 (by rw [hr.2, Sb.put_same]) hx
  | go hk hb _ ih =>
    have := ih hr
    rw [show ∀ a : Nat, a + 1 + 1 + m' = a + 1 + m' + 1 by omega]
    refine .go hk ?_ this
    rw [Sb.put_other (fun e => by rw [e, hv] at hb; cases hb)]
    exact hb

theorem Ends.put {σ : Sb} (hE : Ends σ) {v : Int} {x : Nd} (hv : σ v = Option.none) (hx : ¬ (((wk σ x).k == 1) = true ∧ (wk σ x).n = v)) : Ends (σ.put v x) := by
  intro t
  have h1 := Wk.put (x := x) hv (wk_spec hE x) hx
  by_cases h : ((wk σ t).k == 1) = true ∧ (wk σ t).n = v
  · exact ⟨_, _, Wk.put_on hv (wk_spec hE t) h h1⟩
  · exact ⟨_, _, Wk.put hv (wk_spec hE t) h⟩

/-- a list's elements -/
def elems : Ts → List Nd
  | .nil => []
  | .cons k s n p c kids rest => ⟨k, s, n, p, c, kids⟩ :: elems rest

theorem elems_length : ∀ ts : Ts, (elems ts).length = ts.len
  | .nil => rfl
  | .cons _ _ _ _ _ _ r => by simp [elems, Ts.len, elems_length r]

/-- what is visited of terms, so many at most -/
noncomputable def vis (σ : Sb) : Nat → List Nd → List Nd
  | 0, _ => []
  | _ + 1, [] => []
  | f + 1, t :: rest => wk σ t :: vis σ f (elems (wk σ t).kids ++ rest)

theorem vis_nil (σ : Sb) (f : Nat) : vis σ f [] = [] := by cases f <;> rfl

theorem vis_length (σ : Sb) : ∀ (f : Nat) (l : List Nd), (vis σ f l).length ≤ f
  | 0, _ => by simp [vis]
  | _ + 1, [] => by simp [vis]
  | f + 1, t :: rest => by simp only [vis, List.length_cons]; have := vis_length σ f (elems (wk σ t).kids ++ rest); omega

/-- how many nodes terms have, applied -/
inductive Cnt (σ : Sb) : List Nd → Nat → Prop
  | nil : Cnt σ [] 0
  | cons {t : Nd} {rest : List Nd} {a b : Nat} (h : Cnt σ (elems (wk σ t).kids) a) (h' : Cnt σ rest b) : Cnt σ (t :: rest) (a + b + 1)

theorem Cnt.split {σ : Sb} : ∀ (l m : List Nd) {n : Nat}, Cnt σ (l ++ m) n → ∃ x y, Cnt σ l x ∧ Cnt σ m y ∧ n = x + y
  | [], m, n, h => ⟨0, n, .nil, h, by omega⟩
  | t :: l, m, n, h => by
    cases h with
    | cons h h' =>
      obtain ⟨x, y, h1, h2, h3⟩ := Cnt.split l m h'
      exact ⟨_, y, .cons h h1, h2, by omega⟩

theorem vis_cnt {σ : Sb} : ∀ (f : Nat) (l : List Nd), (vis σ f l).length < f → Cnt σ l (vis σ f l).length
  | 0, _, h => by omega
  | _ + 1, [], _ => .nil
  | f + 1, t :: rest, h => by
    simp only [vis, List.length_cons] at h ⊢
    obtain ⟨x, y, h1, h2, h3⟩ := Cnt.split _ _ (vis_cnt (σ := σ) f (elems (wk σ t).kids ++ rest) (by omega))
    rw [h3]
    exact .cons h1 h2

theorem Cnt.len {σ : Sb} {l : List Nd} {n : Nat} (h : Cnt σ l n) : l.length ≤ n := by
  induction h with
  | nil => simp
  | cons _ _ _ ih => simp; omega

/-- terms, applied -/
inductive App (σ : Sb) : List Nd → Ts → Prop
  | nil : App σ [] .nil
  | cons {t : Nd} {rest : List Nd} {p : Option Addr} {c : Nat} {ks rs : Ts} (h : App σ (elems (wk σ t).kids) ks) (h' : App σ rest rs) : App σ (t :: rest) (.cons (wk σ t).k (wk σ t).s (wk σ t).n p c ks rs)

theorem App.twin {σ : Sb} {l : List Nd} {us : Ts} (h : App σ l us) : ∀ {vs : Ts}, App σ l vs → Ts.twin us vs := by
  induction h with
  | nil => intro vs h; cases h; trivial
  | cons _ _ ih1 ih2 => intro vs h; cases h with | cons h h' => exact ⟨rfl, rfl, rfl, ih1 h, ih2 h'⟩

theorem App.len {σ : Sb} {l : List Nd} {us : Ts} (h : App σ l us) : us.len = l.length := by
  induction h with
  | nil => rfl
  | cons _ _ _ ih => simp [Ts.len, ih]

end Go.Proofs.YtnmhnaanpjlniaaGreat
/-
  Layer 3: nodes of a substitution as they lie in memory.
-/
namespace Go.Proofs.YtnmhnaanpjlniaaGreat
open Go.RowKit Go.Maps

/-- a map's value, kept as it is -/
def heldElem (v : Value) : Option (DataW Value × List MemPlace) := some (.held v, [])

theorem held_inv {v u : Value} {d : DataW Value} {ps : List MemPlace} (h : heldElem v = some (d, ps)) (hd : d = .held u) : v = u := by
  unfold heldElem at h
  have h1 := Option.some.inj h
  have h2 := congrArg Prod.fst h1
  simp only at h2
  rw [hd] at h2
  injection h2

theorem zeroTermRun (w : World) : (zeroValue 25).run Tryz.prog w = .ok zeroTerm w := by kernel_rfl

def valOf : Option Nd → Value
  | none => zeroTerm
  | some x => x.val

/-- a map of terms holds what numbers are bound to -/
def LeafIs (w : World) (c MB : Nat) (f : Sb) : Prop :=
  ∃ m D, m ≤ c ∧ w.ownsMap Tryz.prog 2 heldElem MB m D ∧ ∀ v : Int, (-9223372036854775808 ≤ v ∧ v ≤ 9223372036854775807) → Maps.has D (.int .i64 v) = (f v).isSome ∧ D.atKey (.int .i64 v) (.held zeroTerm) = .held (valOf (f v))

/-- the cells of a node -/
def kidCells (ks : Nat → Option Addr) (last : Value) : Array Value :=
  #[.pointer (ks 0), .pointer (ks 1), .pointer (ks 2), .pointer (ks 3), .pointer (ks 4), .pointer (ks 5), .pointer (ks 6), .pointer (ks 7), .pointer (ks 8), .pointer (ks 9), .pointer (ks 10), .pointer (ks 11), .pointer (ks 12), .pointer (ks 13), .pointer (ks 14), .pointer (ks 15), last]

theorem kidCells_size (ks : Nat → Option Addr) (last : Value) : (kidCells ks last).size = 17 := rfl
theorem kidCells_last (ks : Nat → Option Addr) (last : Value) : (kidCells ks last)[16]? = some last := rfl
theorem sixteen {P : Nat → Prop} (h0 : P 0) (h1 : P 1) (h2 : P 2) (h3 : P 3) (h4 : P 4) (h5 : P 5) (h6 : P 6) (h7 : P 7) (h8 : P 8) (h9 : P 9) (h10 : P 10) (h11 : P 11) (h12 : P 12) (h13 : P 13) (h14 : P 14) (h15 : P 15) : ∀ i, i < 16 → P i := by
  intro i hi
  obtain rfl | rfl | rfl | rfl | rfl | rfl | rfl | rfl | rfl | rfl | rfl | rfl | rfl | rfl | rfl | rfl : i = 0 ∨ i = 1 ∨ i = 2 ∨ i = 3 ∨ i = 4 ∨ i = 5 ∨ i = 6 ∨ i = 7 ∨ i = 8 ∨ i = 9 ∨ i = 10 ∨ i = 11 ∨ i = 12 ∨ i = 13 ∨ i = 14 ∨ i = 15 := by omega
  all_goals assumption
theorem kidCells_kid (ks : Nat → Option Addr) (last : Value) : ∀ i, i < 16 → (kidCells ks last)[i]? = some (.pointer (ks i)) :=
  sixteen rfl rfl rfl rfl rfl rfl rfl rfl rfl rfl rfl rfl rfl rfl rfl rfl

def putKid (ks : Nat → Option Addr) (i : Nat) (q : Option Addr) : Nat → Option Addr := fun j => if j = i then q else ks j
theorem kidCells_put (ks : Nat → Option Addr) (last : Value) (q : Option Addr) : ∀ i, i < 16 → (kidCells ks last).setIfInBounds i (.pointer q) = kidCells (putKid ks i q) last :=
  sixteen rfl rfl rfl rfl rfl rfl rfl rfl rfl rfl rfl rfl rfl rfl rfl rfl

/-- what is bound, of the numbers that a kid has -/
def only (f : Sb) (l i : Nat) : Sb := fun v => if kidOf v l = i then f v else none

/-- a node of a level lies where a pointer leads -/
def NodeAt (w : World) (c : Nat) : Nat → Option Addr → Sb → Prop
  | 0, p, f => (p = none ∧ ∀ v, f v = none) ∨ ∃ N MB, p = some ⟨N, 0, none⟩ ∧ w.heap[N]? = some (.cells (kidCells (fun _ => none) (.map (some MB))) 106 (0, 0)) ∧ LeafIs w c MB f
  | l + 1, p, f => (p = none ∧ ∀ v, f v = none) ∨ ∃ N ks, p = some ⟨N, 0, none⟩ ∧ w.heap[N]? = some (.cells (kidCells ks (.map none)) 106 (0, 0)) ∧ ∀ i, i < 16 → NodeAt w c l (ks i) (only f (l + 1) i)

theorem NodeAt.none (w : World) (c : Nat) : ∀ l, NodeAt w c l none Sb.none
  | 0 => .inl ⟨rfl, fun _ => rfl⟩
  | _ + 1 => .inl ⟨rfl, fun _ => rfl⟩

theorem NodeAt.of_none {w : World} {c : Nat} : ∀ {l : Nat} {f : Sb}, NodeAt w c l Option.none f → ∀ v, f v = Option.none
  | 0, f, h => by
    rcases h with ⟨_, h⟩ | ⟨N, MB, h, _⟩
    · exact h
    · cases h
  | _ + 1, f, h => by
    rcases h with ⟨_, h⟩ | ⟨N, MB, h, _⟩
    · exact h
    · cases h

theorem NodeAt.none_of {w : World} {c : Nat} {f : Sb} (h : ∀ v, f v = Option.none) : ∀ (l : Nat), NodeAt w c l Option.none f
  | 0 => .inl ⟨rfl, h⟩
  | _ + 1 => .inl ⟨rfl, h⟩

theorem LeafIs.mono {w : World} {c c' MB : Nat} {f : Sb} (h : LeafIs w c MB f) (hc : c ≤ c') : LeafIs w c' MB f := by
  obtain ⟨m, D, hm, h1, h2⟩ := h
  exact ⟨m, D, Nat.le_trans hm hc, h1, h2⟩

/-- another world, in which all blocks of nodes and maps are as they were -/
theorem NodeAt.stay {w w' : World} {c c' : Nat} (hc : c ≤ c') (hs : ∀ b : Nat, (∃ ks u, w.heap[b]? = some (Obj.cells (kidCells ks u) 106 (0, 0))) ∨ (∃ es k, w.heap[b]? = some (Obj.map es k)) → w'.heap[b]? = w.heap[b]?) : ∀ {l : Nat} {p : Option Addr} {f : Sb}, NodeAt w c l p f → NodeAt w' c' l p f
  | 0, p, f, h => by
    rcases h with h | ⟨N, MB, h1, h2, m, D, hm, h3, h4⟩
    · exact .inl h
    · obtain ⟨es, clock, hb, F, hz, hD⟩ := h3
      exact .inr ⟨N, MB, h1, (hs N (.inl ⟨_, _, h2⟩)).trans h2, m, D, Nat.le_trans hm hc, ⟨es, clock, (hs MB (.inr ⟨_, _, hb⟩)).trans hb, F, hz, hD⟩, h4⟩
  | l + 1, p, f, h => by
    rcases h with h | ⟨N, ks, h1, h2, h3⟩
    · exact .inl h
    · exact .inr ⟨N, ks, h1, (hs N (.inl ⟨_, _, h2⟩)).trans h2, fun i hi => (h3 i hi).stay hc hs⟩

theorem NodeAt.below {w w' : World} {c : Nat} {l : Nat} {p : Option Addr} {f : Sb} (h : NodeAt w c l p f) (hB : Below w.heap.size w w') : NodeAt w' c l p f :=
  h.stay (Nat.le_refl _) (fun b hb => hB.block b (by
    rcases hb with ⟨_, _, h⟩ | ⟨_, _, h⟩
    all_goals exact (Array.getElem?_eq_some_iff.1 h).1))

/-- a block of three cells turns -/
theorem NodeAt.grown {w w' : World} {c S : Nat} {l : Nat} {p : Option Addr} {f : Sb} (h : NodeAt w c l p f) (hg : w.grownBy w' (some S)) {cs : Array Value} {t : TypeId} {fr : Nat × Nat} (hS : w.heap[S]? = some (.cells cs t fr)) (hz : cs.size ≠ 17) : NodeAt w' c l p f :=
  h.stay (Nat.le_refl _) (fun b hb => hg.block b (by
    rcases hb with ⟨_, _, h⟩ | ⟨_, _, h⟩
    all_goals exact (Array.getElem?_eq_some_iff.1 h).1) (fun e => by
    cases e
    rcases hb with ⟨ks, u, h⟩ | ⟨_, _, h⟩
    · rw [hS] at h
      cases h
      exact hz (kidCells_size _ _)
    · rw [hS] at h
      cases h))

/-- a substitution in memory: where its root is, how many levels it has, and what is bound; what is bound lies in memory -/
structure SubAt (S : Nat) (σ : Sb) (n : Nat) (w : World) : Prop where
  cells : ∃ p h, w.heap[S]? = some (.cells #[.pointer p, .int .u64 (h : Nat), .int .i64 (n : Nat)] 88 (0, 0)) ∧ h ≤ 15 ∧ NodeAt w n h p σ ∧ ∀ v, σ v ≠ none → 0 ≤ v ∧ v ≤ 9223372036854775807 ∧ ¬ isBeyond v h
  ends : Ends σ
  at_ : ∀ v x, σ v = some x → Ts.At w x.p x.kids ∧ Ts.ok (.cons x.k x.s x.n x.p x.c x.kids .nil) ∧ x.kids.size ≤ 5000

theorem SubAt.lt {S : Nat} {σ : Sb} {n : Nat} {w : World} (h : SubAt S σ n w) : S < w.heap.size := by
  obtain ⟨p, hh, h1, _⟩ := h.cells
  exact (Array.getElem?_eq_some_iff.1 h1).1

theorem SubAt.below {S : Nat} {σ : Sb} {n : Nat} {w w' : World} (h : SubAt S σ n w) (hB : Below w.heap.size w w') : SubAt S σ n w' := by
  obtain ⟨p, hh, h1, h2, h3, h4⟩ := h.cells
  exact ⟨⟨p, hh, (hB.block S h.lt).trans h1, h2, h3.below hB, h4⟩, h.ends, fun v x hx => ⟨(h.at_ v x hx).1.below hB, (h.at_ v x hx).2⟩⟩

theorem Ts.lies_small {w w' : World} {S : Nat} (hg : w.grownBy w' (some S)) {cs : Array Value} {t : TypeId} {fr : Nat × Nat} (hS : w.heap[S]? = some (.cells cs t fr)) (hz : cs.size < 4) : ∀ (ts : Ts) {b o : Nat}, ts.lies w b o → ts.lies w' b o
  | .nil, _, _, _ => trivial
  | .cons k s n p cap kids rest, b, o, ⟨h0, h1, h2, h3, ⟨b', o', h4, h5⟩, h6⟩ => by
    have hb : b ≠ S := fun e => by
      subst e
      simp only [World.cell?, hS] at h3
      have := (Array.getElem?_eq_some_iff.1 h3).1
      omega
    have e := fun y => World.cell?_of_block (a := ⟨b, y, none⟩) (hg.block b (World.block_lt_of_cell? _ _ h0) (fun e => hb (by cases e; rfl)))
    exact ⟨(e _).trans h0, (e _).trans h1, (e _).trans h2, (e _).trans h3, ⟨b', o', h4, lies_small hg hS hz kids h5⟩, lies_small hg hS hz rest h6⟩

theorem Ts.At.small {w w' : World} {S : Nat} (hg : w.grownBy w' (some S)) {cs : Array Value} {t : TypeId} {fr : Nat × Nat} (hS : w.heap[S]? = some (.cells cs t fr)) (hz : cs.size < 4) {p : Option Addr} {ts : Ts} (h : Ts.At w p ts) : Ts.At w' p ts := by
  obtain ⟨b, o, h1, h2⟩ := h
  exact ⟨b, o, h1, Ts.lies_small hg hS hz ts h2⟩

/-- a walked term lies in memory -/
theorem SubAt.walked {S : Nat} {σ : Sb} {n : Nat} {w : World} (h : SubAt S σ n w) {t : Nd} (ht : Ts.At w t.p t.kids ∧ Ts.ok (.cons t.k t.s t.n t.p t.c t.kids .nil) ∧ t.kids.size ≤ 5000) :
    Ts.At w (wk σ t).p (wk σ t).kids ∧ Ts.ok (.cons (wk σ t).k (wk σ t).s (wk σ t).n (wk σ t).p (wk σ t).c (wk σ t).kids .nil) ∧ (wk σ t).kids.size ≤ 5000 := by
  have hs := wk_spec h.ends t
  generalize wk σ t = r at *
  generalize wkn σ t = m at *
  induction hs with
  | stop _ => exact ht
  | go _ hb _ ih => exact ih (h.at_ _ _ hb)

end Go.Proofs.YtnmhnaanpjlniaaGreat
/-
  Layer 3: what a number is bound to.
-/
namespace Go.Proofs.YtnmhnaanpjlniaaGreat
open Go.RowKit Go.Maps

theorem valOf_none : valOf Option.none = .agg #[.int .u8 0, .string ⟨#[]⟩, .int .i64 0, .slice Option.none 0 0] := rfl
theorem valOf_some (x : Nd) : valOf (some x) = .agg #[.int .u8 x.k, .string x.s, .int .i64 x.n, .slice x.p x.kids.len x.c] := rfl

theorem SubAt.cell0 {w : World} {S : Nat} {a b c : Value} {t : TypeId} (h : w.heap[S]? = some (.cells #[a, b, c] t (0, 0))) : w.cell? ⟨S, 0, none⟩ = some a ∧ w.cell? ⟨S, 1, none⟩ = some b ∧ w.cell? ⟨S, 2, none⟩ = some c ∧ ∀ i, w.frozen? ⟨S, i, none⟩ = false :=
  ⟨by rw [cell_of_row w S 0 _ _ _ h]; rfl, by rw [cell_of_row w S 1 _ _ _ h]; rfl, by rw [cell_of_row w S 2 _ _ _ h]; rfl, fun i => frozen_of_row w S i _ _ h⟩

theorem below_put4 {B b : Nat} {w W : World} (h : Below B w W) (hb : B ≤ b) (v0 v1 v2 v3 : Value) : Below B w ((((W.setCell ⟨b, 0, none⟩ v0).setCell ⟨b, 1, none⟩ v1).setCell ⟨b, 2, none⟩ v2).setCell ⟨b, 3, none⟩ v3) :=
  (((h.setCell (p := ⟨b, 0, none⟩) hb _).setCell (p := ⟨b, 1, none⟩) hb _).setCell (p := ⟨b, 2, none⟩) hb _).setCell (p := ⟨b, 3, none⟩) hb _

theorem NodeAt.drewN {w : World} {c l : Nat} {p : Option Addr} {f : Sb} (h : NodeAt w c l p f) (k : Nat) : NodeAt (w.drewN k) c l p f :=
  h.stay (Nat.le_refl _) (fun b _ => by rfl)

set_option maxRecDepth 100000 in
set_option maxHeartbeats 4000000 in
theorem binding_any (S : Nat) (σ : Sb) (m : Nat) (w : World) (h : SubAt S σ m w) (v : Int) (hv : -9223372036854775808 ≤ v ∧ v ≤ 9223372036854775807) :
    Calls Tryz.prog 67 #[.pointer (some ⟨S, 0, none⟩), .int .i64 v] w fun e w' => e = .returned (.tuple #[valOf (σ v), .bool (σ v).isSome]) ∧ Below w.heap.size w w' := by
  obtain ⟨p, hh, hS, hh15, hN, hdom⟩ := h.cells
  obtain ⟨h0, h1, -, -⟩ := SubAt.cell0 hS
  have hSl := World.block_lt_of_cell? _ _ h0
  by_cases hv0 : v < 0
  · have hn : σ v = none := by
      cases hs : σ v with
      | none => rfl
      | some x => have := (hdom v (by rw [hs]; simp)).1; omega
    rw [hn, valOf_none]
    clear hdom hn hN h hS
    go_enter Tryz.func67, Tryz.ntmps67
    go_wp2
    exact bodyPost_ret (v := .tuple #[.agg #[.int .u8 0, .string ⟨#[]⟩, .int .i64 0, .slice none 0 0], .bool false]) (by simp [results, Tryz.results67, go_sem]) rfl ⟨rfl, (Below.refl _ _).alloc (Nat.le_refl _) _⟩
  have g0 := fun (o : Obj) => cell_alloc_old o h0
  have g1 := fun (o : Obj) => cell_alloc_old o h1
  by_cases hb : isBeyond v hh
  · have hn : σ v = none := by
      cases hs : σ v with
      | none => rfl
      | some x => exact absurd hb (hdom v (by rw [hs]; simp)).2.2
    rw [hn, valOf_none]
    clear hdom hn hN h hS
    go_enter Tryz.func67, Tryz.ntmps67
    go_wp2_with fail
    refine (beyond_yes v (by omega) hh hh15 hb _).mono ?_
    rintro e w' ⟨rfl, rfl⟩
    go_wp2
    exact bodyPost_ret (v := .tuple #[.agg #[.int .u8 0, .string ⟨#[]⟩, .int .i64 0, .slice none 0 0], .bool false]) (by simp [results, Tryz.results67, go_sem]) rfl ⟨rfl, (Below.refl _ _).alloc (Nat.le_refl _) _⟩
  · have NN : Hid (NodeAt w m hh p σ) := Lib.hid hN
    have K := Maps.int_keyed Tryz.underlying2
    have hkey : keyOf Tryz.prog 2 (.int .i64 v) = some (.int .i64 v) := Maps.keyOf_int_mk Tryz.underlying2 (wf64 (by omega))
    clear hdom hN h hS
    go_enter Tryz.func67, Tryz.ntmps67
    go_wp2_with fail
    refine (beyond_no v (by omega) hh hh15 hb _).mono ?_
    rintro e w' ⟨rfl, rfl⟩
    go_wp2_with fail
    obtain ⟨W0, hW0⟩ : ∃ W0, W0 = w.alloc (.cells #[.int .u8 0, .string ⟨#[]⟩, .int .i64 0, .slice none 0 0] 25) := ⟨_, rfl⟩
    rw [← hW0]
    have hs0 : W0.heap.size = w.heap.size + 1 := by rw [hW0]; simp
    have Z0 := Lib.hid hW0
    have N0 : Hid (NodeAt W0 m hh p σ) := Lib.hid (NN.out.below (by rw [hW0]; exact (Below.refl _ _).alloc (Nat.le_refl _) _))
    clear hW0
    go_loopw [6, 7] (fun s6 s7 wr => ∃ (q : Option Addr) (l : Nat) (f : Sb), s6 = .pointer q ∧ s7 = .int .u64 l ∧ l ≤ 15 ∧ Hid (NodeAt wr m l q f ∧ f v = σ v) ∧ Hid (∃ k, wr = W0.drewN k)) (fun _ i _ => (intOf i).toNat)
    case atStart => exact ⟨p, hh, σ, rfl, rfl, hh15, Lib.hid ⟨N0.out, rfl⟩, Lib.hid ⟨0, rfl⟩⟩
    case round =>
      obtain ⟨q, l, f, rfl, rfl, hl15, NF, WR⟩ := hrel
      have hst : (∃ x : Addr, q = some x) ∨ q = none := by cases q <;> simp
      by_cases hgo : 0 < l ∧ ∃ x : Addr, q = some x
      · obtain ⟨hl0, x, rfl⟩ := hgo
        obtain ⟨l', rfl⟩ : ∃ l', l = l' + 1 := ⟨l - 1, by omega⟩
        obtain ⟨N, ks, hx, hNh, hkids⟩ : ∃ N ks, x = ⟨N, 0, none⟩ ∧ wr.heap[N]? = some (.cells (kidCells ks (.map none)) 106 (0, 0)) ∧ ∀ i, i < 16 → NodeAt wr m l' (ks i) (only f (l' + 1) i) := by
          rcases NF.out.1 with ⟨h, _⟩ | ⟨N, ks, h1, h2, h3⟩
          · cases h
          · cases h1; exact ⟨N, ks, rfl, h2, h3⟩
        subst hx
        have hki := kidOf_lt v (l' + 1)
        have hck : wr.cell? ⟨N, kidOf v (l' + 1), none⟩ = some (.pointer (ks (kidOf v (l' + 1)))) := by rw [cell_of_row wr N _ _ _ _ hNh]; exact kidCells_kid ks _ _ hki
        have NK := Lib.hid hkids
        clear hNh hkids
        have hk0 : 0 ≤ (kidOf v (l' + 1) : Int) := by omega
        have hk16 : (kidOf v (l' + 1) : Int) < 16 := by omega
        go_upto_region 7 with fail
        go_quiet ((go_at_call 103; exact Calls.quiet_of_same (kid_at _ (by omega) (l' + 1) (by omega) _ (by omega) _)))
        go_wp2
        go_roundw
        case rel =>
          refine ⟨ks (kidOf v (l' + 1)), l', only f (l' + 1) (kidOf v (l' + 1)), rfl, by go_num, by omega, Lib.hid ⟨(NK.out _ hki).drewN _, ?_⟩, Lib.hid ?_⟩
          · show (if kidOf v (l' + 1) = kidOf v (l' + 1) then f v else none) = σ v
            rw [if_pos rfl]; exact NF.out.2
          · obtain ⟨k, rfl⟩ := WR.out
            exact ⟨_, World.drewN_drewN _ _ _⟩
        case measure => simp [intOf]
      · obtain ⟨k, hwr⟩ := WR.out
        rw [Z0.out] at hwr
        subst hwr
        have hBw : Below w.heap.size w ((w.alloc (.cells #[.int .u8 0, .string ⟨#[]⟩, .int .i64 0, .slice none 0 0] 25)).drewN k) := below_drewN ((Below.refl _ _).alloc (Nat.le_refl _) _) _
        have BW := Lib.hid hBw
        clear hBw WR Z0
        cases q with
        | none =>
          have hn : σ v = none := by rw [← NF.out.2]; exact NF.out.1.of_none v
          have HN := Lib.hid hn
          clear hn hst hgo
          go_wp2
          exact bodyPost_ret (v := .tuple #[.agg #[.int .u8 0, .string ⟨#[]⟩, .int .i64 0, .slice none 0 0], .bool false]) (by simp [results, Tryz.results67, go_sem]) rfl ⟨by rw [HN.out]; rfl, below_put4 BW.out (Nat.le_refl _) _ _ _ _⟩
        | some x =>
          obtain rfl : l = 0 := by
            cases l with
            | zero => rfl
            | succ l => exact absurd ⟨Nat.succ_pos _, x, rfl⟩ hgo
          clear hst hgo
          obtain ⟨N, MB, hx, hNh, m2, D, hm2, hown, hD⟩ : ∃ N MB, x = ⟨N, 0, none⟩ ∧ ((w.alloc (.cells #[.int .u8 0, .string ⟨#[]⟩, .int .i64 0, .slice none 0 0] 25)).drewN k).heap[N]? = some (.cells (kidCells (fun _ => none) (.map (some MB))) 106 (0, 0)) ∧ LeafIs ((w.alloc (.cells #[.int .u8 0, .string ⟨#[]⟩, .int .i64 0, .slice none 0 0] 25)).drewN k) m MB f := by
            rcases NF.out.1 with ⟨h, _⟩ | ⟨N, ks, h1, h2, h3⟩
            · cases h
            · cases h1; exact ⟨N, ks, rfl, h2, h3⟩
          subst hx
          obtain ⟨hb1, hb2⟩ := hD v hv
          rw [NF.out.2] at hb1 hb2
          have h16 : (w.alloc (.cells #[.int .u8 0, .string ⟨#[]⟩, .int .i64 0, .slice none 0 0] 25)).cell? ⟨N, 16, none⟩ = some (.map (some MB)) := (cell_of_row _ N 16 _ _ _ hNh).trans (kidCells_last _ _)
          have HB := Lib.hid hb1
          have HV := Lib.hid hb2
          have OWN := Lib.hid hown
          clear hb1 hb2 hown hD hNh
          cases hs : σ v with
          | none =>
            rw [hs] at HB HV
            have HS := Lib.hid hs
            clear hs
            go_wp2_with (at_lookup; refine wpList_lookup_own_ok _ rfl _ _ 104 rfl 2 25 K Tryz.underlying104 heldElem (zeroTermRun _) (.held zeroTerm) [] rfl MB m2 D rfl OWN.out _ _ rfl hkey ?_; intro v5 ps hv5; obtain rfl := held_inv hv5 HV.out; clear hv5; rw [HB.out, valOf_none])
            exact bodyPost_ret (v := .tuple #[.agg #[.int .u8 0, .string ⟨#[]⟩, .int .i64 0, .slice none 0 0], .bool false]) (by simp [results, Tryz.results67, go_sem]) rfl ⟨by rw [HS.out]; rfl, (below_put4 BW.out (Nat.le_refl _) _ _ _ _).alloc (by simp) _⟩
          | some y =>
            rw [hs] at HB HV
            have HS := Lib.hid hs
            clear hs
            go_wp2_with (at_lookup; refine wpList_lookup_own_ok _ rfl _ _ 104 rfl 2 25 K Tryz.underlying104 heldElem (zeroTermRun _) (.held zeroTerm) [] rfl MB m2 D rfl OWN.out _ _ rfl hkey ?_; intro v5 ps hv5; obtain rfl := held_inv hv5 HV.out; clear hv5; rw [HB.out, valOf_some])
            exact bodyPost_ret (v := .tuple #[.agg #[.int .u8 y.k, .string y.s, .int .i64 y.n, .slice y.p y.kids.len y.c], .bool true]) (by simp [results, Tryz.results67, go_sem]) rfl ⟨by rw [HS.out]; rfl, (below_put4 BW.out (Nat.le_refl _) _ _ _ _).alloc (by simp) _⟩

end Go.Proofs.YtnmhnaanpjlniaaGreat
