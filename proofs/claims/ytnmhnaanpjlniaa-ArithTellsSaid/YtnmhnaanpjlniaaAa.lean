import Derived.Test.YtnmhnaanpjlniaaTm
import Derived.Test.YtnmhnaanpjlniaaTz
/-
  Layer 3: no substitution binds nothing: what is called on nil.
-/
namespace Go.Proofs.Ytnmhnaanpjlniaa
open Go.RowKit

set_option maxHeartbeats 1000000 in
theorem lenNil_any (w : World) : Calls Try.prog 30 #[.pointer none] w fun e w' => e = .returned (.int .i64 0) ∧ w' = w := by
  go_enter Try.func30, Try.ntmps30
  go_wp2
  go_ret
  exact ⟨rfl, rfl⟩

set_option maxHeartbeats 1000000 in
theorem cloneNil_any (w : World) : Calls Try.prog 97 #[.pointer none] w fun e w' => e = .returned (.pointer none) ∧ w' = w := by
  go_enter Try.func97, Try.ntmps97
  go_wp2
  go_ret
  exact ⟨rfl, rfl⟩

set_option maxHeartbeats 1000000 in
theorem bindNil_any (v : Int) (k : Int) (s : ByteArray) (n : Int) (p : Option Addr) (len c : Nat) (w : World) : Calls Try.prog 50 #[.pointer none, .int .i64 v, .agg #[.int .u8 k, .string s, .int .i64 n, .slice p len c]] w fun e w' => e = .returned (.int .i64 2) ∧ Below w.heap.size w w' := by
  go_enter Try.func50, Try.ntmps50
  go_wp2
  go_ret
  exact ⟨rfl, (Below.refl _ _).alloc (Nat.le_refl _) _⟩

set_option maxHeartbeats 1000000 in
theorem occursNil_any (v : Int) (k : Int) (s : ByteArray) (n : Int) (p : Option Addr) (len c : Nat) (w : World) : Calls Try.prog 21 #[.pointer none, .int .i64 v, .agg #[.int .u8 k, .string s, .int .i64 n, .slice p len c]] w fun e w' => e = .returned (.tuple #[.bool false, .int .i64 2]) ∧ Below w.heap.size w w' := by
  go_enter Try.func21, Try.ntmps21
  go_wp2
  exact bodyPost_ret (v := .tuple #[.bool false, .int .i64 2]) (by simp [results, Try.results21, go_sem]) rfl ⟨rfl, ((((Below.refl _ _).alloc (Nat.le_refl _) _).alloc (by simp) _).alloc (by simp; omega) _).alloc (by simp; omega) _⟩

set_option maxHeartbeats 1000000 in
theorem applyNil_any (k : Int) (s : ByteArray) (n : Int) (p : Option Addr) (len c : Nat) (w : World) : Calls Try.prog 13 #[.pointer none, .agg #[.int .u8 k, .string s, .int .i64 n, .slice p len c]] w fun e w' => e = .returned (.tuple #[tv 0 ⟨#[]⟩ 0 none 0 0, .int .i64 2]) ∧ Below w.heap.size w w' := by
  go_enter Try.func13, Try.ntmps13
  go_wp2
  exact bodyPost_ret (v := .tuple #[tv 0 ⟨#[]⟩ 0 none 0 0, .int .i64 2]) (by simp [results, Try.results13, go_sem, tv]) rfl ⟨rfl, (((Below.refl _ _).alloc (Nat.le_refl _) _).alloc (by simp) _).alloc (by simp; omega) _⟩

set_option maxRecDepth 100000 in
set_option maxHeartbeats 4000000 in
theorem sclone_any : ∀ (sz : Nat) (ts : Ts), ts.size < sz → ts.size ≤ 1000000 → ts.ok → ∀ (k : Int) (s : ByteArray) (n : Int) (w : World) (p : Option Addr) (c : Nat), Ts.At w p ts →
    Calls Try.prog 60 #[.agg #[.int .u8 k, .string s, .int .i64 n, .slice p ts.len c]] w fun e w' => ∃ (us : Ts) (p' : Option Addr) (c' : Nat), e = .returned (tv k s n p' us.len c') ∧ Ts.AtB w.heap.size w' p' us ∧ Ts.twin us ts ∧ us.ok ∧ (us.len ≤ c' ∧ c' ≤ 9223372036854775807) ∧ (p' = none → c' = 0) ∧ Below w.heap.size w w' := by
  intro sz
  induction sz with
  | zero => intro ts h; omega
  | succ sz ih =>
    intro ts hsz hbig hok k s n w p c hat
    have hls := Ts.len_size ts
    by_cases h0 : ((ts.len : Int) == 0) = true
    · obtain rfl : ts = .nil := Ts.len_zero (by simp at h0; omega)
      clear h0
      have h0 : Ts.nil.len = 0 := rfl
      go_enter Try.func60, Try.ntmps60
      go_wp2
      exact bodyPost_ret (v := tv k s n none 0 0) (by simp [results, Try.results60, go_sem, tv]) rfl ⟨.nil, none, 0, rfl, ⟨0, 0, .inl rfl, trivial⟩, trivial, trivial, ⟨Nat.le_refl _, by omega⟩, fun _ => rfl, ((Below.refl _ _).alloc (Nat.le_refl _) _).alloc (by simp) _⟩
    · rw [Bool.not_eq_true] at h0
      have hmk := make_terms ts.len (by omega)
      obtain ⟨W2, hW2, hs2, hB2, hf1, hf2, hc1, hc2⟩ : ∃ W, W = (w.alloc (.cells #[.int .u8 k, .string s, .int .i64 n, .slice p ts.len c] 25)).alloc (.cells #[.int .u8 0, .string ⟨#[]⟩, .int .i64 0, .slice none 0 0] 25) ∧ W.heap.size = w.heap.size + 2 ∧ Below w.heap.size w W ∧ (∀ y, W.frozen? ⟨w.heap.size, y, none⟩ = false) ∧ (∀ y, W.frozen? ⟨w.heap.size + 1, y, none⟩ = false) ∧
          (∀ y v, (#[Value.int .u8 k, .string s, .int .i64 n, .slice p ts.len c] : Array Value)[y]? = some v → W.cell? ⟨w.heap.size, y, none⟩ = some v) ∧ (∀ y v, (#[Value.int .u8 0, .string ⟨#[]⟩, .int .i64 0, .slice none 0 0] : Array Value)[y]? = some v → W.cell? ⟨w.heap.size + 1, y, none⟩ = some v) := by
        obtain ⟨V, hV, sV, bV, cV, fV⟩ := alloc_new w #[.int .u8 k, .string s, .int .i64 n, .slice p ts.len c] 25
        obtain ⟨U, hU, sU, bU, cU, fU⟩ := alloc_new V #[.int .u8 0, .string ⟨#[]⟩, .int .i64 0, .slice none 0 0] 25
        rw [sV] at cU fU
        exact ⟨U, by rw [hU, hV], by omega, bV.trans (bU.mono (by omega)), fun y => ((stays bU).2 _ _ (by omega)).trans (fV y), fU, fun y v h => ((stays bU).1 _ _ (by omega)).trans (cV y v h), cU⟩
      obtain ⟨W3, hW3, hs3, hB3, hc3, hf3⟩ := alloc_new W2 (zeroCells ts.len) 25
      have hc3' : ∀ x, x < ts.len * 4 → ∃ v, W3.cell? ⟨W2.heap.size, x, none⟩ = some v := fun x hx => ⟨_, hc3 x _ (Array.getElem?_eq_getElem (by rw [size_zeroCells]; exact hx))⟩
      obtain ⟨b, o, hp, hlies⟩ := hat
      have LI : Hid (ts.lies w b o) := Lib.hid hlies
      have HP := Lib.hid hp
      have OK := Lib.hid hok
      go_enter Try.func60, Try.ntmps60
      go_wp2_with fail
      rw [← hW2]
      rw [show w.heap.size + 1 + 1 = W2.heap.size by omega, ← hW3]
      have Z := Lib.hid (And.intro hW2 hW3)
      have B03 := Lib.hid (hB2.trans (hB3.mono (by omega)))
      have C3 := Lib.hid hc3'
      have F3 := Lib.hid hf3
      have C1 : Hid (∀ y v, (#[Value.int .u8 k, .string s, .int .i64 n, .slice p ts.len c] : Array Value)[y]? = some v → W3.cell? ⟨w.heap.size, y, none⟩ = some v) := Lib.hid (fun y v h => ((stays hB3).1 _ _ (by omega)).trans (hc1 y v h))
      have C2 : Hid (∀ y v, (#[Value.int .u8 0, .string ⟨#[]⟩, .int .i64 0, .slice none 0 0] : Array Value)[y]? = some v → W3.cell? ⟨w.heap.size + 1, y, none⟩ = some v) := Lib.hid (fun y v h => ((stays hB3).1 _ _ (by omega)).trans (hc2 y v h))
      have FF : Hid (∀ b y, w.heap.size ≤ b → b < w.heap.size + 2 → W3.frozen? ⟨b, y, none⟩ = false) := Lib.hid (fun b y h h' => by
        obtain rfl | rfl : b = w.heap.size ∨ b = w.heap.size + 1 := by omega
        · exact ((stays hB3).2 _ _ (by omega)).trans (hf1 y)
        · exact ((stays hB3).2 _ _ (by omega)).trans (hf2 y))
      obtain ⟨R, hR⟩ : ∃ R, W2.heap.size = R := ⟨_, rfl⟩
      rw [hR] at C3 F3 hs3 ⊢
      have hRw : R = w.heap.size + 2 := by omega
      have HRW := Lib.hid hRw
      clear hW2 hW3 hB2 hB3 hc1 hc2 hf1 hf2 hc3 hc3' hf3 hmk h0 hlies hp hok hs2 hR hRw
      go_loopw [19] (fun i wr => ∃ (j : Nat), j ≤ ts.len ∧ i = .int .i64 j ∧ Hid (Below w.heap.size w wr) ∧ R < wr.heap.size ∧ Hid (Ts.Done wr R ts j) ∧ Hid (∀ x, x < ts.len * 4 → ∃ v, wr.cell? ⟨R, x, none⟩ = some v) ∧ Hid (∀ x, wr.frozen? ⟨R, x, none⟩ = false) ∧ Hid (∀ b y, b < R → wr.cell? ⟨b, y, none⟩ = W3.cell? ⟨b, y, none⟩ ∧ wr.frozen? ⟨b, y, none⟩ = W3.frozen? ⟨b, y, none⟩)) (fun i _ => ts.len - (intOf i).toNat)
      case atStart => exact ⟨0, Nat.zero_le _, rfl, B03, by omega, Lib.hid (fun m hm => by omega), C3, F3, Lib.hid (fun _ _ _ => ⟨rfl, rfl⟩)⟩
      case round =>
        obtain ⟨j, hj, rfl, B, hRlt, DN, CE, FE, OLD⟩ := hrel
        by_cases hlt : j < ts.len
        · have hp' := Ts.some_of HP.out hlt
          subst hp'
          obtain ⟨kk, s1, nn, pp, cc, kids, rest, D, EL, hsz1, hoke⟩ := Ts.elem LI.out B.out OK.out hlt
          have OKE := Lib.hid hoke
          clear hoke
          have c0 := EL.c0
          have c1 := EL.c1
          have c2 := EL.c2
          have c3 := EL.c3
          obtain ⟨W4, hW4, hs4, hB4, hc4, hf4⟩ := alloc_new wr #[.int .u8 kk, .string s1, .int .i64 nn, .slice pp kids.len cc] 25
          have AT4 := Lib.hid (EL.tat.below hB4)
          have B4 := Lib.hid hB4
          go_wp2_with fail
          rw [← hW4]
          have Z4 := Lib.hid hW4
          clear hW4 hc4 hf4 hB4 c0 c1 c2 c3
          refine (ih kids (by omega) (by omega) OKE.out.2.2.2.2.2.1 kk s1 nn W4 pp cc AT4.out).mono ?_
          rintro e w' ⟨us, p', c', rfl, hat', htw, hok', hcl, hpn, hB5⟩
          unfold tv
          have hold : ∀ b y, b < wr.heap.size → w'.cell? ⟨b, y, none⟩ = wr.cell? ⟨b, y, none⟩ ∧ w'.frozen? ⟨b, y, none⟩ = wr.frozen? ⟨b, y, none⟩ := fun b y h => ⟨((stays hB5).1 _ _ (by omega)).trans ((stays B4.out).1 _ _ h), ((stays hB5).2 _ _ (by omega)).trans ((stays B4.out).2 _ _ h)⟩
          obtain ⟨x0, r0⟩ := CE.out (j * 4) (by omega)
          obtain ⟨x1, r1⟩ := CE.out (j * 4 + 1) (by omega)
          obtain ⟨x2, r2⟩ := CE.out (j * 4 + 2) (by omega)
          obtain ⟨x3, r3⟩ := CE.out (j * 4 + 3) (by omega)
          rw [← (hold R _ hRlt).1] at r0 r1 r2 r3
          have f0 := (hold R (j * 4) hRlt).2.trans (FE.out _)
          have f1 := (hold R (j * 4 + 1) hRlt).2.trans (FE.out _)
          have f2 := (hold R (j * 4 + 2) hRlt).2.trans (FE.out _)
          have f3 := (hold R (j * 4 + 3) hRlt).2.trans (FE.out _)
          obtain ⟨W5, hW5, hs5, ho5, hr5, q0, q1, q2, q3, hf5, hB6⟩ := put4 w' R (j * 4) (.int .u8 kk) (.string s1) (.int .i64 nn) (.slice p' us.len c') (by rw [r0]; rfl) (by rw [r1]; rfl) (by rw [r2]; rfl) (by rw [r3]; rfl)
          have hsz5 : R < W5.heap.size := by rw [hs5]; have := hB5.size; omega
          have B5 : Hid (Below w.heap.size w W5) := Lib.hid (hB6 _ _ (by have := HRW.out; omega) ((B.out.trans (B4.out.mono B.out.size)).trans (hB5.mono (by have := B.out.size; omega))))
          have DN5 : Hid (Ts.Done W5 R ts (j + 1)) := Lib.hid (by
            intro m hm k s n pk ck kd rs hd
            by_cases e : m = j
            · subst e
              rw [D.out] at hd
              injection hd with e1 e2 e3 e4 e5 e6 e7
              subst e1 e2 e3 e4 e5 e6 e7
              exact ⟨p', c', us, q0, q1, q2, q3, hat'.stay (by omega) (fun b y hb hlt => ho5 b y (by omega)), htw, hok', hcl, hpn⟩
            · obtain ⟨p2, c2, k2, d0, d1, d2, d3, d4, d5, d6, d7, d8⟩ := DN.out m (by omega) _ _ _ _ _ _ _ hd
              have hsame : ∀ y, y < j * 4 → W5.cell? ⟨R, y, none⟩ = wr.cell? ⟨R, y, none⟩ := fun y hy => (hr5 y (.inl hy)).trans (hold R y hRlt).1
              have hm' : m * 4 + 3 < j * 4 := by omega
              exact ⟨p2, c2, k2, (hsame _ (by omega)).trans d0, (hsame _ (by omega)).trans d1, (hsame _ (by omega)).trans d2, (hsame _ (by omega)).trans d3, d4.stay (Nat.le_refl _) (fun b y hb hlt => (ho5 b y (by omega)).trans (hold b y hlt).1), d5, d6, d7, d8⟩)
          have CE5 : Hid (∀ x, x < ts.len * 4 → ∃ v, W5.cell? ⟨R, x, none⟩ = some v) := Lib.hid (by
            intro x hx
            by_cases h1 : x < j * 4 ∨ j * 4 + 4 ≤ x
            · rw [hr5 x h1, (hold R x hRlt).1]; exact CE.out x hx
            · obtain h2 | h2 | h2 | h2 : x = j * 4 ∨ x = j * 4 + 1 ∨ x = j * 4 + 2 ∨ x = j * 4 + 3 := by omega
              · exact ⟨_, by rw [h2]; exact q0⟩
              · exact ⟨_, by rw [h2]; exact q1⟩
              · exact ⟨_, by rw [h2]; exact q2⟩
              · exact ⟨_, by rw [h2]; exact q3⟩)
          have FE5 : Hid (∀ x, W5.frozen? ⟨R, x, none⟩ = false) := Lib.hid (fun x => by rw [hf5, (hold R x hRlt).2]; exact FE.out x)
          have OLD5 : Hid (∀ b y, b < R → W5.cell? ⟨b, y, none⟩ = W3.cell? ⟨b, y, none⟩ ∧ W5.frozen? ⟨b, y, none⟩ = W3.frozen? ⟨b, y, none⟩) := Lib.hid (fun b y hb => ⟨(ho5 b y (by omega)).trans ((hold b y (by omega)).1.trans (OLD.out b y hb).1), (hf5 b y).trans ((hold b y (by omega)).2.trans (OLD.out b y hb).2)⟩)
          have Z5 := Lib.hid hW5
          clear hat' htw hok' hcl hpn hB5 hold q0 q1 q2 q3 hr5 ho5 hf5 hB6 hW5 EL
          go_wp2
          go_roundw
          case rel =>
            rw [← Z5.out]
            exact ⟨j + 1, by omega, by go_num, B5, hsz5, DN5, CE5, FE5, OLD5⟩
          case measure => simp [intOf]; omega
        · have hj : j = ts.len := by omega
          subst hj
          obtain ⟨us, hl, htw, hok'⟩ := DN.out.made OK.out
          have hlen := Ts.twin_len us ts htw
          have HL := Lib.hid hlen
          have LU := Lib.hid hl
          have TW := Lib.hid htw
          have OKU := Lib.hid hok'
          have hw1 : w.heap.size < R := by have := HRW.out; omega
          have hw2 : w.heap.size + 1 < R := by have := HRW.out; omega
          have a0 := (OLD.out _ 0 hw1).1.trans (C1.out 0 _ rfl)
          have a1 := (OLD.out _ 1 hw1).1.trans (C1.out 1 _ rfl)
          have a2 := (OLD.out _ 2 hw1).1.trans (C1.out 2 _ rfl)
          have a3 := (OLD.out _ 3 hw1).1.trans (C1.out 3 _ rfl)
          have b0 := (OLD.out _ 0 hw2).1.trans (C2.out 0 _ rfl)
          have b1 := (OLD.out _ 1 hw2).1.trans (C2.out 1 _ rfl)
          have b2 := (OLD.out _ 2 hw2).1.trans (C2.out 2 _ rfl)
          have b3 := (OLD.out _ 3 hw2).1.trans (C2.out 3 _ rfl)
          have f3 := (OLD.out _ 3 hw1).2.trans (FF.out w.heap.size 3 (Nat.le_refl _) (by omega))
          have g0 := (OLD.out _ 0 hw2).2.trans (FF.out (w.heap.size + 1) 0 (by omega) (by omega))
          have g1 := (OLD.out _ 1 hw2).2.trans (FF.out (w.heap.size + 1) 1 (by omega) (by omega))
          have g2 := (OLD.out _ 2 hw2).2.trans (FF.out (w.heap.size + 1) 2 (by omega) (by omega))
          have g3 := (OLD.out _ 3 hw2).2.trans (FF.out (w.heap.size + 1) 3 (by omega) (by omega))
          obtain ⟨W9, hW9, hs9, ho9, hr9, q0, q1, q2, q3, hf9, hB9⟩ := put_step wr w.heap.size (w.heap.size + 1) 0 (.slice (some ⟨R, 0, none⟩) ts.len ts.len) (.int .u8 k) (.string s) (.int .i64 n) (.slice (some ⟨R, 0, none⟩) ts.len ts.len) (by omega) (by rw [b0]; rfl) (by rw [b1]; rfl) (by rw [b2]; rfl) (by rw [b3]; rfl)
          simp only [Nat.zero_add] at hW9 q1 q2 q3
          have AT9 : Hid (Ts.AtB w.heap.size W9 (some ⟨R, 0, none⟩) us) := Lib.hid (Ts.AtB.stay (B := R) ⟨R, 0, .inr rfl, LU.out⟩ (by have := HRW.out; omega) (fun b y hb _ => ho9 b y (by have := HRW.out; omega) (by have := HRW.out; omega)))
          have B9 := Lib.hid (hB9 _ _ (Nat.le_refl _) (by omega) B.out)
          have Z9 := Lib.hid hW9
          have Q9 := Lib.hid (And.intro q0 (And.intro q1 (And.intro q2 q3)))
          clear hl htw hlen hok' hr9 ho9 hf9 hB9 hW9 q0 q1 q2 q3
          go_wp2
          rw [← Z9.out]
          obtain ⟨q0, q1, q2, q3⟩ := Q9.out
          exact bodyPost_ret (v := tv k s n (some ⟨R, 0, none⟩) ts.len ts.len) (by simp [results, Try.results60, go_sem, q0, q1, q2, q3, tv]) rfl ⟨us, some ⟨R, 0, none⟩, ts.len, by rw [HL.out], AT9.out, TW.out, OKU.out, ⟨by rw [HL.out]; exact Nat.le_refl _, by omega⟩, (fun h => by cases h), B9.out⟩

set_option maxRecDepth 100000 in
set_option maxHeartbeats 4000000 in
theorem walkNil_any (ts : Ts) (hbig : ts.size ≤ 1000000) (hok : ts.ok) (k : Int) (s : ByteArray) (n : Int) (w : World) (p : Option Addr) (c : Nat) (hat : Ts.At w p ts) :
    Calls Try.prog 19 #[.pointer none, .agg #[.int .u8 k, .string s, .int .i64 n, .slice p ts.len c]] w fun e w' => ∃ (us : Ts) (p' : Option Addr) (c' : Nat), e = .returned (tv k s n p' us.len c') ∧ Ts.At w' p' us ∧ Ts.twin us ts ∧ us.ok ∧ (us.len ≤ c' ∧ c' ≤ 9223372036854775807) ∧ Below w.heap.size w w' := by
  have AT := Lib.hid hat
  have OK := Lib.hid hok
  clear hat hok
  go_enter Try.func19, Try.ntmps19
  go_wp2_with fail
  obtain ⟨V, hV, sV, bV, cV, fV⟩ := alloc_new w #[.int .u8 k, .string s, .int .i64 n, .slice p ts.len c] 25
  obtain ⟨U, hU, sU, bU, cU, fU⟩ := alloc_new V #[.int .u8 0, .string ⟨#[]⟩, .int .i64 0, .slice none 0 0] 25
  rw [← hV, ← hU]
  have BU := Lib.hid (bV.trans (bU.mono (by omega)))
  rw [sV] at cU fU
  have CU := Lib.hid cU
  have FU := Lib.hid fU
  have Z := Lib.hid (And.intro hV hU)
  clear hV hU bV bU cV fV cU fU
  refine (sclone_any _ ts (Nat.lt_succ_self _) hbig OK.out k s n U p c (AT.out.below BU.out)).mono ?_
  rintro e w' ⟨us, p', c', rfl, hat', htw, hok', hcl, -, hB⟩
  unfold tv
  have hst := stays hB
  have b0 := (hst.1 (w.heap.size + 1) 0 (by omega)).trans (CU.out 0 _ rfl)
  have b1 := (hst.1 (w.heap.size + 1) 1 (by omega)).trans (CU.out 1 _ rfl)
  have b2 := (hst.1 (w.heap.size + 1) 2 (by omega)).trans (CU.out 2 _ rfl)
  have b3 := (hst.1 (w.heap.size + 1) 3 (by omega)).trans (CU.out 3 _ rfl)
  have g0 := (hst.2 (w.heap.size + 1) 0 (by omega)).trans (FU.out 0)
  have g1 := (hst.2 (w.heap.size + 1) 1 (by omega)).trans (FU.out 1)
  have g2 := (hst.2 (w.heap.size + 1) 2 (by omega)).trans (FU.out 2)
  have g3 := (hst.2 (w.heap.size + 1) 3 (by omega)).trans (FU.out 3)
  obtain ⟨W9, hW9, hs9, ho9, hr9, q0, q1, q2, q3, hf9, hB9⟩ := put4 w' (w.heap.size + 1) 0 (.int .u8 k) (.string s) (.int .i64 n) (.slice p' us.len c') (by rw [b0]; rfl) (by rw [b1]; rfl) (by rw [b2]; rfl) (by rw [b3]; rfl)
  simp only [Nat.zero_add] at hW9 q1 q2 q3
  have AT9 : Hid (Ts.At W9 p' us) := Lib.hid (Ts.AtB.at (Ts.AtB.stay (B' := U.heap.size) hat' (Nat.le_refl _) (fun b y hb _ => ho9 b y (by omega))))
  have B9 := Lib.hid (hB9 w.heap.size w (by omega) (BU.out.trans (hB.mono BU.out.size)))
  have Z9 := Lib.hid hW9
  have TW := Lib.hid htw
  have OK' := Lib.hid hok'
  have Q9 := Lib.hid (And.intro q0 (And.intro q1 (And.intro q2 q3)))
  clear hst hB hat' htw hok' hW9 ho9 hr9 q0 q1 q2 q3 hf9 hB9
  go_wp2
  rw [← Z9.out]
  obtain ⟨q0, q1, q2, q3⟩ := Q9.out
  exact bodyPost_ret (v := tv k s n p' us.len c') (by simp [results, Try.results19, go_sem, q0, q1, q2, q3, tv]) rfl ⟨us, p', c', rfl, AT9.out, TW.out, OK'.out, hcl, B9.out⟩

end Go.Proofs.Ytnmhnaanpjlniaa
/-
  Layer 3: which kid of a node has a number, and whether a number is beyond what nodes have.
-/
namespace Go.Proofs.Ytnmhnaanpjlniaa
open Go.RowKit

/-- which kid of a node of a level has a number -/
def kidOf (v : Int) (l : Nat) : Nat := (v.toNat / 2 ^ (3 + 4 * (l - 1))) % 16
/-- is a number beyond so many levels? -/
def isBeyond (v : Int) (h : Nat) : Prop := ¬ v.toNat / 2 ^ (3 + 4 * h) = 0

theorem kidOf_lt (v : Int) (l : Nat) : kidOf v l < 16 := Nat.mod_lt _ (by omega)

theorem and_15 (n : Nat) (_hn : n < 9223372036854775808) : bits .and .i64 (n : Int) 15 = ((n % 16 : Nat) : Int) := by
  have e1 : BitVec.ofInt 64 (n : Int) = BitVec.ofNat 64 n := by
    apply BitVec.eq_of_toNat_eq
    simp
  have e2 : (BitVec.ofNat 64 n &&& BitVec.ofInt 64 15).toNat = n % 16 := by
    rw [BitVec.toNat_and]
    have : (BitVec.ofInt 64 15).toNat = 2 ^ 4 - 1 := by decide
    rw [this, Nat.and_two_pow_sub_one_eq_mod, BitVec.toNat_ofNat]
    omega
  have e3 : bits .and .i64 (n : Int) 15 = IntKind.i64.wrap ((BitVec.ofInt 64 (n : Int) &&& BitVec.ofInt 64 15).toNat : Int) := rfl
  rw [e3, e1, e2]
  have h16 : n % 16 < 16 := Nat.mod_lt _ (by omega)
  generalize n % 16 = m at *
  exact IntWalk.i64_in _ (by omega)

theorem wf64 {n : Int} (h : -9223372036854775808 ≤ n ∧ n ≤ 9223372036854775807) : (Lit.int .i64 n).wf = true := WalkArith.wf_i64 h

theorem div_cast (v : Int) (hv : 0 ≤ v) (k : Nat) : v / 2 ^ k = ((v.toNat / 2 ^ k : Nat) : Int) := by
  obtain ⟨n, rfl⟩ := Int.eq_ofNat_of_zero_le hv
  simp

set_option maxHeartbeats 1000000 in
theorem kid_any (v : Int) (hv : 0 ≤ v ∧ v ≤ 9223372036854775807) (l : Nat) (hl : 1 ≤ l ∧ l ≤ 15) (w : World) : Calls Try.prog 107 #[.int .i64 v, .int .u64 l] w fun e w' => e = .returned (.int .i64 (kidOf v l)) ∧ w' = w := by
  have h2 : v / 2 ^ (3 + 4 * (l - 1)) = ((v.toNat / 2 ^ (3 + 4 * (l - 1)) : Nat) : Int) := div_cast v hv.1 _
  have h3 : v.toNat / 2 ^ (3 + 4 * (l - 1)) < 9223372036854775808 := Nat.lt_of_le_of_lt (Nat.div_le_self _ _) (by omega)
  have h4 : bits .and .i64 (v / 2 ^ (3 + 4 * (l - 1))) 15 = (kidOf v l : Int) := by rw [h2]; exact and_15 _ h3
  have H4 := Lib.hid h4
  clear h2 h3 h4
  go_enter Try.func107, Try.ntmps107
  go_wp2
  go_ret
  exact ⟨by rw [H4.out]; rfl, rfl⟩

theorem kid_at (v : Int) (hv : 0 ≤ v ∧ v ≤ 9223372036854775807) (l : Nat) (hl : 1 ≤ l ∧ l ≤ 15) (x : Int) (hx : x = (l : Int)) (w : World) : Calls Try.prog 107 #[.int .i64 v, .int .u64 x] w fun e w' => e = .returned (.int .i64 (kidOf v l)) ∧ w' = w := by
  subst hx
  exact kid_any v hv l hl w

set_option maxHeartbeats 1000000 in
theorem beyond_no (v : Int) (hv : 0 ≤ v ∧ v ≤ 9223372036854775807) (h : Nat) (hh : h ≤ 15) (hb : ¬ isBeyond v h) (w : World) : Calls Try.prog 82 #[.int .i64 v, .int .u64 h] w fun e w' => e = .returned (.bool false) ∧ w' = w := by
  have h2 : v / 2 ^ (3 + 4 * h) = 0 := by rw [div_cast v hv.1]; unfold isBeyond at hb; rw [Classical.not_not.1 hb]; rfl
  have H2 := Lib.hid h2
  clear h2
  go_enter Try.func82, Try.ntmps82
  go_wp2
  go_ret
  exact ⟨by rw [H2.out]; rfl, rfl⟩

set_option maxHeartbeats 1000000 in
theorem beyond_yes (v : Int) (hv : 0 ≤ v ∧ v ≤ 9223372036854775807) (h : Nat) (hh : h ≤ 15) (hb : isBeyond v h) (w : World) : Calls Try.prog 82 #[.int .i64 v, .int .u64 h] w fun e w' => e = .returned (.bool true) ∧ w' = w := by
  have h2 : (v / 2 ^ (3 + 4 * h) != 0) = true := by rw [div_cast v hv.1]; unfold isBeyond at hb; generalize v.toNat / 2 ^ (3 + 4 * h) = q at *; simp; omega
  have H2 := Lib.hid h2
  clear h2
  go_enter Try.func82, Try.ntmps82
  go_wp2
  go_ret
  exact ⟨by rw [H2.out]; rfl, rfl⟩

end Go.Proofs.Ytnmhnaanpjlniaa
