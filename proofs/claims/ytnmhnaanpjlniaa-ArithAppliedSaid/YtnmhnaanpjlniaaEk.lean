import Derived.Test.YtnmhnaanpjlniaaBf
import Derived.Test.YtnmhnaanpjlniaaBa
/-
  The law ArithApplied, walked. (Written by gen_ek.py.)
-/
namespace Go.Proofs.Ytnmhnaanpjlniaa
open Go.RowKit

set_option maxRecDepth 100000 in
set_option maxHeartbeats 16000000 in
theorem arithApplied_true (l : List (Int × Nd)) (a : Nd) (hl63 : l.length ≤ 9223372036854775807) (hbok : (bsTs l).ok) (hvr : ∀ e ∈ l, -9223372036854775808 ≤ e.1 ∧ e.1 ≤ 9223372036854775807) (w : World) (lp : Option Addr) (lc : Nat) (hat : BsAt w lp l) (hoka : a.ok) (hata : Ts.At w a.p a.kids) :
    Calls Try.prog 3 #[.slice lp l.length lc, .agg #[.int .u8 a.k, .string a.s, .int .i64 a.n, .slice a.p a.kids.len a.c]] w fun e w' => e = .returned (.bool true) ∧ Below w.heap.size w w' := by
  have BOK := Lib.hid hbok
  have VR := Lib.hid hvr
  have AT := Lib.hid hat
  have OKa := Lib.hid hoka
  have ATa := Lib.hid hata
  clear hbok hvr hat hoka hata
  obtain ⟨g, hg⟩ : ∃ g, g = bGreat l a := ⟨_, rfl⟩
  have GG := Lib.hid hg
  clear hg
  go_enter Try.func3, Try.ntmps3
  go_upto_region 1 with fail
  obtain ⟨W0, hW0⟩ : ∃ W0, W0 = w.alloc (.cells #[.int .u8 a.k, .string a.s, .int .i64 a.n, .slice a.p a.kids.len a.c] 25) := ⟨_, rfl⟩
  rw [← hW0]
  have hB0 : Below w.heap.size w W0 := by rw [hW0]; exact (Below.refl _ _).alloc (Nat.le_refl _) _
  have hXt : BoxIs w.heap.size a W0 := by rw [hW0]; exact BoxIs.new w a _
  have BW := Lib.hid hB0
  have XT := Lib.hid hXt
  clear hW0 hB0 hXt
  have c0 := XT.out.c0
  have c1 := XT.out.c1
  have c2 := XT.out.c2
  have c3 := XT.out.c3
  go_wp2_with fail
  refine (bgreat_any l a hl63 BOK.out _ lp lc (AT.out.below BW.out) OKa.out (ATa.out.below BW.out)).mono ?_
  rintro e w1 ⟨rfl, hI⟩
  rw [← GG.out]
  clear c0 c1 c2 c3
  replace XT := Lib.hid (XT.out.below hI)
  replace BW := Lib.hid (BW.out.trans (hI.mono BW.out.size))
  clear hI
  cases g with
  | true =>
    go_wp2_with fail
    refine (wakes13_any _).mono ?_
    rintro e we ⟨rfl, hB⟩
    replace BW := Lib.hid (BW.out.trans (hB.mono BW.out.size))
    clear hB
    go_wp2
    go_ret
    exact ⟨rfl, BW.out⟩

  | false =>
  obtain ⟨hl40, hsa, hbs⟩ := bGreat_size GG.out.symm
  have hsa1 := bGreat_1000 GG.out.symm
  go_wp2_with fail
  refine (make_any l hl40 BOK.out hbs VR.out w1 lp lc (AT.out.below BW.out)).mono ?_
  rintro e w2 ⟨had, σ, q, c, rfl, hba, hhl, hS, hST, hsm, hI⟩
  have SC := Lib.hid hS
  clear hS hba hST hsm
  obtain ⟨S, hSe⟩ : ∃ S, S = w1.heap.size := ⟨_, rfl⟩
  rw [← hSe] at SC ⊢
  clear hSe
  obtain ⟨N, hN⟩ : ∃ N, N = had.length := ⟨_, rfl⟩
  rw [← hN] at SC
  clear hN hhl
  replace XT := Lib.hid (XT.out.below hI)
  replace BW := Lib.hid (BW.out.trans (hI.mono BW.out.size))
  clear hI
  have c0 := XT.out.c0
  have c1 := XT.out.c1
  have c2 := XT.out.c2
  have c3 := XT.out.c3
  go_wp2_with fail
  refine (apply_any S σ N w2 SC.out a OKa.out (ATa.out.below BW.out) hsa).mono ?_
  rintro e w3 ⟨hA, hI⟩
  obtain ⟨X, F, rfl, hform⟩ := (Applied.formG hA)
  have HX := Lib.hid hform
  clear hA hform
  replace XT := Lib.hid (XT.out.below hI)
  replace SC := Lib.hid (SC.out.below hI)
  replace BW := Lib.hid (BW.out.trans (hI.mono BW.out.size))
  clear hI
  clear c0 c1 c2 c3
  go_upto_region 7 with fail
  obtain ⟨W3, hW3⟩ : ∃ W, W = w3.alloc (.cells #[.int .u8 X.k, .string X.s, .int .i64 X.n, .slice X.p X.kids.len X.c] 25) := ⟨_, rfl⟩
  have hI : Below w3.heap.size w3 W3 := by rw [hW3]; exact (Below.refl _ _).alloc (Nat.le_refl _) _
  obtain ⟨B3, hB3⟩ : ∃ b, b = w3.heap.size := ⟨_, rfl⟩
  have XB3 := Lib.hid (by rw [hB3, hW3]; exact BoxIs.new w3 X 25 : BoxIs B3 X W3)
  have ZW3 := Lib.hid hW3
  have HEB3 := Lib.hid hB3
  clear hW3 hB3
  replace XT := Lib.hid (XT.out.below hI)
  replace SC := Lib.hid (SC.out.below hI)
  replace HX := Lib.hid (HX.out.below hI)
  replace BW := Lib.hid (BW.out.trans (hI.mono BW.out.size))
  clear hI
  rw [← ZW3.out, ← HEB3.out]
  rcases HX.out with ⟨-, -, hF⟩ | ⟨-, hF, hx3, hx4⟩
  · subst hF
    go_wp2_with fail
    refine (wakes13_any _).mono ?_
    rintro e we ⟨rfl, hB⟩
    replace BW := Lib.hid (BW.out.trans (hB.mono BW.out.size))
    clear hB
    go_wp2
    go_ret
    exact ⟨rfl, BW.out⟩
  subst hF
  have XP := Lib.hid hx3
  have XA := Lib.hid hx4
  have XK := Lib.hid (hx3.nd_ok (SC.out.wk_ok OKa.out (ATa.out.below BW.out) hsa))
  have hxs : X.kids.size ≤ 5000 := by have := hx3.sz; omega
  have EN := Lib.hid SC.out.ends
  clear hx3 hx4 HX ZW3 HEB3
  obtain ⟨R, hR⟩ : ∃ R, R = (rk σ 4096 4096 a).1 := ⟨_, rfl⟩
  have RE := Lib.hid hR
  have R64 : Hid (isI64 R.1) := Lib.hid (by rw [hR]; exact rk_i64 EN.out (fun v x hx => (SC.out.at_ v x hx).2.1) 4096 4096 OKa.out)
  have RX : Hid ((rk σ 4096 4096 X).1 = R) := Lib.hid (by rw [rk_ap EN.out 4096 4096 XP.out.apd, hR])
  clear hR
  obtain ⟨E, hE⟩ : ∃ E, E = R.2 := ⟨_, rfl⟩
  obtain ⟨V, hV⟩ : ∃ V, V = if R.2 = 0 then R.1 else 0 := ⟨_, rfl⟩
  have AN : Hid (ansOf R = .tuple #[.int .i64 V, .int .i64 E]) := Lib.hid (by rw [hE, hV]; rfl)
  have EE := Lib.hid hE
  have VE := Lib.hid hV
  clear hE hV
  have c0 := XT.out.c0
  have c1 := XT.out.c1
  have c2 := XT.out.c2
  have c3 := XT.out.c3
  go_wp2_with fail
  refine (eval_gen S σ N W3 SC.out a OKa.out (ATa.out.below BW.out) hsa).mono ?_
  rintro e w4 ⟨rfl, hI⟩
  replace XT := Lib.hid (XT.out.below hI)
  replace SC := Lib.hid (SC.out.below hI)
  replace XA := Lib.hid (XA.out.below hI)
  replace XB3 := Lib.hid (XB3.out.below hI)
  replace BW := Lib.hid (BW.out.trans (hI.mono BW.out.size))
  clear hI
  rw [← RE.out, AN.out]
  clear c0 c1 c2 c3
  have d0 := XB3.out.c0
  have d1 := XB3.out.c1
  have d2 := XB3.out.c2
  have d3 := XB3.out.c3
  go_wp2_with fail
  refine (eval_gen S σ N w4 SC.out X XK.out XA.out hxs).mono ?_
  rintro e w5 ⟨rfl, hI⟩
  replace XT := Lib.hid (XT.out.below hI)
  replace SC := Lib.hid (SC.out.below hI)
  replace BW := Lib.hid (BW.out.trans (hI.mono BW.out.size))
  clear hI
  rw [RX.out, AN.out]
  clear d0 d1 d2 d3
  have c0 := XT.out.c0
  have c1 := XT.out.c1
  have c2 := XT.out.c2
  have c3 := XT.out.c3
  go_upto_region 11 with fail
  clear XA XB3
  go_wp2_with fail
  obtain ⟨W6, hW6⟩ : ∃ W, W = w5.alloc (.cells #[.int .u8 a.k, .string a.s, .int .i64 a.n, .slice a.p a.kids.len a.c] 25) := ⟨_, rfl⟩
  rw [← hW6]
  obtain ⟨hI, hat1⟩ := oneAtN hW6 (ATa.out.below BW.out)
  clear hW6
  clear c0 c1 c2 c3
  replace SC := Lib.hid (SC.out.below hI)
  replace BW := Lib.hid (BW.out.trans (hI.mono BW.out.size))
  clear hI
  refine (F_any ⟨#[45]⟩ (.cons a.k a.s a.n a.p a.c a.kids .nil) (by simp only [Ts.size]; omega) OKa.out W6 _ 1 hat1).mono ?_
  rintro e w7 ⟨us1, q1, d1, rfl, hat6, htw6, hok6, hcl6, hpn6, hI⟩
  rw [if_neg (by simp [Ts.len])]
  unfold tv
  have A1 := Lib.hid hat6.at
  have T1 := Lib.hid htw6
  have O1 := Lib.hid (ndOk (k := 4) (s := ⟨#[45]⟩) (n := 0) (by omega) (by simp [ByteArray.size]) (by omega) hcl6 hpn6 hok6)
  have hz1 : us1.size ≤ 1001 := by rw [Ts.twin_size _ _ htw6]; simp only [Ts.size]; omega
  clear hat1 hat6 htw6 hok6 hcl6 hpn6
  replace SC := Lib.hid (SC.out.below hI)
  replace BW := Lib.hid (BW.out.trans (hI.mono BW.out.size))
  clear hI
  go_wp2_with fail
  obtain ⟨W8, hW8⟩ : ∃ W, W = w7.alloc (.cells #[.int .u8 4, .string ⟨#[45]⟩, .int .i64 0, .slice q1 us1.len d1] 25) := ⟨_, rfl⟩
  rw [← hW8]
  obtain ⟨hI, hat1⟩ := oneAtN hW8 A1.out
  clear hW8
  replace SC := Lib.hid (SC.out.below hI)
  replace BW := Lib.hid (BW.out.trans (hI.mono BW.out.size))
  clear hI
  refine (F_any ⟨#[45]⟩ (.cons 4 ⟨#[45]⟩ 0 q1 d1 us1 .nil) (by simp only [Ts.size]; omega) O1.out W8 _ 1 hat1).mono ?_
  rintro e w9 ⟨us2, q2, d2, rfl, hat6, htw6, hok6, hcl6, hpn6, hI⟩
  rw [if_neg (by simp [Ts.len])]
  unfold tv
  have A2 := Lib.hid hat6.at
  have O2 := Lib.hid (ndOk (k := 4) (s := ⟨#[45]⟩) (n := 0) (by omega) (by simp [ByteArray.size]) (by omega) hcl6 hpn6 hok6)
  have RT := Lib.hid (third_made (q2 := q2) (d2 := d2) EN.out T1.out htw6)
  have hz2 : us2.size ≤ 1002 := by rw [Ts.twin_size _ _ htw6]; simp only [Ts.size]; omega
  clear hat1 hat6 htw6 hok6 hcl6 hpn6
  replace SC := Lib.hid (SC.out.below hI)
  replace BW := Lib.hid (BW.out.trans (hI.mono BW.out.size))
  clear hI
  go_wp2_with fail
  refine (eval_gen S σ N w9 SC.out ⟨4, ⟨#[45]⟩, 0, q2, d2, us2⟩ O2.out A2.out (by simp only; omega)).mono ?_
  rintro e w10 ⟨rfl, hI⟩
  rw [RT.out]
  replace BW := Lib.hid (BW.out.trans (hI.mono BW.out.size))
  clear hI
  clear SC A1 A2 O1 O2 T1
  have TH := Lib.hid (third_is RE.out R64.out)
  obtain ⟨Q, hQ⟩ : ∃ Q, Q = (rk σ 4096 4096 (negN (negN a))).1 := ⟨_, rfl⟩
  rw [← hQ] at TH ⊢
  clear hQ
  have nv : (V != V) = false := by simp
  have ne : (E != E) = false := by simp
  rcases TH.out with h | ⟨h1, h2⟩ | ⟨h1, h2, h3⟩ | ⟨h1, h2, h3⟩
  · rw [show ansOf Q = .tuple #[.int .i64 0, .int .i64 31] by rw [h]; rfl]
    by_cases e0 : (E != 0) = true
    · by_cases e1 : ((31 : Int) == E) = true
      · go_wp2_with fail
        refine (wakes13_any _).mono ?_
        rintro e we ⟨rfl, hB⟩
        replace BW := Lib.hid (BW.out.trans (hB.mono BW.out.size))
        clear hB
        go_wp2
        go_ret
        exact ⟨rfl, BW.out⟩
      · rw [Bool.not_eq_true] at e1
        go_wp2_with fail
        refine (wakes13_any _).mono ?_
        rintro e we ⟨rfl, hB⟩
        replace BW := Lib.hid (BW.out.trans (hB.mono BW.out.size))
        clear hB
        go_wp2
        go_ret
        exact ⟨rfl, BW.out⟩
    · rw [Bool.not_eq_true] at e0
      go_wp2_with fail
      refine (wakes13_any _).mono ?_
      rintro e we ⟨rfl, hB⟩
      replace BW := Lib.hid (BW.out.trans (hB.mono BW.out.size))
      clear hB
      go_wp2
      go_ret
      exact ⟨rfl, BW.out⟩
  · have hE0 : E ≠ 0 := by rw [EE.out]; exact h1
    rw [show ansOf Q = .tuple #[.int .i64 0, .int .i64 E] by rw [h2, EE.out]; unfold ansOf; simp]
    have e0 : (E != 0) = true := by simpa using hE0
    have e1 : (E == E) = true := by simp
    go_wp2_with fail
    refine (wakes13_any _).mono ?_
    rintro e we ⟨rfl, hB⟩
    replace BW := Lib.hid (BW.out.trans (hB.mono BW.out.size))
    clear hB
    go_wp2
    go_ret
    exact ⟨rfl, BW.out⟩
  · have hE0 : E = 0 := by rw [EE.out]; exact h1
    have hV0 : V = R.1 := by rw [VE.out, if_pos h1]
    rw [show ansOf Q = .tuple #[.int .i64 V, .int .i64 0] by rw [h3, hV0]; rfl]
    have e0 : (E != 0) = false := by rw [hE0]; rfl
    have e1 : (V == V) = true := by simp
    clear hE0 hV0 h1 h2 h3
    go_wp2_with fail
    refine (wakes13_any _).mono ?_
    rintro e we ⟨rfl, hB⟩
    replace BW := Lib.hid (BW.out.trans (hB.mono BW.out.size))
    clear hB
    go_wp2
    go_ret
    exact ⟨rfl, BW.out⟩
  · have hE0 : E = 0 := by rw [EE.out]; exact h1
    have hV0 : V = -9223372036854775808 := by rw [VE.out, if_pos h1, h2]
    rw [show ansOf Q = .tuple #[.int .i64 0, .int .i64 22] by rw [h3]; rfl]
    have e0 : (E != 0) = false := by rw [hE0]; rfl
    have e1 : (V == -9223372036854775808) = true := by rw [hV0]; rfl
    clear hE0 hV0 h1 h2 h3
    go_wp2_with fail
    refine (wakes13_any _).mono ?_
    rintro e we ⟨rfl, hB⟩
    replace BW := Lib.hid (BW.out.trans (hB.mono BW.out.size))
    clear hB
    go_wp2
    go_ret
    exact ⟨rfl, BW.out⟩

theorem arithApplied_w (w : World) (lp : Option Addr) (l : List (Int × Nd)) (lc : Nat) (k : Int) (s : ByteArray) (n : Int) (p : Option Addr) (c : Nat) (ts : Ts)
    (hat : BsAt w lp l) (hbok : (bsTs l).ok) (hl : l.length ≤ 9223372036854775807) (hvr : ∀ e ∈ l, -9223372036854775808 ≤ e.1 ∧ e.1 ≤ 9223372036854775807) (hok : Ts.ok (.cons k s n p c ts .nil)) (htat : Ts.At w p ts) :
    Calls Try.prog 3 #[.slice lp l.length lc, tv k s n p ts.len c] w fun e w' => e = .returned (.bool true) ∧ Below w.heap.size w w' :=
  arithApplied_true l ⟨k, s, n, p, c, ts⟩ hl hbok hvr w lp lc hat hok htat

end Go.Proofs.Ytnmhnaanpjlniaa
