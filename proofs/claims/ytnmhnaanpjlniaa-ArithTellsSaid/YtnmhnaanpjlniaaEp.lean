import Derived.Test.YtnmhnaanpjlniaaEj
import Derived.Test.YtnmhnaanpjlniaaWd0
import Derived.Test.YtnmhnaanpjlniaaEo
import Derived.Test.YtnmhnaanpjlniaaEs
/-
  Layer 13: the document's Eval. (Written by gen_ep.py.)
-/
namespace Go.Proofs.Ytnmhnaanpjlniaa
open Go.RowKit

theorem wk_keeps {P : Nd → Prop} {σ : Sb} (hE : Ends σ) (hg : ∀ v x, σ v = some x → P x) {t : Nd} (ht : P t) : P (wk σ t) := by
  have key : ∀ {t r : Nd} {m : Nat}, Wk σ t r m → P t → P r := fun h => by
    induction h with
    | stop => exact id
    | go _ hb _ ih => exact fun _ => ih (hg _ _ hb)
  exact key (wk_spec hE t) ht

theorem toList_in {a b : ByteArray} (h : a.toList = b.toList) : a = b := by
  rw [ByteArray.toList_eq, ByteArray.toList_eq] at h
  cases a
  cases b
  simp only [Array.toList_inj] at h
  rw [h]

theorem syms_list (j : Nat) (hj : j < 7) : (opSyms j).toList = [[43], [45], [42], [47, 47], [114, 101, 109], [109, 111, 100], [45]][j]! := by
  obtain rfl | rfl | rfl | rfl | rfl | rfl | rfl : j = 0 ∨ j = 1 ∨ j = 2 ∨ j = 3 ∨ j = 4 ∨ j = 5 ∨ j = 6 := by omega
  all_goals (unfold opSyms; simp [ByteArray.toList_eq])

/-- no operation: the names that it has not -/
theorem op_none {s : ByteArray} {n : Nat} (h : opIdx (funKey s n) = none) : ¬ (s.toList = [45] ∧ (n : Int) = 1) ∧ ∀ l ∈ ([[43], [45], [42], [47, 47], [114, 101, 109], [109, 111, 100]] : List (List UInt8)), ¬ (s.toList = l ∧ (n : Int) = 2) := by
  have key : ∀ j, j < 7 → ¬ (s = opSyms j ∧ (n : Int) = opAr j) := fun j hj ⟨h1, h2⟩ => by
    rw [h1, h2, opIdx_self j hj] at h
    cases h
  refine ⟨fun ⟨h1, h2⟩ => key 6 (by omega) ⟨toList_in (by rw [syms_list 6 (by omega)]; exact h1), h2⟩, fun l hl ⟨h1, h2⟩ => ?_⟩
  simp only [List.mem_cons, List.not_mem_nil, or_false] at hl
  rcases hl with rfl | rfl | rfl | rfl | rfl | rfl
  · exact key 0 (by omega) ⟨toList_in (by rw [syms_list 0 (by omega)]; exact h1), h2⟩
  · exact key 1 (by omega) ⟨toList_in (by rw [syms_list 1 (by omega)]; exact h1), h2⟩
  · exact key 2 (by omega) ⟨toList_in (by rw [syms_list 2 (by omega)]; exact h1), h2⟩
  · exact key 3 (by omega) ⟨toList_in (by rw [syms_list 3 (by omega)]; exact h1), h2⟩
  · exact key 4 (by omega) ⟨toList_in (by rw [syms_list 4 (by omega)]; exact h1), h2⟩
  · exact key 5 (by omega) ⟨toList_in (by rw [syms_list 5 (by omega)]; exact h1), h2⟩

/-- the document's operations, by their numbers -/
theorem tog_any (j : Nat) (hj : j < 6) (a b : Int) (ha : isI64 a) (hb : isI64 b) (w : World) : Calls Try.prog 58 #[.string (opSyms j), .int .i64 a, .int .i64 b] w fun e w' => e = .returned (ansR (opR j a b)) ∧ Below w.heap.size w w' := by
  obtain rfl | rfl | rfl | rfl | rfl | rfl : j = 0 ∨ j = 1 ∨ j = 2 ∨ j = 3 ∨ j = 4 ∨ j = 5 := by omega
  · exact tog_plus a b ha hb w
  · exact tog_minus a b ha hb w
  · exact tog_times a b ha hb w
  · exact tog_quot a b ha hb w
  · exact tog_rem a b ha hb w
  · exact tog_mod a b ha hb w

theorem ar_one {j : Nat} (hj : j < 7) (h : opAr j = 1) : j = 6 := by
  obtain rfl | rfl | rfl | rfl | rfl | rfl | rfl : j = 0 ∨ j = 1 ∨ j = 2 ∨ j = 3 ∨ j = 4 ∨ j = 5 ∨ j = 6 := by omega
  all_goals first | rfl | cases h
theorem ar_two {j : Nat} (hj : j < 7) (h : opAr j = 2) : j < 6 := by
  obtain rfl | rfl | rfl | rfl | rfl | rfl | rfl : j = 0 ∨ j = 1 ∨ j = 2 ∨ j = 3 ∨ j = 4 ∨ j = 5 ∨ j = 6 := by omega
  all_goals first | omega | cases h

theorem bs_at {w : World} {p : Option Addr} {l : List (Int × Nd)} (h : BsAt w p l) : ∀ v x, look l v = some x → Ts.At w x.p x.kids := fun v x hx => by
  obtain ⟨b, o, _, hl⟩ := h
  obtain ⟨j, hj⟩ := List.mem_iff_getElem?.1 (look_mem hx)
  exact (hl.get hj).at_

set_option maxRecDepth 100000 in
theorem reval_full (σ : Sb) (f : Nat) (t : Nd) (W : World) (p : Option Addr) (len cl : Nat) :
    Calls Try.prog 16 #[.slice p len cl, .agg #[.int .u8 t.k, .string t.s, .int .i64 t.n, .slice t.p t.kids.len t.c], .int .i64 4096] W fun e w' => (∃ N : Int, e = .returned (.tuple #[.int .i64 (rk σ f 0 t).1.1, .int .i64 N, .int .i64 (rk σ f 0 t).1.2]) ∧ ((rk σ f 0 t).1.2 = 0 → N = 4096 - ((rk σ f 0 t).2 : Int))) ∧ Below W.heap.size W w' := by
  rw [rk_zero]
  go_enter Try.func16, Try.ntmps16
  go_wp2
  exact bodyPost_ret (v := .tuple #[.int .i64 0, .int .i64 4097, .int .i64 31]) (by simp [results, Try.results16, go_sem]) rfl ⟨⟨4097, rfl, fun h => by cases h⟩, (Below.refl _ _).alloc (Nat.le_refl _) _⟩

set_option maxRecDepth 100000 in
set_option maxHeartbeats 16000000 in
theorem reval_any (l : List (Int × Nd)) (hl : l.length ≤ 1000000) (hE : Ends (look l)) (hgo : ∀ v x, look l v = some x → x.ok) : ∀ (f r : Nat), r ≤ f → r ≤ 4096 → ∀ (t : Nd) (W : World) (p : Option Addr) (cl : Nat), BsAt W p l → t.ok → Ts.At W t.p t.kids →
    Calls Try.prog 16 #[.slice p l.length cl, .agg #[.int .u8 t.k, .string t.s, .int .i64 t.n, .slice t.p t.kids.len t.c], .int .i64 (4096 - (r : Int))] W fun e w' => (∃ N : Int, e = .returned (.tuple #[.int .i64 (rk (look l) f r t).1.1, .int .i64 N, .int .i64 (rk (look l) f r t).1.2]) ∧ ((rk (look l) f r t).1.2 = 0 → N = 4096 - ((rk (look l) f r t).2 : Int))) ∧ Below W.heap.size W w' := by
  intro f
  induction f with
  | zero =>
    intro r hrf hr4 t W p cl hbs hok hat
    have hr0 : r = 0 := by omega
    subst hr0
    exact reval_full (look l) 0 t W p l.length cl
  | succ f ih =>
  intro r hrf hr4 t W p cl hbs hok hat
  by_cases hr0 : r = 0
  · subst hr0
    exact reval_full (look l) (f + 1) t W p l.length cl
  obtain ⟨r, rfl⟩ : ∃ r', r = r' + 1 := ⟨r - 1, by omega⟩
  obtain ⟨k, hk⟩ : ∃ k : Int, k = 4096 - ((r + 1 : Nat) : Int) := ⟨_, rfl⟩
  rw [← hk]
  have hk0 : 0 ≤ k := by omega
  have hk1 : k < 4096 := by omega
  have KE := Lib.hid hk
  have IH := Lib.hid ih
  have OK := Lib.hid hok
  have AT := Lib.hid hat
  have BS := Lib.hid hbs
  have HE := Lib.hid hE
  have BW := Lib.hid (Below.refl W.heap.size W)
  obtain ⟨σ, hσ⟩ : ∃ σ, σ = look l := ⟨_, rfl⟩
  have SE := Lib.hid hσ
  rw [← hσ]
  obtain ⟨x, hx⟩ : ∃ x, x = wk σ t := ⟨_, rfl⟩
  have XE := Lib.hid hx
  have XK : Hid (x.ok ∧ Ts.At W x.p x.kids) := Lib.hid (by
    rw [hx, hσ]
    exact wk_keeps (P := fun y => y.ok ∧ Ts.At W y.p y.kids) hE (fun v y hy => ⟨hgo v y hy, bs_at hbs v y hy⟩) ⟨hok, hat⟩)
  clear hk ih hok hat hbs hσ hx
  go_enter Try.func16, Try.ntmps16
  go_upto_region 4 with fail
  obtain ⟨W1, hW1⟩ : ∃ W1, W1 = W.alloc (.cells #[.int .u8 t.k, .string t.s, .int .i64 t.n, .slice t.p t.kids.len t.c] 25) := ⟨_, rfl⟩
  rw [← hW1]
  have hI : Below W.heap.size W W1 := by rw [hW1]; exact (Below.refl _ _).alloc (Nat.le_refl _) _
  have XT : Hid (BoxIs W.heap.size t W1) := Lib.hid (by rw [hW1]; exact BoxIs.new W t _)
  clear hW1
  replace BW := Lib.hid (BW.out.trans hI)
  clear hI AT
  have c0 := XT.out.c0
  have c1 := XT.out.c1
  have c2 := XT.out.c2
  have c3 := XT.out.c3
  go_wp2_with fail
  refine (rwalk_any l hl HE.out W1 p cl (BS.out.below BW.out) t.k t.s t.n t.p t.kids t.c).mono ?_
  rintro e w2 ⟨rfl, hI⟩
  rw [← SE.out, ← XE.out]
  replace XT := Lib.hid (XT.out.below hI)
  replace BW := Lib.hid (BW.out.trans (hI.mono BW.out.size))
  clear hI c0 c1 c2 c3
  unfold Nd.val
  have c0 := XT.out.c0
  have c1 := XT.out.c1
  have c2 := XT.out.c2
  have c3 := XT.out.c3
  have cf := XT.out.fr
  go_upto_region 5 with fail
  obtain ⟨W3, hW3⟩ : ∃ W3, W3 = (((w2.setCell ⟨W.heap.size, 0, none⟩ (.int .u8 x.k)).setCell ⟨W.heap.size, 1, none⟩ (.string x.s)).setCell ⟨W.heap.size, 2, none⟩ (.int .i64 x.n)).setCell ⟨W.heap.size, 3, none⟩ (.slice x.p x.kids.len x.c) := ⟨_, rfl⟩
  rw [← hW3]
  have XB : Hid (BoxIs W.heap.size x W3) := Lib.hid (by rw [hW3]; exact XT.out.put (y := x))
  replace BW : Hid (Below W.heap.size W W3) := Lib.hid (by rw [hW3]; exact below_put4 BW.out (Nat.le_refl _) _ _ _ _)
  clear hW3 XT c0 c1 c2 c3 cf
  have y0 := XB.out.c0
  have y1 := XB.out.c1
  have y2 := XB.out.c2
  have y3 := XB.out.c3
  have TW : Hid (x.twin (wk σ t)) := Lib.hid (by rw [XE.out]; exact Nd.twin_refl _)
  have EK : Hid (k + 1 = 4096 - (r : Int)) := Lib.hid (by have := KE.out; omega)
  by_cases x1 : (x.k == 1) = true
  · have RKE := Lib.hid (rk_var (f := f) (r := r) TW.out x1)
    have x2 : (x.k == 2) = false := by rw [beq_iff_eq] at x1; rw [x1]; rfl
    go_wp2
    exact bodyPost_ret (v := .tuple #[.int .i64 (0), .int .i64 (k + 1), .int .i64 (20)]) (by simp [results, Try.results16, go_sem]) rfl ⟨⟨k + 1, by rw [RKE.out], fun h => by rw [RKE.out] at h; cases h⟩, BW.out⟩
  by_cases x2 : (x.k == 2) = true
  · have RKE := Lib.hid (rk_int (f := f) (r := r) TW.out x1 x2)
    rw [Bool.not_eq_true] at x1
    go_wp2
    exact bodyPost_ret (v := .tuple #[.int .i64 (x.n), .int .i64 (k + 1), .int .i64 (0)]) (by simp [results, Try.results16, go_sem]) rfl ⟨⟨k + 1, by rw [RKE.out], fun _ => by rw [RKE.out]; exact EK.out⟩, BW.out⟩
  have RKS := Lib.hid (rk_step (f := f) (r := r) (by rw [SE.out]; exact HE.out) TW.out x1 x2)
  rw [Bool.not_eq_true] at x1 x2
  have hxl : x.kids.len ≤ 9223372036854775807 := by have h := XK.out.1.2.2.2.1; omega
  by_cases x4 : (x.k == 4) = true
  · have x4n : (x.k != 4) = false := by simpa using x4
    go_upto_region 9 with fail
    obtain ⟨o, ho⟩ : ∃ o, o = opIdx (funKey x.s x.kids.len) := ⟨_, rfl⟩
    have OE := Lib.hid ho
    clear ho
    go_cut [80] from 31 to 80 (fun s80 wx => s80 = .bool o.isNone ∧ wx = W3)
    case first =>
      cases o with
      | some j =>
        obtain ⟨hs, hln, hj⟩ := opIdx_ar XK.out.1.2.1 hxl OE.out.symm
        have hsl := syms_list j hj
        rw [← hs] at hsl
        clear hs OE RKS
        obtain rfl | rfl | rfl | rfl | rfl | rfl | rfl : j = 0 ∨ j = 1 ∨ j = 2 ∨ j = 3 ∨ j = 4 ∨ j = 5 ∨ j = 6 := by omega
        all_goals (simp only [opAr, List.getElem!_cons_zero, List.getElem!_cons_succ] at hsl hln)
        all_goals (go_wp2; go_meet; exact ⟨rfl, rfl⟩)
      | none =>
        obtain ⟨m1, m2⟩ := op_none OE.out.symm
        have a0 := m2 [43] (by simp)
        have a1 := m2 [45] (by simp)
        have a2 := m2 [42] (by simp)
        have a3 := m2 [47, 47] (by simp)
        have a4 := m2 [114, 101, 109] (by simp)
        have a5 := m2 [109, 111, 100] (by simp)
        clear m2 OE RKS
        by_cases l1 : (x.kids.len : Int) = 1
        · have n1 : ¬ x.s.toList = [45] := fun h => m1 ⟨h, l1⟩
          clear m1 a0 a1 a2 a3 a4 a5
          go_wp2
          go_meet
          exact ⟨rfl, rfl⟩
        · by_cases l2 : (x.kids.len : Int) = 2
          · have n0 : ¬ x.s.toList = [43] := fun h => a0 ⟨h, l2⟩
            have n1 : ¬ x.s.toList = [45] := fun h => a1 ⟨h, l2⟩
            have n2 : ¬ x.s.toList = [42] := fun h => a2 ⟨h, l2⟩
            have n3 : ¬ x.s.toList = [47, 47] := fun h => a3 ⟨h, l2⟩
            have n4 : ¬ x.s.toList = [114, 101, 109] := fun h => a4 ⟨h, l2⟩
            have n5 : ¬ x.s.toList = [109, 111, 100] := fun h => a5 ⟨h, l2⟩
            clear m1 a0 a1 a2 a3 a4 a5
            go_wp2
            go_meet
            exact ⟨by simp [n0, n1, n2, n3, n4, n5], rfl⟩
          · clear m1 a0 a1 a2 a3 a4 a5
            by_cases n1 : x.s.toList = [45]
            · go_wp2
              go_meet
              exact ⟨by simp [l1], rfl⟩
            · go_wp2
              go_meet
              exact ⟨rfl, rfl⟩
    case rest =>
      obtain ⟨rfl, hw⟩ := hcut
      have hw' := hw.symm
      clear hw
      subst hw'
      cases o with
      | none =>
        have RKE : Hid (rk σ (f + 1) (r + 1) t = ((0, 21), r)) := Lib.hid (by rw [RKS.out, show opOf x = none by unfold opOf; rw [if_pos x4, ← OE.out], rkOp_none])
        simp only [Option.isNone]
        go_wp2
        exact bodyPost_ret (v := .tuple #[.int .i64 (0), .int .i64 (k + 1), .int .i64 (21)]) (by simp [results, Try.results16, go_sem]) rfl ⟨⟨k + 1, by rw [RKE.out], fun h => by rw [RKE.out] at h; cases h⟩, BW.out⟩
      | some j =>
        simp only [Option.isNone]
        obtain ⟨hs, hln, hj⟩ := opIdx_ar XK.out.1.2.1 hxl OE.out.symm
        have OJ : Hid (opOf x = some j) := Lib.hid (by unfold opOf; rw [if_pos x4, ← OE.out])
        rw [OJ.out] at RKS
        have JL := Lib.hid hj
        have SJ := Lib.hid hs
        have ha12 : opAr j = 1 ∨ opAr j = 2 := by unfold opAr; split <;> simp
        have hln2 : x.kids.len = 1 ∨ x.kids.len = 2 := by rcases ha12 with h | h <;> rw [h] at hln <;> omega
        have OX := Lib.hid XK.out.1.2.2.2.2.2.1
        have AR := Lib.hid hln
        clear y3 hln ha12 hs
        rcases hln2 with hl1 | hl2
        · obtain ⟨k0, s0, n0, p0, c0, ks0, hx⟩ := Ts.one_of hl1
          have HX := Lib.hid hx
          rw [hx] at OX
          have OK0 : Hid (Nd.ok ⟨k0, s0, n0, p0, c0, ks0⟩) := Lib.hid ⟨OX.out.1, OX.out.2.1, OX.out.2.2.1, OX.out.2.2.2.1, OX.out.2.2.2.2.1, OX.out.2.2.2.2.2.1, trivial⟩
          have RKT : Hid (rk σ (f + 1) (r + 1) t = rkOp (rk σ f) r (some j) [⟨k0, s0, n0, p0, c0, ks0⟩]) := Lib.hid (by rw [RKS.out, hx]; rfl)
          clear hx hl1 RKS
          obtain ⟨P0, hP0⟩ : ∃ P, P = rk σ f r ⟨k0, s0, n0, p0, c0, ks0⟩ := ⟨_, rfl⟩
          have P0E := Lib.hid hP0
          clear hP0
          have hat := XK.out.2.below BW.out
          rw [HX.out] at hat
          obtain ⟨B, o_, hp, hl_⟩ := hat
          have hp2 : x.p = some ⟨B, o_, none⟩ := by
            rcases hp with h | h
            · cases h
            · exact h
          have y3 := XB.out.c3
          rw [hp2, HX.out] at y3
          simp only [Ts.len] at y3
          obtain ⟨g0, g1, g2, g3, ha0, -⟩ := hl_
          have AK0 := Lib.hid ha0
          clear hp hp2 ha0
          have ih0 := IH.out r (by omega) (by omega) ⟨k0, s0, n0, p0, c0, ks0⟩ W3 p cl (BS.out.below BW.out) OK0.out AK0.out
          rw [show (4096 - ((r : Nat) : Int)) = k + 1 from EK.out.symm, ← SE.out, ← P0E.out] at ih0
          have IH0 := Lib.hid ih0
          clear ih0
          go_wp2_with fail
          refine IH0.out.mono ?_
          rintro e w0' ⟨⟨N0, rfl, hN⟩, hI⟩
          have NE0 := Lib.hid hN
          replace BW := Lib.hid (BW.out.trans (hI.mono BW.out.size))
          replace XB := Lib.hid (XB.out.below hI)
          clear hN hI
          by_cases e0 : P0.1.2 = 0
          · have J6 : Hid (j = 6) := Lib.hid (ar_one JL.out (by rw [← AR.out, HX.out]; rfl))
            have IX : Hid (isI64 P0.1.1) := Lib.hid (by rw [P0E.out]; exact rk_i64 (by rw [SE.out]; exact HE.out) (by rw [SE.out]; exact hgo) f r OK0.out)
            have y3 := XB.out.c3
            rw [HX.out] at y3
            simp only [Ts.len, Nat.zero_add] at y3
            have e0b : (P0.1.2 != 0) = false := by simpa using e0
            go_wp2_with fail
            refine (tog_minus 0 P0.1.1 i64_0 IX.out _).mono ?_
            rintro e w1 ⟨rfl, hI⟩
            unfold ansR
            replace BW := Lib.hid (BW.out.trans (hI.mono BW.out.size))
            clear hI
            obtain ⟨R, hR⟩ : ∃ R, R = minusR 0 P0.1.1 := ⟨_, rfl⟩
            have RKE : Hid (rk σ (f + 1) (r + 1) t = (R, P0.2)) := Lib.hid (by rw [RKT.out, J6.out, hR]; simp only [rkOp]; rw [← P0E.out, if_neg (fun h => h e0)]; rfl)
            rw [← hR]
            clear hR
            go_wp2
            exact bodyPost_ret (v := .tuple #[.int .i64 (R.1), .int .i64 (N0), .int .i64 (R.2)]) (by simp [results, Try.results16, go_sem]) rfl ⟨⟨N0, by rw [RKE.out], fun _ => by rw [RKE.out]; exact NE0.out e0⟩, BW.out⟩
          · have RKE : Hid (rk σ (f + 1) (r + 1) t = ((0, P0.1.2), P0.2)) := Lib.hid (by rw [RKT.out]; simp only [rkOp]; rw [← P0E.out, if_pos e0])
            have e0b : (P0.1.2 != 0) = true := by simpa using e0
            go_wp2
            exact bodyPost_ret (v := .tuple #[.int .i64 (0), .int .i64 (N0), .int .i64 (P0.1.2)]) (by simp [results, Try.results16, go_sem]) rfl ⟨⟨N0, by rw [RKE.out], fun h => by rw [RKE.out] at h; exact absurd h e0⟩, BW.out⟩
        · obtain ⟨k0, s0, n0, p0, c0, ks0, k1, s1, n1, p1, c1, ks1, hx⟩ := Ts.two_of hl2
          have HX := Lib.hid hx
          rw [hx] at OX
          have OK0 : Hid (Nd.ok ⟨k0, s0, n0, p0, c0, ks0⟩) := Lib.hid ⟨OX.out.1, OX.out.2.1, OX.out.2.2.1, OX.out.2.2.2.1, OX.out.2.2.2.2.1, OX.out.2.2.2.2.2.1, trivial⟩
          have OK1 : Hid (Nd.ok ⟨k1, s1, n1, p1, c1, ks1⟩) := Lib.hid OX.out.2.2.2.2.2.2
          have RKT : Hid (rk σ (f + 1) (r + 1) t = rkOp (rk σ f) r (some j) [⟨k0, s0, n0, p0, c0, ks0⟩, ⟨k1, s1, n1, p1, c1, ks1⟩]) := Lib.hid (by rw [RKS.out, hx]; rfl)
          have J5 : Hid (j < 6) := Lib.hid (ar_two JL.out (by rw [← AR.out, hx]; rfl))
          clear hx hl2 RKS
          obtain ⟨P0, hP0⟩ : ∃ P, P = rk σ f r ⟨k0, s0, n0, p0, c0, ks0⟩ := ⟨_, rfl⟩
          have P0E := Lib.hid hP0
          have IX : Hid (isI64 P0.1.1) := Lib.hid (by rw [hP0]; exact rk_i64 (by rw [SE.out]; exact HE.out) (by rw [SE.out]; exact hgo) f r OK0.out)
          have hle0 : P0.2 ≤ r := by have := rk_le σ f r ⟨k0, s0, n0, p0, c0, ks0⟩; rw [← hP0] at this; omega
          obtain ⟨P1, hP1⟩ : ∃ P, P = rk σ f P0.2 ⟨k1, s1, n1, p1, c1, ks1⟩ := ⟨_, rfl⟩
          have P1E := Lib.hid hP1
          have IY : Hid (isI64 P1.1.1) := Lib.hid (by rw [hP1]; exact rk_i64 (by rw [SE.out]; exact HE.out) (by rw [SE.out]; exact hgo) f P0.2 OK1.out)
          clear hP0 hP1
          have hat := XK.out.2.below BW.out
          rw [HX.out] at hat
          obtain ⟨B, o_, hp, hl_⟩ := hat
          have hp2 : x.p = some ⟨B, o_, none⟩ := by
            rcases hp with h | h
            · cases h
            · exact h
          have y3 := XB.out.c3
          rw [hp2, HX.out] at y3
          simp only [Ts.len, Nat.zero_add, Nat.reduceAdd] at y3
          obtain ⟨g0, g1, g2, g3, ha0, g4, g5, g6, g7, ha1, -⟩ := hl_
          have AK0 := Lib.hid ha0
          clear hp ha0 ha1
          have HP2 := Lib.hid hp2
          clear hp2
          have ih0 := IH.out r (by omega) (by omega) ⟨k0, s0, n0, p0, c0, ks0⟩ W3 p cl (BS.out.below BW.out) OK0.out AK0.out
          rw [show (4096 - ((r : Nat) : Int)) = k + 1 from EK.out.symm, ← SE.out, ← P0E.out] at ih0
          have IH0 := Lib.hid ih0
          clear ih0
          go_wp2_with fail
          refine IH0.out.mono ?_
          rintro e w0' ⟨⟨N0, rfl, hN⟩, hI⟩
          have NE0 := Lib.hid hN
          replace BW := Lib.hid (BW.out.trans (hI.mono BW.out.size))
          replace XB := Lib.hid (XB.out.below hI)
          clear hN hI y0 y1 y2 y3 g0 g1 g2 g3 g4 g5 g6 g7 AK0 IH0
          by_cases e0 : P0.1.2 = 0
          · have e0b : (P0.1.2 != 0) = false := by simpa using e0
            have hat := XK.out.2.below BW.out
            rw [HX.out, HP2.out] at hat
            obtain ⟨B', o', hp, hl_⟩ := hat
            have hbo : B' = B ∧ o' = o_ := by
              rcases hp with h | h
              · cases h
              · injection h with h
                injection h with h1 h2 h3
                exact ⟨h1.symm, h2.symm⟩
            rw [hbo.1, hbo.2] at hl_
            clear hp hbo
            have y3 := XB.out.c3
            rw [HP2.out, HX.out] at y3
            simp only [Ts.len, Nat.zero_add, Nat.reduceAdd] at y3
            obtain ⟨g0, g1, g2, g3, ha0, g4, g5, g6, g7, ha1, -⟩ := hl_
            have AK1 := Lib.hid ha1
            clear ha0 ha1
            have ih1 := IH.out P0.2 (by omega) (by omega) ⟨k1, s1, n1, p1, c1, ks1⟩ w0' p cl (BS.out.below BW.out) OK1.out AK1.out
            rw [show (4096 - ((P0.2 : Nat) : Int)) = N0 from (NE0.out e0).symm, ← SE.out, ← P1E.out] at ih1
            have IH1 := Lib.hid ih1
            clear ih1
            go_wp2_with fail
            refine IH1.out.mono ?_
            rintro e w1' ⟨⟨N1, rfl, hN⟩, hI⟩
            have NE1 := Lib.hid hN
            replace BW := Lib.hid (BW.out.trans (hI.mono BW.out.size))
            replace XB := Lib.hid (XB.out.below hI)
            clear hN hI y3 g0 g1 g2 g3 g4 g5 g6 g7 AK1 IH1
            by_cases e1 : P1.1.2 = 0
            · have e1b : (P1.1.2 != 0) = false := by simpa using e1
              have y1 := XB.out.c1
              rw [SJ.out] at y1
              go_wp2_with fail
              refine (tog_any j J5.out P0.1.1 P1.1.1 IX.out IY.out _).mono ?_
              rintro e w5 ⟨rfl, hI⟩
              unfold ansR
              replace BW := Lib.hid (BW.out.trans (hI.mono BW.out.size))
              clear hI
              obtain ⟨R, hR⟩ : ∃ R, R = opR j P0.1.1 P1.1.1 := ⟨_, rfl⟩
              have RKE : Hid (rk σ (f + 1) (r + 1) t = (R, P1.2)) := Lib.hid (by rw [RKT.out, hR]; simp only [rkOp]; rw [← P0E.out, if_neg (fun h => h e0), ← P1E.out, if_neg (fun h => h e1)])
              rw [← hR]
              clear hR
              go_wp2
              exact bodyPost_ret (v := .tuple #[.int .i64 (R.1), .int .i64 (N1), .int .i64 (R.2)]) (by simp [results, Try.results16, go_sem]) rfl ⟨⟨N1, by rw [RKE.out], fun _ => by rw [RKE.out]; exact NE1.out e1⟩, BW.out⟩
            · have RKE : Hid (rk σ (f + 1) (r + 1) t = ((0, P1.1.2), P1.2)) := Lib.hid (by rw [RKT.out]; simp only [rkOp]; rw [← P0E.out, if_neg (fun h => h e0), ← P1E.out, if_pos e1])
              have e1b : (P1.1.2 != 0) = true := by simpa using e1
              go_wp2
              exact bodyPost_ret (v := .tuple #[.int .i64 (0), .int .i64 (N1), .int .i64 (P1.1.2)]) (by simp [results, Try.results16, go_sem]) rfl ⟨⟨N1, by rw [RKE.out], fun h => by rw [RKE.out] at h; exact absurd h e1⟩, BW.out⟩
          · have RKE : Hid (rk σ (f + 1) (r + 1) t = ((0, P0.1.2), P0.2)) := Lib.hid (by rw [RKT.out]; simp only [rkOp]; rw [← P0E.out, if_pos e0])
            have e0b : (P0.1.2 != 0) = true := by simpa using e0
            go_wp2
            exact bodyPost_ret (v := .tuple #[.int .i64 (0), .int .i64 (N0), .int .i64 (P0.1.2)]) (by simp [results, Try.results16, go_sem]) rfl ⟨⟨N0, by rw [RKE.out], fun h => by rw [RKE.out] at h; exact absurd h e0⟩, BW.out⟩
  · have x4n : (x.k != 4) = true := by simpa using x4
    have RKE : Hid (rk σ (f + 1) (r + 1) t = ((0, 21), r)) := Lib.hid (by rw [RKS.out, show opOf x = none by unfold opOf; rw [if_neg x4], rkOp_none])
    go_wp2
    exact bodyPost_ret (v := .tuple #[.int .i64 (0), .int .i64 (k + 1), .int .i64 (21)]) (by simp [results, Try.results16, go_sem]) rfl ⟨⟨k + 1, by rw [RKE.out], fun h => by rw [RKE.out] at h; cases h⟩, BW.out⟩

end Go.Proofs.Ytnmhnaanpjlniaa
