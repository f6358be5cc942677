import Derived.Test.YtnmhnaanpjlniaaEg
import Derived.Test.YtnmhnaanpjlniaaTm
import Derived.Test.YtnmhnaanpjlniaaTv0
import Derived.Test.YtnmhnaanpjlniaaAx
/-
  Layer 13: Eval, of whatever term; known numbers.
-/
namespace Go.Proofs.Ytnmhnaanpjlniaa
open Go.RowKit

/-- what is answered of a number, or an error -/
def ansOf (R : Int × Int) : Value := .tuple #[.int .i64 (if R.2 = 0 then R.1 else 0), .int .i64 R.2]

theorem eval_gen (S : Nat) (σ : Sb) (n : Nat) (w : World) (hS : SubAt S σ n w) (t : Nd) (hok : t.ok) (hat : Ts.At w t.p t.kids) (hsz : t.kids.size ≤ 5000) :
    Calls Try.prog 14 #[.pointer (some ⟨S, 0, none⟩), .agg #[.int .u8 t.k, .string t.s, .int .i64 t.n, .slice t.p t.kids.len t.c]] w fun e w' => e = .returned (ansOf (rk σ 4096 4096 t).1) ∧ Below w.heap.size w w' := by
  refine (eval_any _ _ _ _ w ⟨S, 0, none⟩ (rk σ 4096 4096 t).1 ?_).mono ?_
  · intro W b m hB hm hmb hR hO
    have hSl := hS.lt
    refine (reckon_any σ (fun v x hx => (hS.at_ v x hx).2.1) 4096 4096 (Nat.le_refl _) (Nat.le_refl _) t W b S m n ⟨hR.blk⟩ (hS.below hB) (by omega) hmb hO hok (hat.below hB) hsz).mono ?_
    rintro e w' ⟨rfl, _, hg⟩
    have hb := hR.lt
    exact ⟨rfl, hg.os, hg.tape, hg.output, hg.size, fun k hk => hg.block k (by omega) (fun e => by cases e; omega)⟩
  · rintro e w' ⟨rfl, hB⟩
    exact ⟨rfl, hB⟩

theorem rk_succ (σ : Sb) (f r : Nat) (t : Nd) : rk σ (f + 1) r t = if r = 0 then ((0, 31), 0) else if ((wk σ t).k == 1) = true then ((0, 20), r - 1) else if ((wk σ t).k == 2) = true then (((wk σ t).n, 0), r - 1) else rkOp (rk σ f) (r - 1) (opOf (wk σ t)) (elems (wk σ t).kids) := rfl
theorem wk_none (t : Nd) : wk Sb.none t = t := wk_stop (.inr rfl)

/-- two leaves and a name -/
def twoN (c : ByteArray) (k : Int) (x : Int) (k' : Int) (y : Int) : Nd := ⟨4, c, 0, none, 0, .cons k ⟨#[]⟩ x none 0 .nil (.cons k' ⟨#[]⟩ y none 0 .nil .nil)⟩

theorem rk_leaf (f r : Nat) (x : Int) (hr : 0 < r) : rk Sb.none (f + 1) r ⟨2, ⟨#[]⟩, x, none, 0, .nil⟩ = ((x, 0), r - 1) := by
  rw [rk_succ, wk_none]
  rw [if_neg (by omega), if_neg (by simp), if_pos (by rfl)]
theorem rk_two (c : ByteArray) (x y : Int) {j : Nat} (hj : opIdx (funKey c 2) = some j) : (rk Sb.none 4096 4096 (twoN c 2 x 2 y)).1 = opR j x y := by
  have e : rk Sb.none (4095 + 1) 4096 (twoN c 2 x 2 y) = rkOp (rk Sb.none 4095) 4095 (some j) [⟨2, ⟨#[]⟩, x, none, 0, .nil⟩, ⟨2, ⟨#[]⟩, y, none, 0, .nil⟩] := by
    rw [rk_succ, wk_none]
    have ho : opOf (twoN c 2 x 2 y) = some j := by
      unfold opOf
      rw [if_pos (by rfl)]
      exact hj
    rw [if_neg (by omega), if_neg (by simp [twoN]), if_neg (by simp [twoN]), ho]
    rfl
  rw [e]
  simp only [rkOp]
  rw [rk_leaf 4094 4095 x (by omega), if_neg (by simp)]
  simp only
  rw [rk_leaf 4094 4094 y (by omega), if_neg (by simp)]
theorem rk_two_var : (rk Sb.none 4096 4096 (twoN ⟨#[43]⟩ 2 1 1 0)).1 = (0, 20) := by
  have e : rk Sb.none (4095 + 1) 4096 (twoN ⟨#[43]⟩ 2 1 1 0) = rkOp (rk Sb.none 4095) 4095 (some 0) [⟨2, ⟨#[]⟩, 1, none, 0, .nil⟩, ⟨1, ⟨#[]⟩, 0, none, 0, .nil⟩] := by
    rw [rk_succ, wk_none]
    have ho : opOf (twoN ⟨#[43]⟩ 2 1 1 0) = some 0 := by
      unfold opOf
      rw [if_pos (by rfl)]
      rfl
    rw [if_neg (by omega), if_neg (by simp [twoN]), if_neg (by simp [twoN]), ho]
    rfl
  have hv : rk Sb.none (4094 + 1) 4094 ⟨1, ⟨#[]⟩, 0, none, 0, .nil⟩ = ((0, 20), 4093) := by
    rw [rk_succ, wk_none]
    rw [if_neg (by omega), if_pos (by rfl)]
  rw [e]
  simp only [rkOp]
  rw [rk_leaf 4094 4095 1 (by omega), if_neg (by simp)]
  simp only
  rw [hv, if_pos (by simp)]
theorem rk_atom : (rk Sb.none 4096 4096 ⟨3, ⟨#[97]⟩, 0, none, 0, .nil⟩).1 = (0, 21) := by
  have e : rk Sb.none (4095 + 1) 4096 ⟨3, ⟨#[97]⟩, 0, none, 0, .nil⟩ = ((0, 21), 4095) := by
    rw [rk_succ, wk_none]
    have ho : opOf ⟨3, ⟨#[97]⟩, 0, none, 0, .nil⟩ = none := by
      unfold opOf
      rw [if_neg (by decide)]
    rw [if_neg (by omega), if_neg (by decide), if_neg (by decide), ho, rkOp_none]
  rw [e]

/-- a structure of two leaves made by F, reckoned -/
theorem rk_made {c : ByteArray} {k x k' y : Int} {q : Option Addr} {d : Nat} {us : Ts} (h : Ts.twin us (.cons k ⟨#[]⟩ x none 0 .nil (.cons k' ⟨#[]⟩ y none 0 .nil .nil))) : rk Sb.none 4096 4096 ⟨4, c, 0, q, d, us⟩ = rk Sb.none 4096 4096 (twoN c k x k' y) :=
  rk_tw (STw.refl _) Ends.none 4096 4096 ⟨rfl, rfl, rfl, h⟩

end Go.Proofs.Ytnmhnaanpjlniaa
/-
  Layer 13: the law's known numbers.
-/
namespace Go.Proofs.Ytnmhnaanpjlniaa
open Go.RowKit

theorem ndOk {k : Int} {s : ByteArray} {n : Int} {p : Option Addr} {c : Nat} {kids : Ts} (hk : 0 ≤ k ∧ k ≤ 255) (hs : s.size ≤ 140737488351232) (hn : -9223372036854775808 ≤ n ∧ n ≤ 9223372036854775807) (hc : kids.len ≤ c ∧ c ≤ 9223372036854775807) (hp : p = none → c = 0) (ho : kids.ok) : Nd.ok ⟨k, s, n, p, c, kids⟩ := ⟨hk, hs, hn, hc, hp, ho, trivial⟩
theorem nil_at (w : World) : Ts.At w none .nil := ⟨0, 0, .inl rfl, trivial⟩

theorem leaves_at {w W : World} {k x k' y : Int} (h : W = w.alloc (.cells #[.int .u8 k, .string ⟨#[]⟩, .int .i64 x, .slice none 0 0, .int .u8 k', .string ⟨#[]⟩, .int .i64 y, .slice none 0 0] 25)) : Below w.heap.size w W ∧ Ts.At W (some ⟨w.heap.size, 0, none⟩) (.cons k ⟨#[]⟩ x none 0 .nil (.cons k' ⟨#[]⟩ y none 0 .nil .nil)) := by
  obtain ⟨W', hW, _, hB, hc⟩ := box1 w #[.int .u8 k, .string ⟨#[]⟩, .int .i64 x, .slice none 0 0, .int .u8 k', .string ⟨#[]⟩, .int .i64 y, .slice none 0 0] 25
  rw [← hW] at h
  subst h
  exact ⟨hB, lies_two rfl hc (nil_at _) (nil_at _)⟩

theorem leaves_ok {k x k' y : Int} (hk : 0 ≤ k ∧ k ≤ 255) (hk' : 0 ≤ k' ∧ k' ≤ 255) (hx : isI64 x) (hy : isI64 y) : Ts.ok (.cons k ⟨#[]⟩ x none 0 .nil (.cons k' ⟨#[]⟩ y none 0 .nil .nil)) :=
  ⟨hk, by simp [ByteArray.size], hx, by simp [Ts.len], fun _ => rfl, trivial, hk', by simp [ByteArray.size], hy, by simp [Ts.len], fun _ => rfl, trivial, trivial⟩

set_option maxRecDepth 100000 in
set_option maxHeartbeats 4000000 in
theorem two_gen (c : ByteArray) (hc : c.size ≤ 140737488351232) (x y : Int) (hx : isI64 x) (hy : isI64 y) {j : Nat} (hj : opIdx (funKey c 2) = some j) (w : World) :
    Calls Try.prog 46 #[.string c, .int .i64 x, .int .i64 y] w fun e w' => e = .returned (ansOf (opR j x y)) ∧ Below w.heap.size w w' := by
  have HJ := Lib.hid hj
  have HX := Lib.hid hx
  have HY := Lib.hid hy
  have HC := Lib.hid hc
  clear hj hx hy hc
  go_enter Try.func46, Try.ntmps46
  go_wp2_with fail
  refine (new_any _).mono ?_
  rintro e w1 ⟨rfl, hS, hB⟩
  have SN := Lib.hid hS
  have BW := Lib.hid hB
  clear hS hB
  go_wp2_with fail
  refine (i_any x _).mono ?_
  rintro e w2 ⟨rfl, hI⟩
  replace SN := Lib.hid (SN.out.below hI)
  replace BW := Lib.hid (BW.out.trans (hI.mono BW.out.size))
  clear hI
  go_wp2_with fail
  refine (i_any y _).mono ?_
  rintro e w3 ⟨rfl, hI⟩
  replace SN := Lib.hid (SN.out.below hI)
  replace BW := Lib.hid (BW.out.trans (hI.mono BW.out.size))
  clear hI
  unfold leafI
  go_wp2_with fail
  obtain ⟨W4, hW4⟩ : ∃ W, W = w3.alloc (.cells #[.int .u8 2, .string ⟨#[]⟩, .int .i64 x, .slice none 0 0, .int .u8 2, .string ⟨#[]⟩, .int .i64 y, .slice none 0 0] 25) := ⟨_, rfl⟩
  rw [← hW4]
  obtain ⟨hI, hat⟩ := leaves_at hW4
  replace SN := Lib.hid (SN.out.below hI)
  replace BW := Lib.hid (BW.out.trans (hI.mono BW.out.size))
  clear hI hW4
  refine (F_any c (.cons 2 ⟨#[]⟩ x none 0 .nil (.cons 2 ⟨#[]⟩ y none 0 .nil .nil)) (by simp [Ts.size]) (leaves_ok (by omega) (by omega) HX.out HY.out) W4 _ 2 hat).mono ?_
  rintro e w5 ⟨us, q, d, rfl, hat6, htw6, hok6, hcl6, hpn6, hI⟩
  rw [if_neg (by simp [Ts.len])]
  unfold tv
  have ATX := Lib.hid hat6.at
  have RT := Lib.hid (rk_made (c := c) (q := q) (d := d) htw6)
  have OKX : Hid (Nd.ok ⟨4, c, 0, q, d, us⟩) := Lib.hid ndOk (by omega) HC.out (by omega) hcl6 hpn6 hok6
  have hsz : us.size ≤ 5000 := by rw [Ts.twin_size _ _ htw6]; simp [Ts.size]
  replace SN := Lib.hid (SN.out.below hI)
  replace BW := Lib.hid (BW.out.trans (hI.mono BW.out.size))
  clear hI hat hat6 htw6 hok6 hcl6 hpn6
  go_wp2_with fail
  refine (eval_gen w.heap.size Sb.none 0 w5 SN.out ⟨4, c, 0, q, d, us⟩ OKX.out ATX.out hsz).mono ?_
  rintro e w6 ⟨rfl, hI⟩
  rw [RT.out, rk_two c x y HJ.out]
  replace BW := Lib.hid (BW.out.trans (hI.mono BW.out.size))
  clear hI
  obtain ⟨R, hR⟩ : ∃ R, R = opR j x y := ⟨_, rfl⟩
  rw [← hR]
  obtain ⟨v, hv⟩ : ∃ v, v = if R.2 = 0 then R.1 else 0 := ⟨_, rfl⟩
  obtain ⟨k, hk⟩ : ∃ k, k = R.2 := ⟨_, rfl⟩
  have hans : ansOf R = .tuple #[.int .i64 v, .int .i64 k] := by rw [hv, hk]; rfl
  have HA := Lib.hid (hR ▸ hans : ansOf (opR j x y) = .tuple #[.int .i64 v, .int .i64 k])
  rw [hans]
  clear hans hv hk hR
  go_wp2
  go_ret2
  rw [HA.out]
  exact ⟨rfl, BW.out⟩

theorem q_quot : ansOf (opR 3 (-7) 2) = .tuple #[.int .i64 (-3), .int .i64 0] := rfl
theorem q_mod : ansOf (opR 5 (-7) 2) = .tuple #[.int .i64 1, .int .i64 0] := rfl
theorem q_rem : ansOf (opR 4 (-7) 2) = .tuple #[.int .i64 (-1), .int .i64 0] := rfl
theorem q_plus : ansOf (opR 0 9223372036854775807 1) = .tuple #[.int .i64 0, .int .i64 22] := by simp [opR, plusR, ansOf]
theorem q_zero : ansOf (opR 3 1 0) = .tuple #[.int .i64 0, .int .i64 23] := rfl

set_option maxRecDepth 100000 in
set_option maxHeartbeats 4000000 in
theorem wakes13_any (w : World) :
    Calls Try.prog 11 #[] w fun e w' => e = .returned (.bool true) ∧ Below w.heap.size w w' := by
  have BW := Lib.hid (Below.refl w.heap.size w)
  go_enter Try.func11, Try.ntmps11
  go_wp2_with fail
  refine (two_gen ⟨#[47, 47]⟩ (by decide) (-7) 2 (by unfold isI64; omega) (by unfold isI64; omega) (j := 3) rfl _).mono ?_
  rintro e w1 ⟨rfl, hI⟩
  rw [q_quot]
  replace BW := Lib.hid (BW.out.trans (hI.mono BW.out.size))
  clear hI
  go_wp2_with fail
  refine (two_gen ⟨#[109, 111, 100]⟩ (by decide) (-7) 2 (by unfold isI64; omega) (by unfold isI64; omega) (j := 5) rfl _).mono ?_
  rintro e w2 ⟨rfl, hI⟩
  rw [q_mod]
  replace BW := Lib.hid (BW.out.trans (hI.mono BW.out.size))
  clear hI
  go_wp2_with fail
  refine (two_gen ⟨#[114, 101, 109]⟩ (by decide) (-7) 2 (by unfold isI64; omega) (by unfold isI64; omega) (j := 4) rfl _).mono ?_
  rintro e w3 ⟨rfl, hI⟩
  rw [q_rem]
  replace BW := Lib.hid (BW.out.trans (hI.mono BW.out.size))
  clear hI
  go_wp2_with fail
  refine (two_gen ⟨#[43]⟩ (by decide) 9223372036854775807 1 (by unfold isI64; omega) (by unfold isI64; omega) (j := 0) rfl _).mono ?_
  rintro e w4 ⟨rfl, hI⟩
  rw [q_plus]
  replace BW := Lib.hid (BW.out.trans (hI.mono BW.out.size))
  clear hI
  go_wp2_with fail
  refine (two_gen ⟨#[47, 47]⟩ (by decide) 1 0 (by unfold isI64; omega) (by unfold isI64; omega) (j := 3) rfl _).mono ?_
  rintro e w5 ⟨rfl, hI⟩
  rw [q_zero]
  replace BW := Lib.hid (BW.out.trans (hI.mono BW.out.size))
  clear hI
  go_wp2_with fail
  refine (new_any _).mono ?_
  rintro e w6 ⟨rfl, hS, hI⟩
  have SN := Lib.hid hS
  replace BW := Lib.hid (BW.out.trans (hI.mono BW.out.size))
  clear hS hI
  go_wp2_with fail
  refine (i_any 1 _).mono ?_
  rintro e w7 ⟨rfl, hI⟩
  replace SN := Lib.hid (SN.out.below hI)
  replace BW := Lib.hid (BW.out.trans (hI.mono BW.out.size))
  clear hI
  go_wp2_with fail
  refine (v_any 0 _).mono ?_
  rintro e w8 ⟨rfl, hI⟩
  replace SN := Lib.hid (SN.out.below hI)
  replace BW := Lib.hid (BW.out.trans (hI.mono BW.out.size))
  clear hI
  unfold leafI leafV
  go_wp2_with fail
  obtain ⟨W4, hW4⟩ : ∃ W, W = w8.alloc (.cells #[.int .u8 2, .string ⟨#[]⟩, .int .i64 1, .slice none 0 0, .int .u8 1, .string ⟨#[]⟩, .int .i64 0, .slice none 0 0] 25) := ⟨_, rfl⟩
  rw [← hW4]
  obtain ⟨hI, hat⟩ := leaves_at hW4
  replace SN := Lib.hid (SN.out.below hI)
  replace BW := Lib.hid (BW.out.trans (hI.mono BW.out.size))
  clear hI hW4
  refine (F_any ⟨#[43]⟩ (.cons 2 ⟨#[]⟩ 1 none 0 .nil (.cons 1 ⟨#[]⟩ 0 none 0 .nil .nil)) (by simp [Ts.size]) (leaves_ok (by omega) (by omega) (by unfold isI64; omega) (by unfold isI64; omega)) W4 _ 2 hat).mono ?_
  rintro e w9 ⟨us, q, d, rfl, hat6, htw6, hok6, hcl6, hpn6, hI⟩
  rw [if_neg (by simp [Ts.len])]
  unfold tv
  have ATX := Lib.hid hat6.at
  have RT := Lib.hid (rk_made (c := ⟨#[43]⟩) (q := q) (d := d) htw6)
  have OKX : Hid (Nd.ok ⟨4, ⟨#[43]⟩, 0, q, d, us⟩) := Lib.hid ndOk (by omega) (by simp [ByteArray.size]) (by omega) hcl6 hpn6 hok6
  have hsz : us.size ≤ 5000 := by rw [Ts.twin_size _ _ htw6]; simp [Ts.size]
  replace SN := Lib.hid (SN.out.below hI)
  replace BW := Lib.hid (BW.out.trans (hI.mono BW.out.size))
  clear hI hat hat6 htw6 hok6 hcl6 hpn6
  go_wp2_with fail
  refine (eval_gen _ Sb.none 0 w9 SN.out ⟨4, ⟨#[43]⟩, 0, q, d, us⟩ OKX.out ATX.out hsz).mono ?_
  rintro e w10 ⟨rfl, hI⟩
  rw [RT.out, rk_two_var, show ansOf (0, 20) = .tuple #[.int .i64 0, .int .i64 20] from rfl]
  replace BW := Lib.hid (BW.out.trans (hI.mono BW.out.size))
  clear hI SN RT ATX OKX
  go_wp2_with fail
  refine (new_any _).mono ?_
  rintro e w11 ⟨rfl, hS, hI⟩
  have SN := Lib.hid hS
  replace BW := Lib.hid (BW.out.trans (hI.mono BW.out.size))
  clear hS hI
  go_wp2_with fail
  refine (a_any ⟨#[97]⟩ _).mono ?_
  rintro e w12 ⟨rfl, hI⟩
  replace SN := Lib.hid (SN.out.below hI)
  replace BW := Lib.hid (BW.out.trans (hI.mono BW.out.size))
  clear hI
  unfold leafA
  go_wp2_with fail
  refine (eval_gen _ Sb.none 0 w12 SN.out ⟨3, ⟨#[97]⟩, 0, none, 0, .nil⟩ (ndOk (by omega) (by simp [ByteArray.size]) (by omega) (by simp [Ts.len]) (fun _ => rfl) trivial) (nil_at _) (by simp [Ts.size])).mono ?_
  rintro e w13 ⟨rfl, hI⟩
  rw [rk_atom, show ansOf (0, 21) = .tuple #[.int .i64 0, .int .i64 21] from rfl]
  replace BW := Lib.hid (BW.out.trans (hI.mono BW.out.size))
  clear hI SN
  go_wp2
  go_ret
  exact ⟨rfl, BW.out⟩

end Go.Proofs.Ytnmhnaanpjlniaa
/-
  Layer 13: the law ArithApplied: its plain facts.
-/
namespace Go.Proofs.Ytnmhnaanpjlniaa
open Go.RowKit

/-- taken negative -/
def negN (x : Nd) : Nd := ⟨4, ⟨#[45]⟩, 0, none, 0, .cons x.k x.s x.n x.p x.c x.kids .nil⟩

theorem rk_neg (σ : Sb) (f r : Nat) (x : Nd) (hr : 0 < r) : rk σ (f + 1) r (negN x) = rkOp (rk σ f) (r - 1) (some 6) [x] := by
  have hw : wk σ (negN x) = negN x := wk_stop (.inl rfl)
  have ho : opOf (negN x) = some 6 := by
    unfold opOf
    rw [if_pos (by rfl)]
    show opIdx (funKey (opSyms 6) (opAr 6)) = some 6
    exact opIdx_self 6 (by decide)
  rw [rk_succ, hw, if_neg (by omega), if_neg (by simp [negN]), if_neg (by simp [negN]), ho]
  rfl

theorem rkOp_bad {rec : Nat → Nd → (Int × Int) × Nat} {r j : Nat} {a : Nd} (h : (rec r a).1.2 ≠ 0) : rkOp rec r (some j) [a] = ((0, (rec r a).1.2), (rec r a).2) := by
  simp only [rkOp]
  rw [if_pos h]
theorem rkOp_good {rec : Nat → Nd → (Int × Int) × Nat} {r j : Nat} {a : Nd} (h : (rec r a).1.2 = 0) : rkOp rec r (some j) [a] = (opR j 0 (rec r a).1.1, (rec r a).2) := by
  simp only [rkOp]
  rw [if_neg (by simpa using h)]

theorem third_is {σ : Sb} {t : Nd} {R : Int × Int} (hR : R = (rk σ 4096 4096 t).1) (h64 : isI64 R.1) :
    (rk σ 4096 4096 (negN (negN t))).1 = (0, 31) ∨ (R.2 ≠ 0 ∧ (rk σ 4096 4096 (negN (negN t))).1 = (0, R.2)) ∨ (R.2 = 0 ∧ R.1 ≠ -9223372036854775808 ∧ (rk σ 4096 4096 (negN (negN t))).1 = (R.1, 0)) ∨ (R.2 = 0 ∧ R.1 = -9223372036854775808 ∧ (rk σ 4096 4096 (negN (negN t))).1 = (0, 22)) := by
  have h1 := rk_neg σ 4095 4096 (negN t) (by omega)
  have h2 := rk_neg σ 4094 4095 t (by omega)
  have h3 : Less 2 (rk σ 4094 (4095 - 1) t) (rk σ 4096 4096 t) := rk_less σ 4094 4094 4096 2 t rfl
  obtain ⟨T, hT⟩ : ∃ T, T = (rk σ 4096 4096 (negN (negN t))).1 := ⟨_, rfl⟩
  have h1' : T = (rkOp (rk σ 4095) (4096 - 1) (some 6) [negN t]).1 := by rw [hT]; exact congrArg Prod.fst h1
  rw [← hT]
  clear h1 hT
  by_cases hp : (rk σ 4094 (4095 - 1) t).1.2 = 0
  · rw [rkOp_good hp] at h2
    rcases h3 with h4 | ⟨h4, _⟩
    · rw [h4] at hp; cases hp
    · rw [← hR] at h4
      rw [h4] at h2 hp
      unfold isI64 at h64
      by_cases hm : R.1 = -9223372036854775808
      · refine .inr (.inr (.inr ⟨hp, hm, ?_⟩))
        have e : opR 6 0 R.1 = (0, 22) := by simp only [opR, minusR]; rw [if_neg (by omega)]
        rw [e] at h2
        rw [rkOp_bad (by rw [show (4096 - 1 : Nat) = 4095 from rfl, show rk σ 4095 4095 (negN t) = rk σ (4094 + 1) 4095 (negN t) from rfl, h2]; simp)] at h1'
        rw [h1', show (4096 - 1 : Nat) = 4095 from rfl, show rk σ 4095 4095 (negN t) = rk σ (4094 + 1) 4095 (negN t) from rfl, h2]
      · refine .inr (.inr (.inl ⟨hp, hm, ?_⟩))
        have e : opR 6 0 R.1 = (-R.1, 0) := by simp only [opR, minusR]; rw [if_pos (by omega), Int.zero_sub]
        rw [e] at h2
        rw [rkOp_good (by rw [show (4096 - 1 : Nat) = 4095 from rfl, show rk σ 4095 4095 (negN t) = rk σ (4094 + 1) 4095 (negN t) from rfl, h2])] at h1'
        rw [h1', show (4096 - 1 : Nat) = 4095 from rfl, show rk σ 4095 4095 (negN t) = rk σ (4094 + 1) 4095 (negN t) from rfl, h2]
        simp only [opR, minusR]
        rw [if_pos (by omega)]
        simp
  · rw [rkOp_bad hp] at h2
    rw [rkOp_bad (by rw [show (4096 - 1 : Nat) = 4095 from rfl, show rk σ 4095 4095 (negN t) = rk σ (4094 + 1) 4095 (negN t) from rfl, h2]; exact hp)] at h1'
    rw [show (4096 - 1 : Nat) = 4095 from rfl, show rk σ 4095 4095 (negN t) = rk σ (4094 + 1) 4095 (negN t) from rfl, h2] at h1'
    rcases h3 with h4 | ⟨h4, _⟩
    · rw [h4] at h1'; exact .inl h1'
    · rw [← hR] at h4
      rw [h4] at h1' hp
      exact .inr (.inl ⟨hp, h1'⟩)

theorem bGreat_1000 {l : List (Int × Nd)} {t : Nd} (h : bGreat l t = false) : t.kids.size ≤ 1000 := by
  unfold bGreat at h
  by_cases h40 : 40 < l.length
  · rw [if_pos h40] at h; cases h
  · rw [if_neg h40] at h
    have := small_of_many (ts := .cons t.k t.s t.n t.p t.c t.kids (bsTs l)) (by simpa using h)
    simp only [Ts.size] at this
    omega

theorem third_made {σ : Sb} (hE : Ends σ) {t : Nd} {q1 q2 : Option Addr} {d1 d2 : Nat} {us1 us2 : Ts} (h1 : Ts.twin us1 (.cons t.k t.s t.n t.p t.c t.kids .nil)) (h2 : Ts.twin us2 (.cons 4 ⟨#[45]⟩ 0 q1 d1 us1 .nil)) : rk σ 4096 4096 ⟨4, ⟨#[45]⟩, 0, q2, d2, us2⟩ = rk σ 4096 4096 (negN (negN t)) :=
  rk_tw (STw.refl σ) hE 4096 4096 ⟨rfl, rfl, rfl, twin_trans h2 ⟨rfl, rfl, rfl, h1, trivial⟩⟩

theorem oneAtN {w W : World} {k : Int} {s : ByteArray} {n : Int} {p : Option Addr} {c : Nat} {ks : Ts} (h : W = w.alloc (.cells #[.int .u8 k, .string s, .int .i64 n, .slice p ks.len c] 25)) (hat : Ts.At w p ks) : Below w.heap.size w W ∧ Ts.At W (some ⟨w.heap.size, 0, none⟩) (.cons k s n p c ks .nil) := by
  obtain ⟨W', hW, _, hB, hc⟩ := box1 w #[.int .u8 k, .string s, .int .i64 n, .slice p ks.len c] 25
  rw [← hW] at h
  subst h
  exact ⟨hB, lies_one rfl hc (hat.below hB)⟩

/-- what Apply tells -/
def ApG (σ : Sb) (t X : Nd) (G : Int) (w : World) : Prop :=
  ((vis σ 4097 [t]).length = 4097 ∧ X = ⟨0, ⟨#[]⟩, 0, none, 0, .nil⟩ ∧ G = 31) ∨ ((vis σ 4097 [t]).length ≤ 4096 ∧ G = 0 ∧ Ap σ t X ∧ Ts.At w X.p X.kids)

theorem ApG.below {σ : Sb} {t X : Nd} {G : Int} {w w' : World} (h : ApG σ t X G w) (hB : Below w.heap.size w w') : ApG σ t X G w' := by
  rcases h with h | ⟨h1, h2, h3, h4⟩
  · exact .inl h
  · exact .inr ⟨h1, h2, h3, h4.below hB⟩

theorem Applied.formG {σ : Sb} {t : Nd} {B : Nat} {e : Ending} {w' : World} (h : Applied σ t B e w') : ∃ (X : Nd) (G : Int), e = .returned (.tuple #[.agg #[.int .u8 X.k, .string X.s, .int .i64 X.n, .slice X.p X.kids.len X.c], .int .i64 G]) ∧ ApG σ t X G w' := by
  rcases h.cases with ⟨h1, h2⟩ | ⟨h1, X, h2, h3, h4⟩
  · exact ⟨⟨0, ⟨#[]⟩, 0, none, 0, .nil⟩, 31, h2, .inl ⟨h1, rfl, rfl⟩⟩
  · exact ⟨X, 0, h2, .inr ⟨h1, rfl, h3, h4.at⟩⟩

end Go.Proofs.Ytnmhnaanpjlniaa
