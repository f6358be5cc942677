import Derived.Test.YtflomdnjabgnaaaAm
import Derived.Test.YtflomdnjabgnaaaTs
import Derived.Test.YtflomdnjabgnaaaAt
/-
  Layer 3: a substitution that is known: the law's wakes. (Written by gen_an.py.)
-/
namespace Go.Proofs.Ytflomdnjabgnaaa
open Go.RowKit

/-- a term that is like a known one -/
def Lk (k : Int) (s : ByteArray) (n : Int) (ts : Ts) (v : Value) (w : World) : Prop := ∃ us q d, v = tv k s n q us.len d ∧ Ts.At w q us ∧ Ts.twin us ts ∧ us.ok ∧ (us.len ≤ d ∧ d ≤ 9223372036854775807) ∧ (q = none → d = 0)

theorem Lk.stable (k : Int) (s : ByteArray) (n : Int) (ts : Ts) : Stable (Lk k s n ts) := fun _v _w _w' ⟨us, q, d, h1, h2, h3⟩ hB => ⟨us, q, d, h1, h2.below hB, h3⟩

theorem nd_ok {k : Int} {s : ByteArray} {n : Int} {p : Option Addr} {c : Nat} {kids : Ts} (hk : 0 ≤ k ∧ k ≤ 255) (hs : s.size ≤ 140737488351232) (hn : -9223372036854775808 ≤ n ∧ n ≤ 9223372036854775807) (hc : kids.len ≤ c ∧ c ≤ 9223372036854775807) (hp : p = none → c = 0) (ho : kids.ok) : Nd.ok ⟨k, s, n, p, c, kids⟩ :=
  ⟨hk, hs, hn, hc, hp, ho, trivial⟩

theorem twin_v1 {us : Ts} {n : Int} (h : Ts.twin us (.cons 1 ⟨#[]⟩ n none 0 .nil .nil)) : ∃ p c, us = .cons 1 ⟨#[]⟩ n p c .nil .nil := by
  cases us with
  | nil => exact h.elim
  | cons k s m p c ks r =>
    obtain ⟨rfl, rfl, rfl, h1, h2⟩ := h
    cases ks with
    | cons => exact h1.elim
    | nil =>
      cases r with
      | cons => exact h2.elim
      | nil => exact ⟨p, c, rfl⟩

theorem twin_v2 {us : Ts} {n m : Int} (h : Ts.twin us (.cons 1 ⟨#[]⟩ n none 0 .nil (.cons 1 ⟨#[]⟩ m none 0 .nil .nil))) : ∃ p c p' c', us = .cons 1 ⟨#[]⟩ n p c .nil (.cons 1 ⟨#[]⟩ m p' c' .nil .nil) := by
  cases us with
  | nil => exact h.elim
  | cons k s m p c ks r =>
    obtain ⟨rfl, rfl, rfl, h1, h2⟩ := h
    cases ks with
    | cons => exact h1.elim
    | nil =>
      obtain ⟨p', c', rfl⟩ := twin_v1 h2
      exact ⟨p, c, p', c', rfl⟩

/-- a structure of one variable that is not bound -/
theorem bind_str {σ : Sb} {v n : Int} {s s' : ByteArray} {p p' : Option Addr} {c c' : Nat} (hv : ¬ v < 0) (h0 : σ v = none) (h1 : σ n = none) (hne : n ≠ v) : bindE σ v ⟨4, s, 0, p, c, .cons 1 s' n p' c' .nil .nil⟩ = 0 := by
  have w1 : wk σ ⟨4, s, 0, p, c, .cons 1 s' n p' c' .nil .nil⟩ = ⟨4, s, 0, p, c, .cons 1 s' n p' c' .nil .nil⟩ := wk_stop (.inl rfl)
  have w2 : wk σ ⟨1, s', n, p', c', .nil⟩ = ⟨1, s', n, p', c', .nil⟩ := wk_stop (.inr h1)
  have ho : occ v (num 0 (vis σ 4097 [⟨4, s, 0, p, c, .cons 1 s' n p' c' .nil .nil⟩])) = (false, 0) := by
    simp [vis, w1, elems, w2, num, occ, hne]
  unfold bindE
  rw [if_neg hv, if_neg (by rw [h0]; simp), ho]
  simp

/-- a structure of the variable itself -/
theorem bind_own {σ : Sb} {v : Int} {s s' : ByteArray} {p p' : Option Addr} {c c' : Nat} (hv : ¬ v < 0) (h0 : σ v = none) : bindE σ v ⟨4, s, 0, p, c, .cons 1 s' v p' c' .nil .nil⟩ = 1 := by
  have w1 : wk σ ⟨4, s, 0, p, c, .cons 1 s' v p' c' .nil .nil⟩ = ⟨4, s, 0, p, c, .cons 1 s' v p' c' .nil .nil⟩ := wk_stop (.inl rfl)
  have w2 : wk σ ⟨1, s', v, p', c', .nil⟩ = ⟨1, s', v, p', c', .nil⟩ := wk_stop (.inr h0)
  have ho : occ v (num 0 (vis σ 4097 [⟨4, s, 0, p, c, .cons 1 s' v p' c' .nil .nil⟩])) = (true, 0) := by
    simp [vis, w1, elems, w2, num, occ]
  unfold bindE
  rw [if_neg hv, if_neg (by rw [h0]; simp), ho]
  simp

/-- an atom -/
theorem bind_atom {σ : Sb} {v : Int} {s : ByteArray} {p : Option Addr} {c : Nat} (hv : ¬ v < 0) (h0 : σ v = none) : bindE σ v ⟨3, s, 0, p, c, .nil⟩ = 0 := by
  have w1 : wk σ ⟨3, s, 0, p, c, .nil⟩ = ⟨3, s, 0, p, c, .nil⟩ := wk_stop (.inl rfl)
  have ho : occ v (num 0 (vis σ 4097 [⟨3, s, 0, p, c, .nil⟩])) = (false, 0) := by
    simp [vis, w1, elems, num, occ]
  unfold bindE
  rw [if_neg hv, if_neg (by rw [h0]; simp), ho]
  simp

theorem bind_bound {σ : Sb} {v : Int} {x t : Nd} (hv : ¬ v < 0) (h0 : σ v = some x) : bindE σ v t = 1 := by
  unfold bindE
  rw [if_neg hv, if_pos (by rw [h0]; rfl)]

/-- what is known: 0 is bound to f(V1), 1 to a -/
structure Known (σ : Sb) (x1 x2 : Nd) : Prop where
  b0 : σ 0 = some x1
  b1 : σ 1 = some x2
  b2 : σ 2 = none
  k1 : x1.k = 4
  s1 : x1.s = ⟨#[102]⟩
  n1 : x1.n = 0
  ks1 : ∃ s p c, x1.kids = .cons 1 s 1 p c .nil .nil
  k2 : x2.k = 3
  s2 : x2.s = ⟨#[97]⟩
  n2 : x2.n = 0
  ks2 : x2.kids = .nil

theorem Known.walk {σ : Sb} {x1 x2 : Nd} (h : Known σ x1 x2) {s : ByteArray} {p : Option Addr} {c : Nat} {ks : Ts} : wk σ ⟨1, s, 0, p, c, ks⟩ = x1 := wk_eq (.go rfl h.b0 (.stop (.inl (by rw [h.k1]; rfl))))
theorem Known.walk1 {σ : Sb} {x1 x2 : Nd} (h : Known σ x1 x2) {s : ByteArray} {p : Option Addr} {c : Nat} {ks : Ts} : wk σ ⟨1, s, 1, p, c, ks⟩ = x2 := wk_eq (.go rfl h.b1 (.stop (.inl (by rw [h.k2]; rfl))))
theorem Known.walk2 {σ : Sb} {x1 x2 : Nd} (h : Known σ x1 x2) {s : ByteArray} {p : Option Addr} {c : Nat} {ks : Ts} : wk σ ⟨1, s, 2, p, c, ks⟩ = ⟨1, s, 2, p, c, ks⟩ := wk_stop (.inr h.b2)

theorem Known.vis {σ : Sb} {x1 x2 : Nd} (h : Known σ x1 x2) {s : ByteArray} {p pa pb : Option Addr} {c ca cb : Nat} : (vis σ 4097 [⟨4, s, 0, p, c, .cons 1 ⟨#[]⟩ 0 pa ca .nil (.cons 1 ⟨#[]⟩ 2 pb cb .nil .nil)⟩]).length = 4 := by
  obtain ⟨s1, p1, c1, hk⟩ := h.ks1
  have w0 : wk σ ⟨4, s, 0, p, c, .cons 1 ⟨#[]⟩ 0 pa ca .nil (.cons 1 ⟨#[]⟩ 2 pb cb .nil .nil)⟩ = ⟨4, s, 0, p, c, .cons 1 ⟨#[]⟩ 0 pa ca .nil (.cons 1 ⟨#[]⟩ 2 pb cb .nil .nil)⟩ := wk_stop (.inl rfl)
  simp [_root_.Go.Proofs.Ytflomdnjabgnaaa.vis, w0, elems, h.walk, hk, h.walk1, h.ks2, h.walk2]

theorem Known.app {σ : Sb} {x1 x2 : Nd} (h : Known σ x1 x2) {pa pb : Option Addr} {ca cb : Nat} : App σ (elems (.cons 1 ⟨#[]⟩ 0 pa ca .nil (.cons 1 ⟨#[]⟩ 2 pb cb .nil .nil))) (.cons 4 ⟨#[102]⟩ 0 none 0 (.cons 3 ⟨#[97]⟩ 0 none 0 .nil .nil) (.cons 1 ⟨#[]⟩ 2 none 0 .nil .nil)) := by
  obtain ⟨s1, p1, c1, hk⟩ := h.ks1
  have e3 : App σ [⟨1, ⟨#[]⟩, 2, pb, cb, .nil⟩] (.cons 1 ⟨#[]⟩ 2 none 0 .nil .nil) := by
    have := App.cons (σ := σ) (t := ⟨1, ⟨#[]⟩, 2, pb, cb, .nil⟩) (p := none) (c := 0) (ks := .nil) (rs := .nil) (by rw [h.walk2]; exact .nil) .nil
    rw [h.walk2] at this
    exact this
  have e2 : App σ (elems (.cons 1 s1 1 p1 c1 .nil .nil)) (.cons 3 ⟨#[97]⟩ 0 none 0 .nil .nil) := by
    have := App.cons (σ := σ) (t := ⟨1, s1, 1, p1, c1, .nil⟩) (p := none) (c := 0) (ks := .nil) (rs := .nil) (by rw [h.walk1, h.ks2]; exact .nil) .nil
    rw [h.walk1, h.k2, h.s2, h.n2] at this
    exact this
  have := App.cons (σ := σ) (t := ⟨1, ⟨#[]⟩, 0, pa, ca, .nil⟩) (p := none) (c := 0) (by rw [h.walk, hk]; exact e2) e3
  rw [h.walk, h.k1, h.s1, h.n1] at this
  exact this

theorem alike_known {us vs : Ts} (h : Ts.twin us (.cons 4 ⟨#[102]⟩ 0 none 0 (.cons 3 ⟨#[97]⟩ 0 none 0 .nil .nil) (.cons 1 ⟨#[]⟩ 2 none 0 .nil .nil))) (h' : Ts.twin vs (.cons 4 ⟨#[102]⟩ 0 none 0 (.cons 3 ⟨#[97]⟩ 0 none 0 .nil .nil) (.cons 1 ⟨#[]⟩ 2 none 0 .nil .nil))) : alike us vs = true := by
  rw [twin_alike_both h h']
  decide +kernel

set_option maxRecDepth 100000 in
set_option maxHeartbeats 20000000 in
theorem wakes3_any (w : World) : Calls Try.prog 16 #[] w fun e w' => e = .returned (.bool true) ∧ Below w.heap.size w w' := by
  go_enter Try.func16, Try.ntmps16
  have nilat : ∀ W : World, Ts.At W none .nil := fun _ => ⟨0, 0, .inl rfl, trivial⟩
  go_wp2_with fail
  refine (new_any w).mono ?_
  rintro e w0 ⟨rfl, hS, BW⟩
  have SS := Lib.hid hS
  clear hS
  go_wp2_with fail
  refine (V_any 1 _).mono ?_
  rintro e w1 ⟨rfl, hB⟩
  unfold tv
  replace BW := BW.trans (hB.mono BW.size)
  replace SS := Lib.hid (SS.out.below hB)
  clear hB
  go_wp2_with fail
  obtain ⟨W2, hW2, hsW2, hB, hcW2⟩ := box1 w1 #[Value.int IntKind.u8 1, Value.string { data := #[] }, Value.int IntKind.i64 1, Value.slice none 0 0] 24
  rw [← hW2]
  have ZW2 := Lib.hid hW2
  have CW2 := Lib.hid hcW2
  clear hW2 hsW2 hcW2
  replace BW := BW.trans (hB.mono BW.size)
  replace SS := Lib.hid (SS.out.below hB)
  clear hB
  refine (F_any ⟨#[102]⟩ (.cons 1 ⟨#[]⟩ 1 none 0 .nil .nil) (by simp [Ts.size]) (by simp [Ts.ok, Ts.len, ByteArray.size]) W2 _ 1 (lies_one rfl CW2.out (nilat _))).mono ?_
  rintro e w3 ⟨us1, p1, c1, rfl, hat, htw, hok, hcl1, hpn1, hB⟩
  rw [if_neg (by simp [Ts.len])]
  unfold tv
  replace BW := BW.trans (hB.mono BW.size)
  replace SS := Lib.hid (SS.out.below hB)
  clear hB
  have AT1 := Lib.hid hat.at
  have TW1 := Lib.hid htw
  have OK1 := Lib.hid hok
  clear hat htw hok
  obtain ⟨pv, cv, hus⟩ := twin_v1 TW1.out
  have U1 := Lib.hid hus
  clear hus
  go_wp2_with fail
  refine (bind_any w.heap.size Sb.none 0 w3 SS.out (by omega) 0 (by omega) ⟨4, ⟨#[102]⟩, 0, p1, c1, us1⟩ (nd_ok (by omega) (by simp [ByteArray.size]) (by omega) hcl1 hpn1 OK1.out) AT1.out (by show us1.size ≤ 5000; rw [U1.out]; simp [Ts.size])).mono ?_
  rintro e w4 hb
  have hz : bindE Sb.none 0 ⟨4, ⟨#[102]⟩, 0, p1, c1, us1⟩ = 0 := by rw [U1.out]; exact bind_str (by omega) rfl rfl (by omega)
  have he := hb.out
  rw [hz] at he
  subst he
  obtain ⟨x1, htw1, hS, -⟩ := hb.yes hz
  have hBb : Below w.heap.size w w4 := BW.grown hb.grown BW.size (fun r e => by cases e; exact Nat.le_refl _)
  replace BW := hBb
  replace SS := Lib.hid hS
  have X1 := Lib.hid htw1
  clear hb hz hS hBb htw1 AT1
  go_wp2_with fail
  refine (A_any ⟨#[97]⟩ _).mono ?_
  rintro e w5 ⟨rfl, hB⟩
  unfold tv
  replace BW := BW.trans (hB.mono BW.size)
  replace SS := Lib.hid (SS.out.below hB)
  clear hB
  go_wp2_with fail
  refine (bind_any w.heap.size (Sb.none.put 0 x1) (0 + 1) w5 SS.out (by omega) 1 (by omega) ⟨3, ⟨#[97]⟩, 0, none, 0, .nil⟩ (nd_ok (by omega) (by simp [ByteArray.size]) (by omega) ⟨Nat.le_refl _, by omega⟩ (fun _ => rfl) trivial) (nilat _) (by simp [Ts.size])).mono ?_
  rintro e w6 hb
  have hz : bindE (Sb.none.put 0 x1) 1 ⟨3, ⟨#[97]⟩, 0, none, 0, .nil⟩ = 0 := bind_atom (by omega) (by rw [Sb.put_other (by omega)]; rfl)
  have he := hb.out
  rw [hz] at he
  subst he
  obtain ⟨x2, htw2, hS, -⟩ := hb.yes hz
  have hBb : Below w.heap.size w w6 := BW.grown hb.grown BW.size (fun r e => by cases e; exact Nat.le_refl _)
  replace BW := hBb
  have hkn : Known ((Sb.none.put 0 x1).put 1 x2) x1 x2 := by
    obtain ⟨a1, a2, a3, a4⟩ := X1.out
    obtain ⟨b1, b2, b3, b4⟩ := htw2
    simp only at a1 a2 a3 a4 b1 b2 b3 b4
    refine ⟨by rw [Sb.put_other (by omega), Sb.put_same], Sb.put_same _ _ _, by rw [Sb.put_other (by omega), Sb.put_other (by omega)]; rfl, a1, a2, a3, ?_, b1, b2, b3, ?_⟩
    · rw [U1.out] at a4
      obtain ⟨xk, xs, xn, xp, xc, xK⟩ := x1
      simp only at a4 ⊢
      cases xK with
      | nil => exact a4.elim
      | cons k s m p c ks r =>
        obtain ⟨rfl, rfl, rfl, h1, h2⟩ := a4
        cases ks with
        | cons => exact h1.elim
        | nil =>
          cases r with
          | cons => exact h2.elim
          | nil => exact ⟨_, p, c, rfl⟩
    · obtain ⟨xk, xs, xn, xp, xc, xK⟩ := x2
      simp only at b4 ⊢
      cases xK with
      | nil => rfl
      | cons => exact b4.elim
  obtain ⟨σ, hσ⟩ : ∃ σ, σ = (Sb.none.put 0 x1).put 1 x2 := ⟨_, rfl⟩
  rw [← hσ] at hS hkn
  replace SS := Lib.hid hS
  have KN := Lib.hid hkn
  clear hb hz hS hBb htw2 X1 hkn hσ
  go_wp2_with fail
  refine (V_any 0 _).mono ?_
  rintro e w7 ⟨rfl, hB⟩
  unfold tv
  replace BW := BW.trans (hB.mono BW.size)
  replace SS := Lib.hid (SS.out.below hB)
  clear hB
  go_wp2_with fail
  refine (V_any 2 _).mono ?_
  rintro e w8 ⟨rfl, hB⟩
  unfold tv
  replace BW := BW.trans (hB.mono BW.size)
  replace SS := Lib.hid (SS.out.below hB)
  clear hB
  go_wp2_with fail
  obtain ⟨W9, hW9, hsW9, hB, hcW9⟩ := box1 w8 #[Value.int IntKind.u8 1, Value.string { data := #[] }, Value.int IntKind.i64 0, Value.slice none 0 0, Value.int IntKind.u8 1, Value.string { data := #[] }, Value.int IntKind.i64 2, Value.slice none 0 0] 24
  rw [← hW9]
  have ZW9 := Lib.hid hW9
  have CW9 := Lib.hid hcW9
  clear hW9 hsW9 hcW9
  replace BW := BW.trans (hB.mono BW.size)
  replace SS := Lib.hid (SS.out.below hB)
  clear hB
  refine (F_any ⟨#[103]⟩ (.cons 1 ⟨#[]⟩ 0 none 0 .nil (.cons 1 ⟨#[]⟩ 2 none 0 .nil .nil)) (by simp [Ts.size]) (by simp [Ts.ok, Ts.len, ByteArray.size]) W9 _ 2 (lies_two rfl CW9.out (nilat _) (nilat _))).mono ?_
  rintro e w10 ⟨us2, p2, c2, rfl, hat, htw, hok, hcl2, hpn2, hB⟩
  rw [if_neg (by simp [Ts.len])]
  unfold tv
  replace BW := BW.trans (hB.mono BW.size)
  replace SS := Lib.hid (SS.out.below hB)
  clear hB
  have AT2 := Lib.hid hat.at
  have TW2 := Lib.hid htw
  have OK2 := Lib.hid hok
  clear hat htw hok
  obtain ⟨pa, ca, pb, cb, hus⟩ := twin_v2 TW2.out
  have U2 := Lib.hid hus
  clear hus
  go_wp2_with fail
  refine (apply_any w.heap.size σ (0 + 1 + 1) w10 SS.out ⟨4, ⟨#[103]⟩, 0, p2, c2, us2⟩ (nd_ok (by omega) (by simp [ByteArray.size]) (by omega) hcl2 hpn2 OK2.out) AT2.out (by show us2.size ≤ 5000; rw [U2.out]; simp [Ts.size])).mono ?_
  rintro e w11 ⟨hap, hB⟩
  replace BW := BW.trans (hB.mono BW.size)
  replace SS := Lib.hid (SS.out.below hB)
  replace AT2 := Lib.hid (AT2.out.below hB)
  clear hB
  obtain ⟨usA, qA, he, hatA, happ, hokA, hqA⟩ : ∃ us q, e = .returned (.tuple #[tv 4 ⟨#[103]⟩ 0 q us.len us.len, .int .i64 0]) ∧ Ts.At w11 q us ∧ Ts.twin us (.cons 4 ⟨#[102]⟩ 0 none 0 (.cons 3 ⟨#[97]⟩ 0 none 0 .nil .nil) (.cons 1 ⟨#[]⟩ 2 none 0 .nil .nil)) ∧ us.ok ∧ (q = none → us.len = 0) := by
    rcases hap with ⟨h1, _⟩ | ⟨_, us, q, h1, h2, h3, h4, h5⟩
    · rw [U2.out, KN.out.vis] at h1; omega
    · rw [wk_stop (.inl rfl)] at h1 h3
      simp only at h1 h3
      rw [U2.out] at h3
      exact ⟨us, q, h1, h2.at, h3.twin KN.out.app, h4, h5⟩
  subst he
  unfold tv
  have ATA := Lib.hid hatA
  have TWA := Lib.hid happ
  have OKA := Lib.hid hokA
  have QA := Lib.hid hqA
  clear hap hatA happ hokA hqA AT2
  go_upto_region 5 with fail
  obtain ⟨W12, hW12⟩ : ∃ W12, W12 = w11.alloc (.cells #[.int .u8 4, .string ⟨#[103]⟩, .int .i64 0, .slice qA usA.len usA.len] 24) := ⟨_, rfl⟩
  rw [← hW12]
  have hX2 : BoxIs w11.heap.size ⟨4, ⟨#[103]⟩, 0, qA, usA.len, usA⟩ W12 := by rw [hW12]; exact BoxIs.new w11 ⟨4, ⟨#[103]⟩, 0, qA, usA.len, usA⟩ _
  have hB : Below w11.heap.size w11 W12 := by rw [hW12]; exact (Below.refl _ _).alloc (Nat.le_refl _) _
  have ZW12 := Lib.hid hW12
  clear hW12
  replace BW := BW.trans (hB.mono BW.size)
  replace SS := Lib.hid (SS.out.below hB)
  replace ATA := Lib.hid (ATA.out.below hB)
  clear hB
  have BX2 := Lib.hid hX2
  clear hX2
  go_wp2_with fail
  refine (V_any 0 _).mono ?_
  rintro e w13 ⟨rfl, hB⟩
  unfold tv
  replace BW := BW.trans (hB.mono BW.size)
  replace SS := Lib.hid (SS.out.below hB)
  replace ATA := Lib.hid (ATA.out.below hB)
  replace BX2 := Lib.hid (BX2.out.below hB)
  clear hB
  go_wp2_with fail
  refine (walk_any w.heap.size σ (0 + 1 + 1) w13 SS.out ⟨1, ⟨#[]⟩, 0, none, 0, .nil⟩ (nd_ok (by omega) (by simp [ByteArray.size]) (by omega) ⟨Nat.le_refl _, by omega⟩ (fun _ => rfl) trivial) (nilat _) (by simp [Ts.size])).mono ?_
  rintro e w14 ⟨v, rfl, hcl, hB⟩
  replace BW := BW.trans (hB.mono BW.size)
  replace SS := Lib.hid (SS.out.below hB)
  replace ATA := Lib.hid (ATA.out.below hB)
  replace BX2 := Lib.hid (BX2.out.below hB)
  clear hB
  rw [KN.out.walk] at hcl
  obtain ⟨usW, qW, dW, hvW, -, -, -, -, -⟩ := hcl
  rw [KN.out.k1, KN.out.s1, KN.out.n1] at hvW
  unfold tv at hvW
  subst hvW
  go_upto_region 6 with fail
  obtain ⟨W15, hW15⟩ : ∃ W15, W15 = w14.alloc (.cells #[.int .u8 4, .string ⟨#[102]⟩, .int .i64 0, .slice qW usW.len dW] 24) := ⟨_, rfl⟩
  rw [← hW15]
  have hX4 : W15.cell? ⟨w14.heap.size, 1, none⟩ = some (.string ⟨#[102]⟩) := by rw [hW15, _root_.Go.Joins.cell_alloc_mark_at _ _ _ _ _ 1 rfl]; rfl
  have hB : Below w14.heap.size w14 W15 := by rw [hW15]; exact (Below.refl _ _).alloc (Nat.le_refl _) _
  have hl4 : w14.heap.size < W15.heap.size := World.block_lt_of_cell? _ _ hX4
  have ZW15 := Lib.hid hW15
  clear hW15
  replace BW := BW.trans (hB.mono BW.size)
  replace SS := Lib.hid (SS.out.below hB)
  replace ATA := Lib.hid (ATA.out.below hB)
  replace BX2 := Lib.hid (BX2.out.below hB)
  clear hB
  have C4 := Lib.hid hX4
  clear hX4
  refine region_by_facts (fun W_ => Below W15.heap.size W15 W_) [fun u _ => u = .int .i64 0, fun u _ => u = .bool true, fun u _ => u = .bool true, fun u _ => u = .agg #[.int .u8 4, .string ⟨#[103]⟩, .int .i64 0, .slice qA usA.len usA.len], fun u _ => u = .agg #[.int .u8 3, .string ⟨#[97]⟩, .int .i64 0, .slice none 0 0], fun u W => ∃ b, u = .slice (some ⟨b, 0, none⟩) 1 1 ∧ Ts.At W (some ⟨b, 0, none⟩) (.cons 3 ⟨#[97]⟩ 0 none 0 .nil .nil), Lk 4 ⟨#[102]⟩ 0 (.cons 3 ⟨#[97]⟩ 0 none 0 .nil .nil), fun u _ => u = .agg #[.int .u8 1, .string ⟨#[]⟩, .int .i64 2, .slice none 0 0], fun u W => ∃ b us q d, u = .slice (some ⟨b, 0, none⟩) 2 2 ∧ Ts.At W (some ⟨b, 0, none⟩) (.cons 4 ⟨#[102]⟩ 0 q d us (.cons 1 ⟨#[]⟩ 2 none 0 .nil .nil)) ∧ Ts.twin us (.cons 3 ⟨#[97]⟩ 0 none 0 .nil .nil) ∧ us.ok ∧ (us.len ≤ d ∧ d ≤ 9223372036854775807) ∧ (q = none → d = 0), Lk 4 ⟨#[103]⟩ 0 (.cons 4 ⟨#[102]⟩ 0 none 0 (.cons 3 ⟨#[97]⟩ 0 none 0 .nil .nil) (.cons 1 ⟨#[]⟩ 2 none 0 .nil .nil)), fun u _ => u = .bool true, fun u _ => u = .bool true, fun u _ => u = .bool true, fun u _ => u = .pointer (some ⟨w14.heap.size, 1, none⟩), fun u _ => u = .string ⟨#[102]⟩, fun u _ => u = .bool true, fun u _ => u = .bool true, fun u _ => u = .bool true, fun u _ => u = .pointer (some ⟨w.heap.size, 0, none⟩), fun u _ => u = .agg #[.int .u8 3, .string ⟨#[98]⟩, .int .i64 0, .slice none 0 0], fun u _ => u = .int .i64 1, fun u _ => u = .bool true, fun u _ => u = .bool true, fun u _ => u = .bool true, fun u _ => u = .pointer (some ⟨w.heap.size, 0, none⟩), fun u _ => u = .agg #[.int .u8 1, .string ⟨#[]⟩, .int .i64 2, .slice none 0 0], fun u W => ∃ b, u = .slice (some ⟨b, 0, none⟩) 1 1 ∧ Ts.At W (some ⟨b, 0, none⟩) (.cons 1 ⟨#[]⟩ 2 none 0 .nil .nil), Lk 4 ⟨#[104]⟩ 0 (.cons 1 ⟨#[]⟩ 2 none 0 .nil .nil), fun u _ => u = .int .i64 1, fun u _ => u = .bool true, fun u _ => u = .bool true, fun u _ => u = .bool true, fun u _ => u = .pointer (some ⟨w.heap.size, 0, none⟩), fun u _ => u = .int .i64 2, fun u _ => u = .bool true, fun u _ => u = .bool true, fun u _ => u = .bool true]
    ⟨.eq _, .eq _, .eq _, .eq _, .eq _, (by rintro v_ w_ x_ ⟨b, h1, h2⟩ hB; exact ⟨b, h1, h2.below hB⟩), Lk.stable _ _ _ _, .eq _, (by rintro v_ w_ x_ ⟨b, us, q, d, h1, h2, h3⟩ hB; exact ⟨b, us, q, d, h1, h2.below hB, h3⟩), Lk.stable _ _ _ _, .eq _, .eq _, .eq _, .eq _, .eq _, .eq _, .eq _, .eq _, .eq _, .eq _, .eq _, .eq _, .eq _, .eq _, .eq _, .eq _, (by rintro v_ w_ x_ ⟨b, h1, h2⟩ hB; exact ⟨b, h1, h2.below hB⟩), Lk.stable _ _ _ _, .eq _, .eq _, .eq _, .eq _, .eq _, .eq _, .eq _, .eq _, .eq _, trivial⟩ (by kernel_rfl) (by kernel_rfl) (by kernel_rfl) ?h0 ?steps ?done
  case h0 => exact (Below.refl _ _).drew
  case steps =>
    refine ⟨?_, ?_, ?_, ?_, ?_, ?_, ?_, ?_, ?_, ?_, ?_, ?_, ?_, ?_, ?_, ?_, ?_, ?_, ?_, ?_, ?_, ?_, ?_, ?_, ?_, ?_, ?_, ?_, ?_, ?_, ?_, ?_, ?_, ?_, ?_, ?_, ?_, trivial⟩
    · intro g_ W_ hI hd K hK
      simp only [frameOf, Act.put, List.setIfInBounds_toArray, List.set_cons_zero, List.set_cons_succ]
      go_simp
      refine hK.out (.int .i64 0) _ W_ ?_ hI (Below.refl _ _) rfl
      simp only [frameOf, Act.put, List.setIfInBounds_toArray, List.set_cons_zero, List.set_cons_succ, Nat.zero_add, Nat.reduceAdd]
    · intro g_ W_ hI hd K hK
      simp only [frameOf, Act.put, List.setIfInBounds_toArray, List.set_cons_zero, List.set_cons_succ]
      have h0 : g_ 0 = .int .i64 0 := hd 0 (by kernel_rfl)
      rw [h0]
      go_simp
      refine hK.out (.bool true) _ W_ ?_ hI (Below.refl _ _) rfl
      simp only [frameOf, Act.put, List.setIfInBounds_toArray, List.set_cons_zero, List.set_cons_succ, Nat.zero_add, Nat.reduceAdd, h0]
    · intro g_ W_ hI hd K hK
      simp only [frameOf, Act.put, List.setIfInBounds_toArray, List.set_cons_zero, List.set_cons_succ]
      have h1 : g_ 1 = .bool true := hd 1 (by kernel_rfl)
      rw [h1]
      go_simp
      refine hK.out (.bool true) _ W_ ?_ hI (Below.refl _ _) rfl
      simp only [frameOf, Act.put, List.setIfInBounds_toArray, List.set_cons_zero, List.set_cons_succ, Nat.zero_add, Nat.reduceAdd, h1]
    · intro g_ W_ hI hd K hK
      simp only [frameOf, Act.put, List.setIfInBounds_toArray, List.set_cons_zero, List.set_cons_succ]
      have h2 : g_ 2 = .bool true := hd 2 (by kernel_rfl)
      rw [h2]
      have XW := BX2.out.below hI
      have c0 := XW.c0
      have c1 := XW.c1
      have c2 := XW.c2
      have c3 := XW.c3
      go_simp
      refine hK.out (.agg #[.int .u8 4, .string ⟨#[103]⟩, .int .i64 0, .slice qA usA.len usA.len]) _ W_ ?_ hI (Below.refl _ _) rfl
      simp only [frameOf, Act.put, List.setIfInBounds_toArray, List.set_cons_zero, List.set_cons_succ, Nat.zero_add, Nat.reduceAdd, h2]
    · intro g_ W_ hI hd K hK
      simp only [frameOf, Act.put, List.setIfInBounds_toArray, List.set_cons_zero, List.set_cons_succ]
      have h2 : g_ 2 = .bool true := hd 2 (by kernel_rfl)
      rw [h2]
      go_simp
      refine (A_any ⟨#[97]⟩ W_).mono ?_
      rintro e w' ⟨rfl, hB⟩
      unfold tv
      refine hK.out (.agg #[.int .u8 3, .string ⟨#[97]⟩, .int .i64 0, .slice none 0 0]) _ _ ?_ (hI.trans (hB.mono hI.size)) hB rfl
      simp only [frameOf, Act.put, List.setIfInBounds_toArray, List.set_cons_zero, List.set_cons_succ, Nat.zero_add, Nat.reduceAdd, h2]
    · intro g_ W_ hI hd K hK
      simp only [frameOf, Act.put, List.setIfInBounds_toArray, List.set_cons_zero, List.set_cons_succ]
      have h2 : g_ 2 = .bool true := hd 2 (by kernel_rfl)
      have h4 : g_ 4 = .agg #[.int .u8 3, .string ⟨#[97]⟩, .int .i64 0, .slice none 0 0] := hd 4 (by kernel_rfl)
      rw [h2, h4]
      go_simp
      obtain ⟨V_, hV, hsV, hBV, hcV⟩ := box1 W_ #[Value.int IntKind.u8 3, Value.string ⟨#[97]⟩, Value.int IntKind.i64 0, Value.slice none 0 0] 24
      rw [← hV]
      refine hK.out (.slice (some ⟨W_.heap.size, 0, none⟩) 1 1) _ _ ?_ (hI.trans (hBV.mono hI.size)) hBV ⟨_, rfl, lies_one rfl hcV (nilat _)⟩
      simp only [frameOf, Act.put, List.setIfInBounds_toArray, List.set_cons_zero, List.set_cons_succ, Nat.zero_add, Nat.reduceAdd, h2, h4]
    · intro g_ W_ hI hd K hK
      simp only [frameOf, Act.put, List.setIfInBounds_toArray, List.set_cons_zero, List.set_cons_succ]
      have h2 : g_ 2 = .bool true := hd 2 (by kernel_rfl)
      obtain ⟨b_, h5, hat_⟩ := hd 5 (by kernel_rfl)
      rw [h2, h5]
      go_simp
      refine (F_any ⟨#[102]⟩ (.cons 3 ⟨#[97]⟩ 0 none 0 .nil .nil) (by simp [Ts.size]) (by simp [Ts.ok, Ts.len, ByteArray.size]) W_ _ 1 hat_).mono ?_
      rintro e w' ⟨us, q, d, rfl, hat, htw, hok, hcl, hpn, hB⟩
      rw [if_neg (by simp [Ts.len])]
      refine hK.out (tv 4 ⟨#[102]⟩ 0 q us.len d) _ _ ?_ (hI.trans (hB.mono hI.size)) hB ⟨us, q, d, rfl, hat.at, htw, hok, hcl, hpn⟩
      simp only [frameOf, Act.put, List.setIfInBounds_toArray, List.set_cons_zero, List.set_cons_succ, Nat.zero_add, Nat.reduceAdd, h2, h5]
    · intro g_ W_ hI hd K hK
      simp only [frameOf, Act.put, List.setIfInBounds_toArray, List.set_cons_zero, List.set_cons_succ]
      have h2 : g_ 2 = .bool true := hd 2 (by kernel_rfl)
      rw [h2]
      go_simp
      refine (V_any 2 W_).mono ?_
      rintro e w' ⟨rfl, hB⟩
      unfold tv
      refine hK.out (.agg #[.int .u8 1, .string ⟨#[]⟩, .int .i64 2, .slice none 0 0]) _ _ ?_ (hI.trans (hB.mono hI.size)) hB rfl
      simp only [frameOf, Act.put, List.setIfInBounds_toArray, List.set_cons_zero, List.set_cons_succ, Nat.zero_add, Nat.reduceAdd, h2]
    · intro g_ W_ hI hd K hK
      simp only [frameOf, Act.put, List.setIfInBounds_toArray, List.set_cons_zero, List.set_cons_succ]
      have h2 : g_ 2 = .bool true := hd 2 (by kernel_rfl)
      obtain ⟨us_, q_, d_, h6, hatk, htwk, hokk, hclk, hpnk⟩ := hd 6 (by kernel_rfl)
      have h7 : g_ 7 = .agg #[.int .u8 1, .string ⟨#[]⟩, .int .i64 2, .slice none 0 0] := hd 7 (by kernel_rfl)
      rw [h2, h6, h7]
      unfold tv at h6 ⊢
      go_simp
      obtain ⟨V_, hV, hsV, hBV, hcV⟩ := box1 W_ #[Value.int IntKind.u8 4, Value.string ⟨#[102]⟩, Value.int IntKind.i64 0, Value.slice q_ us_.len d_, Value.int IntKind.u8 1, Value.string ⟨#[]⟩, Value.int IntKind.i64 2, Value.slice none 0 0] 24
      rw [← hV]
      refine hK.out (.slice (some ⟨W_.heap.size, 0, none⟩) 2 2) _ _ ?_ (hI.trans (hBV.mono hI.size)) hBV ⟨_, us_, q_, d_, rfl, lies_two rfl hcV (hatk.below hBV) (nilat _), htwk, hokk, hclk, hpnk⟩
      simp only [frameOf, Act.put, List.setIfInBounds_toArray, List.set_cons_zero, List.set_cons_succ, Nat.zero_add, Nat.reduceAdd, h2, h6, h7]
    · intro g_ W_ hI hd K hK
      simp only [frameOf, Act.put, List.setIfInBounds_toArray, List.set_cons_zero, List.set_cons_succ]
      have h2 : g_ 2 = .bool true := hd 2 (by kernel_rfl)
      obtain ⟨b_, us_, q_, d_, h8, hat8, htw8, hok8, hcl8, hpn8⟩ := hd 8 (by kernel_rfl)
      rw [h2, h8]
      go_simp
      have hz_ := Ts.twin_size _ _ htw8
      simp only [Ts.size] at hz_
      refine (F_any ⟨#[103]⟩ (.cons 4 ⟨#[102]⟩ 0 q_ d_ us_ (.cons 1 ⟨#[]⟩ 2 none 0 .nil .nil)) (by simp [Ts.size]; omega) ⟨by omega, by simp [ByteArray.size], by omega, hcl8, hpn8, hok8, by simp [Ts.ok, Ts.len, ByteArray.size]⟩ W_ _ 2 hat8).mono ?_
      rintro e w' ⟨us, q, d, rfl, hat, htw, hok, hcl, hpn, hB⟩
      rw [if_neg (by simp [Ts.len])]
      refine hK.out (tv 4 ⟨#[103]⟩ 0 q us.len d) _ _ ?_ (hI.trans (hB.mono hI.size)) hB ⟨us, q, d, rfl, hat.at, twin_trans htw ⟨rfl, rfl, rfl, htw8, rfl, rfl, rfl, trivial, trivial⟩, hok, hcl, hpn⟩
      simp only [frameOf, Act.put, List.setIfInBounds_toArray, List.set_cons_zero, List.set_cons_succ, Nat.zero_add, Nat.reduceAdd, h2, h8]
    · intro g_ W_ hI hd K hK
      simp only [frameOf, Act.put, List.setIfInBounds_toArray, List.set_cons_zero, List.set_cons_succ]
      have h2 : g_ 2 = .bool true := hd 2 (by kernel_rfl)
      have h3 : g_ 3 = .agg #[.int .u8 4, .string ⟨#[103]⟩, .int .i64 0, .slice qA usA.len usA.len] := hd 3 (by kernel_rfl)
      obtain ⟨us_, q_, d_, h9, hatk, htwk, hokk, hclk, hpnk⟩ := hd 9 (by kernel_rfl)
      rw [h2, h3, h9]
      unfold tv at h9 ⊢
      go_simp
      have hz_ := Ts.twin_len _ _ htwk
      simp only [Ts.len] at hz_
      have hy_ := Ts.twin_len _ _ TWA.out
      simp only [Ts.len] at hy_
      refine (same_of usA us_ (fun w p p' c c' h h' => all_any _ usA us_ (Nat.lt_succ_self _) OKA.out hokk (by omega) (by omega) w p p' c c' h h') 4 4 ⟨#[103]⟩ ⟨#[103]⟩ 0 0 qA q_ usA.len d_ W_ (ATA.out.below hI) hatk).mono ?_
      rintro e w' ⟨rfl, hB⟩
      rw [alike_known TWA.out htwk, show headAlike 4 4 ⟨#[103]⟩ ⟨#[103]⟩ 0 0 = true by decide +kernel, Bool.and_self]
      refine hK.out (.bool true) _ _ ?_ (hI.trans (hB.mono hI.size)) hB rfl
      simp only [frameOf, Act.put, List.setIfInBounds_toArray, List.set_cons_zero, List.set_cons_succ, Nat.zero_add, Nat.reduceAdd, h2, h3, h9]
    · intro g_ W_ hI hd K hK
      simp only [frameOf, Act.put, List.setIfInBounds_toArray, List.set_cons_zero, List.set_cons_succ]
      have h2 : g_ 2 = .bool true := hd 2 (by kernel_rfl)
      have h10 : g_ 10 = .bool true := hd 10 (by kernel_rfl)
      rw [h2, h10]
      go_simp
      refine hK.out (.bool true) _ W_ ?_ hI (Below.refl _ _) rfl
      simp only [frameOf, Act.put, List.setIfInBounds_toArray, List.set_cons_zero, List.set_cons_succ, Nat.zero_add, Nat.reduceAdd, h2, h10]
    · intro g_ W_ hI hd K hK
      simp only [frameOf, Act.put, List.setIfInBounds_toArray, List.set_cons_zero, List.set_cons_succ]
      have h11 : g_ 11 = .bool true := hd 11 (by kernel_rfl)
      rw [h11]
      go_simp
      refine hK.out (.bool true) _ W_ ?_ hI (Below.refl _ _) rfl
      simp only [frameOf, Act.put, List.setIfInBounds_toArray, List.set_cons_zero, List.set_cons_succ, Nat.zero_add, Nat.reduceAdd, h11]
    · intro g_ W_ hI hd K hK
      simp only [frameOf, Act.put, List.setIfInBounds_toArray, List.set_cons_zero, List.set_cons_succ]
      have h12 : g_ 12 = .bool true := hd 12 (by kernel_rfl)
      rw [h12]
      go_simp
      refine hK.out (.pointer (some ⟨w14.heap.size, 1, none⟩)) _ W_ ?_ hI (Below.refl _ _) rfl
      simp only [frameOf, Act.put, List.setIfInBounds_toArray, List.set_cons_zero, List.set_cons_succ, Nat.zero_add, Nat.reduceAdd, h12]
    · intro g_ W_ hI hd K hK
      simp only [frameOf, Act.put, List.setIfInBounds_toArray, List.set_cons_zero, List.set_cons_succ]
      have h12 : g_ 12 = .bool true := hd 12 (by kernel_rfl)
      have h13 : g_ 13 = .pointer (some ⟨w14.heap.size, 1, none⟩) := hd 13 (by kernel_rfl)
      rw [h12, h13]
      have c1 := (hI.cell (p := ⟨w14.heap.size, 1, none⟩) hl4).trans C4.out
      go_simp
      refine hK.out (.string ⟨#[102]⟩) _ W_ ?_ hI (Below.refl _ _) rfl
      simp only [frameOf, Act.put, List.setIfInBounds_toArray, List.set_cons_zero, List.set_cons_succ, Nat.zero_add, Nat.reduceAdd, h12, h13]
    · intro g_ W_ hI hd K hK
      simp only [frameOf, Act.put, List.setIfInBounds_toArray, List.set_cons_zero, List.set_cons_succ]
      have h12 : g_ 12 = .bool true := hd 12 (by kernel_rfl)
      have h14 : g_ 14 = .string ⟨#[102]⟩ := hd 14 (by kernel_rfl)
      rw [h12, h14]
      go_simp
      refine hK.out (.bool true) _ W_ ?_ hI (Below.refl _ _) rfl
      simp only [frameOf, Act.put, List.setIfInBounds_toArray, List.set_cons_zero, List.set_cons_succ, Nat.zero_add, Nat.reduceAdd, h12, h14]
    · intro g_ W_ hI hd K hK
      simp only [frameOf, Act.put, List.setIfInBounds_toArray, List.set_cons_zero, List.set_cons_succ]
      have h12 : g_ 12 = .bool true := hd 12 (by kernel_rfl)
      have h15 : g_ 15 = .bool true := hd 15 (by kernel_rfl)
      rw [h12, h15]
      go_simp
      refine hK.out (.bool true) _ W_ ?_ hI (Below.refl _ _) rfl
      simp only [frameOf, Act.put, List.setIfInBounds_toArray, List.set_cons_zero, List.set_cons_succ, Nat.zero_add, Nat.reduceAdd, h12, h15]
    · intro g_ W_ hI hd K hK
      simp only [frameOf, Act.put, List.setIfInBounds_toArray, List.set_cons_zero, List.set_cons_succ]
      have h16 : g_ 16 = .bool true := hd 16 (by kernel_rfl)
      rw [h16]
      go_simp
      refine hK.out (.bool true) _ W_ ?_ hI (Below.refl _ _) rfl
      simp only [frameOf, Act.put, List.setIfInBounds_toArray, List.set_cons_zero, List.set_cons_succ, Nat.zero_add, Nat.reduceAdd, h16]
    · intro g_ W_ hI hd K hK
      simp only [frameOf, Act.put, List.setIfInBounds_toArray, List.set_cons_zero, List.set_cons_succ]
      have h17 : g_ 17 = .bool true := hd 17 (by kernel_rfl)
      rw [h17]
      go_simp
      refine hK.out (.pointer (some ⟨w.heap.size, 0, none⟩)) _ W_ ?_ hI (Below.refl _ _) rfl
      simp only [frameOf, Act.put, List.setIfInBounds_toArray, List.set_cons_zero, List.set_cons_succ, Nat.zero_add, Nat.reduceAdd, h17]
    · intro g_ W_ hI hd K hK
      simp only [frameOf, Act.put, List.setIfInBounds_toArray, List.set_cons_zero, List.set_cons_succ]
      have h17 : g_ 17 = .bool true := hd 17 (by kernel_rfl)
      rw [h17]
      go_simp
      refine (A_any ⟨#[98]⟩ W_).mono ?_
      rintro e w' ⟨rfl, hB⟩
      unfold tv
      refine hK.out (.agg #[.int .u8 3, .string ⟨#[98]⟩, .int .i64 0, .slice none 0 0]) _ _ ?_ (hI.trans (hB.mono hI.size)) hB rfl
      simp only [frameOf, Act.put, List.setIfInBounds_toArray, List.set_cons_zero, List.set_cons_succ, Nat.zero_add, Nat.reduceAdd, h17]
    · intro g_ W_ hI hd K hK
      simp only [frameOf, Act.put, List.setIfInBounds_toArray, List.set_cons_zero, List.set_cons_succ]
      have h17 : g_ 17 = .bool true := hd 17 (by kernel_rfl)
      have h18 : g_ 18 = .pointer (some ⟨w.heap.size, 0, none⟩) := hd 18 (by kernel_rfl)
      have h19 : g_ 19 = .agg #[.int .u8 3, .string ⟨#[98]⟩, .int .i64 0, .slice none 0 0] := hd 19 (by kernel_rfl)
      rw [h17, h18, h19]
      go_simp
      refine (bind_any w.heap.size σ (0 + 1 + 1) W_ (SS.out.below hI) (by omega) 0 (by omega) ⟨3, ⟨#[98]⟩, 0, none, 0, .nil⟩ (nd_ok (by omega) (by simp [ByteArray.size]) (by omega) ⟨Nat.le_refl _, by omega⟩ (fun _ => rfl) trivial) (nilat _) (by simp [Ts.size])).mono ?_
      rintro e w' hb
      have hz : bindE σ 0 ⟨3, ⟨#[98]⟩, 0, none, 0, .nil⟩ = 1 := bind_bound (by omega) KN.out.b0
      have he := hb.out
      rw [hz] at he
      subst he
      have hB := hb.no (by rw [hz]; omega)
      refine hK.out (.int .i64 1) _ _ ?_ (hI.trans (hB.mono hI.size)) hB rfl
      simp only [frameOf, Act.put, List.setIfInBounds_toArray, List.set_cons_zero, List.set_cons_succ, Nat.zero_add, Nat.reduceAdd, h17, h18, h19]
    · intro g_ W_ hI hd K hK
      simp only [frameOf, Act.put, List.setIfInBounds_toArray, List.set_cons_zero, List.set_cons_succ]
      have h17 : g_ 17 = .bool true := hd 17 (by kernel_rfl)
      have h20 : g_ 20 = .int .i64 1 := hd 20 (by kernel_rfl)
      rw [h17, h20]
      go_simp
      refine hK.out (.bool true) _ W_ ?_ hI (Below.refl _ _) rfl
      simp only [frameOf, Act.put, List.setIfInBounds_toArray, List.set_cons_zero, List.set_cons_succ, Nat.zero_add, Nat.reduceAdd, h17, h20]
    · intro g_ W_ hI hd K hK
      simp only [frameOf, Act.put, List.setIfInBounds_toArray, List.set_cons_zero, List.set_cons_succ]
      have h17 : g_ 17 = .bool true := hd 17 (by kernel_rfl)
      have h21 : g_ 21 = .bool true := hd 21 (by kernel_rfl)
      rw [h17, h21]
      go_simp
      refine hK.out (.bool true) _ W_ ?_ hI (Below.refl _ _) rfl
      simp only [frameOf, Act.put, List.setIfInBounds_toArray, List.set_cons_zero, List.set_cons_succ, Nat.zero_add, Nat.reduceAdd, h17, h21]
    · intro g_ W_ hI hd K hK
      simp only [frameOf, Act.put, List.setIfInBounds_toArray, List.set_cons_zero, List.set_cons_succ]
      have h22 : g_ 22 = .bool true := hd 22 (by kernel_rfl)
      rw [h22]
      go_simp
      refine hK.out (.bool true) _ W_ ?_ hI (Below.refl _ _) rfl
      simp only [frameOf, Act.put, List.setIfInBounds_toArray, List.set_cons_zero, List.set_cons_succ, Nat.zero_add, Nat.reduceAdd, h22]
    · intro g_ W_ hI hd K hK
      simp only [frameOf, Act.put, List.setIfInBounds_toArray, List.set_cons_zero, List.set_cons_succ]
      have h23 : g_ 23 = .bool true := hd 23 (by kernel_rfl)
      rw [h23]
      go_simp
      refine hK.out (.pointer (some ⟨w.heap.size, 0, none⟩)) _ W_ ?_ hI (Below.refl _ _) rfl
      simp only [frameOf, Act.put, List.setIfInBounds_toArray, List.set_cons_zero, List.set_cons_succ, Nat.zero_add, Nat.reduceAdd, h23]
    · intro g_ W_ hI hd K hK
      simp only [frameOf, Act.put, List.setIfInBounds_toArray, List.set_cons_zero, List.set_cons_succ]
      have h23 : g_ 23 = .bool true := hd 23 (by kernel_rfl)
      rw [h23]
      go_simp
      refine (V_any 2 W_).mono ?_
      rintro e w' ⟨rfl, hB⟩
      unfold tv
      refine hK.out (.agg #[.int .u8 1, .string ⟨#[]⟩, .int .i64 2, .slice none 0 0]) _ _ ?_ (hI.trans (hB.mono hI.size)) hB rfl
      simp only [frameOf, Act.put, List.setIfInBounds_toArray, List.set_cons_zero, List.set_cons_succ, Nat.zero_add, Nat.reduceAdd, h23]
    · intro g_ W_ hI hd K hK
      simp only [frameOf, Act.put, List.setIfInBounds_toArray, List.set_cons_zero, List.set_cons_succ]
      have h23 : g_ 23 = .bool true := hd 23 (by kernel_rfl)
      have h25 : g_ 25 = .agg #[.int .u8 1, .string ⟨#[]⟩, .int .i64 2, .slice none 0 0] := hd 25 (by kernel_rfl)
      rw [h23, h25]
      go_simp
      obtain ⟨V_, hV, hsV, hBV, hcV⟩ := box1 W_ #[Value.int IntKind.u8 1, Value.string ⟨#[]⟩, Value.int IntKind.i64 2, Value.slice none 0 0] 24
      rw [← hV]
      refine hK.out (.slice (some ⟨W_.heap.size, 0, none⟩) 1 1) _ _ ?_ (hI.trans (hBV.mono hI.size)) hBV ⟨_, rfl, lies_one rfl hcV (nilat _)⟩
      simp only [frameOf, Act.put, List.setIfInBounds_toArray, List.set_cons_zero, List.set_cons_succ, Nat.zero_add, Nat.reduceAdd, h23, h25]
    · intro g_ W_ hI hd K hK
      simp only [frameOf, Act.put, List.setIfInBounds_toArray, List.set_cons_zero, List.set_cons_succ]
      have h23 : g_ 23 = .bool true := hd 23 (by kernel_rfl)
      obtain ⟨b_, h26, hat_⟩ := hd 26 (by kernel_rfl)
      rw [h23, h26]
      go_simp
      refine (F_any ⟨#[104]⟩ (.cons 1 ⟨#[]⟩ 2 none 0 .nil .nil) (by simp [Ts.size]) (by simp [Ts.ok, Ts.len, ByteArray.size]) W_ _ 1 hat_).mono ?_
      rintro e w' ⟨us, q, d, rfl, hat, htw, hok, hcl, hpn, hB⟩
      rw [if_neg (by simp [Ts.len])]
      refine hK.out (tv 4 ⟨#[104]⟩ 0 q us.len d) _ _ ?_ (hI.trans (hB.mono hI.size)) hB ⟨us, q, d, rfl, hat.at, htw, hok, hcl, hpn⟩
      simp only [frameOf, Act.put, List.setIfInBounds_toArray, List.set_cons_zero, List.set_cons_succ, Nat.zero_add, Nat.reduceAdd, h23, h26]
    · intro g_ W_ hI hd K hK
      simp only [frameOf, Act.put, List.setIfInBounds_toArray, List.set_cons_zero, List.set_cons_succ]
      have h23 : g_ 23 = .bool true := hd 23 (by kernel_rfl)
      have h24 : g_ 24 = .pointer (some ⟨w.heap.size, 0, none⟩) := hd 24 (by kernel_rfl)
      obtain ⟨us_, q_, d_, h27, hatk, htwk, hokk, hclk, hpnk⟩ := hd 27 (by kernel_rfl)
      rw [h23, h24, h27]
      obtain ⟨pz, cz, rfl⟩ := twin_v1 htwk
      unfold tv at h27 ⊢
      go_simp
      refine (bind_any w.heap.size σ (0 + 1 + 1) W_ (SS.out.below hI) (by omega) 2 (by omega) ⟨4, ⟨#[104]⟩, 0, q_, d_, .cons 1 ⟨#[]⟩ 2 pz cz .nil .nil⟩ (nd_ok (by omega) (by simp [ByteArray.size]) (by omega) hclk hpnk hokk) hatk (by simp [Ts.size])).mono ?_
      rintro e w' hb
      have hz : bindE σ 2 ⟨4, ⟨#[104]⟩, 0, q_, d_, .cons 1 ⟨#[]⟩ 2 pz cz .nil .nil⟩ = 1 := bind_own (by omega) KN.out.b2
      have he := hb.out
      rw [hz] at he
      subst he
      have hB := hb.no (by rw [hz]; omega)
      refine hK.out (.int .i64 1) _ _ ?_ (hI.trans (hB.mono hI.size)) hB rfl
      simp only [frameOf, Act.put, List.setIfInBounds_toArray, List.set_cons_zero, List.set_cons_succ, Nat.zero_add, Nat.reduceAdd, h23, h24, h27]
    · intro g_ W_ hI hd K hK
      simp only [frameOf, Act.put, List.setIfInBounds_toArray, List.set_cons_zero, List.set_cons_succ]
      have h23 : g_ 23 = .bool true := hd 23 (by kernel_rfl)
      have h28 : g_ 28 = .int .i64 1 := hd 28 (by kernel_rfl)
      rw [h23, h28]
      go_simp
      refine hK.out (.bool true) _ W_ ?_ hI (Below.refl _ _) rfl
      simp only [frameOf, Act.put, List.setIfInBounds_toArray, List.set_cons_zero, List.set_cons_succ, Nat.zero_add, Nat.reduceAdd, h23, h28]
    · intro g_ W_ hI hd K hK
      simp only [frameOf, Act.put, List.setIfInBounds_toArray, List.set_cons_zero, List.set_cons_succ]
      have h23 : g_ 23 = .bool true := hd 23 (by kernel_rfl)
      have h29 : g_ 29 = .bool true := hd 29 (by kernel_rfl)
      rw [h23, h29]
      go_simp
      refine hK.out (.bool true) _ W_ ?_ hI (Below.refl _ _) rfl
      simp only [frameOf, Act.put, List.setIfInBounds_toArray, List.set_cons_zero, List.set_cons_succ, Nat.zero_add, Nat.reduceAdd, h23, h29]
    · intro g_ W_ hI hd K hK
      simp only [frameOf, Act.put, List.setIfInBounds_toArray, List.set_cons_zero, List.set_cons_succ]
      have h30 : g_ 30 = .bool true := hd 30 (by kernel_rfl)
      rw [h30]
      go_simp
      refine hK.out (.bool true) _ W_ ?_ hI (Below.refl _ _) rfl
      simp only [frameOf, Act.put, List.setIfInBounds_toArray, List.set_cons_zero, List.set_cons_succ, Nat.zero_add, Nat.reduceAdd, h30]
    · intro g_ W_ hI hd K hK
      simp only [frameOf, Act.put, List.setIfInBounds_toArray, List.set_cons_zero, List.set_cons_succ]
      have h31 : g_ 31 = .bool true := hd 31 (by kernel_rfl)
      rw [h31]
      go_simp
      refine hK.out (.pointer (some ⟨w.heap.size, 0, none⟩)) _ W_ ?_ hI (Below.refl _ _) rfl
      simp only [frameOf, Act.put, List.setIfInBounds_toArray, List.set_cons_zero, List.set_cons_succ, Nat.zero_add, Nat.reduceAdd, h31]
    · intro g_ W_ hI hd K hK
      simp only [frameOf, Act.put, List.setIfInBounds_toArray, List.set_cons_zero, List.set_cons_succ]
      have h31 : g_ 31 = .bool true := hd 31 (by kernel_rfl)
      have h32 : g_ 32 = .pointer (some ⟨w.heap.size, 0, none⟩) := hd 32 (by kernel_rfl)
      rw [h31, h32]
      go_simp
      refine (len_any w.heap.size σ (0 + 1 + 1) W_ (SS.out.below hI)).mono ?_
      rintro e w' ⟨he, rfl⟩
      have he2 : e = .returned (.int .i64 2) := he
      subst he2
      refine hK.out (.int .i64 2) _ _ ?_ hI (Below.refl _ _) rfl
      simp only [frameOf, Act.put, List.setIfInBounds_toArray, List.set_cons_zero, List.set_cons_succ, Nat.zero_add, Nat.reduceAdd, h31, h32]
    · intro g_ W_ hI hd K hK
      simp only [frameOf, Act.put, List.setIfInBounds_toArray, List.set_cons_zero, List.set_cons_succ]
      have h31 : g_ 31 = .bool true := hd 31 (by kernel_rfl)
      have h33 : g_ 33 = .int .i64 2 := hd 33 (by kernel_rfl)
      rw [h31, h33]
      go_simp
      refine hK.out (.bool true) _ W_ ?_ hI (Below.refl _ _) rfl
      simp only [frameOf, Act.put, List.setIfInBounds_toArray, List.set_cons_zero, List.set_cons_succ, Nat.zero_add, Nat.reduceAdd, h31, h33]
    · intro g_ W_ hI hd K hK
      simp only [frameOf, Act.put, List.setIfInBounds_toArray, List.set_cons_zero, List.set_cons_succ]
      have h31 : g_ 31 = .bool true := hd 31 (by kernel_rfl)
      have h34 : g_ 34 = .bool true := hd 34 (by kernel_rfl)
      rw [h31, h34]
      go_simp
      refine hK.out (.bool true) _ W_ ?_ hI (Below.refl _ _) rfl
      simp only [frameOf, Act.put, List.setIfInBounds_toArray, List.set_cons_zero, List.set_cons_succ, Nat.zero_add, Nat.reduceAdd, h31, h34]
    · intro g_ W_ hI hd K hK
      simp only [frameOf, Act.put, List.setIfInBounds_toArray, List.set_cons_zero, List.set_cons_succ]
      have h35 : g_ 35 = .bool true := hd 35 (by kernel_rfl)
      rw [h35]
      go_simp
      refine hK.out (.bool true) _ W_ ?_ hI (Below.refl _ _) rfl
      simp only [frameOf, Act.put, List.setIfInBounds_toArray, List.set_cons_zero, List.set_cons_succ, Nat.zero_add, Nat.reduceAdd, h35]
  case done =>
    intro f_ W_ hI hd
    have h36 : f_ 36 = .bool true := hd 36 (by decide)
    simp only [frameOf, Act.put, List.setIfInBounds_toArray, List.set_cons_zero, List.set_cons_succ, Nat.zero_add, Nat.reduceAdd, h36]
    clear hd
    go_wp2
    go_ret
    exact ⟨rfl, BW.trans (hI.mono BW.size)⟩

end Go.Proofs.Ytflomdnjabgnaaa
