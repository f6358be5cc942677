import Derived.Test.YtnmhnaanpjlniaaGreatFh
import Derived.Test.YtnmhnaanpjlniaaGreatXl
import Derived.Test.YtnmhnaanpjlniaaGreatTp
import Derived.Test.YtnmhnaanpjlniaaGreatDi
import Derived.Test.YtnmhnaanpjlniaaGreatFIa
import Derived.Test.YtnmhnaanpjlniaaGreatFIb
import Derived.Test.YtnmhnaanpjlniaaGreatFIc
import Derived.Test.YtnmhnaanpjlniaaGreatDd
import Derived.Test.YtnmhnaanpjlniaaGreatWe0
import Derived.Test.YtnmhnaanpjlniaaGreatXa
import Derived.Test.YtnmhnaanpjlniaaGreatBd
/-
  Plain facts of the order as far as it is known.
-/
namespace Go.Proofs.YtnmhnaanpjlniaaGreat
open Go.RowKit

theorem ordH_neg {k k' : Int} {s s' : ByteArray} {n n' : Int} {ts us : Ts} {r r' : Int × Bool} (h : r' = (-r.1, r.2)) : ordH k' k s' s n' n us ts r' = (-(ordH k k' s s' n n' ts us r).1, (ordH k k' s s' n n' ts us r).2) := by
  have e1 : ((k' == 1) && (k == 1)) = ((k == 1) && (k' == 1)) := Bool.and_comm _ _
  have e2 : ((k' == 4) && ((k == 4) && ((s'.toList == s.toList) && decide (us.len = ts.len)))) = ((k == 4) && ((k' == 4) && ((s.toList == s'.toList) && decide (ts.len = us.len)))) := by
    rw [Bool.eq_iff_iff]
    simp only [Bool.and_eq_true, beq_iff_eq, decide_eq_true_eq]
    constructor
    · rintro ⟨h1, h2, h3, h4⟩; exact ⟨h2, h1, h3.symm, h4.symm⟩
    · rintro ⟨h1, h2, h3, h4⟩; exact ⟨h2, h1, h3.symm, h4.symm⟩
  unfold ordH
  rw [e1, e2]
  split
  · simp only [Int.neg_zero]
    rw [show (n' == n) = (n == n') by rw [Bool.eq_iff_iff]; simp only [beq_iff_eq]; exact eq_comm]
  · split
    · exact h
    · simp only
      rw [cmpT_neg (cmpL_neg ts us)]

theorem ordL_neg : ∀ (ts us : Ts), ordL us ts = (-(ordL ts us).1, (ordL ts us).2)
  | .nil, us => by cases us <;> rfl
  | .cons k s n p c ks r, .nil => rfl
  | .cons k s n p c ks r, .cons k' s' n' p' c' ks' r' => by
    have h1 := ordH_neg (k := k) (k' := k') (s := s) (s' := s') (n := n) (n' := n') (ts := ks) (us := ks') (ordL_neg ks ks')
    have h2 := ordL_neg r r'
    simp only [ordL]
    rw [h1, h2]
    have e : (-(ordH k k' s s' n n' ks ks' (ordL ks ks')).1 != 0) = ((ordH k k' s s' n n' ks ks' (ordL ks ks')).1 != 0) := by
      rw [Bool.eq_iff_iff]
      simp only [bne_iff_ne, ne_eq]
      omega
    simp only [e]
    split <;> rfl

theorem ordN_neg (x y : Nd) : ordN y x = (-(ordN x y).1, (ordN x y).2) := by
  unfold ordN
  exact ordH_neg (ordL_neg x.kids y.kids)


theorem headB_str {k : Int} {s : ByteArray} {n : Int} {len : Nat} (h : headB k s n len = true) (hk : k = 4) : n = 0 := by
  subst hk
  unfold headB at h
  simp at h
  exact h.1
theorem headB_v {k : Int} {s : ByteArray} {n : Int} {len : Nat} (h : headB k s n len = true) (hk : (k == 1) = true) : s = ⟨#[]⟩ ∧ len = 0 := headB_name h hk

/-- what is known is the standard order's -/
theorem ordH_std {k k' : Int} {s s' : ByteArray} {n n' : Int} {ts us : Ts} (h1 : headB k s n ts.len = true) (h2 : headB k' s' n' us.len = true) (hr : ts.len = us.len → (ordL ts us).2 = true → (ordL ts us).1 = cmpL ts us) (h : (ordH k k' s s' n n' ts us (ordL ts us)).2 = true) :
    (ordH k k' s s' n n' ts us (ordL ts us)).1 = cmpT k k' s s' n n' ts us (cmpL ts us) := by
  unfold ordH at h ⊢
  split
  · rename_i g
    rw [if_pos g] at h
    rw [Bool.and_eq_true] at g
    obtain ⟨rfl, l1⟩ := headB_v h1 g.1
    obtain ⟨rfl, l2⟩ := headB_v h2 g.2
    have e1 : k = 1 := by simpa using g.1
    have e2 : k' = 1 := by simpa using g.2
    have e3 : n = n' := by simpa using h
    subst e1 e2 e3
    have t1 := Ts.len_zero l1
    have t2 := Ts.len_zero l2
    subst t1 t2
    exact (cmpT_refl 1 ⟨#[]⟩ n .nil).symm
  · rename_i g
    rw [if_neg g] at h
    split
    · rename_i g2
      rw [if_pos g2] at h
      simp only [Bool.and_eq_true, beq_iff_eq, decide_eq_true_eq] at g2
      obtain ⟨e1, e2, e3, e4⟩ := g2
      have n1 := headB_str h1 e1
      have n2 := headB_str h2 e2
      have e5 := (cb_zero s s').2 (by rw [e3]; simp)
      subst e1 e2 n1 n2
      rw [hr e4 h]
      unfold cmpT
      rw [ci_self, ci_self, e4, ci_self, e5]
      simp [or0]
    · rfl
theorem ordL_std : ∀ (ts us : Ts), shapeL ts = true → shapeL us = true → ts.len = us.len → (ordL ts us).2 = true → (ordL ts us).1 = cmpL ts us
  | .nil, us, _, _, _ => by cases us <;> exact fun _ => rfl
  | .cons k s n p c ks r, .nil, _, _, hl => by simp [Ts.len] at hl
  | .cons k s n p c ks r, .cons k' s' n' p' c' ks' r', hs, hs', hl => by
    intro h
    simp only [shapeL, Bool.and_eq_true] at hs hs'
    have IH := ordL_std ks ks' hs.1.1 hs'.1.1
    have IR := ordL_std r r' hs.2 hs'.2 (by simp only [Ts.len] at hl; omega)
    have hh := ordH_std (n := n) (n' := n') hs.1.2 hs'.1.2 IH
    simp only [ordL, cmpL] at h ⊢
    split
    · rename_i g
      rw [if_pos g] at h
      rw [hh h]
      rw [h] at g
      have g1 : (ordH k k' s s' n n' ks ks' (ordL ks ks')).1 ≠ 0 := by simpa using g
      rw [hh h] at g1
      unfold or0
      rw [if_neg g1]
    · rename_i g
      rw [if_neg g] at h
      simp only [Bool.or_eq_true, bne_iff_ne, ne_eq, Bool.not_eq_true', not_or, Decidable.not_not, Bool.not_eq_false] at g
      rw [IR h]
      have g1 := hh g.2
      rw [g.1] at g1
      rw [← g1]
      rfl
theorem ordN_std {x y : Nd} (hx : (shapeL x.kids && headB x.k x.s x.n x.kids.len) = true) (hy : (shapeL y.kids && headB y.k y.s y.n y.kids.len) = true) (h : (ordN x y).2 = true) : (ordN x y).1 = cmpT x.k y.k x.s y.s x.n y.n x.kids y.kids (cmpL x.kids y.kids) := by
  rw [Bool.and_eq_true] at hx hy
  exact ordH_std hx.2 hy.2 (ordL_std _ _ hx.1 hy.1) h


end Go.Proofs.YtnmhnaanpjlniaaGreat
/-
  Layer 14's known goals. (Written by gen_fj.py.)
-/
namespace Go.Proofs.YtnmhnaanpjlniaaGreat
open Go.RowKit

theorem th_head {us : Ts} {k : Int} {s : ByteArray} {n : Int} {p : Option Addr} {c : Nat} {ts r : Ts} (h : Ts.twin us (.cons k s n p c ts r)) : ∃ q d v u, us = .cons k s n q d v u ∧ Ts.twin v ts ∧ Ts.twin u r := by
  cases us with
  | nil => exact h.elim
  | cons k' s' n' q d v u =>
    obtain ⟨rfl, rfl, rfl, h1, h2⟩ := h
    exact ⟨q, d, v, u, rfl, h1, h2⟩

theorem th_nil {us : Ts} (h : Ts.twin us .nil) : us = .nil := by
  cases us with
  | nil => rfl
  | cons => exact h.elim

theorem un_int (x : Int) : un 4096 0 Sb.none [(nV 0, nI x)] = .ok (Sb.none.put 0 (nI x)) 1 4094 := by
  have h2 : one 4095 0 Sb.none (nV 0) (nI x) = .ok (Sb.none.put 0 (nI x)) 1 4094 [] := one_leaf (by omega) (wk_stop (.inr rfl)) (wk_stop (.inl rfl)) rfl (by decide) rfl rfl
  rw [show (4096 : Nat) = 4095 + 1 from rfl, un_ok h2, List.nil_append, un_nil]

theorem un_fa : ∃ ρ c r, un 4096 0 Sb.none [(nF (tV 0 .nil), nF tA)] = .ok ρ c r := by
  have wF : ∀ ks, wk Sb.none (nF ks) = nF ks := fun ks => wk_stop (.inl rfl)
  have h1 : one 4095 0 Sb.none (nF (tV 0 .nil)) (nF tA) = .ok Sb.none 0 4095 [(nV 0, nA)] := by
    rw [one_struct (by rw [wF]; rfl) (by rw [wF]; rfl), wF, wF, if_pos (by decide +kernel)]
    rfl
  have h2 : one 4094 0 Sb.none (nV 0) nA = .ok (Sb.none.put 0 nA) 1 4093 [] := one_leaf (by omega) (wk_stop (.inr rfl)) (wk_stop (.inl rfl)) rfl (by decide) rfl rfl
  exact ⟨_, _, _, by rw [show (4096 : Nat) = 4095 + 1 from rfl, un_ok h1, List.append_nil, show (4095 : Nat) = 4094 + 1 from rfl, un_ok h2, List.nil_append, un_nil]⟩

/-- a unification of terms like others -/
theorem unO_tw {a b a' b' : Nd} (ha : a.twin a') (hb : b.twin b') {ρ : Sb} {c r : Nat} (h : un 4096 0 Sb.none [(a', b')] = .ok ρ c r) : ∃ ρ', unO Sb.none 0 a b = .ok ρ' c r ∧ STw ρ' ρ := by
  have ht := un_tw 4096 0 (STw.refl Sb.none) Ends.none (.cons ha hb .nil)
  rw [h] at ht
  unfold unO
  cases hE : un 4096 0 Sb.none [(a, b)] with
  | full => rw [hE] at ht; exact ht.elim
  | no => rw [hE] at ht; exact ht.elim
  | ok ρ' c' r' =>
    rw [hE] at ht
    obtain ⟨g1, g2, g3⟩ := ht
    subst g2 g3
    exact ⟨ρ', rfl, g1⟩

theorem apE_leaf {σ : Sb} {t : Nd} (hw : wk σ t = t) (hk : t.kids = .nil) : apE σ t = 0 := by
  unfold apE
  rw [vis_leaf hw hk, if_neg (by simp)]
theorem apX_leaf {σ : Sb} {t : Nd} (hw : wk σ t = t) (hk : t.kids = .nil) : (⟨t.k, t.s, t.n, none, 0, .nil⟩ : Nd).twin (apX σ t) := by
  refine apX_tw ⟨by rw [hw], by rw [hw], by rw [hw], ?_, trivial, by simp [Ts.len], fun _ => rfl, by simp [Ts.size]⟩
  rw [hw, hk]
  exact .nil

/-- the five goals -/
theorem val_is {a b : Nd} (ha : a.twin (nV 0)) (hb : b.twin (twoN ⟨#[43]⟩ 2 1 2 2)) : doV Sb.none 0 a b 10 = (true, 0) ∧ ∃ ρ c r, unO Sb.none 0 a (nI (rk Sb.none 4096 4096 b).1.1) = .ok ρ c r ∧ STw ρ (Sb.none.put 0 (nI 3)) := by
  have hr : (rk Sb.none 4096 4096 b).1 = (3, 0) := by
    rw [rk_tw (STw.reflE _) Ends.none 4096 4096 hb, rk_two ⟨#[43]⟩ 1 2 (j := 0) (by decide +kernel)]
    decide
  obtain ⟨ρ, h1, h2⟩ := unO_tw ha (Nd.twin_refl (nI 3)) (un_int 3)
  refine ⟨?_, ρ, _, _, by rw [hr]; exact h1, h2⟩
  unfold doV isR
  rw [hr, if_pos rfl, h1]
  rfl
theorem val_ne {a b : Nd} (ha : a.twin (nF (tV 0 .nil))) (hb : b.twin (nF tA)) : doV Sb.none 0 a b 3 = (false, 0) := by
  obtain ⟨ρ, c, r, h⟩ := un_fa
  obtain ⟨ρ', h1, _⟩ := unO_tw ha hb h
  unfold doV
  rw [h1]
  rfl
theorem val_lt {a b : Nd} (hka : a.kids = .nil) (hkb : b.kids = .nil) (f : Nd → Nd → Bool × Int) : apP Sb.none a b f = f (apX Sb.none a) (apX Sb.none b) := by
  unfold apP
  rw [apE_leaf (wk_none a) hka, apE_leaf (wk_none b) hkb, if_pos rfl, if_pos rfl]
theorem val_vv {a b : Nd} (hka : a.kids = .nil) (hkb : b.kids = .nil) (ha : a.k = 1 ∧ a.n = 0) (hb : b.k = 1 ∧ b.n = 1) : doV Sb.none 0 a b 6 = (false, 20) := by
  show doneR (apP Sb.none a b fun x y => ordR 0 (ordN x y)) = _
  rw [val_lt hka hkb, ← ordN_twin (apX_leaf (wk_none a) hka) (apX_leaf (wk_none b) hkb)]
  unfold ordN ordH
  rw [ha.1, hb.1, ha.2, hb.2]
  rfl
theorem val_vi {a b : Nd} (hka : a.kids = .nil) (hkb : b.kids = .nil) (ha : a.k = 1 ∧ a.n = 0) (hb : b.k = 2 ∧ b.n = 1) : doV Sb.none 0 a b 6 = (true, 0) := by
  show doneR (apP Sb.none a b fun x y => ordR 0 (ordN x y)) = _
  rw [val_lt hka hkb, ← ordN_twin (apX_leaf (wk_none a) hka) (apX_leaf (wk_none b) hkb)]
  unfold ordN ordH cmpT
  rw [ha.1, hb.1, ha.2, hb.2]
  rfl
theorem val_ia {a b : Nd} (ha : a.twin (nI 1)) (hb : b.twin nA) : doV Sb.none 0 a b 13 = (false, 21) := by
  have h1 : (rk Sb.none 4096 4096 a).1 = (1, 0) := by
    rw [rk_tw (STw.reflE _) Ends.none 4096 4096 ha]
    rw [show (4096 : Nat) = 4095 + 1 from rfl]
    rw [show nI 1 = ⟨2, ⟨#[]⟩, 1, none, 0, .nil⟩ from rfl, rk_leaf 4095 _ 1 (by omega)]
  have h2 : (rk Sb.none 4096 4096 b).1 = (0, 21) := by
    rw [rk_tw (STw.reflE _) Ends.none 4096 4096 hb]
    exact rk_atom
  unfold doV rkP
  rw [h1, h2]
  rfl
theorem wk_three {σp : Sb} (h : STw σp (Sb.none.put 0 (nI 3))) (hE : Ends σp) : (wk σp (nV 0)).twin (nI 3) := by
  have hE2 := h.ends hE
  have h1 := h.wk hE (Nd.twin_refl (nV 0))
  rw [wk_go hE2 rfl (Sb.put_same _ _ _), wk_stop (σ := Sb.none.put 0 (nI 3)) (t := nI 3) (.inl rfl)] at h1
  exact h1

theorem szI (x : Int) : (nI x).kids.size = 0 := rfl
theorem szV (x : Int) : (nV x).kids.size = 0 := rfl
theorem szA : nA.kids.size = 0 := rfl
theorem two_at {w W : World} {a b : Nd} (h : W = w.alloc (.cells #[.int .u8 a.k, .string a.s, .int .i64 a.n, .slice a.p a.kids.len a.c, .int .u8 b.k, .string b.s, .int .i64 b.n, .slice b.p b.kids.len b.c] 25)) (hata : Ts.At w a.p a.kids) (hatb : Ts.At w b.p b.kids) : Below w.heap.size w W ∧ Ts.At W (some ⟨w.heap.size, 0, none⟩) (.cons a.k a.s a.n a.p a.c a.kids (.cons b.k b.s b.n b.p b.c b.kids .nil)) := boxTwo h hata hatb
theorem two_ok {a b : Nd} (ha : a.ok) (hb : b.ok) : Ts.ok (.cons a.k a.s a.n a.p a.c a.kids (.cons b.k b.s b.n b.p b.c b.kids .nil)) := ⟨ha.1, ha.2.1, ha.2.2.1, ha.2.2.2.1, ha.2.2.2.2.1, ha.2.2.2.2.2.1, hb.1, hb.2.1, hb.2.2.1, hb.2.2.2.1, hb.2.2.2.2.1, hb.2.2.2.2.2.1, trivial⟩
/-- Args that F has made -/
theorem twin_two {us : Ts} {a b : Nd} (h : Ts.twin us (.cons a.k a.s a.n a.p a.c a.kids (.cons b.k b.s b.n b.p b.c b.kids .nil))) : ∃ a' b' : Nd, us = .cons a'.k a'.s a'.n a'.p a'.c a'.kids (.cons b'.k b'.s b'.n b'.p b'.c b'.kids .nil) ∧ a'.twin a ∧ b'.twin b := by
  obtain ⟨q, d, v, u, rfl, h1, h2⟩ := th_head h
  obtain ⟨q', d', v', u', rfl, h3, h4⟩ := th_head h2
  obtain rfl := th_nil h4
  exact ⟨⟨_, _, _, q, d, v⟩, ⟨_, _, _, q', d', v'⟩, rfl, ⟨rfl, rfl, rfl, h1⟩, ⟨rfl, rfl, rfl, h3⟩⟩
theorem nV_ok {n : Int} (h : isI64 n) : (nV n).ok := ⟨by simp [nV], by simp [nV, ByteArray.size], h, by simp [nV, Ts.len], fun _ => rfl, trivial, trivial⟩
theorem nA_ok : nA.ok := ⟨by simp [nA], by simp [nA, ByteArray.size], by simp [nA], by simp [nA, Ts.len], fun _ => rfl, trivial, trivial⟩

theorem ndOk14 {k : Int} {s : ByteArray} {n : Int} {p : Option Addr} {c : Nat} {kids : Ts} (hk : 0 ≤ k ∧ k ≤ 255) (hs : s.size ≤ 140737488351232) (hn : -9223372036854775808 ≤ n ∧ n ≤ 9223372036854775807) (hc : kids.len ≤ c ∧ c ≤ 9223372036854775807) (hp : p = none → c = 0) (ho : kids.ok) : Nd.ok ⟨k, s, n, p, c, kids⟩ := ⟨hk, hs, hn, hc, hp, ho, trivial⟩
theorem Nd.twin.trans14 {x y z : Nd} (h : x.twin y) (h' : y.twin z) : x.twin z := Nd.twin_trans h h'

set_option maxRecDepth 100000 in
set_option maxHeartbeats 16000000 in
theorem wakes14_any (w : World) : Calls Tryz.prog 11 #[] w fun e w' => e = .returned (.bool true) ∧ Below w.heap.size w w' := by
  go_enter Tryz.func11, Tryz.ntmps11
  go_wp2_with fail
  refine (new_any _).mono ?_
  rintro e x1 ⟨rfl, hS, hB⟩
  have SN := Lib.hid hS
  have BW := Lib.hid hB
  clear hS hB
  go_wp2_with fail
  refine (V_any 0 _).mono ?_
  rintro e x2 ⟨rfl, hI⟩
  unfold tv
  replace SN := Lib.hid (SN.out.below hI)
  replace BW := Lib.hid (BW.out.trans (hI.mono BW.out.size))
  clear hI
  go_wp2_with fail
  refine (I_any 1 _).mono ?_
  rintro e x3 ⟨rfl, hI⟩
  unfold tv
  replace SN := Lib.hid (SN.out.below hI)
  replace BW := Lib.hid (BW.out.trans (hI.mono BW.out.size))
  clear hI
  go_wp2_with fail
  refine (I_any 2 _).mono ?_
  rintro e x4 ⟨rfl, hI⟩
  unfold tv
  replace SN := Lib.hid (SN.out.below hI)
  replace BW := Lib.hid (BW.out.trans (hI.mono BW.out.size))
  clear hI
  go_wp2_with fail
  obtain ⟨KP, hKP⟩ : ∃ W, W = World.alloc x4 (.cells #[.int .u8 2, .string ⟨#[]⟩, .int .i64 1, .slice none 0 0, .int .u8 2, .string ⟨#[]⟩, .int .i64 2, .slice none 0 0] 25) := ⟨_, rfl⟩
  rw [← hKP]
  obtain ⟨hI, hat⟩ := two_at (a := nI 1) (b := nI 2) hKP ⟨0, 0, .inl rfl, trivial⟩ ⟨0, 0, .inl rfl, trivial⟩
  clear hKP
  replace SN := Lib.hid (SN.out.below hI)
  replace BW := Lib.hid (BW.out.trans (hI.mono BW.out.size))
  clear hI
  have e1 := (show (nI 1).kids.size ≤ 0 from Nat.le_refl _)
  have e2 := (show (nI 2).kids.size ≤ 0 from Nat.le_refl _)
  refine (F_any ⟨#[43]⟩ (.cons (nI 1).k (nI 1).s (nI 1).n (nI 1).p (nI 1).c (nI 1).kids (.cons (nI 2).k (nI 2).s (nI 2).n (nI 2).p (nI 2).c (nI 2).kids .nil)) (by simp only [Ts.size, szI, szV, szA]; omega) (two_ok (a := nI 1) (b := nI 2) (nI_ok (by unfold isI64; omega)) (nI_ok (by unfold isI64; omega))) KP _ 2 hat).mono ?_
  rintro e x5 ⟨usP, qP, dP, rfl, hat6, htw6, hok6, hcl6, hpn6, hI⟩
  rw [if_neg (by simp [Ts.len])]
  unfold tv
  have ATP := Lib.hid hat6.at
  have TWP := Lib.hid htw6
  have OKP : Hid (Nd.ok ⟨4, ⟨#[43]⟩, 0, qP, dP, usP⟩) := Lib.hid (ndOk14 (by omega) (by decide) (by omega) hcl6 hpn6 hok6)
  have SZP : usP.size ≤ Ts.size (.cons (nI 1).k (nI 1).s (nI 1).n (nI 1).p (nI 1).c (nI 1).kids (.cons (nI 2).k (nI 2).s (nI 2).n (nI 2).p (nI 2).c (nI 2).kids .nil)) := Nat.le_of_eq (Ts.twin_size _ _ htw6)
  simp only [Ts.size, szI, szV, szA] at SZP
  clear hat hat6 htw6 hok6 hcl6 hpn6 e1 e2
  replace SN := Lib.hid (SN.out.below hI)
  replace BW := Lib.hid (BW.out.trans (hI.mono BW.out.size))
  clear hI
  go_wp2_with fail
  obtain ⟨KA, hKA⟩ : ∃ W, W = World.alloc x5 (.cells #[.int .u8 1, .string ⟨#[]⟩, .int .i64 0, .slice none 0 0, .int .u8 4, .string ⟨#[43]⟩, .int .i64 0, .slice qP usP.len dP] 25) := ⟨_, rfl⟩
  rw [← hKA]
  obtain ⟨hI, hat⟩ := two_at (a := nV 0) (b := (⟨4, ⟨#[43]⟩, 0, qP, dP, usP⟩ : Nd)) hKA ⟨0, 0, .inl rfl, trivial⟩ ATP.out
  clear hKA
  replace SN := Lib.hid (SN.out.below hI)
  replace ATP := Lib.hid (ATP.out.below hI)
  replace BW := Lib.hid (BW.out.trans (hI.mono BW.out.size))
  clear hI
  have e1 := (show (nV 0).kids.size ≤ 0 from Nat.le_refl _)
  have e2 := (by omega : usP.size ≤ 2)
  refine (F_any ⟨#[105, 115]⟩ (.cons (nV 0).k (nV 0).s (nV 0).n (nV 0).p (nV 0).c (nV 0).kids (.cons ((⟨4, ⟨#[43]⟩, 0, qP, dP, usP⟩ : Nd)).k ((⟨4, ⟨#[43]⟩, 0, qP, dP, usP⟩ : Nd)).s ((⟨4, ⟨#[43]⟩, 0, qP, dP, usP⟩ : Nd)).n ((⟨4, ⟨#[43]⟩, 0, qP, dP, usP⟩ : Nd)).p ((⟨4, ⟨#[43]⟩, 0, qP, dP, usP⟩ : Nd)).c ((⟨4, ⟨#[43]⟩, 0, qP, dP, usP⟩ : Nd)).kids .nil)) (by simp only [Ts.size, szI, szV, szA]; omega) (two_ok (a := nV 0) (b := (⟨4, ⟨#[43]⟩, 0, qP, dP, usP⟩ : Nd)) (nV_ok (by unfold isI64; omega)) OKP.out) KA _ 2 hat).mono ?_
  rintro e x6 ⟨usA, qA, dA, rfl, hat6, htw6, hok6, hcl6, hpn6, hI⟩
  rw [if_neg (by simp [Ts.len])]
  unfold tv
  have ATA := Lib.hid hat6.at
  have TWA := Lib.hid htw6
  have OKA : Hid (Nd.ok ⟨4, ⟨#[105, 115]⟩, 0, qA, dA, usA⟩) := Lib.hid (ndOk14 (by omega) (by decide) (by omega) hcl6 hpn6 hok6)
  have SZA : usA.size ≤ Ts.size (.cons (nV 0).k (nV 0).s (nV 0).n (nV 0).p (nV 0).c (nV 0).kids (.cons ((⟨4, ⟨#[43]⟩, 0, qP, dP, usP⟩ : Nd)).k ((⟨4, ⟨#[43]⟩, 0, qP, dP, usP⟩ : Nd)).s ((⟨4, ⟨#[43]⟩, 0, qP, dP, usP⟩ : Nd)).n ((⟨4, ⟨#[43]⟩, 0, qP, dP, usP⟩ : Nd)).p ((⟨4, ⟨#[43]⟩, 0, qP, dP, usP⟩ : Nd)).c ((⟨4, ⟨#[43]⟩, 0, qP, dP, usP⟩ : Nd)).kids .nil)) := Nat.le_of_eq (Ts.twin_size _ _ htw6)
  simp only [Ts.size, szI, szV, szA] at SZA
  clear hat hat6 htw6 hok6 hcl6 hpn6 e1 e2
  replace SN := Lib.hid (SN.out.below hI)
  replace ATP := Lib.hid (ATP.out.below hI)
  replace BW := Lib.hid (BW.out.trans (hI.mono BW.out.size))
  clear hI
  obtain ⟨aA, bA, hu, hta, htb⟩ := twin_two (a := nV 0) (b := (⟨4, ⟨#[43]⟩, 0, qP, dP, usP⟩ : Nd)) TWA.out
  have VAL := Lib.hid (val_is hta (htb.trans14 ⟨rfl, rfl, rfl, TWP.out⟩))
  have hatg := ATA.out
  have hokg := OKA.out.2.2.2.2.2.1
  simp only at hokg
  rw [hu] at hatg hokg SZA ⊢
  simp only [Ts.size] at SZA
  go_wp2_with fail
  refine (do_10 w.heap.size Sb.none 0 (by omega) _ SN.out aA bA ⟨4, ⟨#[105, 115]⟩, 0, qA, dA, .cons aA.k aA.s aA.n aA.p aA.c aA.kids (.cons bA.k bA.s bA.n bA.p bA.c bA.kids .nil)⟩ rfl rfl rfl hokg hatg (by omega) (by omega)).mono ?_
  rintro e y1 ⟨⟨p1, rfl, hp1⟩, hI⟩
  rw [VAL.out.1] at hp1 ⊢
  have PU1 := Lib.hid (hp1 rfl)
  clear hatg hokg hp1 hu hta htb
  replace SN := Lib.hid (SN.out.below hI)
  replace BW := Lib.hid (BW.out.trans (hI.mono BW.out.size))
  clear hI ATA ATP OKA OKP TWA TWP SZA SZP
  obtain ⟨ρ1, cc1, r1, hu1, hst1⟩ := VAL.out.2
  have hpu := PU1.out
  rw [hu1] at hpu
  obtain ⟨S2, σp, rfl, hst2, hS2⟩ := hpu
  have SP := Lib.hid hS2
  have ST := Lib.hid (hst2.trans hst1)
  clear hu1 hst1 hst2 hS2 PU1 VAL
  generalize y1 = x101 at SN SP BW ⊢
  go_wp2_with fail
  refine (V_any 0 _).mono ?_
  rintro e x102 ⟨rfl, hI⟩
  unfold tv
  replace SN := Lib.hid (SN.out.below hI)
  replace SP := Lib.hid (SP.out.below hI)
  replace BW := Lib.hid (BW.out.trans (hI.mono BW.out.size))
  clear hI
  go_wp2_with fail
  obtain ⟨KF, hKF⟩ : ∃ W, W = World.alloc x102 (.cells #[.int .u8 1, .string ⟨#[]⟩, .int .i64 0, .slice none 0 0] 25) := ⟨_, rfl⟩
  rw [← hKF]
  obtain ⟨hI, hat⟩ := boxOne (b := nV 0) hKF ⟨0, 0, .inl rfl, trivial⟩
  clear hKF
  replace SN := Lib.hid (SN.out.below hI)
  replace SP := Lib.hid (SP.out.below hI)
  replace BW := Lib.hid (BW.out.trans (hI.mono BW.out.size))
  clear hI
  have e1 := (show (nV 0).kids.size ≤ 0 from Nat.le_refl _)
  refine (F_any ⟨#[102]⟩ (.cons (nV 0).k (nV 0).s (nV 0).n (nV 0).p (nV 0).c (nV 0).kids .nil) (by simp only [Ts.size, szI, szV, szA]; omega) (show Ts.ok (.cons (nV 0).k (nV 0).s (nV 0).n (nV 0).p (nV 0).c (nV 0).kids .nil) from (nV_ok (by unfold isI64; omega))) KF _ 1 hat).mono ?_
  rintro e x103 ⟨usF, qF, dF, rfl, hat6, htw6, hok6, hcl6, hpn6, hI⟩
  rw [if_neg (by simp [Ts.len])]
  unfold tv
  have ATF := Lib.hid hat6.at
  have TWF := Lib.hid htw6
  have OKF : Hid (Nd.ok ⟨4, ⟨#[102]⟩, 0, qF, dF, usF⟩) := Lib.hid (ndOk14 (by omega) (by decide) (by omega) hcl6 hpn6 hok6)
  have SZF : usF.size ≤ Ts.size (.cons (nV 0).k (nV 0).s (nV 0).n (nV 0).p (nV 0).c (nV 0).kids .nil) := Nat.le_of_eq (Ts.twin_size _ _ htw6)
  simp only [Ts.size, szI, szV, szA] at SZF
  clear hat hat6 htw6 hok6 hcl6 hpn6 e1
  replace SN := Lib.hid (SN.out.below hI)
  replace SP := Lib.hid (SP.out.below hI)
  replace BW := Lib.hid (BW.out.trans (hI.mono BW.out.size))
  clear hI
  go_wp2_with fail
  refine (A_any ⟨#[97]⟩ _).mono ?_
  rintro e x104 ⟨rfl, hI⟩
  unfold tv
  replace SN := Lib.hid (SN.out.below hI)
  replace SP := Lib.hid (SP.out.below hI)
  replace ATF := Lib.hid (ATF.out.below hI)
  replace BW := Lib.hid (BW.out.trans (hI.mono BW.out.size))
  clear hI
  go_wp2_with fail
  obtain ⟨KG, hKG⟩ : ∃ W, W = World.alloc x104 (.cells #[.int .u8 3, .string ⟨#[97]⟩, .int .i64 0, .slice none 0 0] 25) := ⟨_, rfl⟩
  rw [← hKG]
  obtain ⟨hI, hat⟩ := boxOne (b := nA) hKG ⟨0, 0, .inl rfl, trivial⟩
  clear hKG
  replace SN := Lib.hid (SN.out.below hI)
  replace SP := Lib.hid (SP.out.below hI)
  replace ATF := Lib.hid (ATF.out.below hI)
  replace BW := Lib.hid (BW.out.trans (hI.mono BW.out.size))
  clear hI
  have e1 := (show (nA).kids.size ≤ 0 from Nat.le_refl _)
  refine (F_any ⟨#[102]⟩ (.cons (nA).k (nA).s (nA).n (nA).p (nA).c (nA).kids .nil) (by simp only [Ts.size, szI, szV, szA]; omega) (show Ts.ok (.cons (nA).k (nA).s (nA).n (nA).p (nA).c (nA).kids .nil) from nA_ok) KG _ 1 hat).mono ?_
  rintro e x105 ⟨usG, qG, dG, rfl, hat6, htw6, hok6, hcl6, hpn6, hI⟩
  rw [if_neg (by simp [Ts.len])]
  unfold tv
  have ATG := Lib.hid hat6.at
  have TWG := Lib.hid htw6
  have OKG : Hid (Nd.ok ⟨4, ⟨#[102]⟩, 0, qG, dG, usG⟩) := Lib.hid (ndOk14 (by omega) (by decide) (by omega) hcl6 hpn6 hok6)
  have SZG : usG.size ≤ Ts.size (.cons (nA).k (nA).s (nA).n (nA).p (nA).c (nA).kids .nil) := Nat.le_of_eq (Ts.twin_size _ _ htw6)
  simp only [Ts.size, szI, szV, szA] at SZG
  clear hat hat6 htw6 hok6 hcl6 hpn6 e1
  replace SN := Lib.hid (SN.out.below hI)
  replace SP := Lib.hid (SP.out.below hI)
  replace ATF := Lib.hid (ATF.out.below hI)
  replace BW := Lib.hid (BW.out.trans (hI.mono BW.out.size))
  clear hI
  go_wp2_with fail
  obtain ⟨KB, hKB⟩ : ∃ W, W = World.alloc x105 (.cells #[.int .u8 4, .string ⟨#[102]⟩, .int .i64 0, .slice qF usF.len dF, .int .u8 4, .string ⟨#[102]⟩, .int .i64 0, .slice qG usG.len dG] 25) := ⟨_, rfl⟩
  rw [← hKB]
  obtain ⟨hI, hat⟩ := two_at (a := (⟨4, ⟨#[102]⟩, 0, qF, dF, usF⟩ : Nd)) (b := (⟨4, ⟨#[102]⟩, 0, qG, dG, usG⟩ : Nd)) hKB ATF.out ATG.out
  clear hKB
  replace SN := Lib.hid (SN.out.below hI)
  replace SP := Lib.hid (SP.out.below hI)
  replace ATF := Lib.hid (ATF.out.below hI)
  replace ATG := Lib.hid (ATG.out.below hI)
  replace BW := Lib.hid (BW.out.trans (hI.mono BW.out.size))
  clear hI
  have e1 := (by omega : usF.size ≤ 1)
  have e2 := (by omega : usG.size ≤ 1)
  refine (F_any ⟨#[92, 61]⟩ (.cons ((⟨4, ⟨#[102]⟩, 0, qF, dF, usF⟩ : Nd)).k ((⟨4, ⟨#[102]⟩, 0, qF, dF, usF⟩ : Nd)).s ((⟨4, ⟨#[102]⟩, 0, qF, dF, usF⟩ : Nd)).n ((⟨4, ⟨#[102]⟩, 0, qF, dF, usF⟩ : Nd)).p ((⟨4, ⟨#[102]⟩, 0, qF, dF, usF⟩ : Nd)).c ((⟨4, ⟨#[102]⟩, 0, qF, dF, usF⟩ : Nd)).kids (.cons ((⟨4, ⟨#[102]⟩, 0, qG, dG, usG⟩ : Nd)).k ((⟨4, ⟨#[102]⟩, 0, qG, dG, usG⟩ : Nd)).s ((⟨4, ⟨#[102]⟩, 0, qG, dG, usG⟩ : Nd)).n ((⟨4, ⟨#[102]⟩, 0, qG, dG, usG⟩ : Nd)).p ((⟨4, ⟨#[102]⟩, 0, qG, dG, usG⟩ : Nd)).c ((⟨4, ⟨#[102]⟩, 0, qG, dG, usG⟩ : Nd)).kids .nil)) (by simp only [Ts.size, szI, szV, szA]; omega) (two_ok (a := (⟨4, ⟨#[102]⟩, 0, qF, dF, usF⟩ : Nd)) (b := (⟨4, ⟨#[102]⟩, 0, qG, dG, usG⟩ : Nd)) OKF.out OKG.out) KB _ 2 hat).mono ?_
  rintro e x106 ⟨usB, qB, dB, rfl, hat6, htw6, hok6, hcl6, hpn6, hI⟩
  rw [if_neg (by simp [Ts.len])]
  unfold tv
  have ATB := Lib.hid hat6.at
  have TWB := Lib.hid htw6
  have OKB : Hid (Nd.ok ⟨4, ⟨#[92, 61]⟩, 0, qB, dB, usB⟩) := Lib.hid (ndOk14 (by omega) (by decide) (by omega) hcl6 hpn6 hok6)
  have SZB : usB.size ≤ Ts.size (.cons ((⟨4, ⟨#[102]⟩, 0, qF, dF, usF⟩ : Nd)).k ((⟨4, ⟨#[102]⟩, 0, qF, dF, usF⟩ : Nd)).s ((⟨4, ⟨#[102]⟩, 0, qF, dF, usF⟩ : Nd)).n ((⟨4, ⟨#[102]⟩, 0, qF, dF, usF⟩ : Nd)).p ((⟨4, ⟨#[102]⟩, 0, qF, dF, usF⟩ : Nd)).c ((⟨4, ⟨#[102]⟩, 0, qF, dF, usF⟩ : Nd)).kids (.cons ((⟨4, ⟨#[102]⟩, 0, qG, dG, usG⟩ : Nd)).k ((⟨4, ⟨#[102]⟩, 0, qG, dG, usG⟩ : Nd)).s ((⟨4, ⟨#[102]⟩, 0, qG, dG, usG⟩ : Nd)).n ((⟨4, ⟨#[102]⟩, 0, qG, dG, usG⟩ : Nd)).p ((⟨4, ⟨#[102]⟩, 0, qG, dG, usG⟩ : Nd)).c ((⟨4, ⟨#[102]⟩, 0, qG, dG, usG⟩ : Nd)).kids .nil)) := Nat.le_of_eq (Ts.twin_size _ _ htw6)
  simp only [Ts.size, szI, szV, szA] at SZB
  clear hat hat6 htw6 hok6 hcl6 hpn6 e1 e2
  replace SN := Lib.hid (SN.out.below hI)
  replace SP := Lib.hid (SP.out.below hI)
  replace ATF := Lib.hid (ATF.out.below hI)
  replace ATG := Lib.hid (ATG.out.below hI)
  replace BW := Lib.hid (BW.out.trans (hI.mono BW.out.size))
  clear hI
  obtain ⟨aB, bB, hu, hta, htb⟩ := twin_two (a := (⟨4, ⟨#[102]⟩, 0, qF, dF, usF⟩ : Nd)) (b := (⟨4, ⟨#[102]⟩, 0, qG, dG, usG⟩ : Nd)) TWB.out
  have VAL := Lib.hid (val_ne (hta.trans14 ⟨rfl, rfl, rfl, TWF.out⟩) (htb.trans14 ⟨rfl, rfl, rfl, TWG.out⟩))
  have hatg := ATB.out
  have hokg := OKB.out.2.2.2.2.2.1
  simp only at hokg
  rw [hu] at hatg hokg SZB ⊢
  simp only [Ts.size] at SZB
  go_wp2_with fail
  refine (do_3 w.heap.size Sb.none 0 (by omega) _ SN.out aB bB ⟨4, ⟨#[92, 61]⟩, 0, qB, dB, .cons aB.k aB.s aB.n aB.p aB.c aB.kids (.cons bB.k bB.s bB.n bB.p bB.c bB.kids .nil)⟩ rfl rfl rfl hokg hatg (by omega) (by omega)).mono ?_
  rintro e yB ⟨⟨pB, rfl⟩, hI⟩
  rw [VAL.out]
  clear hatg hokg hu hta htb VAL
  replace SN := Lib.hid (SN.out.below hI)
  replace SP := Lib.hid (SP.out.below hI)
  replace BW := Lib.hid (BW.out.trans (hI.mono BW.out.size))
  clear hI ATF OKF TWF SZF ATG OKG TWG SZG ATB OKB TWB SZB
  generalize yB = x201 at SN SP BW ⊢
  go_wp2_with fail
  refine (V_any 0 _).mono ?_
  rintro e x202 ⟨rfl, hI⟩
  unfold tv
  replace SN := Lib.hid (SN.out.below hI)
  replace SP := Lib.hid (SP.out.below hI)
  replace BW := Lib.hid (BW.out.trans (hI.mono BW.out.size))
  clear hI
  go_wp2_with fail
  refine (V_any 1 _).mono ?_
  rintro e x203 ⟨rfl, hI⟩
  unfold tv
  replace SN := Lib.hid (SN.out.below hI)
  replace SP := Lib.hid (SP.out.below hI)
  replace BW := Lib.hid (BW.out.trans (hI.mono BW.out.size))
  clear hI
  go_wp2_with fail
  obtain ⟨KC, hKC⟩ : ∃ W, W = World.alloc x203 (.cells #[.int .u8 1, .string ⟨#[]⟩, .int .i64 0, .slice none 0 0, .int .u8 1, .string ⟨#[]⟩, .int .i64 1, .slice none 0 0] 25) := ⟨_, rfl⟩
  rw [← hKC]
  obtain ⟨hI, hat⟩ := two_at (a := nV 0) (b := nV 1) hKC ⟨0, 0, .inl rfl, trivial⟩ ⟨0, 0, .inl rfl, trivial⟩
  clear hKC
  replace SN := Lib.hid (SN.out.below hI)
  replace SP := Lib.hid (SP.out.below hI)
  replace BW := Lib.hid (BW.out.trans (hI.mono BW.out.size))
  clear hI
  have e1 := (show (nV 0).kids.size ≤ 0 from Nat.le_refl _)
  have e2 := (show (nV 1).kids.size ≤ 0 from Nat.le_refl _)
  refine (F_any ⟨#[64, 60]⟩ (.cons (nV 0).k (nV 0).s (nV 0).n (nV 0).p (nV 0).c (nV 0).kids (.cons (nV 1).k (nV 1).s (nV 1).n (nV 1).p (nV 1).c (nV 1).kids .nil)) (by simp only [Ts.size, szI, szV, szA]; omega) (two_ok (a := nV 0) (b := nV 1) (nV_ok (by unfold isI64; omega)) (nV_ok (by unfold isI64; omega))) KC _ 2 hat).mono ?_
  rintro e x204 ⟨usC, qC, dC, rfl, hat6, htw6, hok6, hcl6, hpn6, hI⟩
  rw [if_neg (by simp [Ts.len])]
  unfold tv
  have ATC := Lib.hid hat6.at
  have TWC := Lib.hid htw6
  have OKC : Hid (Nd.ok ⟨4, ⟨#[64, 60]⟩, 0, qC, dC, usC⟩) := Lib.hid (ndOk14 (by omega) (by decide) (by omega) hcl6 hpn6 hok6)
  have SZC : usC.size ≤ Ts.size (.cons (nV 0).k (nV 0).s (nV 0).n (nV 0).p (nV 0).c (nV 0).kids (.cons (nV 1).k (nV 1).s (nV 1).n (nV 1).p (nV 1).c (nV 1).kids .nil)) := Nat.le_of_eq (Ts.twin_size _ _ htw6)
  simp only [Ts.size, szI, szV, szA] at SZC
  clear hat hat6 htw6 hok6 hcl6 hpn6 e1 e2
  replace SN := Lib.hid (SN.out.below hI)
  replace SP := Lib.hid (SP.out.below hI)
  replace BW := Lib.hid (BW.out.trans (hI.mono BW.out.size))
  clear hI
  obtain ⟨aC, bC, hu, hta, htb⟩ := twin_two (a := nV 0) (b := nV 1) TWC.out
  have VAL := Lib.hid (val_vv (Ts.len_zero (by rw [Ts.twin_len _ _ hta.2.2.2]; rfl)) (Ts.len_zero (by rw [Ts.twin_len _ _ htb.2.2.2]; rfl)) ⟨hta.1, hta.2.2.1⟩ ⟨htb.1, htb.2.2.1⟩)
  have hatg := ATC.out
  have hokg := OKC.out.2.2.2.2.2.1
  simp only at hokg
  rw [hu] at hatg hokg SZC ⊢
  simp only [Ts.size] at SZC
  go_wp2_with fail
  refine (do_6 w.heap.size Sb.none 0 (by omega) _ SN.out aC bC ⟨4, ⟨#[64, 60]⟩, 0, qC, dC, .cons aC.k aC.s aC.n aC.p aC.c aC.kids (.cons bC.k bC.s bC.n bC.p bC.c bC.kids .nil)⟩ rfl rfl rfl hokg hatg (by omega) (by omega)).mono ?_
  rintro e yC ⟨⟨pC, rfl⟩, hI⟩
  rw [VAL.out]
  clear hatg hokg hu hta htb VAL
  replace SN := Lib.hid (SN.out.below hI)
  replace SP := Lib.hid (SP.out.below hI)
  replace BW := Lib.hid (BW.out.trans (hI.mono BW.out.size))
  clear hI ATC OKC TWC SZC
  generalize yC = x301 at SN SP BW ⊢
  go_wp2_with fail
  refine (V_any 0 _).mono ?_
  rintro e x302 ⟨rfl, hI⟩
  unfold tv
  replace SN := Lib.hid (SN.out.below hI)
  replace SP := Lib.hid (SP.out.below hI)
  replace BW := Lib.hid (BW.out.trans (hI.mono BW.out.size))
  clear hI
  go_wp2_with fail
  refine (I_any 1 _).mono ?_
  rintro e x303 ⟨rfl, hI⟩
  unfold tv
  replace SN := Lib.hid (SN.out.below hI)
  replace SP := Lib.hid (SP.out.below hI)
  replace BW := Lib.hid (BW.out.trans (hI.mono BW.out.size))
  clear hI
  go_wp2_with fail
  obtain ⟨KD, hKD⟩ : ∃ W, W = World.alloc x303 (.cells #[.int .u8 1, .string ⟨#[]⟩, .int .i64 0, .slice none 0 0, .int .u8 2, .string ⟨#[]⟩, .int .i64 1, .slice none 0 0] 25) := ⟨_, rfl⟩
  rw [← hKD]
  obtain ⟨hI, hat⟩ := two_at (a := nV 0) (b := nI 1) hKD ⟨0, 0, .inl rfl, trivial⟩ ⟨0, 0, .inl rfl, trivial⟩
  clear hKD
  replace SN := Lib.hid (SN.out.below hI)
  replace SP := Lib.hid (SP.out.below hI)
  replace BW := Lib.hid (BW.out.trans (hI.mono BW.out.size))
  clear hI
  have e1 := (show (nV 0).kids.size ≤ 0 from Nat.le_refl _)
  have e2 := (show (nI 1).kids.size ≤ 0 from Nat.le_refl _)
  refine (F_any ⟨#[64, 60]⟩ (.cons (nV 0).k (nV 0).s (nV 0).n (nV 0).p (nV 0).c (nV 0).kids (.cons (nI 1).k (nI 1).s (nI 1).n (nI 1).p (nI 1).c (nI 1).kids .nil)) (by simp only [Ts.size, szI, szV, szA]; omega) (two_ok (a := nV 0) (b := nI 1) (nV_ok (by unfold isI64; omega)) (nI_ok (by unfold isI64; omega))) KD _ 2 hat).mono ?_
  rintro e x304 ⟨usD, qD, dD, rfl, hat6, htw6, hok6, hcl6, hpn6, hI⟩
  rw [if_neg (by simp [Ts.len])]
  unfold tv
  have ATD := Lib.hid hat6.at
  have TWD := Lib.hid htw6
  have OKD : Hid (Nd.ok ⟨4, ⟨#[64, 60]⟩, 0, qD, dD, usD⟩) := Lib.hid (ndOk14 (by omega) (by decide) (by omega) hcl6 hpn6 hok6)
  have SZD : usD.size ≤ Ts.size (.cons (nV 0).k (nV 0).s (nV 0).n (nV 0).p (nV 0).c (nV 0).kids (.cons (nI 1).k (nI 1).s (nI 1).n (nI 1).p (nI 1).c (nI 1).kids .nil)) := Nat.le_of_eq (Ts.twin_size _ _ htw6)
  simp only [Ts.size, szI, szV, szA] at SZD
  clear hat hat6 htw6 hok6 hcl6 hpn6 e1 e2
  replace SN := Lib.hid (SN.out.below hI)
  replace SP := Lib.hid (SP.out.below hI)
  replace BW := Lib.hid (BW.out.trans (hI.mono BW.out.size))
  clear hI
  obtain ⟨aD, bD, hu, hta, htb⟩ := twin_two (a := nV 0) (b := nI 1) TWD.out
  have VAL := Lib.hid (val_vi (Ts.len_zero (by rw [Ts.twin_len _ _ hta.2.2.2]; rfl)) (Ts.len_zero (by rw [Ts.twin_len _ _ htb.2.2.2]; rfl)) ⟨hta.1, hta.2.2.1⟩ ⟨htb.1, htb.2.2.1⟩)
  have hatg := ATD.out
  have hokg := OKD.out.2.2.2.2.2.1
  simp only at hokg
  rw [hu] at hatg hokg SZD ⊢
  simp only [Ts.size] at SZD
  go_wp2_with fail
  refine (do_6 w.heap.size Sb.none 0 (by omega) _ SN.out aD bD ⟨4, ⟨#[64, 60]⟩, 0, qD, dD, .cons aD.k aD.s aD.n aD.p aD.c aD.kids (.cons bD.k bD.s bD.n bD.p bD.c bD.kids .nil)⟩ rfl rfl rfl hokg hatg (by omega) (by omega)).mono ?_
  rintro e yD ⟨⟨pD, rfl⟩, hI⟩
  rw [VAL.out]
  clear hatg hokg hu hta htb VAL
  replace SN := Lib.hid (SN.out.below hI)
  replace SP := Lib.hid (SP.out.below hI)
  replace BW := Lib.hid (BW.out.trans (hI.mono BW.out.size))
  clear hI ATD OKD TWD SZD
  generalize yD = x401 at SN SP BW ⊢
  go_wp2_with fail
  refine (I_any 1 _).mono ?_
  rintro e x402 ⟨rfl, hI⟩
  unfold tv
  replace SN := Lib.hid (SN.out.below hI)
  replace SP := Lib.hid (SP.out.below hI)
  replace BW := Lib.hid (BW.out.trans (hI.mono BW.out.size))
  clear hI
  go_wp2_with fail
  refine (A_any ⟨#[97]⟩ _).mono ?_
  rintro e x403 ⟨rfl, hI⟩
  unfold tv
  replace SN := Lib.hid (SN.out.below hI)
  replace SP := Lib.hid (SP.out.below hI)
  replace BW := Lib.hid (BW.out.trans (hI.mono BW.out.size))
  clear hI
  go_wp2_with fail
  obtain ⟨KE, hKE⟩ : ∃ W, W = World.alloc x403 (.cells #[.int .u8 2, .string ⟨#[]⟩, .int .i64 1, .slice none 0 0, .int .u8 3, .string ⟨#[97]⟩, .int .i64 0, .slice none 0 0] 25) := ⟨_, rfl⟩
  rw [← hKE]
  obtain ⟨hI, hat⟩ := two_at (a := nI 1) (b := nA) hKE ⟨0, 0, .inl rfl, trivial⟩ ⟨0, 0, .inl rfl, trivial⟩
  clear hKE
  replace SN := Lib.hid (SN.out.below hI)
  replace SP := Lib.hid (SP.out.below hI)
  replace BW := Lib.hid (BW.out.trans (hI.mono BW.out.size))
  clear hI
  have e1 := (show (nI 1).kids.size ≤ 0 from Nat.le_refl _)
  have e2 := (show (nA).kids.size ≤ 0 from Nat.le_refl _)
  refine (F_any ⟨#[60]⟩ (.cons (nI 1).k (nI 1).s (nI 1).n (nI 1).p (nI 1).c (nI 1).kids (.cons (nA).k (nA).s (nA).n (nA).p (nA).c (nA).kids .nil)) (by simp only [Ts.size, szI, szV, szA]; omega) (two_ok (a := nI 1) (b := nA) (nI_ok (by unfold isI64; omega)) nA_ok) KE _ 2 hat).mono ?_
  rintro e x404 ⟨usE, qE, dE, rfl, hat6, htw6, hok6, hcl6, hpn6, hI⟩
  rw [if_neg (by simp [Ts.len])]
  unfold tv
  have ATE := Lib.hid hat6.at
  have TWE := Lib.hid htw6
  have OKE : Hid (Nd.ok ⟨4, ⟨#[60]⟩, 0, qE, dE, usE⟩) := Lib.hid (ndOk14 (by omega) (by decide) (by omega) hcl6 hpn6 hok6)
  have SZE : usE.size ≤ Ts.size (.cons (nI 1).k (nI 1).s (nI 1).n (nI 1).p (nI 1).c (nI 1).kids (.cons (nA).k (nA).s (nA).n (nA).p (nA).c (nA).kids .nil)) := Nat.le_of_eq (Ts.twin_size _ _ htw6)
  simp only [Ts.size, szI, szV, szA] at SZE
  clear hat hat6 htw6 hok6 hcl6 hpn6 e1 e2
  replace SN := Lib.hid (SN.out.below hI)
  replace SP := Lib.hid (SP.out.below hI)
  replace BW := Lib.hid (BW.out.trans (hI.mono BW.out.size))
  clear hI
  obtain ⟨aE, bE, hu, hta, htb⟩ := twin_two (a := nI 1) (b := nA) TWE.out
  have VAL := Lib.hid (val_ia hta htb)
  have hatg := ATE.out
  have hokg := OKE.out.2.2.2.2.2.1
  simp only at hokg
  rw [hu] at hatg hokg SZE ⊢
  simp only [Ts.size] at SZE
  go_wp2_with fail
  refine (do_13 w.heap.size Sb.none 0 (by omega) _ SN.out aE bE ⟨4, ⟨#[60]⟩, 0, qE, dE, .cons aE.k aE.s aE.n aE.p aE.c aE.kids (.cons bE.k bE.s bE.n bE.p bE.c bE.kids .nil)⟩ rfl rfl rfl hokg hatg (by omega) (by omega)).mono ?_
  rintro e yE ⟨⟨pE, rfl⟩, hI⟩
  rw [VAL.out]
  clear hatg hokg hu hta htb VAL
  replace SN := Lib.hid (SN.out.below hI)
  replace SP := Lib.hid (SP.out.below hI)
  replace BW := Lib.hid (BW.out.trans (hI.mono BW.out.size))
  clear hI ATE OKE TWE SZE
  generalize yE = x501 at SN SP BW ⊢
  go_wp2_with fail
  refine (V_any 0 _).mono ?_
  rintro e x502 ⟨rfl, hI⟩
  unfold tv
  replace SN := Lib.hid (SN.out.below hI)
  replace SP := Lib.hid (SP.out.below hI)
  replace BW := Lib.hid (BW.out.trans (hI.mono BW.out.size))
  clear hI
  go_wp2_with fail
  refine (walk_any S2 σp cc1 _ SP.out (nV 0) (nV_ok (by unfold isI64; omega)) ⟨0, 0, .inl rfl, trivial⟩ (by simp [nV, Ts.size])).mono ?_
  rintro e x600 ⟨v, rfl, hv, hI⟩
  obtain ⟨us, q, d, rfl, -, -, -, -, -⟩ := hv
  have WT := Lib.hid (wk_three ST.out SP.out.ends)
  replace BW := Lib.hid (BW.out.trans (hI.mono BW.out.size))
  unfold tv
  rw [show (wk σp (nV 0)).k = 2 from WT.out.1, show (wk σp (nV 0)).n = 3 from WT.out.2.2.1]
  clear hI SP ST SN WT
  go_wp2
  go_ret
  exact ⟨rfl, BW.out.alloc BW.out.size _⟩

end Go.Proofs.YtnmhnaanpjlniaaGreat
/-
  Layer 14's bad and deep. (Written by gen_fp.py.)
-/
namespace Go.Proofs.YtnmhnaanpjlniaaGreat
open Go.RowKit

noncomputable def gdB (x : Nd) : Bool := goodB 64 x.k x.s x.n x.kids
noncomputable def badL : List (Int × Nd) → Nat
  | [] => 0
  | e :: l => (if gdB e.2 = true then 0 else 1) + badL l
noncomputable def badT : Ts → Nat
  | .nil => 0
  | .cons k s n _ _ ks r => (if goodB 64 k s n ks = true then 0 else 1) + badT r

theorem badL_le : ∀ l : List (Int × Nd), badL l ≤ l.length
  | [] => Nat.le_refl _
  | e :: l => by
    have := badL_le l
    unfold badL
    simp only [List.length_cons]
    split <;> omega
theorem badT_le : ∀ ts : Ts, badT ts ≤ ts.len
  | .nil => Nat.le_refl _
  | .cons k s n p c ks r => by
    have := badT_le r
    unfold badT
    simp only [Ts.len]
    split <;> omega
theorem badL_none : ∀ {l : List (Int × Nd)}, badL l = 0 → ∀ e ∈ l, gdB e.2 = true
  | [], _, e, he => by cases he
  | x :: l, h, e, he => by
    unfold badL at h
    by_cases hx : gdB x.2 = true
    · rw [if_pos hx] at h
      rcases List.mem_cons.1 he with rfl | he
      · exact hx
      · exact badL_none (by omega) e he
    · rw [if_neg hx] at h
      omega
theorem bsTs_mem_size : ∀ {l : List (Int × Nd)} {e : Int × Nd}, e ∈ l → e.2.kids.size ≤ (bsTs l).size
  | [], e, he => by cases he
  | (u, x) :: l, e, he => by
    rcases List.mem_cons.1 he with rfl | he
    · simp only [bsTs, Ts.size]; omega
    · have := bsTs_mem_size he
      simp only [bsTs, Ts.size]; omega
theorem bsTs_mem_ok : ∀ {l : List (Int × Nd)} {e : Int × Nd}, e ∈ l → (bsTs l).ok → e.2.ok
  | [], e, he, _ => by cases he
  | (u, x) :: l, e, he, h => by
    rcases List.mem_cons.1 he with rfl | he
    · exact ⟨h.1, h.2.1, h.2.2.1, h.2.2.2.1, h.2.2.2.2.1, h.2.2.2.2.2.1, trivial⟩
    · exact bsTs_mem_ok he h.2.2.2.2.2.2

set_option maxRecDepth 100000 in
set_option maxHeartbeats 4000000 in
theorem bad_any (l : List (Int × Nd)) (g : Nd) (hl40 : l.length ≤ 40) (hbok : (bsTs l).ok) (hbs : (bsTs l).size ≤ 5000) (w : World) (lp : Option Addr) (lc : Nat) (hat : BsAt w lp l) (hok : g.ok) (hgat : Ts.At w g.p g.kids) (hgs : g.kids.size ≤ 5000) :
    Calls Tryz.prog 10 #[.slice lp l.length lc, .agg #[.int .u8 g.k, .string g.s, .int .i64 g.n, .slice g.p g.kids.len g.c]] w fun e w' => e = .returned (.int .i64 ((badL l + badT g.kids : Nat) : Int)) ∧ Below w.heap.size w w' := by
  obtain ⟨b, o, hp, hlies⟩ := hat
  have HP := Lib.hid hp
  have LI := Lib.hid hlies
  have BOK := Lib.hid hbok
  have OK := Lib.hid hok
  have hgl : g.kids.len ≤ 5000 := Nat.le_trans (Ts.len_size _) hgs
  obtain ⟨W0, hW0⟩ : ∃ W0, W0 = w.alloc (.cells #[.int .u8 g.k, .string g.s, .int .i64 g.n, .slice g.p g.kids.len g.c] 25) := ⟨_, rfl⟩
  have hB0 : Below w.heap.size w W0 := by rw [hW0]; exact (Below.refl _ _).alloc (Nat.le_refl _) _
  have XG := Lib.hid (by rw [hW0]; exact BoxIs.new w g _ : BoxIs w.heap.size g W0)
  have ATg := Lib.hid (hgat.below hB0)
  replace LI := Lib.hid (LI.out.stay (stays hB0).1)
  have BW := Lib.hid hB0
  have ZW := Lib.hid hW0
  have hz : w.heap.size < W0.heap.size := by rw [hW0]; simp
  clear hp hlies hbok hok hgat hB0 hW0
  go_enter Tryz.func10, Tryz.ntmps10
  go_wp2
  rw [← ZW.out]
  go_loopw [5, 6] (fun s5 s6 wr => ∃ j n : Nat, j ≤ l.length ∧ s6 = .int .i64 j ∧ s5 = .int .i64 n ∧ Hid (n + badL (l.drop j) = badL l) ∧ Hid (Below W0.heap.size W0 wr)) (fun _ i _ => l.length - (intOf i).toNat)
  case atStart => exact ⟨0, 0, by omega, rfl, rfl, Lib.hid (Nat.zero_add _), Lib.hid (Below.refl _ _)⟩
  case round =>
    obtain ⟨j, n, hj, rfl, rfl, NL, BB⟩ := hrel
    have hnl : n ≤ 40 := by have := NL.out; have := badL_le l; omega
    by_cases hlt : j < l.length
    · have hpp : lp = some ⟨b, o, none⟩ := by
        rcases HP.out with h | h
        · rw [h] at hlt; simp at hlt
        · exact h
      subst hpp
      obtain ⟨⟨u, x⟩, hux⟩ : ∃ ux, l[j]? = some ux := ⟨_, List.getElem?_eq_getElem hlt⟩
      have EL := Lib.hid ((LI.out.stay (stays BB.out).1).get hux)
      have hmem := List.mem_of_getElem? hux
      have OX := Lib.hid (bsTs_mem_ok hmem BOK.out)
      have hxs : x.kids.size ≤ 5000 := Nat.le_trans (bsTs_mem_size hmem) hbs
      have hdr : badL (l.drop j) = (if gdB x = true then 0 else 1) + badL (l.drop (j + 1)) := by
        have h := List.getElem?_eq_some_iff.1 hux
        rw [List.drop_eq_getElem_cons hlt, h.2]
        rfl
      have DR := Lib.hid hdr
      clear hdr hux hmem
      have c1 := EL.out.c1
      have c2 := EL.out.c2
      have c3 := EL.out.c3
      have c4 := EL.out.c4
      obtain ⟨gx, hgx⟩ : ∃ gx, gx = gdB x := ⟨_, rfl⟩
      have GX := Lib.hid hgx
      go_wp2_with fail
      refine (rGood_any x.kids (by omega) OX.out.2.2.2.2.2.1 x.k x.s x.n wr x.p x.c OX.out.2.1 EL.out.at_).mono ?_
      rintro e w1 ⟨rfl, hI⟩
      rw [show goodB 64 x.k x.s x.n x.kids = gx from hgx.symm]
      have B1 := Lib.hid (BB.out.trans (hI.mono BB.out.size))
      clear hI hgx c1 c2 c3 c4
      cases gx with
      | true =>
        have NL' : Hid (n + badL (l.drop (j + 1)) = badL l) := Lib.hid (by rw [← NL.out, DR.out, ← GX.out, if_pos rfl]; omega)
        go_wp2
        go_roundw
        case rel => exact ⟨j + 1, n, by omega, by go_num, rfl, NL', B1⟩
        case measure => simp [intOf]; omega
      | false =>
        have NL' : Hid (n + 1 + badL (l.drop (j + 1)) = badL l) := Lib.hid (by rw [← NL.out, DR.out, ← GX.out, if_neg (by simp)]; omega)
        go_wp2
        go_roundw
        case rel => exact ⟨j + 1, n + 1, by omega, by go_num, by go_num, NL', B1⟩
        case measure => simp [intOf]; omega
    · have NE : Hid (n = badL l) := Lib.hid (by rw [← NL.out, List.drop_of_length_le (by omega)]; rfl)
      obtain ⟨bg, og, hpg, hlg⟩ := ATg.out
      have LG := Lib.hid hlg
      have HG := Lib.hid hpg
      clear hlg hpg NL
      have x3 := (BB.out.cell (p := ⟨w.heap.size, 3, none⟩) hz).trans XG.out.c3
      go_wp2
      clear x3
      go_loopw [5, 7] (fun s5 s7 wr2 => ∃ i m : Nat, i ≤ g.kids.len ∧ s7 = .int .i64 i ∧ s5 = .int .i64 m ∧ Hid (m + badT (g.kids.drop i) = n + badT g.kids) ∧ Hid (Below W0.heap.size W0 wr2)) (fun _ i _ => g.kids.len - (intOf i).toNat)
      case atStart => exact ⟨0, n, by omega, rfl, rfl, Lib.hid rfl, BB⟩
      case round =>
        obtain ⟨i, m, hi, rfl, rfl, NT, B2⟩ := hrel
        have hml : m ≤ 6000 := by have := NT.out; have := badT_le g.kids; omega
        have x3 := (B2.out.cell (p := ⟨w.heap.size, 3, none⟩) hz).trans XG.out.c3
        by_cases hli : i < g.kids.len
        · obtain ⟨kk, s1, nn, pp, cc, kids, rest, D, he, hz1, hO1⟩ := Ts.elem LG.out B2.out OK.out.2.2.2.2.2.1 hli
          have E := Lib.hid he
          have O1 := Lib.hid hO1
          have hpp : g.p = some ⟨bg, og, none⟩ := by
            rcases HG.out with h | h
            · rw [h] at hli; simp [Ts.len] at hli
            · exact h
          rw [hpp] at x3
          have DT : Hid (badT (g.kids.drop i) = (if goodB 64 kk s1 nn kids = true then 0 else 1) + badT (g.kids.drop (i + 1))) := Lib.hid (by
            rw [D.out, Ts.drop_succ i g.kids D.out]; rfl)
          have e0 := E.out.c0
          have e1 := E.out.c1
          have e2 := E.out.c2
          have e3 := E.out.c3
          clear he hO1 hpp
          obtain ⟨gx, hgx⟩ : ∃ gx, gx = goodB 64 kk s1 nn kids := ⟨_, rfl⟩
          have GX := Lib.hid hgx
          go_wp2_with fail
          refine (rGood_any kids (by omega) O1.out.2.2.2.2.2.1 kk s1 nn wr pp cc O1.out.2.1 E.out.tat).mono ?_
          rintro e w1 ⟨rfl, hI⟩
          rw [← hgx]
          have B1 := Lib.hid (B2.out.trans (hI.mono B2.out.size))
          clear hI hgx e0 e1 e2 e3 x3
          cases gx with
          | true =>
            have NT' : Hid (m + badT (g.kids.drop (i + 1)) = n + badT g.kids) := Lib.hid (by rw [← NT.out, DT.out, ← GX.out, if_pos rfl]; omega)
            go_wp2
            go_roundw
            case rel => exact ⟨i + 1, m, by omega, by go_num, rfl, NT', B1⟩
            case measure => simp [intOf]; omega
          | false =>
            have NT' : Hid (m + 1 + badT (g.kids.drop (i + 1)) = n + badT g.kids) := Lib.hid (by rw [← NT.out, DT.out, ← GX.out, if_neg (by simp)]; omega)
            go_wp2
            go_roundw
            case rel => exact ⟨i + 1, m + 1, by omega, by go_num, by go_num, NT', B1⟩
            case measure => simp [intOf]; omega
        · have hd : g.kids.drop i = .nil := Ts.len_zero (by rw [Ts.drop_len]; omega)
          have ME : Hid (m = badL l + badT g.kids) := Lib.hid (by
            have h := NT.out
            rw [hd, NE.out] at h
            exact h)
          clear hd NT
          go_wp2
          go_ret
          exact ⟨by rw [ME.out]; rfl, BW.out.trans (B2.out.mono BW.out.size)⟩

set_option maxRecDepth 100000 in
set_option maxHeartbeats 4000000 in
theorem deep_any (l : List (Int × Nd)) (hl : l.length ≤ 1000000) (hE : Ends (look l)) (hS : Small (look l)) (w : World) (lp : Option Addr) (lc : Nat) (hat : BsAt w lp l) (t : Nd) (hok : t.ok) (hsz : t.kids.size ≤ 5000) (htat : Ts.At w t.p t.kids) :
    Calls Tryz.prog 16 #[.slice lp l.length lc, .agg #[.int .u8 t.k, .string t.s, .int .i64 t.n, .slice t.p t.kids.len t.c]] w fun e w' => ∃ v : Bool, e = .returned (.bool v) ∧ (v = false → ∃ U : Nd, Ap (look l) t U ∧ gdB U = true) ∧ Below w.heap.size w w' := by
  have HE := Lib.hid hE
  have HSM := Lib.hid hS
  have AT := Lib.hid hat
  have OKt := Lib.hid hok
  have ATt := Lib.hid htat
  clear hE hS hat hok htat
  obtain ⟨N, hN⟩ : ∃ N, N = (vis (look l) 4097 [t]).length := ⟨_, rfl⟩
  have NE := Lib.hid hN
  obtain ⟨Q, hQ⟩ : ∃ Q, Q = posA (-1) 0 (vis (look l) 4097 [t]) := ⟨_, rfl⟩
  have QE := Lib.hid hQ
  clear hN hQ
  obtain ⟨W0, hW0⟩ : ∃ W0, W0 = w.alloc (.cells #[.int .u8 t.k, .string t.s, .int .i64 t.n, .slice t.p t.kids.len t.c] 25) := ⟨_, rfl⟩
  have BW := Lib.hid (by rw [hW0]; exact (Below.refl _ _).alloc (Nat.le_refl _) _ : Below w.heap.size w W0)
  have XT := Lib.hid (by rw [hW0]; exact BoxIs.new w t _ : BoxIs w.heap.size t W0)
  have ZW := Lib.hid hW0
  clear hW0
  go_enter Tryz.func16, Tryz.ntmps16
  go_upto_region 1 with fail
  rw [← ZW.out]
  have c0 := XT.out.c0
  have c1 := XT.out.c1
  have c2 := XT.out.c2
  have c3 := XT.out.c3
  go_wp2_with fail
  refine (bnodes_any l hl HE.out HSM.out W0 lp lc (AT.out.below BW.out) t OKt.out hsz (ATt.out.below BW.out) (-1)).mono ?_
  rintro e w1 ⟨rfl, hI⟩
  rw [← NE.out, ← QE.out]
  replace XT := Lib.hid (XT.out.below hI)
  replace BW := Lib.hid (BW.out.trans (hI.mono BW.out.size))
  clear hI
  clear c0 c1 c2 c3
  by_cases hn : N ≤ 4096
  · have hn1 : (N : Int) ≤ 4096 := by omega
    have c0 := XT.out.c0
    have c1 := XT.out.c1
    have c2 := XT.out.c2
    have c3 := XT.out.c3
    have hcn := vis_cnt (σ := look l) 4097 [t] (by rw [← NE.out]; omega)
    rw [← NE.out] at hcn
    obtain ⟨ca, cb, hca, hcb, hcab⟩ := Cnt.inv hcn
    have CA := Lib.hid hca
    clear hca hcb hcn
    go_wp2_with fail
    refine (rapply_any l hl HE.out HSM.out ca t CA.out (by omega) OKt.out hsz w1 lp lc (AT.out.below BW.out) (ATt.out.below BW.out)).mono ?_
    rintro e w2 ⟨v, rfl, ⟨us, q, d, rfl, hat2, happ, hok2, hcl2, hpn2⟩, hI⟩
    have AU := Lib.hid (AtP_at hat2)
    have OU := Lib.hid hok2
    have hzu : us.size ≤ 5000 := by
      have := happ.size CA.out
      omega
    have AP := Lib.hid (⟨rfl, rfl, rfl, happ, hok2, hcl2, hpn2, by have := happ.size CA.out; simp only; omega⟩ : Ap (look l) t ⟨(wk (look l) t).k, (wk (look l) t).s, (wk (look l) t).n, q, d, us⟩)
    have hws := Lib.hid ((all_Wk (P := Nd.ok) (fun v x hx => (HSM.out v x hx).1) (wk_spec HE.out t) OKt.out).2.1)
    replace BW := Lib.hid (BW.out.trans (hI.mono BW.out.size))
    clear hI hat2 happ hok2 hcl2 hpn2
    clear c0 c1 c2 c3
    unfold tv
    go_wp2_with fail
    refine (rGood_any us (by omega) OU.out (wk (look l) t).k (wk (look l) t).s (wk (look l) t).n w2 q d hws.out AU.out).mono ?_
    rintro e w3 ⟨rfl, hI⟩
    replace BW := Lib.hid (BW.out.trans (hI.mono BW.out.size))
    clear hI
    obtain ⟨gg, hgg⟩ : ∃ g, g = goodB 64 (wk (look l) t).k (wk (look l) t).s (wk (look l) t).n us := ⟨_, rfl⟩
    rw [← hgg]
    have GG := Lib.hid hgg
    clear hgg
    cases gg with
    | true =>
      go_wp2
      go_ret
      exact ⟨_, rfl, (fun _ => ⟨_, AP.out, GG.out.symm⟩), BW.out⟩
    | false =>
      go_wp2
      go_ret
      exact ⟨_, rfl, (fun h => by simp at h; try omega), BW.out⟩
  · have hn1 : (4096 : Int) < (N : Int) := by omega
    go_wp2
    go_ret
    exact ⟨_, rfl, (fun h => by simp at h; try omega), BW.out⟩

end Go.Proofs.YtnmhnaanpjlniaaGreat
