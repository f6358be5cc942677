import Derived.Test.YtnmhnaanpjlniaaGreatFIc
import Derived.Test.YtnmhnaanpjlniaaGreatDd
import Derived.Test.YtnmhnaanpjlniaaGreatAw
import Derived.Test.YtnmhnaanpjlniaaGreatFh
import Derived.Test.YtnmhnaanpjlniaaGreatXl
import Derived.Test.YtnmhnaanpjlniaaGreatTp
import Derived.Test.YtnmhnaanpjlniaaGreatFf
import Derived.Test.YtnmhnaanpjlniaaGreatTj
import Derived.ProofKit
import Derived.SizedLaws
import Derived.ChangeBears2
import Derived.OpenShut
/-
  Layer 14's known goals. (Written by gen_fj.py.)
-/
namespace Go.Proofs.YtnmhnaanpjlniaaGreat
open Go.RowKit

theorem th_head {us : Ts} {k : Int} {s : ByteArray} {n : Int} {p : Option Addr} {c : Nat} {ts r : Ts} (h : Ts.twin us (.cons k s n p c ts r)) : ∃ q d v u, us = .cons k s n q d v u ∧ Ts.twin v ts ∧ Ts.twin u r := by
  cases us with
  | nil => exact h.elim
  | cons k' s' n' q d v u =>
    obtain ⟨rfl, rfl, rfl, h1, h2⟩ := h
    exact ⟨q, d, v, u, rfl, h1, h2⟩

theorem th_nil {us : Ts} (h : Ts.twin us .nil) : us = .nil := by
  cases us with
  | nil => rfl
  | cons => exact h.elim

theorem un_int (x : Int) : un 4096 0 Sb.none [(nV 0, nI x)] = .ok (Sb.none.put 0 (nI x)) 1 4094 := by
  have h2 : one 4095 0 Sb.none (nV 0) (nI x) = .ok (Sb.none.put 0 (nI x)) 1 4094 [] := one_leaf (by omega) (wk_stop (.inr rfl)) (wk_stop (.inl rfl)) rfl (by decide) rfl rfl
  rw [show (4096 : Nat) = 4095 + 1 from rfl, un_ok h2, List.nil_append, un_nil]

theorem un_fa : ∃ ρ c r, un 4096 0 Sb.none [(nF (tV 0 .nil), nF tA)] = .ok ρ c r := by
  have wF : ∀ ks, wk Sb.none (nF ks) = nF ks := fun ks => wk_stop (.inl rfl)
  have h1 : one 4095 0 Sb.none (nF (tV 0 .nil)) (nF tA) = .ok Sb.none 0 4095 [(nV 0, nA)] := by
    rw [one_struct (by rw [wF]; rfl) (by rw [wF]; rfl), wF, wF, if_pos (by decide +kernel)]
    rfl
  have h2 : one 4094 0 Sb.none (nV 0) nA = .ok (Sb.none.put 0 nA) 1 4093 [] := one_leaf (by omega) (wk_stop (.inr rfl)) (wk_stop (.inl rfl)) rfl (by decide) rfl rfl
  exact ⟨_, _, _, by rw [show (4096 : Nat) = 4095 + 1 from rfl, un_ok h1, List.append_nil, show (4095 : Nat) = 4094 + 1 from rfl, un_ok h2, List.nil_append, un_nil]⟩

/-- a unification of terms like others -/
theorem unO_tw {a b a' b' : Nd} (ha : a.twin a') (hb : b.twin b') {ρ : Sb} {c r : Nat} (h : un 4096 0 Sb.none [(a', b')] = .ok ρ c r) : ∃ ρ', unO Sb.none 0 a b = .ok ρ' c r ∧ STw ρ' ρ := by
  have ht := un_tw 4096 0 (STw.refl Sb.none) Ends.none (.cons ha hb .nil)
  rw [h] at ht
  unfold unO
  cases hE : un 4096 0 Sb.none [(a, b)] with
  | full => rw [hE] at ht; exact ht.elim
  | no => rw [hE] at ht; exact ht.elim
  | ok ρ' c' r' =>
    rw [hE] at ht
    obtain ⟨g1, g2, g3⟩ := ht
    subst g2 g3
    exact ⟨ρ', rfl, g1⟩

theorem apE_leaf {σ : Sb} {t : Nd} (hw : wk σ t = t) (hk : t.kids = .nil) : apE σ t = 0 := by
  unfold apE
  rw [vis_leaf hw hk, if_neg (by simp)]
theorem apX_leaf {σ : Sb} {t : Nd} (hw : wk σ t = t) (hk : t.kids = .nil) : (⟨t.k, t.s, t.n, none, 0, .nil⟩ : Nd).twin (apX σ t) := by
  refine apX_tw ⟨by rw [hw], by rw [hw], by rw [hw], ?_, trivial, by simp [Ts.len], fun _ => rfl, by simp [Ts.size]⟩
  rw [hw, hk]
  exact .nil

/-- the five goals -/
theorem val_is {a b : Nd} (ha : a.twin (nV 0)) (hb : b.twin (twoN ⟨#[43]⟩ 2 1 2 2)) : doV Sb.none 0 a b 10 = (true, 0) ∧ ∃ ρ c r, unO Sb.none 0 a (nI (rk Sb.none 4096 4096 b).1.1) = .ok ρ c r ∧ STw ρ (Sb.none.put 0 (nI 3)) := by
  have hr : (rk Sb.none 4096 4096 b).1 = (3, 0) := by
    rw [rk_tw (STw.reflE _) Ends.none 4096 4096 hb, rk_two ⟨#[43]⟩ 1 2 (j := 0) (by decide +kernel)]
    decide
  obtain ⟨ρ, h1, h2⟩ := unO_tw ha (Nd.twin_refl (nI 3)) (un_int 3)
  refine ⟨?_, ρ, _, _, by rw [hr]; exact h1, h2⟩
  unfold doV isR
  rw [hr, if_pos rfl, h1]
  rfl
theorem val_ne {a b : Nd} (ha : a.twin (nF (tV 0 .nil))) (hb : b.twin (nF tA)) : doV Sb.none 0 a b 3 = (false, 0) := by
  obtain ⟨ρ, c, r, h⟩ := un_fa
  obtain ⟨ρ', h1, _⟩ := unO_tw ha hb h
  unfold doV
  rw [h1]
  rfl
theorem val_lt {a b : Nd} (hka : a.kids = .nil) (hkb : b.kids = .nil) (f : Nd → Nd → Bool × Int) : apP Sb.none a b f = f (apX Sb.none a) (apX Sb.none b) := by
  unfold apP
  rw [apE_leaf (wk_none a) hka, apE_leaf (wk_none b) hkb, if_pos rfl, if_pos rfl]
theorem val_vv {a b : Nd} (hka : a.kids = .nil) (hkb : b.kids = .nil) (ha : a.k = 1 ∧ a.n = 0) (hb : b.k = 1 ∧ b.n = 1) : doV Sb.none 0 a b 6 = (false, 20) := by
  show doneR (apP Sb.none a b fun x y => ordR 0 (ordN x y)) = _
  rw [val_lt hka hkb, ← ordN_twin (apX_leaf (wk_none a) hka) (apX_leaf (wk_none b) hkb)]
  unfold ordN ordH
  rw [ha.1, hb.1, ha.2, hb.2]
  rfl
theorem val_vi {a b : Nd} (hka : a.kids = .nil) (hkb : b.kids = .nil) (ha : a.k = 1 ∧ a.n = 0) (hb : b.k = 2 ∧ b.n = 1) : doV Sb.none 0 a b 6 = (true, 0) := by
  show doneR (apP Sb.none a b fun x y => ordR 0 (ordN x y)) = _
  rw [val_lt hka hkb, ← ordN_twin (apX_leaf (wk_none a) hka) (apX_leaf (wk_none b) hkb)]
  unfold ordN ordH cmpT
  rw [ha.1, hb.1, ha.2, hb.2]
  rfl
theorem val_ia {a b : Nd} (ha : a.twin (nI 1)) (hb : b.twin nA) : doV Sb.none 0 a b 13 = (false, 21) := by
  have h1 : (rk Sb.none 4096 4096 a).1 = (1, 0) := by
    rw [rk_tw (STw.reflE _) Ends.none 4096 4096 ha]
    rw [show (4096 : Nat) = 4095 + 1 from rfl]
    rw [show nI 1 = ⟨2, ⟨#[]⟩, 1, none, 0, .nil⟩ from rfl, rk_leaf 4095 _ 1 (by omega)]
  have h2 : (rk Sb.none 4096 4096 b).1 = (0, 21) := by
    rw [rk_tw (STw.reflE _) Ends.none 4096 4096 hb]
    exact rk_atom
  unfold doV rkP
  rw [h1, h2]
  rfl
theorem wk_three {σp : Sb} (h : STw σp (Sb.none.put 0 (nI 3))) (hE : Ends σp) : (wk σp (nV 0)).twin (nI 3) := by
  have hE2 := h.ends hE
  have h1 := h.wk hE (Nd.twin_refl (nV 0))
  rw [wk_go hE2 rfl (Sb.put_same _ _ _), wk_stop (σ := Sb.none.put 0 (nI 3)) (t := nI 3) (.inl rfl)] at h1
  exact h1

theorem szI (x : Int) : (nI x).kids.size = 0 := rfl
theorem szV (x : Int) : (nV x).kids.size = 0 := rfl
theorem szA : nA.kids.size = 0 := rfl
theorem two_at {w W : World} {a b : Nd} (h : W = w.alloc (.cells #[.int .u8 a.k, .string a.s, .int .i64 a.n, .slice a.p a.kids.len a.c, .int .u8 b.k, .string b.s, .int .i64 b.n, .slice b.p b.kids.len b.c] 25)) (hata : Ts.At w a.p a.kids) (hatb : Ts.At w b.p b.kids) : Below w.heap.size w W ∧ Ts.At W (some ⟨w.heap.size, 0, none⟩) (.cons a.k a.s a.n a.p a.c a.kids (.cons b.k b.s b.n b.p b.c b.kids .nil)) := boxTwo h hata hatb
theorem two_ok {a b : Nd} (ha : a.ok) (hb : b.ok) : Ts.ok (.cons a.k a.s a.n a.p a.c a.kids (.cons b.k b.s b.n b.p b.c b.kids .nil)) := ⟨ha.1, ha.2.1, ha.2.2.1, ha.2.2.2.1, ha.2.2.2.2.1, ha.2.2.2.2.2.1, hb.1, hb.2.1, hb.2.2.1, hb.2.2.2.1, hb.2.2.2.2.1, hb.2.2.2.2.2.1, trivial⟩
/-- Args that F has made -/
theorem twin_two {us : Ts} {a b : Nd} (h : Ts.twin us (.cons a.k a.s a.n a.p a.c a.kids (.cons b.k b.s b.n b.p b.c b.kids .nil))) : ∃ a' b' : Nd, us = .cons a'.k a'.s a'.n a'.p a'.c a'.kids (.cons b'.k b'.s b'.n b'.p b'.c b'.kids .nil) ∧ a'.twin a ∧ b'.twin b := by
  obtain ⟨q, d, v, u, rfl, h1, h2⟩ := th_head h
  obtain ⟨q', d', v', u', rfl, h3, h4⟩ := th_head h2
  obtain rfl := th_nil h4
  exact ⟨⟨_, _, _, q, d, v⟩, ⟨_, _, _, q', d', v'⟩, rfl, ⟨rfl, rfl, rfl, h1⟩, ⟨rfl, rfl, rfl, h3⟩⟩
theorem twin_one {us : Ts} {a : Nd} (h : Ts.twin us (.cons a.k a.s a.n a.p a.c a.kids .nil)) : ∃ a' : Nd, us = .cons a'.k a'.s a'.n a'.p a'.c a'.kids .nil ∧ a'.twin a := by
  obtain ⟨q, d, v, u, rfl, h1, h2⟩ := th_head h
  obtain rfl := th_nil h2
  exact ⟨⟨_, _, _, q, d, v⟩, rfl, ⟨rfl, rfl, rfl, h1⟩⟩
theorem nV_ok {n : Int} (h : isI64 n) : (nV n).ok := ⟨by simp [nV], by simp [nV, ByteArray.size], h, by simp [nV, Ts.len], fun _ => rfl, trivial, trivial⟩
theorem nA_ok : nA.ok := ⟨by simp [nA], by simp [nA, ByteArray.size], by simp [nA], by simp [nA, Ts.len], fun _ => rfl, trivial, trivial⟩

theorem ndOk14 {k : Int} {s : ByteArray} {n : Int} {p : Option Addr} {c : Nat} {kids : Ts} (hk : 0 ≤ k ∧ k ≤ 255) (hs : s.size ≤ 140737488351232) (hn : -9223372036854775808 ≤ n ∧ n ≤ 9223372036854775807) (hc : kids.len ≤ c ∧ c ≤ 9223372036854775807) (hp : p = none → c = 0) (ho : kids.ok) : Nd.ok ⟨k, s, n, p, c, kids⟩ := ⟨hk, hs, hn, hc, hp, ho, trivial⟩
theorem Nd.twin.trans14 {x y z : Nd} (h : x.twin y) (h' : y.twin z) : x.twin z := Nd.twin_trans h h'

set_option maxRecDepth 100000 in
set_option maxHeartbeats 16000000 in
theorem wakes14_any (w : World) : Calls Tryz.prog 11 #[] w fun e w' => e = .returned (.bool true) ∧ Below w.heap.size w w' := by
  go_enter Tryz.func11, Tryz.ntmps11
  go_wp2_with fail
  refine (new_any _).mono ?_
  rintro e x1 ⟨rfl, hS, hB⟩
  have SN := Lib.hid hS
  have BW := Lib.hid hB
  clear hS hB
  go_wp2_with fail
  refine (V_any 0 _).mono ?_
  rintro e x2 ⟨rfl, hI⟩
  unfold tv
  replace SN := Lib.hid (SN.out.below hI)
  replace BW := Lib.hid (BW.out.trans (hI.mono BW.out.size))
  clear hI
  go_wp2_with fail
  refine (I_any 1 _).mono ?_
  rintro e x3 ⟨rfl, hI⟩
  unfold tv
  replace SN := Lib.hid (SN.out.below hI)
  replace BW := Lib.hid (BW.out.trans (hI.mono BW.out.size))
  clear hI
  go_wp2_with fail
  refine (I_any 2 _).mono ?_
  rintro e x4 ⟨rfl, hI⟩
  unfold tv
  replace SN := Lib.hid (SN.out.below hI)
  replace BW := Lib.hid (BW.out.trans (hI.mono BW.out.size))
  clear hI
  go_wp2_with fail
  obtain ⟨KP, hKP⟩ : ∃ W, W = World.alloc x4 (.cells #[.int .u8 2, .string ⟨#[]⟩, .int .i64 1, .slice none 0 0, .int .u8 2, .string ⟨#[]⟩, .int .i64 2, .slice none 0 0] 25) := ⟨_, rfl⟩
  rw [← hKP]
  obtain ⟨hI, hat⟩ := two_at (a := nI 1) (b := nI 2) hKP ⟨0, 0, .inl rfl, trivial⟩ ⟨0, 0, .inl rfl, trivial⟩
  clear hKP
  replace SN := Lib.hid (SN.out.below hI)
  replace BW := Lib.hid (BW.out.trans (hI.mono BW.out.size))
  clear hI
  have e1 := (show (nI 1).kids.size ≤ 0 from Nat.le_refl _)
  have e2 := (show (nI 2).kids.size ≤ 0 from Nat.le_refl _)
  refine (F_any ⟨#[43]⟩ (.cons (nI 1).k (nI 1).s (nI 1).n (nI 1).p (nI 1).c (nI 1).kids (.cons (nI 2).k (nI 2).s (nI 2).n (nI 2).p (nI 2).c (nI 2).kids .nil)) (by simp only [Ts.size, szI, szV, szA]; omega) (two_ok (a := nI 1) (b := nI 2) (nI_ok (by unfold isI64; omega)) (nI_ok (by unfold isI64; omega))) KP _ 2 hat).mono ?_
  rintro e x5 ⟨usP, qP, dP, rfl, hat6, htw6, hok6, hcl6, hpn6, hI⟩
  rw [if_neg (by simp [Ts.len])]
  unfold tv
  have ATP := Lib.hid hat6.at
  have TWP := Lib.hid htw6
  have OKP : Hid (Nd.ok ⟨4, ⟨#[43]⟩, 0, qP, dP, usP⟩) := Lib.hid (ndOk14 (by omega) (by decide) (by omega) hcl6 hpn6 hok6)
  have SZP : usP.size ≤ Ts.size (.cons (nI 1).k (nI 1).s (nI 1).n (nI 1).p (nI 1).c (nI 1).kids (.cons (nI 2).k (nI 2).s (nI 2).n (nI 2).p (nI 2).c (nI 2).kids .nil)) := Nat.le_of_eq (Ts.twin_size _ _ htw6)
  simp only [Ts.size, szI, szV, szA] at SZP
  clear hat hat6 htw6 hok6 hcl6 hpn6 e1 e2
  replace SN := Lib.hid (SN.out.below hI)
  replace BW := Lib.hid (BW.out.trans (hI.mono BW.out.size))
  clear hI
  go_wp2_with fail
  obtain ⟨KA, hKA⟩ : ∃ W, W = World.alloc x5 (.cells #[.int .u8 1, .string ⟨#[]⟩, .int .i64 0, .slice none 0 0, .int .u8 4, .string ⟨#[43]⟩, .int .i64 0, .slice qP usP.len dP] 25) := ⟨_, rfl⟩
  rw [← hKA]
  obtain ⟨hI, hat⟩ := two_at (a := nV 0) (b := (⟨4, ⟨#[43]⟩, 0, qP, dP, usP⟩ : Nd)) hKA ⟨0, 0, .inl rfl, trivial⟩ ATP.out
  clear hKA
  replace SN := Lib.hid (SN.out.below hI)
  replace ATP := Lib.hid (ATP.out.below hI)
  replace BW := Lib.hid (BW.out.trans (hI.mono BW.out.size))
  clear hI
  have e1 := (show (nV 0).kids.size ≤ 0 from Nat.le_refl _)
  have e2 := (by omega : usP.size ≤ 2)
  refine (F_any ⟨#[105, 115]⟩ (.cons (nV 0).k (nV 0).s (nV 0).n (nV 0).p (nV 0).c (nV 0).kids (.cons ((⟨4, ⟨#[43]⟩, 0, qP, dP, usP⟩ : Nd)).k ((⟨4, ⟨#[43]⟩, 0, qP, dP, usP⟩ : Nd)).s ((⟨4, ⟨#[43]⟩, 0, qP, dP, usP⟩ : Nd)).n ((⟨4, ⟨#[43]⟩, 0, qP, dP, usP⟩ : Nd)).p ((⟨4, ⟨#[43]⟩, 0, qP, dP, usP⟩ : Nd)).c ((⟨4, ⟨#[43]⟩, 0, qP, dP, usP⟩ : Nd)).kids .nil)) (by simp only [Ts.size, szI, szV, szA]; omega) (two_ok (a := nV 0) (b := (⟨4, ⟨#[43]⟩, 0, qP, dP, usP⟩ : Nd)) (nV_ok (by unfold isI64; omega)) OKP.out) KA _ 2 hat).mono ?_
  rintro e x6 ⟨usA, qA, dA, rfl, hat6, htw6, hok6, hcl6, hpn6, hI⟩
  rw [if_neg (by simp [Ts.len])]
  unfold tv
  have ATA := Lib.hid hat6.at
  have TWA := Lib.hid htw6
  have OKA : Hid (Nd.ok ⟨4, ⟨#[105, 115]⟩, 0, qA, dA, usA⟩) := Lib.hid (ndOk14 (by omega) (by decide) (by omega) hcl6 hpn6 hok6)
  have SZA : usA.size ≤ Ts.size (.cons (nV 0).k (nV 0).s (nV 0).n (nV 0).p (nV 0).c (nV 0).kids (.cons ((⟨4, ⟨#[43]⟩, 0, qP, dP, usP⟩ : Nd)).k ((⟨4, ⟨#[43]⟩, 0, qP, dP, usP⟩ : Nd)).s ((⟨4, ⟨#[43]⟩, 0, qP, dP, usP⟩ : Nd)).n ((⟨4, ⟨#[43]⟩, 0, qP, dP, usP⟩ : Nd)).p ((⟨4, ⟨#[43]⟩, 0, qP, dP, usP⟩ : Nd)).c ((⟨4, ⟨#[43]⟩, 0, qP, dP, usP⟩ : Nd)).kids .nil)) := Nat.le_of_eq (Ts.twin_size _ _ htw6)
  simp only [Ts.size, szI, szV, szA] at SZA
  clear hat hat6 htw6 hok6 hcl6 hpn6 e1 e2
  replace SN := Lib.hid (SN.out.below hI)
  replace ATP := Lib.hid (ATP.out.below hI)
  replace BW := Lib.hid (BW.out.trans (hI.mono BW.out.size))
  clear hI
  obtain ⟨aA, bA, hu, hta, htb⟩ := twin_two (a := nV 0) (b := (⟨4, ⟨#[43]⟩, 0, qP, dP, usP⟩ : Nd)) TWA.out
  have VAL := Lib.hid (val_is hta (htb.trans14 ⟨rfl, rfl, rfl, TWP.out⟩))
  have hatg := ATA.out
  have hokg := OKA.out.2.2.2.2.2.1
  simp only at hokg
  rw [hu] at hatg hokg SZA ⊢
  simp only [Ts.size] at SZA
  go_wp2_with fail
  refine (do_10 w.heap.size Sb.none 0 (by omega) _ SN.out aA bA ⟨4, ⟨#[105, 115]⟩, 0, qA, dA, .cons aA.k aA.s aA.n aA.p aA.c aA.kids (.cons bA.k bA.s bA.n bA.p bA.c bA.kids .nil)⟩ rfl rfl rfl hokg hatg (by omega) (by omega)).mono ?_
  rintro e y1 ⟨⟨p1, rfl, hp1⟩, hI⟩
  rw [VAL.out.1] at hp1 ⊢
  have PU1 := Lib.hid (hp1 rfl)
  clear hatg hokg hp1 hu hta htb
  replace SN := Lib.hid (SN.out.below hI)
  replace BW := Lib.hid (BW.out.trans (hI.mono BW.out.size))
  clear hI ATA ATP OKA OKP TWA TWP SZA SZP
  obtain ⟨ρ1, cc1, r1, hu1, hst1⟩ := VAL.out.2
  have hpu := PU1.out
  rw [hu1] at hpu
  obtain ⟨S2, σp, rfl, hst2, hS2⟩ := hpu
  have SP := Lib.hid hS2
  have ST := Lib.hid (hst2.trans hst1)
  clear hu1 hst1 hst2 hS2 PU1 VAL
  generalize y1 = x101 at SN SP BW ⊢
  go_wp2_with fail
  refine (V_any 0 _).mono ?_
  rintro e x102 ⟨rfl, hI⟩
  unfold tv
  replace SN := Lib.hid (SN.out.below hI)
  replace SP := Lib.hid (SP.out.below hI)
  replace BW := Lib.hid (BW.out.trans (hI.mono BW.out.size))
  clear hI
  go_wp2_with fail
  obtain ⟨KF, hKF⟩ : ∃ W, W = World.alloc x102 (.cells #[.int .u8 1, .string ⟨#[]⟩, .int .i64 0, .slice none 0 0] 25) := ⟨_, rfl⟩
  rw [← hKF]
  obtain ⟨hI, hat⟩ := boxOne (b := nV 0) hKF ⟨0, 0, .inl rfl, trivial⟩
  clear hKF
  replace SN := Lib.hid (SN.out.below hI)
  replace SP := Lib.hid (SP.out.below hI)
  replace BW := Lib.hid (BW.out.trans (hI.mono BW.out.size))
  clear hI
  have e1 := (show (nV 0).kids.size ≤ 0 from Nat.le_refl _)
  refine (F_any ⟨#[102]⟩ (.cons (nV 0).k (nV 0).s (nV 0).n (nV 0).p (nV 0).c (nV 0).kids .nil) (by simp only [Ts.size, szI, szV, szA]; omega) (show Ts.ok (.cons (nV 0).k (nV 0).s (nV 0).n (nV 0).p (nV 0).c (nV 0).kids .nil) from (nV_ok (by unfold isI64; omega))) KF _ 1 hat).mono ?_
  rintro e x103 ⟨usF, qF, dF, rfl, hat6, htw6, hok6, hcl6, hpn6, hI⟩
  rw [if_neg (by simp [Ts.len])]
  unfold tv
  have ATF := Lib.hid hat6.at
  have TWF := Lib.hid htw6
  have OKF : Hid (Nd.ok ⟨4, ⟨#[102]⟩, 0, qF, dF, usF⟩) := Lib.hid (ndOk14 (by omega) (by decide) (by omega) hcl6 hpn6 hok6)
  have SZF : usF.size ≤ Ts.size (.cons (nV 0).k (nV 0).s (nV 0).n (nV 0).p (nV 0).c (nV 0).kids .nil) := Nat.le_of_eq (Ts.twin_size _ _ htw6)
  simp only [Ts.size, szI, szV, szA] at SZF
  clear hat hat6 htw6 hok6 hcl6 hpn6 e1
  replace SN := Lib.hid (SN.out.below hI)
  replace SP := Lib.hid (SP.out.below hI)
  replace BW := Lib.hid (BW.out.trans (hI.mono BW.out.size))
  clear hI
  go_wp2_with fail
  refine (A_any ⟨#[97]⟩ _).mono ?_
  rintro e x104 ⟨rfl, hI⟩
  unfold tv
  replace SN := Lib.hid (SN.out.below hI)
  replace SP := Lib.hid (SP.out.below hI)
  replace ATF := Lib.hid (ATF.out.below hI)
  replace BW := Lib.hid (BW.out.trans (hI.mono BW.out.size))
  clear hI
  go_wp2_with fail
  obtain ⟨KG, hKG⟩ : ∃ W, W = World.alloc x104 (.cells #[.int .u8 3, .string ⟨#[97]⟩, .int .i64 0, .slice none 0 0] 25) := ⟨_, rfl⟩
  rw [← hKG]
  obtain ⟨hI, hat⟩ := boxOne (b := nA) hKG ⟨0, 0, .inl rfl, trivial⟩
  clear hKG
  replace SN := Lib.hid (SN.out.below hI)
  replace SP := Lib.hid (SP.out.below hI)
  replace ATF := Lib.hid (ATF.out.below hI)
  replace BW := Lib.hid (BW.out.trans (hI.mono BW.out.size))
  clear hI
  have e1 := (show (nA).kids.size ≤ 0 from Nat.le_refl _)
  refine (F_any ⟨#[102]⟩ (.cons (nA).k (nA).s (nA).n (nA).p (nA).c (nA).kids .nil) (by simp only [Ts.size, szI, szV, szA]; omega) (show Ts.ok (.cons (nA).k (nA).s (nA).n (nA).p (nA).c (nA).kids .nil) from nA_ok) KG _ 1 hat).mono ?_
  rintro e x105 ⟨usG, qG, dG, rfl, hat6, htw6, hok6, hcl6, hpn6, hI⟩
  rw [if_neg (by simp [Ts.len])]
  unfold tv
  have ATG := Lib.hid hat6.at
  have TWG := Lib.hid htw6
  have OKG : Hid (Nd.ok ⟨4, ⟨#[102]⟩, 0, qG, dG, usG⟩) := Lib.hid (ndOk14 (by omega) (by decide) (by omega) hcl6 hpn6 hok6)
  have SZG : usG.size ≤ Ts.size (.cons (nA).k (nA).s (nA).n (nA).p (nA).c (nA).kids .nil) := Nat.le_of_eq (Ts.twin_size _ _ htw6)
  simp only [Ts.size, szI, szV, szA] at SZG
  clear hat hat6 htw6 hok6 hcl6 hpn6 e1
  replace SN := Lib.hid (SN.out.below hI)
  replace SP := Lib.hid (SP.out.below hI)
  replace ATF := Lib.hid (ATF.out.below hI)
  replace BW := Lib.hid (BW.out.trans (hI.mono BW.out.size))
  clear hI
  go_wp2_with fail
  obtain ⟨KB, hKB⟩ : ∃ W, W = World.alloc x105 (.cells #[.int .u8 4, .string ⟨#[102]⟩, .int .i64 0, .slice qF usF.len dF, .int .u8 4, .string ⟨#[102]⟩, .int .i64 0, .slice qG usG.len dG] 25) := ⟨_, rfl⟩
  rw [← hKB]
  obtain ⟨hI, hat⟩ := two_at (a := (⟨4, ⟨#[102]⟩, 0, qF, dF, usF⟩ : Nd)) (b := (⟨4, ⟨#[102]⟩, 0, qG, dG, usG⟩ : Nd)) hKB ATF.out ATG.out
  clear hKB
  replace SN := Lib.hid (SN.out.below hI)
  replace SP := Lib.hid (SP.out.below hI)
  replace ATF := Lib.hid (ATF.out.below hI)
  replace ATG := Lib.hid (ATG.out.below hI)
  replace BW := Lib.hid (BW.out.trans (hI.mono BW.out.size))
  clear hI
  have e1 := (by omega : usF.size ≤ 1)
  have e2 := (by omega : usG.size ≤ 1)
  refine (F_any ⟨#[92, 61]⟩ (.cons ((⟨4, ⟨#[102]⟩, 0, qF, dF, usF⟩ : Nd)).k ((⟨4, ⟨#[102]⟩, 0, qF, dF, usF⟩ : Nd)).s ((⟨4, ⟨#[102]⟩, 0, qF, dF, usF⟩ : Nd)).n ((⟨4, ⟨#[102]⟩, 0, qF, dF, usF⟩ : Nd)).p ((⟨4, ⟨#[102]⟩, 0, qF, dF, usF⟩ : Nd)).c ((⟨4, ⟨#[102]⟩, 0, qF, dF, usF⟩ : Nd)).kids (.cons ((⟨4, ⟨#[102]⟩, 0, qG, dG, usG⟩ : Nd)).k ((⟨4, ⟨#[102]⟩, 0, qG, dG, usG⟩ : Nd)).s ((⟨4, ⟨#[102]⟩, 0, qG, dG, usG⟩ : Nd)).n ((⟨4, ⟨#[102]⟩, 0, qG, dG, usG⟩ : Nd)).p ((⟨4, ⟨#[102]⟩, 0, qG, dG, usG⟩ : Nd)).c ((⟨4, ⟨#[102]⟩, 0, qG, dG, usG⟩ : Nd)).kids .nil)) (by simp only [Ts.size, szI, szV, szA]; omega) (two_ok (a := (⟨4, ⟨#[102]⟩, 0, qF, dF, usF⟩ : Nd)) (b := (⟨4, ⟨#[102]⟩, 0, qG, dG, usG⟩ : Nd)) OKF.out OKG.out) KB _ 2 hat).mono ?_
  rintro e x106 ⟨usB, qB, dB, rfl, hat6, htw6, hok6, hcl6, hpn6, hI⟩
  rw [if_neg (by simp [Ts.len])]
  unfold tv
  have ATB := Lib.hid hat6.at
  have TWB := Lib.hid htw6
  have OKB : Hid (Nd.ok ⟨4, ⟨#[92, 61]⟩, 0, qB, dB, usB⟩) := Lib.hid (ndOk14 (by omega) (by decide) (by omega) hcl6 hpn6 hok6)
  have SZB : usB.size ≤ Ts.size (.cons ((⟨4, ⟨#[102]⟩, 0, qF, dF, usF⟩ : Nd)).k ((⟨4, ⟨#[102]⟩, 0, qF, dF, usF⟩ : Nd)).s ((⟨4, ⟨#[102]⟩, 0, qF, dF, usF⟩ : Nd)).n ((⟨4, ⟨#[102]⟩, 0, qF, dF, usF⟩ : Nd)).p ((⟨4, ⟨#[102]⟩, 0, qF, dF, usF⟩ : Nd)).c ((⟨4, ⟨#[102]⟩, 0, qF, dF, usF⟩ : Nd)).kids (.cons ((⟨4, ⟨#[102]⟩, 0, qG, dG, usG⟩ : Nd)).k ((⟨4, ⟨#[102]⟩, 0, qG, dG, usG⟩ : Nd)).s ((⟨4, ⟨#[102]⟩, 0, qG, dG, usG⟩ : Nd)).n ((⟨4, ⟨#[102]⟩, 0, qG, dG, usG⟩ : Nd)).p ((⟨4, ⟨#[102]⟩, 0, qG, dG, usG⟩ : Nd)).c ((⟨4, ⟨#[102]⟩, 0, qG, dG, usG⟩ : Nd)).kids .nil)) := Nat.le_of_eq (Ts.twin_size _ _ htw6)
  simp only [Ts.size, szI, szV, szA] at SZB
  clear hat hat6 htw6 hok6 hcl6 hpn6 e1 e2
  replace SN := Lib.hid (SN.out.below hI)
  replace SP := Lib.hid (SP.out.below hI)
  replace ATF := Lib.hid (ATF.out.below hI)
  replace ATG := Lib.hid (ATG.out.below hI)
  replace BW := Lib.hid (BW.out.trans (hI.mono BW.out.size))
  clear hI
  obtain ⟨aB, bB, hu, hta, htb⟩ := twin_two (a := (⟨4, ⟨#[102]⟩, 0, qF, dF, usF⟩ : Nd)) (b := (⟨4, ⟨#[102]⟩, 0, qG, dG, usG⟩ : Nd)) TWB.out
  have VAL := Lib.hid (val_ne (hta.trans14 ⟨rfl, rfl, rfl, TWF.out⟩) (htb.trans14 ⟨rfl, rfl, rfl, TWG.out⟩))
  have hatg := ATB.out
  have hokg := OKB.out.2.2.2.2.2.1
  simp only at hokg
  rw [hu] at hatg hokg SZB ⊢
  simp only [Ts.size] at SZB
  go_wp2_with fail
  refine (do_3 w.heap.size Sb.none 0 (by omega) _ SN.out aB bB ⟨4, ⟨#[92, 61]⟩, 0, qB, dB, .cons aB.k aB.s aB.n aB.p aB.c aB.kids (.cons bB.k bB.s bB.n bB.p bB.c bB.kids .nil)⟩ rfl rfl rfl hokg hatg (by omega) (by omega)).mono ?_
  rintro e yB ⟨⟨pB, rfl⟩, hI⟩
  rw [VAL.out]
  clear hatg hokg hu hta htb VAL
  replace SN := Lib.hid (SN.out.below hI)
  replace SP := Lib.hid (SP.out.below hI)
  replace BW := Lib.hid (BW.out.trans (hI.mono BW.out.size))
  clear hI ATF OKF TWF SZF ATG OKG TWG SZG ATB OKB TWB SZB
  generalize yB = x201 at SN SP BW ⊢
  go_wp2_with fail
  refine (V_any 0 _).mono ?_
  rintro e x202 ⟨rfl, hI⟩
  unfold tv
  replace SN := Lib.hid (SN.out.below hI)
  replace SP := Lib.hid (SP.out.below hI)
  replace BW := Lib.hid (BW.out.trans (hI.mono BW.out.size))
  clear hI
  go_wp2_with fail
  refine (V_any 1 _).mono ?_
  rintro e x203 ⟨rfl, hI⟩
  unfold tv
  replace SN := Lib.hid (SN.out.below hI)
  replace SP := Lib.hid (SP.out.below hI)
  replace BW := Lib.hid (BW.out.trans (hI.mono BW.out.size))
  clear hI
  go_wp2_with fail
  obtain ⟨KC, hKC⟩ : ∃ W, W = World.alloc x203 (.cells #[.int .u8 1, .string ⟨#[]⟩, .int .i64 0, .slice none 0 0, .int .u8 1, .string ⟨#[]⟩, .int .i64 1, .slice none 0 0] 25) := ⟨_, rfl⟩
  rw [← hKC]
  obtain ⟨hI, hat⟩ := two_at (a := nV 0) (b := nV 1) hKC ⟨0, 0, .inl rfl, trivial⟩ ⟨0, 0, .inl rfl, trivial⟩
  clear hKC
  replace SN := Lib.hid (SN.out.below hI)
  replace SP := Lib.hid (SP.out.below hI)
  replace BW := Lib.hid (BW.out.trans (hI.mono BW.out.size))
  clear hI
  have e1 := (show (nV 0).kids.size ≤ 0 from Nat.le_refl _)
  have e2 := (show (nV 1).kids.size ≤ 0 from Nat.le_refl _)
  refine (F_any ⟨#[64, 60]⟩ (.cons (nV 0).k (nV 0).s (nV 0).n (nV 0).p (nV 0).c (nV 0).kids (.cons (nV 1).k (nV 1).s (nV 1).n (nV 1).p (nV 1).c (nV 1).kids .nil)) (by simp only [Ts.size, szI, szV, szA]; omega) (two_ok (a := nV 0) (b := nV 1) (nV_ok (by unfold isI64; omega)) (nV_ok (by unfold isI64; omega))) KC _ 2 hat).mono ?_
  rintro e x204 ⟨usC, qC, dC, rfl, hat6, htw6, hok6, hcl6, hpn6, hI⟩
  rw [if_neg (by simp [Ts.len])]
  unfold tv
  have ATC := Lib.hid hat6.at
  have TWC := Lib.hid htw6
  have OKC : Hid (Nd.ok ⟨4, ⟨#[64, 60]⟩, 0, qC, dC, usC⟩) := Lib.hid (ndOk14 (by omega) (by decide) (by omega) hcl6 hpn6 hok6)
  have SZC : usC.size ≤ Ts.size (.cons (nV 0).k (nV 0).s (nV 0).n (nV 0).p (nV 0).c (nV 0).kids (.cons (nV 1).k (nV 1).s (nV 1).n (nV 1).p (nV 1).c (nV 1).kids .nil)) := Nat.le_of_eq (Ts.twin_size _ _ htw6)
  simp only [Ts.size, szI, szV, szA] at SZC
  clear hat hat6 htw6 hok6 hcl6 hpn6 e1 e2
  replace SN := Lib.hid (SN.out.below hI)
  replace SP := Lib.hid (SP.out.below hI)
  replace BW := Lib.hid (BW.out.trans (hI.mono BW.out.size))
  clear hI
  obtain ⟨aC, bC, hu, hta, htb⟩ := twin_two (a := nV 0) (b := nV 1) TWC.out
  have VAL := Lib.hid (val_vv (Ts.len_zero (by rw [Ts.twin_len _ _ hta.2.2.2]; rfl)) (Ts.len_zero (by rw [Ts.twin_len _ _ htb.2.2.2]; rfl)) ⟨hta.1, hta.2.2.1⟩ ⟨htb.1, htb.2.2.1⟩)
  have hatg := ATC.out
  have hokg := OKC.out.2.2.2.2.2.1
  simp only at hokg
  rw [hu] at hatg hokg SZC ⊢
  simp only [Ts.size] at SZC
  go_wp2_with fail
  refine (do_6 w.heap.size Sb.none 0 (by omega) _ SN.out aC bC ⟨4, ⟨#[64, 60]⟩, 0, qC, dC, .cons aC.k aC.s aC.n aC.p aC.c aC.kids (.cons bC.k bC.s bC.n bC.p bC.c bC.kids .nil)⟩ rfl rfl rfl hokg hatg (by omega) (by omega)).mono ?_
  rintro e yC ⟨⟨pC, rfl⟩, hI⟩
  rw [VAL.out]
  clear hatg hokg hu hta htb VAL
  replace SN := Lib.hid (SN.out.below hI)
  replace SP := Lib.hid (SP.out.below hI)
  replace BW := Lib.hid (BW.out.trans (hI.mono BW.out.size))
  clear hI ATC OKC TWC SZC
  generalize yC = x301 at SN SP BW ⊢
  go_wp2_with fail
  refine (V_any 0 _).mono ?_
  rintro e x302 ⟨rfl, hI⟩
  unfold tv
  replace SN := Lib.hid (SN.out.below hI)
  replace SP := Lib.hid (SP.out.below hI)
  replace BW := Lib.hid (BW.out.trans (hI.mono BW.out.size))
  clear hI
  go_wp2_with fail
  refine (I_any 1 _).mono ?_
  rintro e x303 ⟨rfl, hI⟩
  unfold tv
  replace SN := Lib.hid (SN.out.below hI)
  replace SP := Lib.hid (SP.out.below hI)
  replace BW := Lib.hid (BW.out.trans (hI.mono BW.out.size))
  clear hI
  go_wp2_with fail
  obtain ⟨KD, hKD⟩ : ∃ W, W = World.alloc x303 (.cells #[.int .u8 1, .string ⟨#[]⟩, .int .i64 0, .slice none 0 0, .int .u8 2, .string ⟨#[]⟩, .int .i64 1, .slice none 0 0] 25) := ⟨_, rfl⟩
  rw [← hKD]
  obtain ⟨hI, hat⟩ := two_at (a := nV 0) (b := nI 1) hKD ⟨0, 0, .inl rfl, trivial⟩ ⟨0, 0, .inl rfl, trivial⟩
  clear hKD
  replace SN := Lib.hid (SN.out.below hI)
  replace SP := Lib.hid (SP.out.below hI)
  replace BW := Lib.hid (BW.out.trans (hI.mono BW.out.size))
  clear hI
  have e1 := (show (nV 0).kids.size ≤ 0 from Nat.le_refl _)
  have e2 := (show (nI 1).kids.size ≤ 0 from Nat.le_refl _)
  refine (F_any ⟨#[64, 60]⟩ (.cons (nV 0).k (nV 0).s (nV 0).n (nV 0).p (nV 0).c (nV 0).kids (.cons (nI 1).k (nI 1).s (nI 1).n (nI 1).p (nI 1).c (nI 1).kids .nil)) (by simp only [Ts.size, szI, szV, szA]; omega) (two_ok (a := nV 0) (b := nI 1) (nV_ok (by unfold isI64; omega)) (nI_ok (by unfold isI64; omega))) KD _ 2 hat).mono ?_
  rintro e x304 ⟨usD, qD, dD, rfl, hat6, htw6, hok6, hcl6, hpn6, hI⟩
  rw [if_neg (by simp [Ts.len])]
  unfold tv
  have ATD := Lib.hid hat6.at
  have TWD := Lib.hid htw6
  have OKD : Hid (Nd.ok ⟨4, ⟨#[64, 60]⟩, 0, qD, dD, usD⟩) := Lib.hid (ndOk14 (by omega) (by decide) (by omega) hcl6 hpn6 hok6)
  have SZD : usD.size ≤ Ts.size (.cons (nV 0).k (nV 0).s (nV 0).n (nV 0).p (nV 0).c (nV 0).kids (.cons (nI 1).k (nI 1).s (nI 1).n (nI 1).p (nI 1).c (nI 1).kids .nil)) := Nat.le_of_eq (Ts.twin_size _ _ htw6)
  simp only [Ts.size, szI, szV, szA] at SZD
  clear hat hat6 htw6 hok6 hcl6 hpn6 e1 e2
  replace SN := Lib.hid (SN.out.below hI)
  replace SP := Lib.hid (SP.out.below hI)
  replace BW := Lib.hid (BW.out.trans (hI.mono BW.out.size))
  clear hI
  obtain ⟨aD, bD, hu, hta, htb⟩ := twin_two (a := nV 0) (b := nI 1) TWD.out
  have VAL := Lib.hid (val_vi (Ts.len_zero (by rw [Ts.twin_len _ _ hta.2.2.2]; rfl)) (Ts.len_zero (by rw [Ts.twin_len _ _ htb.2.2.2]; rfl)) ⟨hta.1, hta.2.2.1⟩ ⟨htb.1, htb.2.2.1⟩)
  have hatg := ATD.out
  have hokg := OKD.out.2.2.2.2.2.1
  simp only at hokg
  rw [hu] at hatg hokg SZD ⊢
  simp only [Ts.size] at SZD
  go_wp2_with fail
  refine (do_6 w.heap.size Sb.none 0 (by omega) _ SN.out aD bD ⟨4, ⟨#[64, 60]⟩, 0, qD, dD, .cons aD.k aD.s aD.n aD.p aD.c aD.kids (.cons bD.k bD.s bD.n bD.p bD.c bD.kids .nil)⟩ rfl rfl rfl hokg hatg (by omega) (by omega)).mono ?_
  rintro e yD ⟨⟨pD, rfl⟩, hI⟩
  rw [VAL.out]
  clear hatg hokg hu hta htb VAL
  replace SN := Lib.hid (SN.out.below hI)
  replace SP := Lib.hid (SP.out.below hI)
  replace BW := Lib.hid (BW.out.trans (hI.mono BW.out.size))
  clear hI ATD OKD TWD SZD
  generalize yD = x401 at SN SP BW ⊢
  go_wp2_with fail
  refine (I_any 1 _).mono ?_
  rintro e x402 ⟨rfl, hI⟩
  unfold tv
  replace SN := Lib.hid (SN.out.below hI)
  replace SP := Lib.hid (SP.out.below hI)
  replace BW := Lib.hid (BW.out.trans (hI.mono BW.out.size))
  clear hI
  go_wp2_with fail
  refine (A_any ⟨#[97]⟩ _).mono ?_
  rintro e x403 ⟨rfl, hI⟩
  unfold tv
  replace SN := Lib.hid (SN.out.below hI)
  replace SP := Lib.hid (SP.out.below hI)
  replace BW := Lib.hid (BW.out.trans (hI.mono BW.out.size))
  clear hI
  go_wp2_with fail
  obtain ⟨KE, hKE⟩ : ∃ W, W = World.alloc x403 (.cells #[.int .u8 2, .string ⟨#[]⟩, .int .i64 1, .slice none 0 0, .int .u8 3, .string ⟨#[97]⟩, .int .i64 0, .slice none 0 0] 25) := ⟨_, rfl⟩
  rw [← hKE]
  obtain ⟨hI, hat⟩ := two_at (a := nI 1) (b := nA) hKE ⟨0, 0, .inl rfl, trivial⟩ ⟨0, 0, .inl rfl, trivial⟩
  clear hKE
  replace SN := Lib.hid (SN.out.below hI)
  replace SP := Lib.hid (SP.out.below hI)
  replace BW := Lib.hid (BW.out.trans (hI.mono BW.out.size))
  clear hI
  have e1 := (show (nI 1).kids.size ≤ 0 from Nat.le_refl _)
  have e2 := (show (nA).kids.size ≤ 0 from Nat.le_refl _)
  refine (F_any ⟨#[60]⟩ (.cons (nI 1).k (nI 1).s (nI 1).n (nI 1).p (nI 1).c (nI 1).kids (.cons (nA).k (nA).s (nA).n (nA).p (nA).c (nA).kids .nil)) (by simp only [Ts.size, szI, szV, szA]; omega) (two_ok (a := nI 1) (b := nA) (nI_ok (by unfold isI64; omega)) nA_ok) KE _ 2 hat).mono ?_
  rintro e x404 ⟨usE, qE, dE, rfl, hat6, htw6, hok6, hcl6, hpn6, hI⟩
  rw [if_neg (by simp [Ts.len])]
  unfold tv
  have ATE := Lib.hid hat6.at
  have TWE := Lib.hid htw6
  have OKE : Hid (Nd.ok ⟨4, ⟨#[60]⟩, 0, qE, dE, usE⟩) := Lib.hid (ndOk14 (by omega) (by decide) (by omega) hcl6 hpn6 hok6)
  have SZE : usE.size ≤ Ts.size (.cons (nI 1).k (nI 1).s (nI 1).n (nI 1).p (nI 1).c (nI 1).kids (.cons (nA).k (nA).s (nA).n (nA).p (nA).c (nA).kids .nil)) := Nat.le_of_eq (Ts.twin_size _ _ htw6)
  simp only [Ts.size, szI, szV, szA] at SZE
  clear hat hat6 htw6 hok6 hcl6 hpn6 e1 e2
  replace SN := Lib.hid (SN.out.below hI)
  replace SP := Lib.hid (SP.out.below hI)
  replace BW := Lib.hid (BW.out.trans (hI.mono BW.out.size))
  clear hI
  obtain ⟨aE, bE, hu, hta, htb⟩ := twin_two (a := nI 1) (b := nA) TWE.out
  have VAL := Lib.hid (val_ia hta htb)
  have hatg := ATE.out
  have hokg := OKE.out.2.2.2.2.2.1
  simp only at hokg
  rw [hu] at hatg hokg SZE ⊢
  simp only [Ts.size] at SZE
  go_wp2_with fail
  refine (do_13 w.heap.size Sb.none 0 (by omega) _ SN.out aE bE ⟨4, ⟨#[60]⟩, 0, qE, dE, .cons aE.k aE.s aE.n aE.p aE.c aE.kids (.cons bE.k bE.s bE.n bE.p bE.c bE.kids .nil)⟩ rfl rfl rfl hokg hatg (by omega) (by omega)).mono ?_
  rintro e yE ⟨⟨pE, rfl⟩, hI⟩
  rw [VAL.out]
  clear hatg hokg hu hta htb VAL
  replace SN := Lib.hid (SN.out.below hI)
  replace SP := Lib.hid (SP.out.below hI)
  replace BW := Lib.hid (BW.out.trans (hI.mono BW.out.size))
  clear hI ATE OKE TWE SZE
  generalize yE = x501 at SN SP BW ⊢
  go_wp2_with fail
  refine (V_any 0 _).mono ?_
  rintro e x502 ⟨rfl, hI⟩
  unfold tv
  replace SN := Lib.hid (SN.out.below hI)
  replace SP := Lib.hid (SP.out.below hI)
  replace BW := Lib.hid (BW.out.trans (hI.mono BW.out.size))
  clear hI
  go_wp2_with fail
  refine (walk_any S2 σp cc1 _ SP.out (nV 0) (nV_ok (by unfold isI64; omega)) ⟨0, 0, .inl rfl, trivial⟩ (by simp [nV, Ts.size])).mono ?_
  rintro e x600 ⟨v, rfl, hv, hI⟩
  obtain ⟨us, q, d, rfl, -, -, -, -, -⟩ := hv
  have WT := Lib.hid (wk_three ST.out SP.out.ends)
  replace BW := Lib.hid (BW.out.trans (hI.mono BW.out.size))
  unfold tv
  rw [show (wk σp (nV 0)).k = 2 from WT.out.1, show (wk σp (nV 0)).n = 3 from WT.out.2.2.1]
  clear hI SP ST SN WT
  go_wp2
  go_ret
  exact ⟨rfl, BW.out.alloc BW.out.size _⟩

end Go.Proofs.YtnmhnaanpjlniaaGreat
/-
  The laws BuiltinOrder and BuiltinGround, walked. (Written by gen_fk.py.)
-/
namespace Go.Proofs.YtnmhnaanpjlniaaGreat
open Go.RowKit

theorem good_shape {k : Int} {s : ByteArray} {n : Int} {ts : Ts} (h : goodB 64 k s n ts = true) : (shapeL ts && headB k s n ts.len) = true := by
  unfold goodB at h
  simp only [Bool.and_eq_true] at h ⊢
  exact h.2




end Go.Proofs.YtnmhnaanpjlniaaGreat
/-
  Plain facts of the order as far as it is known.
-/
namespace Go.Proofs.YtnmhnaanpjlniaaGreat
open Go.RowKit








end Go.Proofs.YtnmhnaanpjlniaaGreat
/-
  What a caller may hand in, opened: a term, a list of terms, a text, a number.
-/
namespace Go.Proofs.YtnmhnaanpjlniaaGreat
open Go.ChangeShapes Go.WideShapes Go.ChangeAt Go.RowKit

theorem own : ownKnob Tryz.prog.godebug = none := by kernel_rfl
theorem laidOut : laidOutB Tryz.prog = true := by kernel_rfl

section
variable {H : Type} {enc : TypeId × Value → H}

theorem weights_le {l : List Nat} (h : l.all (· ≤ reachBytes) = true) : ∀ m ∈ l, m ≤ reachBytes := by simpa using h

theorem open_term {w : World} {v : Value} {d : DataW H} {p : List MemPlace} (hv : ∃ cs, v = .agg cs ∧ cs.size = Tryz.prog.cellsOf 25) (h : DataW.Trod enc Tryz.prog w 0 (fun _ => true) true 25 v d p)
    (hw : ∀ m ∈ d.weights Tryz.prog 25, m ≤ reachBytes) :
    ∃ (k : Int) (s : ByteArray) (n : Int) (p : Option Addr) (c : Nat) (ts : Ts), v = tv k s n p ts.len c ∧ Ts.At w p ts ∧ Ts.ok (.cons k s n p c ts .nil) := by
  obtain ⟨cs, rfl, hcs⟩ := hv
  obtain ⟨fuel, hf⟩ := h
  obtain ⟨k, s, n, v, y, m, _, hl, hk, hs, hn, hr, hwr⟩ := open_term_cells hf hw
  obtain ⟨p, ts, c, rfl, hat, hok, hc, hcap, hp⟩ := open_terms m hr hwr
  refine ⟨k, s, n, p, c, ts, ?_, hat, hk, hs, hn, ⟨hc, by omega⟩, hp, hok, trivial⟩
  have : cs.toList = [.int .u8 k, .string s, .int .i64 n, .slice p ts.len c] := by simpa [Value.cells] using hl
  unfold tv
  obtain ⟨l⟩ := cs
  simp only at this
  rw [this]



end
end Go.Proofs.YtnmhnaanpjlniaaGreat
/-
  What a caller may hand in, opened: a list of bindings.
-/
namespace Go.Proofs.YtnmhnaanpjlniaaGreat
open Go.ChangeShapes Go.WideShapes Go.ChangeAt Go.RowKit

section
variable {H : Type} {enc : TypeId × Value → H} {base : Nat} {hd : Bool}

theorem cellsBind : Tryz.prog.cellsOf 56 = 5 := by kernel_rfl
theorem bytesBind : Tryz.prog.bytesOf 56 = 64 := by kernel_rfl

set_option maxRecDepth 4000 in
theorem open_bind_cells {w : World} {fuel : Nat} {cs : List Value} {x : DataW H × List MemPlace} (h : DataW.trod enc Tryz.prog w base (fun _ => true) hd fuel 56 cs = some x)
    (hw : ∀ m ∈ x.1.weights Tryz.prog 56, m ≤ reachBytes) :
    ∃ (v : Int) (y : Nd), cs = [.int .i64 v, .int .u8 y.k, .string y.s, .int .i64 y.n, .slice y.p y.kids.len y.c] ∧ (-9223372036854775808 ≤ v ∧ v ≤ 9223372036854775807) ∧ Ts.At w y.p y.kids ∧ y.ok := by
  obtain ⟨xs, m, rfl, rfl, hl, hlen, hf⟩ := DataW.trod_struct Tryz.underlying56 h
  rw [cellsBind] at hl
  match cs, hl with
  | [c0, c1, c2, c3, c4], _ =>
    match xs, hlen with
    | [x0, x1], _ =>
      have f0 : DataW.trod enc Tryz.prog w base (fun _ => true) hd m 2 [c0] = some x0 := by have := hf 0 _ rfl; simpa [cellsI64] using this
      have f1 : DataW.trod enc Tryz.prog w base (fun _ => true) hd m 25 [c1, c2, c3, c4] = some x1 := by have := hf 1 _ rfl; simpa [cellsI64, cellsTerm] using this
      obtain ⟨n, e0, _, w0⟩ := DataW.trod_int Tryz.underlying2 f0
      simp only [List.cons.injEq, and_true] at e0
      subst e0
      have hin : ∀ q, q ∈ DataW.weightsEach Tryz.prog [2, 25] [x0.1, x1.1] → q ≤ reachBytes := fun q hq => by
        refine hw q ?_
        simp only [List.map_cons, List.map_nil, DataW.weights, Tryz.underlying56]
        exact hq
      obtain ⟨k, s, m', v', y', f, hf, e, hk, hs, hm', hkid, hkw⟩ := open_term_cells f1 (fun q hq => hin q (DataW.weights_mem_each (j := 1) rfl rfl q hq))
      obtain ⟨p, ks, kc, rfl, hat, hok, hkl, hkc, hpn⟩ := open_terms f hkid hkw
      exact ⟨n, ⟨k, s, m', p, kc, ks⟩, by rw [e], i64_of_wf w0, hat, hk, hs, hm', ⟨hkl, by simp only; omega⟩, hpn, hok, trivial⟩

set_option maxRecDepth 100000 in
/-- whatever reads as a list of bindings lies as one -/
theorem open_binds {w : World} {fuel : Nat} {v : Value} {x : DataW H × List MemPlace} (h : DataW.trod enc Tryz.prog w base (fun _ => true) hd fuel 22 [v] = some x)
    (hw : ∀ m ∈ x.1.weights Tryz.prog 22, m ≤ reachBytes) :
    ∃ (p : Option Addr) (l : List (Int × Nd)) (cap : Nat), v = .slice p l.length cap ∧ BsAt w p l ∧ (bsTs l).ok ∧ l.length ≤ 9223372036854775807 ∧ ∀ e ∈ l, -9223372036854775808 ≤ e.1 ∧ e.1 ≤ 9223372036854775807 := by
  rcases DataW.trod_slice Tryz.underlying22 h with ⟨hcs, rfl⟩ | ⟨a, len, cap, elems, rest, n, rfl, hcs, rfl, hb, hl, hm, hlen, hel, hsp, _⟩
  · simp only [List.cons.injEq, and_true] at hcs
    subst hcs
    exact ⟨none, [], 0, rfl, ⟨0, 0, .inl rfl, trivial⟩, trivial, by simp, fun e he => by cases he⟩
  · simp only [List.cons.injEq, and_true] at hcs
    subst hcs
    have hrest := (hsp rfl).1
    have hW : ∀ q, q ∈ ((elems.map (·.1)).length + (rest.map (·.1)).length) * 64 :: (DataW.weightsAll Tryz.prog 56 (elems.map (·.1)) ++ DataW.weightsAll Tryz.prog 56 (rest.map (·.1))) → q ≤ reachBytes := fun q hq => by
      refine hw q ?_
      simp only [DataW.weights, Tryz.underlying22, bytesBind]
      exact hq
    have hcap : cap * 64 ≤ 140737488351232 := by
      have h1 := hW _ (List.mem_cons_self ..)
      simp only [List.length_map, hlen, hrest] at h1
      rw [reach_eq] at h1
      rw [show len + (cap - len) = cap from by omega] at h1
      exact h1
    have hspot0 : 0 < len → a.spot = none := fun h0 => by
      have hi := hel 0 h0
      have hlt : 0 < elems.length := by omega
      rw [List.getElem?_eq_getElem hlt] at hi
      obtain ⟨cs, hcs, _⟩ := Option.bind_eq_some_iff.1 hi
      rw [cellsBind] at hcs
      obtain ⟨_, hcl, hcell⟩ := World.cells?_some hcs
      have h1 := hcell 0 (by omega)
      rw [List.getElem?_eq_getElem (by omega)] at h1
      have h2 := World.cell?_spot h1
      simpa [Addr.add] using h2
    have build : ∀ j, j ≤ len → ∃ l : List (Int × Nd), l.length = j ∧ BsLies w a.block (a.off + 5 * (len - j)) l ∧ (bsTs l).ok ∧ (l = [] ∨ a.spot = none) ∧ ∀ e ∈ l, -9223372036854775808 ≤ e.1 ∧ e.1 ≤ 9223372036854775807 := by
      intro j
      induction j with
      | zero => exact fun _ => ⟨[], rfl, trivial, trivial, .inl rfl, fun e he => by cases he⟩
      | succ j ihj =>
        intro hj
        obtain ⟨l, h1, h2, h3, _, h5⟩ := ihj (by omega)
        have hi := hel (len - (j + 1)) (by omega)
        have hget : ∃ y, elems[len - (j + 1)]? = some y ∧ y ∈ elems := by
          have hlt : len - (j + 1) < elems.length := by omega
          exact ⟨elems[len - (j + 1)], List.getElem?_eq_getElem hlt, List.getElem_mem hlt⟩
        obtain ⟨y, hy, hmem⟩ := hget
        rw [hy] at hi
        obtain ⟨cs, hcs, hread⟩ := Option.bind_eq_some_iff.1 hi
        rw [cellsBind] at hcs
        obtain ⟨_, hcl, hcell⟩ := World.cells?_some hcs
        obtain ⟨v, z, rfl, hv, hat, hok⟩ := open_bind_cells hread (fun q hq => hW q (List.mem_cons_of_mem _ (List.mem_append_left _ (weights_all (List.mem_map.2 ⟨y, hmem, rfl⟩) q hq))))
        have hspot := hspot0 (by omega)
        obtain ⟨b, off, spot⟩ := a
        simp only at hspot
        subst hspot
        have c0 := hcell 0 (by omega)
        have c1 := hcell 1 (by omega)
        have c2 := hcell 2 (by omega)
        have c3 := hcell 3 (by omega)
        have c4 := hcell 4 (by omega)
        simp only [add_plain, List.getElem?_cons_zero, List.getElem?_cons_succ] at c0 c1 c2 c3 c4
        have eo : off + (len - (j + 1)) * 5 = off + 5 * (len - (j + 1)) := by omega
        rw [eo] at c0 c1 c2 c3 c4
        refine ⟨(v, z) :: l, by simp [h1], ⟨c0, c1, c2, c3, c4, hat, ?_⟩, ⟨hok.1, hok.2.1, hok.2.2.1, hok.2.2.2.1, hok.2.2.2.2.1, hok.2.2.2.2.2.1, h3⟩, .inr rfl, fun e he => ?_⟩
        · rw [show off + 5 * (len - (j + 1)) + 5 = off + 5 * (len - j) from by omega]
          exact h2
        · rcases List.mem_cons.1 he with rfl | he
          · exact hv
          · exact h5 e he
    obtain ⟨l, h1, h2, h3, h4, h5⟩ := build len (Nat.le_refl _)
    refine ⟨some a, l, cap, by rw [h1], ?_, h3, by omega, h5⟩
    rcases h4 with rfl | h4
    · exact ⟨0, 0, .inl rfl, trivial⟩
    · obtain ⟨b, off, spot⟩ := a
      simp only at h4
      subst h4
      rw [show off + 5 * (len - len) = off from by omega] at h2
      exact ⟨b, off, .inr rfl, h2⟩

theorem open_bs {w : World} {v : Value} {d : DataW H} {p : List MemPlace} (hv : ∃ a len cap, v = .slice a len cap) (h : DataW.Trod enc Tryz.prog w 0 (fun _ => true) true 22 v d p)
    (hw : ∀ m ∈ d.weights Tryz.prog 22, m ≤ reachBytes) :
    ∃ (p : Option Addr) (l : List (Int × Nd)) (c : Nat), v = .slice p l.length c ∧ BsAt w p l ∧ (bsTs l).ok ∧ l.length ≤ 9223372036854775807 ∧ ∀ e ∈ l, -9223372036854775808 ≤ e.1 ∧ e.1 ≤ 9223372036854775807 := by
  obtain ⟨a, len, cap, rfl⟩ := hv
  obtain ⟨fuel, hf⟩ := h
  exact open_binds (by simpa [Value.cells] using hf) hw
end

end Go.Proofs.YtnmhnaanpjlniaaGreat
/-
  The law BuiltinGround, walked. (Written by gen_fn.py.)
-/
namespace Go.Proofs.YtnmhnaanpjlniaaGreat
open Go.RowKit





end Go.Proofs.YtnmhnaanpjlniaaGreat
