import Derived.Test.YtnmhnaanpjlniaaGreatFi
import Derived.Test.YtnmhnaanpjlniaaGreatFp
import Derived.Test.YtnmhnaanpjlniaaGreatWe0
import Derived.Test.YtnmhnaanpjlniaaGreatFIa
import Derived.Test.YtnmhnaanpjlniaaGreatFIb
import Derived.Test.YtnmhnaanpjlniaaGreatFIc
import Derived.Test.YtnmhnaanpjlniaaGreatTj
import Derived.ProofKit
import Derived.SizedLaws
import Derived.ChangeBears2
import Derived.OpenShut
/-
  Plain facts for the law BuiltinSides.
-/
namespace Go.Proofs.YtnmhnaanpjlniaaGreat
open Go.RowKit

/-- a term like another one is applied to the same terms -/
theorem App.move {σ : Sb} (hE : Ends σ) {l : List Nd} {us : Ts} (h : App σ l us) : ∀ {l' : List Nd}, TwL l l' → App σ l' us := by
  induction h with
  | nil => intro l' h; cases h; exact .nil
  | @cons t rest p c ks rs h h' ih ih' =>
    intro l' ht
    cases ht with
    | cons g g' =>
      have hw := wk_tw hE g
      have e := App.cons (p := p) (c := c) (ih (elems_tw hw.2.2.2)) (ih' g')
      rw [← hw.1, ← hw.2.1, ← hw.2.2.1] at e
      exact e
theorem Ap.move {σ : Sb} (hE : Ends σ) {t t' X : Nd} (h : Ap σ t X) (ht : t.twin t') : Ap σ t' X := by
  have hw := wk_tw hE ht
  exact ⟨h.k.trans hw.1, h.s.trans hw.2.1, h.n.trans hw.2.2.1, h.app.move hE (elems_tw hw.2.2.2), h.ok, h.cap, h.nn, h.sz⟩
theorem apX_move {σ : Sb} (hE : Ends σ) {t t' : Nd} (ht : t.twin t') : (apX σ t).twin (apX σ t') := by
  by_cases h : ∃ X, Ap σ t X
  · obtain ⟨X, hX⟩ := h
    exact Nd.twin_trans (Nd.twin_symm (apX_tw hX)) (apX_tw (hX.move hE ht))
  · have h' : ¬ ∃ X, Ap σ t' X := fun ⟨X, hX⟩ => h ⟨X, hX.move hE (Nd.twin_symm ht)⟩
    unfold apX
    rw [dif_neg h, dif_neg h']
    exact Nd.twin_refl _
theorem TwL.len {l m : List Nd} (h : TwL l m) : l.length = m.length := by
  induction h with
  | nil => rfl
  | cons _ _ ih => simp only [List.length_cons, ih]
theorem apE_move {σ : Sb} (hE : Ends σ) {t t' : Nd} (ht : t.twin t') : apE σ t = apE σ t' := by
  unfold apE
  rw [((STw.refl σ).vis hE 4097 (TwL.cons ht .nil)).len]
theorem apP_move {σ : Sb} (hE : Ends σ) {a b a' b' : Nd} (ha : a.twin a') (hb : b.twin b') {f : Nd → Nd → Bool × Int} (hf : ∀ x y x' y' : Nd, x.twin x' → y.twin y' → f x y = f x' y') : apP σ a b f = apP σ a' b' f := by
  unfold apP
  rw [apE_move hE ha, apE_move hE hb, hf _ _ _ _ (apX_move hE ha) (apX_move hE hb)]
theorem rkP_move {σ : Sb} (hE : Ends σ) {a b a' b' : Nd} (ha : a.twin a') (hb : b.twin b') (f : Int → Int → Bool) : rkP σ a b f = rkP σ a' b' f := by
  unfold rkP
  rw [rk_tw (STw.refl σ) hE 4096 4096 ha, rk_tw (STw.refl σ) hE 4096 4096 hb]
theorem unO_move {σ : Sb} (hE : Ends σ) (n : Nat) {a b a' b' : Nd} (ha : a.twin a') (hb : b.twin b') : okU (unO σ n a b) = okU (unO σ n a' b') ∧ gU (unO σ n a b) = gU (unO σ n a' b') := by
  have h := un_tw 4096 n (STw.refl σ) hE (.cons ha hb .nil)
  unfold unO
  cases h1 : un 4096 n σ [(a, b)] <;> cases h2 : un 4096 n σ [(a', b')] <;> rw [h1, h2] at h
  all_goals first | exact h.elim | exact ⟨rfl, rfl⟩
theorem doV_move {σ : Sb} (hE : Ends σ) (n : Nat) {a b a' b' : Nd} (ha : a.twin a') (hb : b.twin b') (j : Nat) (hj : j < 17) (h10 : j ≠ 10) : doV σ n a b j = doV σ n a' b' j := by
  have hu := unO_move hE n ha hb
  match j, hj, h10 with
  | 0, _, _ | 1, _, _ => rfl
  | 2, _, _ => exact Prod.ext hu.1 hu.2
  | 3, _, _ => exact congrArg doneR (Prod.ext (congrArg (! ·) hu.1) hu.2)
  | 10, _, h => exact absurd rfl h
  | m + 17, h, _ => omega
  | 4, _, _ | 5, _, _ => exact congrArg doneR (apP_move hE ha hb fun x y x' y' h h' => by rw [sameB_twin h h'])
  | 6, _, _ | 7, _, _ | 8, _, _ | 9, _, _ => exact congrArg doneR (apP_move hE ha hb fun x y x' y' h h' => by rw [ordN_twin h h'])
  | 11, _, _ | 12, _, _ | 13, _, _ | 14, _, _ | 15, _, _ | 16, _, _ => exact congrArg doneR (rkP_move hE ha hb _)

/-- does just one of some goals succeed? -/
def oneF : List (Bool × Int) → Nat → Bool
  | [], m => m == 1
  | r :: l, m => if (r.2 != 0) = true then true else oneF l (if r.1 = true then m + 1 else m)

theorem doneR_err {b : Bool} {g : Int} (h : (g != 0) = true) : doneR (b, g) = (false, g) := by
  unfold doneR
  simp only [h, Bool.true_or, if_true]
theorem doneR_ok (b : Bool) : doneR (b, 0) = (b, 0) := by cases b <;> rfl
theorem oneF_err {b : Bool} {g : Int} (h : (g != 0) = true) (l : List (Bool × Int)) (m : Nat) : oneF (doneR (b, g) :: l) m = true := by
  rw [doneR_err h]
  unfold oneF
  rw [if_pos h]
theorem oneF_ok (b : Bool) (l : List (Bool × Int)) (m : Nat) : oneF (doneR (b, 0) :: l) m = oneF l (if b = true then m + 1 else m) := by
  rw [doneR_ok]
  rfl

theorem apP_ways (σ : Sb) (a b : Nd) : (∀ f, apP σ a b f = (false, 31)) ∨ (apE σ a = 0 ∧ apE σ b = 0 ∧ ∀ f, apP σ a b f = f (apX σ a) (apX σ b)) := by
  have h31 : ∀ t, apE σ t = 0 ∨ apE σ t = 31 := fun t => by
    unfold apE
    split
    · exact .inr rfl
    · exact .inl rfl
  rcases h31 a with ha | ha
  · rcases h31 b with hb | hb
    · exact .inr ⟨ha, hb, fun f => by unfold apP; rw [ha, hb, if_pos rfl, if_pos rfl]⟩
    · exact .inl fun f => by unfold apP; rw [ha, hb]; rfl
  · exact .inl fun f => by unfold apP; rw [ha]; rfl

theorem one_un (σ : Sb) (n : Nat) (a b : Nd) : oneF [doV σ n a b 2, doV σ n a b 3] 0 = true := by
  unfold doV
  cases unO σ n a b <;> rfl
theorem one1_same (σ : Sb) (n : Nat) (a b : Nd) : oneF [doV σ n a b 4, doV σ n a b 5] 0 = true := by
  show oneF [doneR (apP σ a b _), doneR (apP σ a b _)] 0 = true
  rcases apP_ways σ a b with h | ⟨_, _, h⟩
  · rw [h, h]; exact oneF_err (by decide) _ _
  · rw [h, h]
    cases sameB (apX σ a) (apX σ b) <;> rfl
theorem ordR_no {i : Nat} {p : Int × Bool} (h : p.2 = false) : ordR i p = (false, 20) := by unfold ordR; rw [h, if_neg (by simp)]
theorem ordR_yes {i : Nat} {p : Int × Bool} (h : p.2 = true) : ordR i p = (ordC i p.1, 0) := by unfold ordR; rw [if_pos h]
theorem one_ord (σ : Sb) (n : Nat) (a b : Nd) : oneF [doV σ n a b 8, doV σ n a b 7] 0 = true ∧ oneF [doV σ n a b 6, doV σ n a b 9] 0 = true := by
  show oneF [doneR (apP σ a b _), doneR (apP σ a b _)] 0 = true ∧ oneF [doneR (apP σ a b _), doneR (apP σ a b _)] 0 = true
  rcases apP_ways σ a b with h | ⟨_, _, h⟩
  · rw [h, h, h, h]; exact ⟨oneF_err (by decide) _ _, oneF_err (by decide) _ _⟩
  · rw [h, h, h, h]
    cases hk : (ordN (apX σ a) (apX σ b)).2 with
    | false => rw [ordR_no hk, ordR_no hk, ordR_no hk, ordR_no hk]; exact ⟨oneF_err (by decide) _ _, oneF_err (by decide) _ _⟩
    | true =>
      rw [ordR_yes hk, ordR_yes hk, ordR_yes hk, ordR_yes hk, oneF_ok, oneF_ok, oneF_ok, oneF_ok]
      obtain ⟨d, hd⟩ : ∃ d, d = (ordN (apX σ a) (apX σ b)).1 := ⟨_, rfl⟩
      rw [← hd]
      unfold ordC oneF
      by_cases h1 : d ≤ 0
      · by_cases h2 : d < 0
        · simp [h1, h2, show ¬ 0 < d by omega, show ¬ 0 ≤ d by omega]
        · simp [h1, h2, show ¬ 0 < d by omega, show 0 ≤ d by omega]
      · simp [h1, show ¬ d < 0 by omega, show 0 < d by omega, show 0 ≤ d by omega]
theorem one_three (σ : Sb) (n : Nat) (a b : Nd) (hz : (ordN (apX σ a) (apX σ b)).2 = true → ((ordN (apX σ a) (apX σ b)).1 = 0 ↔ sameB (apX σ a) (apX σ b) = true)) : oneF [doV σ n a b 6, doV σ n a b 4, doV σ n a b 7] 0 = true := by
  show oneF [doneR (apP σ a b _), doneR (apP σ a b _), doneR (apP σ a b _)] 0 = true
  rcases apP_ways σ a b with h | ⟨_, _, h⟩
  · rw [h, h, h]; exact oneF_err (by decide) _ _
  · rw [h, h, h]
    cases hk : (ordN (apX σ a) (apX σ b)).2 with
    | false => rw [ordR_no hk]; exact oneF_err (by decide) _ _
    | true =>
      have hz' := hz hk
      rw [ordR_yes hk, ordR_yes hk, oneF_ok, oneF_ok, oneF_ok]
      obtain ⟨d, hd⟩ : ∃ d, d = (ordN (apX σ a) (apX σ b)).1 := ⟨_, rfl⟩
      rw [← hd] at hz' ⊢
      cases hs : sameB (apX σ a) (apX σ b) with
      | true =>
        have h0 := hz'.2 hs
        rw [h0]
        rfl
      | false =>
        have h0 : d ≠ 0 := fun h => by rw [hz'.1 h] at hs; cases hs
        unfold ordC oneF
        by_cases h2 : d < 0
        · simp [h2, show ¬ 0 < d by omega]
        · simp [h2, show 0 < d by omega]
theorem rkP_ways (σ : Sb) (a b : Nd) : (∃ g, (g != 0) = true ∧ ∀ f, rkP σ a b f = (false, g)) ∨ ∃ l r, ∀ f, rkP σ a b f = (f l r, 0) := by
  by_cases ha : (rk σ 4096 4096 a).1.2 = 0
  · by_cases hb : (rk σ 4096 4096 b).1.2 = 0
    · exact .inr ⟨_, _, fun f => by unfold rkP; rw [if_pos ha, if_pos hb]⟩
    · exact .inl ⟨_, by simpa using hb, fun f => by unfold rkP; rw [if_pos ha, if_neg hb]⟩
  · exact .inl ⟨_, by simpa using ha, fun f => by unfold rkP; rw [if_neg ha]⟩
theorem one_num (σ : Sb) (n : Nat) (a b : Nd) : oneF [doV σ n a b 13, doV σ n a b 11, doV σ n a b 14] 0 = true ∧ oneF [doV σ n a b 15, doV σ n a b 14] 0 = true ∧ oneF [doV σ n a b 11, doV σ n a b 12] 0 = true := by
  show oneF [doneR (rkP σ a b _), doneR (rkP σ a b _), doneR (rkP σ a b _)] 0 = true ∧ oneF [doneR (rkP σ a b _), doneR (rkP σ a b _)] 0 = true ∧ oneF [doneR (rkP σ a b _), doneR (rkP σ a b _)] 0 = true
  rcases rkP_ways σ a b with ⟨g, hg, h⟩ | ⟨l, r, h⟩
  · simp only [h]
    exact ⟨oneF_err hg _ _, oneF_err hg _ _, oneF_err hg _ _⟩
  · simp only [h, oneF_ok]
    unfold cmpI oneF
    by_cases h1 : l < r
    · simp [h1, show ¬ r < l by omega, show l ≤ r by omega, show l ≠ r by omega]
    · by_cases h2 : l = r
      · subst h2; simp
      · simp [h1, h2, show r < l by omega, show ¬ l ≤ r by omega]

theorem turned (σ : Sb) (n : Nat) (a b : Nd) : doV σ n b a 7 = doV σ n a b 6 := by
  show doneR (apP σ b a _) = doneR (apP σ a b _)
  rcases apP_ways σ a b with h | ⟨ha, hb, h⟩
  · rcases apP_ways σ b a with h' | ⟨hb', ha', h'⟩
    · rw [h, h']
    · have h1 := h fun _ _ => (true, 0)
      unfold apP at h1
      rw [ha', hb', if_pos rfl, if_pos rfl] at h1
      cases h1
  · rw [h]
    have h' : ∀ f, apP σ b a f = f (apX σ b) (apX σ a) := fun f => by unfold apP; rw [ha, hb, if_pos rfl, if_pos rfl]
    rw [h', ordN_neg (apX σ a) (apX σ b)]
    obtain ⟨x, hx⟩ : ∃ x, x = ordN (apX σ a) (apX σ b) := ⟨_, rfl⟩
    rw [← hx]
    unfold ordR ordC
    simp only
    rw [show decide (0 < -x.1) = decide (x.1 < 0) by congr 1; exact propext ⟨fun h => by omega, fun h => by omega⟩]

/-- what is alike unifies -/
theorem same_unifies {σ : Sb} (hc : Cand σ) (n : Nat) {a b X Y : Nd} (ha : GN a) (hb : GN b) (hX : Ap σ a X) (hY : Ap σ b Y) (h4 : doV σ n a b 4 = (true, 0)) (h2 : gU (unO σ n a b) = 0) : okU (unO σ n a b) = true := by
  have hs : sameB (apX σ a) (apX σ b) = true := by
    have h4' : doneR (apP σ a b fun x y => (sameB x y == true, 0)) = (true, 0) := h4
    rcases apP_ways σ a b with h | ⟨_, _, h⟩
    · rw [h] at h4'; cases h4'
    · rw [h, doneR_ok] at h4'
      simpa using h4'
  have htw : X.twin Y := Nd.twin_trans (apX_tw hX) (Nd.twin_trans (sameB_is hs) (Nd.twin_symm (apX_tw hY)))
  obtain ⟨θ, hm⟩ := hc.mg
  have hev : ev θ a = ev θ b := by rw [← hX.ev hm.1 hc.ends, ← hY.ev hm.1 hc.ends, ev_twin θ htw]
  have hne := (un_fwd (θ := θ) 4096 (c := n) hm.1 hc.ends hc.goods (l := [(a, b)]) (fun p hp => by
    simp only [List.mem_singleton] at hp
    subst hp
    exact ⟨ha.1, hb.1, hev⟩)).1
  unfold unO at h2 ⊢
  cases h : un 4096 n σ [(a, b)] with
  | full => rw [h] at h2; cases h2
  | no => exact absurd h hne
  | ok => rfl
theorem zero_same {x y : Nd} (hx : (shapeL x.kids && headB x.k x.s x.n x.kids.len) = true) (hy : (shapeL y.kids && headB y.k y.s y.n y.kids.len) = true) (h : (ordN x y).2 = true) : (ordN x y).1 = 0 ↔ sameB x y = true := by
  rw [ordN_std hx hy h]
  exact cmpT_zero _ _ _ _ _ _ _ _

end Go.Proofs.YtnmhnaanpjlniaaGreat
/-
  The laws BuiltinOrder and BuiltinGround, walked. (Written by gen_fk.py.)
-/
namespace Go.Proofs.YtnmhnaanpjlniaaGreat
open Go.RowKit

theorem good_shape {k : Int} {s : ByteArray} {n : Int} {ts : Ts} (h : goodB 64 k s n ts = true) : (shapeL ts && headB k s n ts.len) = true := by
  unfold goodB at h
  simp only [Bool.and_eq_true] at h ⊢
  exact h.2

theorem pair3 {w W : World} {a b : Nd} (h : W = ((w.alloc (.cells #[.int .u8 a.k, .string a.s, .int .i64 a.n, .slice a.p a.kids.len a.c] 25)).alloc (.cells #[.int .u8 b.k, .string b.s, .int .i64 b.n, .slice b.p b.kids.len b.c] 25)).alloc (.cells #[.int .u8 a.k, .string a.s, .int .i64 a.n, .slice a.p a.kids.len a.c, .int .u8 b.k, .string b.s, .int .i64 b.n, .slice b.p b.kids.len b.c] 25)) (hata : Ts.At w a.p a.kids) (hatb : Ts.At w b.p b.kids) :
    BoxIs w.heap.size a W ∧ BoxIs (w.heap.size + 1) b W ∧ Below w.heap.size w W ∧ Ts.At W (some ⟨w.heap.size + 1 + 1, 0, none⟩) (.cons a.k a.s a.n a.p a.c a.kids (.cons b.k b.s b.n b.p b.c b.kids .nil)) := by
  obtain ⟨W2, hW2, hB2, h1, h2⟩ := box2N w a b 25
  rw [← hW2] at h
  have hs : W2.heap.size = w.heap.size + 1 + 1 := by rw [hW2]; simp
  obtain ⟨hB, hat⟩ := two_at h (hata.below hB2) (hatb.below hB2)
  rw [hs] at hat hB
  exact ⟨h1.below (by rw [hs]; exact hB), h2.below (by rw [hs]; exact hB), hB2.trans (hB.mono (by omega)), hat⟩



end Go.Proofs.YtnmhnaanpjlniaaGreat
/-
  Layer 14's is and one. (Written by gen_ft.py.)
-/
namespace Go.Proofs.YtnmhnaanpjlniaaGreat
open Go.RowKit

theorem doT_any (j : Nat) (h2 : 2 ≤ j) (hj : j < 17) (h10 : j ≠ 10) (S : Nat) (σ : Sb) (n : Nat) (hn : n ≤ 900000) (w : World) (hS : SubAt S σ n w) (a b g : Nd) (hk : g.k = 4) (hs : g.s = doSym j) (hkids : g.kids = (.cons a.k a.s a.n a.p a.c a.kids (.cons b.k b.s b.n b.p b.c b.kids .nil))) (hok : g.kids.ok) (hat : Ts.At w g.p g.kids) (ha : a.kids.size ≤ 5000) (hb : b.kids.size ≤ 5000) :
    Calls Tryz.prog 13 #[.pointer (some ⟨S, 0, none⟩), .agg #[.int .u8 g.k, .string g.s, .int .i64 g.n, .slice g.p g.kids.len g.c]] w fun e w' => (∃ p, e = .returned (.tuple #[p, .bool (doV σ n a b j).1, .int .i64 (doV σ n a b j).2])) ∧ Below w.heap.size w w' := by
  match j, h2, hj, h10 with
  | 2, _, _, _ => exact do_2 S σ n hn w hS a b g hk hs hkids hok hat ha hb
  | 3, _, _, _ => exact do_3 S σ n hn w hS a b g hk hs hkids hok hat ha hb
  | 4, _, _, _ => exact do_4 S σ n hn w hS a b g hk hs hkids hok hat ha hb
  | 5, _, _, _ => exact do_5 S σ n hn w hS a b g hk hs hkids hok hat ha hb
  | 6, _, _, _ => exact do_6 S σ n hn w hS a b g hk hs hkids hok hat ha hb
  | 7, _, _, _ => exact do_7 S σ n hn w hS a b g hk hs hkids hok hat ha hb
  | 8, _, _, _ => exact do_8 S σ n hn w hS a b g hk hs hkids hok hat ha hb
  | 9, _, _, _ => exact do_9 S σ n hn w hS a b g hk hs hkids hok hat ha hb
  | 11, _, _, _ => exact do_11 S σ n hn w hS a b g hk hs hkids hok hat ha hb
  | 12, _, _, _ => exact do_12 S σ n hn w hS a b g hk hs hkids hok hat ha hb
  | 13, _, _, _ => exact do_13 S σ n hn w hS a b g hk hs hkids hok hat ha hb
  | 14, _, _, _ => exact do_14 S σ n hn w hS a b g hk hs hkids hok hat ha hb
  | 15, _, _, _ => exact do_15 S σ n hn w hS a b g hk hs hkids hok hat ha hb
  | 16, _, _, _ => exact do_16 S σ n hn w hS a b g hk hs hkids hok hat ha hb
  | 10, _, _, h => exact absurd rfl h
  | m + 17, _, h, _ => omega
  | 0, h, _, _ => omega
  | 1, h, _, _ => omega
set_option maxRecDepth 100000 in
set_option maxHeartbeats 4000000 in
theorem is_any (j : Nat) (h2 : 2 ≤ j) (hj : j < 17) (h10 : j ≠ 10) (S : Nat) (σ : Sb) (n : Nat) (hn : n ≤ 900000) (w : World) (hS : SubAt S σ n w) (a b : Nd) (hoka : a.ok) (hokb : b.ok) (hata : Ts.At w a.p a.kids) (hatb : Ts.At w b.p b.kids) (ha : a.kids.size ≤ 2000) (hb : b.kids.size ≤ 2000) :
    Calls Tryz.prog 18 #[.pointer (some ⟨S, 0, none⟩), .string (doSym j), .agg #[.int .u8 a.k, .string a.s, .int .i64 a.n, .slice a.p a.kids.len a.c], .agg #[.int .u8 b.k, .string b.s, .int .i64 b.n, .slice b.p b.kids.len b.c]] w fun e w' => e = .returned (.tuple #[.bool (doV σ n a b j).1, .int .i64 (doV σ n a b j).2]) ∧ Below w.heap.size w w' := by
  obtain ⟨r, hr⟩ : ∃ r, r = doV σ n a b j := ⟨_, rfl⟩
  have RE := Lib.hid hr
  rw [← hr]
  clear hr
  obtain ⟨sy, hsy⟩ : ∃ s, s = doSym j := ⟨_, rfl⟩
  have SY := Lib.hid hsy
  rw [← hsy]
  clear hsy
  have SB := Lib.hid hS
  have OKa := Lib.hid hoka
  have OKb := Lib.hid hokb
  have ATa := Lib.hid hata
  have ATb := Lib.hid hatb
  clear hS hoka hokb hata hatb
  obtain ⟨W3, hW3⟩ : ∃ W3, W3 = ((w.alloc (.cells #[.int .u8 a.k, .string a.s, .int .i64 a.n, .slice a.p a.kids.len a.c] 25)).alloc (.cells #[.int .u8 b.k, .string b.s, .int .i64 b.n, .slice b.p b.kids.len b.c] 25)).alloc (.cells #[.int .u8 a.k, .string a.s, .int .i64 a.n, .slice a.p a.kids.len a.c, .int .u8 b.k, .string b.s, .int .i64 b.n, .slice b.p b.kids.len b.c] 25) := ⟨_, rfl⟩
  have hp := pair3 hW3 ATa.out ATb.out
  have PP := Lib.hid hp
  have ZW := Lib.hid hW3
  clear hW3 hp
  go_enter Tryz.func18, Tryz.ntmps18
  go_wp2_with fail
  rw [← ZW.out]
  refine (F_any sy (.cons a.k a.s a.n a.p a.c a.kids (.cons b.k b.s b.n b.p b.c b.kids .nil)) (by simp only [Ts.size]; omega) (two_ok OKa.out OKb.out) W3 _ 2 PP.out.2.2.2).mono ?_
  rintro e w4 ⟨us, q, d, rfl, hat6, htw6, hok6, hcl6, hpn6, hI⟩
  rw [if_neg (by simp [Ts.len])]
  unfold tv
  obtain ⟨a', b', hu, hta, htb⟩ := twin_two (a := a) (b := b) htw6
  have AT6 := Lib.hid hat6.at
  have HU := Lib.hid hu
  have TA := Lib.hid hta
  have TB := Lib.hid htb
  have O6 := Lib.hid hok6
  have BW := Lib.hid (PP.out.2.2.1.trans (hI.mono PP.out.2.2.1.size))
  clear hat6 htw6 hok6 hcl6 hpn6 hu hta htb hI
  go_wp2_with fail
  refine (doT_any j h2 hj h10 S σ n hn w4 (SB.out.below BW.out) a' b' ⟨4, sy, 0, q, d, us⟩ rfl SY.out HU.out O6.out AT6.out (by rw [Ts.twin_size _ _ TA.out.2.2.2]; omega) (by rw [Ts.twin_size _ _ TB.out.2.2.2]; omega)).mono ?_
  rintro e w5 ⟨⟨p, rfl⟩, hI⟩
  rw [show doV σ n a' b' j = r from (doV_move SB.out.ends n TA.out TB.out j hj h10).trans RE.out.symm]
  replace BW := Lib.hid (BW.out.trans (hI.mono BW.out.size))
  clear hI
  go_wp2
  go_ret2
  exact ⟨rfl, BW.out⟩

/-- names that lie in a row -/
def NamesAt (NB : Nat) (js : List Nat) (w : World) : Prop := ∀ (i : Nat) (h : i < js.length), w.cell? ⟨NB, i, none⟩ = some (.string (doSym js[i]))
theorem NamesAt.below {NB : Nat} {js : List Nat} {w w' : World} (h : NamesAt NB js w) (hB : Below w.heap.size w w') : NamesAt NB js w' := fun i hi =>
  (hB.cell (p := ⟨NB, i, none⟩) (World.block_lt_of_cell? _ _ (h i hi))).trans (h i hi)

set_option maxRecDepth 100000 in
set_option maxHeartbeats 4000000 in
theorem one_any (js : List Nat) (hjs : ∀ j ∈ js, 2 ≤ j ∧ j < 17 ∧ j ≠ 10) (hjl : js.length ≤ 10) (S : Nat) (σ : Sb) (n : Nat) (hn : n ≤ 900000) (w : World) (hS : SubAt S σ n w) (NB : Nat) (hNM : NamesAt NB js w) (a b : Nd) (hoka : a.ok) (hokb : b.ok) (hata : Ts.At w a.p a.kids) (hatb : Ts.At w b.p b.kids) (ha : a.kids.size ≤ 2000) (hb : b.kids.size ≤ 2000) :
    Calls Tryz.prog 17 #[.pointer (some ⟨S, 0, none⟩), .slice (some ⟨NB, 0, none⟩) js.length js.length, .agg #[.int .u8 a.k, .string a.s, .int .i64 a.n, .slice a.p a.kids.len a.c], .agg #[.int .u8 b.k, .string b.s, .int .i64 b.n, .slice b.p b.kids.len b.c]] w fun e w' => e = .returned (.bool (oneF (js.map (doV σ n a b)) 0)) ∧ Below w.heap.size w w' := by
  obtain ⟨W0, hW0, hB0, hA0, hB1⟩ := box2N w a b 25
  have XA := Lib.hid hA0
  have XB := Lib.hid hB1
  have BW := Lib.hid hB0
  have SB := Lib.hid (hS.below hB0)
  have NM := Lib.hid (hNM.below hB0)
  have OKa := Lib.hid hoka
  have OKb := Lib.hid hokb
  have ATa := Lib.hid (hata.below hB0)
  have ATb := Lib.hid (hatb.below hB0)
  have JS := Lib.hid hjs
  have ZW := Lib.hid hW0
  clear hS hNM hoka hokb hata hatb hjs hW0 hB0 hA0 hB1
  go_enter Tryz.func17, Tryz.ntmps17
  go_wp2
  rw [← ZW.out]
  go_loopw [9, 10] (fun s9 s10 wr => ∃ i m : Nat, i ≤ js.length ∧ s10 = .int .i64 i ∧ s9 = .int .i64 m ∧ m ≤ i ∧ Hid (oneF ((js.drop i).map (doV σ n a b)) m = oneF (js.map (doV σ n a b)) 0) ∧ Hid (Below W0.heap.size W0 wr)) (fun _ s10 _ => js.length - (intOf s10).toNat)
  case atStart => exact ⟨0, 0, by omega, rfl, rfl, Nat.le_refl _, Lib.hid rfl, Lib.hid (Below.refl _ _)⟩
  case round =>
    obtain ⟨i, m, hi, rfl, rfl, hmi, ON, BB⟩ := hrel
    replace XA := Lib.hid (XA.out.below BB.out)
    replace XB := Lib.hid (XB.out.below BB.out)
    replace SB := Lib.hid (SB.out.below BB.out)
    replace NM := Lib.hid (NM.out.below BB.out)
    replace ATa := Lib.hid (ATa.out.below BB.out)
    replace ATb := Lib.hid (ATb.out.below BB.out)
    replace BW := Lib.hid (BW.out.trans (BB.out.mono BW.out.size))
    by_cases hi6 : i < js.length
    · obtain ⟨jj, hjj⟩ : ∃ jj, js[i] = jj := ⟨_, rfl⟩
      have JJ := Lib.hid (by have := JS.out js[i] (List.getElem_mem hi6); rw [hjj] at this; exact this : 2 ≤ jj ∧ jj < 17 ∧ jj ≠ 10)
      obtain ⟨r, hr⟩ : ∃ r, r = doV σ n a b jj := ⟨_, rfl⟩
      have RE := Lib.hid hr
      have DR : Hid ((js.drop i).map (doV σ n a b) = doV σ n a b jj :: (js.drop (i + 1)).map (doV σ n a b)) := Lib.hid (by rw [List.drop_eq_getElem_cons hi6, List.map_cons, hjj])
      clear hr
      go_upto_region 5 with fail
      refine region_by_facts (fun W_ => Below wr.heap.size wr W_) [fun u _ => u = .pointer (some ⟨S, 0, none⟩), fun u _ => u = .slice (some ⟨NB, 0, none⟩) js.length js.length, fun u _ => u = .int .i64 i, fun u _ => u = .pointer (some ⟨NB, i, none⟩), fun u _ => u = .string (doSym jj), fun u _ => u = .agg #[.int .u8 a.k, .string a.s, .int .i64 a.n, .slice a.p a.kids.len a.c], fun u _ => u = .agg #[.int .u8 b.k, .string b.s, .int .i64 b.n, .slice b.p b.kids.len b.c], fun u _ => u = .tuple #[.bool r.1, .int .i64 r.2], fun u _ => u = .tuple #[.bool r.1, .int .i64 r.2], fun u _ => u = .bool r.1, fun u _ => u = .int .i64 r.2, fun u _ => u = .bool r.1, fun u _ => u = .int .i64 r.2]
        ⟨.eq _, .eq _, .eq _, .eq _, .eq _, .eq _, .eq _, .eq _, .eq _, .eq _, .eq _, .eq _, .eq _, trivial⟩ (by kernel_rfl) (by kernel_rfl) (by kernel_rfl) ?h0 ?steps ?done
      case h0 => exact (Below.refl _ _).drew
      case steps =>
        refine ⟨?_, ?_, ?_, ?_, ?_, ?_, ?_, ?_, ?_, ?_, ?_, ?_, ?_, trivial⟩
        · intro g_ W_ hI hd K hK
          simp only [frameOf, Act.put, List.setIfInBounds_toArray, List.set_cons_zero, List.set_cons_succ]
          go_simp
          refine hK.out (.pointer (some ⟨S, 0, none⟩)) _ W_ ?_ hI (Below.refl _ _) rfl
          simp only [frameOf, Act.put, List.setIfInBounds_toArray, List.set_cons_zero, List.set_cons_succ, Nat.zero_add, Nat.reduceAdd]
        · intro g_ W_ hI hd K hK
          simp only [frameOf, Act.put, List.setIfInBounds_toArray, List.set_cons_zero, List.set_cons_succ]
          go_simp
          refine hK.out (.slice (some ⟨NB, 0, none⟩) js.length js.length) _ W_ ?_ hI (Below.refl _ _) rfl
          simp only [frameOf, Act.put, List.setIfInBounds_toArray, List.set_cons_zero, List.set_cons_succ, Nat.zero_add, Nat.reduceAdd]
        · intro g_ W_ hI hd K hK
          simp only [frameOf, Act.put, List.setIfInBounds_toArray, List.set_cons_zero, List.set_cons_succ]
          go_simp
          refine hK.out (.int .i64 i) _ W_ ?_ hI (Below.refl _ _) rfl
          simp only [frameOf, Act.put, List.setIfInBounds_toArray, List.set_cons_zero, List.set_cons_succ, Nat.zero_add, Nat.reduceAdd]
        · intro g_ W_ hI hd K hK
          simp only [frameOf, Act.put, List.setIfInBounds_toArray, List.set_cons_zero, List.set_cons_succ]
          have h1 : g_ 1 = .slice (some ⟨NB, 0, none⟩) js.length js.length := hd 1 (by kernel_rfl)
          have h2 : g_ 2 = .int .i64 i := hd 2 (by kernel_rfl)
          rw [h1, h2]
          go_simp
          refine hK.out (.pointer (some ⟨NB, i, none⟩)) _ W_ ?_ hI (Below.refl _ _) rfl
          simp only [frameOf, Act.put, List.setIfInBounds_toArray, List.set_cons_zero, List.set_cons_succ, Nat.zero_add, Nat.reduceAdd, h1, h2]
        · intro g_ W_ hI hd K hK
          simp only [frameOf, Act.put, List.setIfInBounds_toArray, List.set_cons_zero, List.set_cons_succ]
          have h3 : g_ 3 = .pointer (some ⟨NB, i, none⟩) := hd 3 (by kernel_rfl)
          rw [h3]
          have cn := (NM.out.below hI) i hi6
          rw [hjj] at cn
          go_simp
          refine hK.out (.string (doSym jj)) _ W_ ?_ hI (Below.refl _ _) rfl
          simp only [frameOf, Act.put, List.setIfInBounds_toArray, List.set_cons_zero, List.set_cons_succ, Nat.zero_add, Nat.reduceAdd, h3]
        · intro g_ W_ hI hd K hK
          simp only [frameOf, Act.put, List.setIfInBounds_toArray, List.set_cons_zero, List.set_cons_succ]
          have e_ := XA.out.below hI
          have c0 := e_.c0
          have c1 := e_.c1
          have c2 := e_.c2
          have c3 := e_.c3
          go_simp
          refine hK.out (.agg #[.int .u8 a.k, .string a.s, .int .i64 a.n, .slice a.p a.kids.len a.c]) _ W_ ?_ hI (Below.refl _ _) rfl
          simp only [frameOf, Act.put, List.setIfInBounds_toArray, List.set_cons_zero, List.set_cons_succ, Nat.zero_add, Nat.reduceAdd]
        · intro g_ W_ hI hd K hK
          simp only [frameOf, Act.put, List.setIfInBounds_toArray, List.set_cons_zero, List.set_cons_succ]
          have e_ := XB.out.below hI
          have c0 := e_.c0
          have c1 := e_.c1
          have c2 := e_.c2
          have c3 := e_.c3
          go_simp
          refine hK.out (.agg #[.int .u8 b.k, .string b.s, .int .i64 b.n, .slice b.p b.kids.len b.c]) _ W_ ?_ hI (Below.refl _ _) rfl
          simp only [frameOf, Act.put, List.setIfInBounds_toArray, List.set_cons_zero, List.set_cons_succ, Nat.zero_add, Nat.reduceAdd]
        · intro g_ W_ hI hd K hK
          simp only [frameOf, Act.put, List.setIfInBounds_toArray, List.set_cons_zero, List.set_cons_succ]
          have h0 : g_ 0 = .pointer (some ⟨S, 0, none⟩) := hd 0 (by kernel_rfl)
          have h4 : g_ 4 = .string (doSym jj) := hd 4 (by kernel_rfl)
          have h5 : g_ 5 = .agg #[.int .u8 a.k, .string a.s, .int .i64 a.n, .slice a.p a.kids.len a.c] := hd 5 (by kernel_rfl)
          have h6 : g_ 6 = .agg #[.int .u8 b.k, .string b.s, .int .i64 b.n, .slice b.p b.kids.len b.c] := hd 6 (by kernel_rfl)
          rw [h0, h4, h5, h6]
          go_simp
          refine (is_any jj JJ.out.1 JJ.out.2.1 JJ.out.2.2 S σ n hn W_ (SB.out.below hI) a b OKa.out OKb.out (ATa.out.below hI) (ATb.out.below hI) ha hb).mono ?_
          rintro e w' ⟨rfl, hB⟩
          rw [show doV σ n a b jj = r from RE.out.symm]
          refine hK.out (.tuple #[.bool r.1, .int .i64 r.2]) _ _ ?_ (hI.trans (hB.mono hI.size)) hB rfl
          simp only [frameOf, Act.put, List.setIfInBounds_toArray, List.set_cons_zero, List.set_cons_succ, Nat.zero_add, Nat.reduceAdd, h0, h4, h5, h6]
        · intro g_ W_ hI hd K hK
          simp only [frameOf, Act.put, List.setIfInBounds_toArray, List.set_cons_zero, List.set_cons_succ]
          have h7 : g_ 7 = .tuple #[.bool r.1, .int .i64 r.2] := hd 7 (by kernel_rfl)
          rw [h7]
          go_simp
          refine hK.out (.tuple #[.bool r.1, .int .i64 r.2]) _ W_ ?_ hI (Below.refl _ _) rfl
          simp only [frameOf, Act.put, List.setIfInBounds_toArray, List.set_cons_zero, List.set_cons_succ, Nat.zero_add, Nat.reduceAdd, h7]
        · intro g_ W_ hI hd K hK
          simp only [frameOf, Act.put, List.setIfInBounds_toArray, List.set_cons_zero, List.set_cons_succ]
          have h8 : g_ 8 = .tuple #[.bool r.1, .int .i64 r.2] := hd 8 (by kernel_rfl)
          rw [h8]
          go_simp
          refine hK.out (.bool r.1) _ W_ ?_ hI (Below.refl _ _) rfl
          simp only [frameOf, Act.put, List.setIfInBounds_toArray, List.set_cons_zero, List.set_cons_succ, Nat.zero_add, Nat.reduceAdd, h8]
        · intro g_ W_ hI hd K hK
          simp only [frameOf, Act.put, List.setIfInBounds_toArray, List.set_cons_zero, List.set_cons_succ]
          have h8 : g_ 8 = .tuple #[.bool r.1, .int .i64 r.2] := hd 8 (by kernel_rfl)
          rw [h8]
          go_simp
          refine hK.out (.int .i64 r.2) _ W_ ?_ hI (Below.refl _ _) rfl
          simp only [frameOf, Act.put, List.setIfInBounds_toArray, List.set_cons_zero, List.set_cons_succ, Nat.zero_add, Nat.reduceAdd, h8]
        · intro g_ W_ hI hd K hK
          simp only [frameOf, Act.put, List.setIfInBounds_toArray, List.set_cons_zero, List.set_cons_succ]
          have h9 : g_ 9 = .bool r.1 := hd 9 (by kernel_rfl)
          rw [h9]
          go_simp
          refine hK.out (.bool r.1) _ W_ ?_ hI (Below.refl _ _) rfl
          simp only [frameOf, Act.put, List.setIfInBounds_toArray, List.set_cons_zero, List.set_cons_succ, Nat.zero_add, Nat.reduceAdd, h9]
        · intro g_ W_ hI hd K hK
          simp only [frameOf, Act.put, List.setIfInBounds_toArray, List.set_cons_zero, List.set_cons_succ]
          have h10 : g_ 10 = .int .i64 r.2 := hd 10 (by kernel_rfl)
          rw [h10]
          go_simp
          refine hK.out (.int .i64 r.2) _ W_ ?_ hI (Below.refl _ _) rfl
          simp only [frameOf, Act.put, List.setIfInBounds_toArray, List.set_cons_zero, List.set_cons_succ, Nat.zero_add, Nat.reduceAdd, h10]
      case done =>
        intro f_ W_ hI hd
        have ha_ : f_ 11 = .bool r.1 := hd 11 (by decide)
        have hb_ : f_ 12 = .int .i64 r.2 := hd 12 (by decide)
        simp only [frameOf, Act.put, List.setIfInBounds_toArray, List.set_cons_zero, List.set_cons_succ, Nat.zero_add, Nat.reduceAdd, ha_, hb_]
        clear hd ha_ hb_
        have B1 := Lib.hid (BB.out.trans (hI.mono BB.out.size))
        have W1 := Lib.hid (BW.out.trans (hI.mono BW.out.size))
        clear hI
        obtain ⟨v, g⟩ := r
        by_cases hg : (g != 0) = true
        · have HT : Hid (oneF (js.map (doV σ n a b)) 0 = true) := Lib.hid (by rw [← ON.out, DR.out]; unfold oneF; rw [← RE.out, if_pos hg])
          go_wp2
          go_ret
          rw [HT.out]
          exact ⟨rfl, W1.out⟩
        rw [Bool.not_eq_true] at hg
        cases v with
        | false =>
          have ON' : Hid (oneF ((js.drop (i + 1)).map (doV σ n a b)) m = oneF (js.map (doV σ n a b)) 0) := Lib.hid (by rw [← ON.out, DR.out, show ∀ (r : Bool × Int) (l : List (Bool × Int)) (k : Nat), oneF (r :: l) k = if (r.2 != 0) = true then true else oneF l (if r.1 = true then k + 1 else k) from fun _ _ _ => rfl, ← RE.out]; simp [hg])
          go_wp2
          go_roundw
          case rel => exact ⟨i + 1, m, by omega, by go_num, rfl, by omega, ON', B1⟩
          case measure => simp [intOf]; omega
        | true =>
          have ON' : Hid (oneF ((js.drop (i + 1)).map (doV σ n a b)) (m + 1) = oneF (js.map (doV σ n a b)) 0) := Lib.hid (by rw [← ON.out, DR.out, show ∀ (r : Bool × Int) (l : List (Bool × Int)) (k : Nat), oneF (r :: l) k = if (r.2 != 0) = true then true else oneF l (if r.1 = true then k + 1 else k) from fun _ _ _ => rfl, ← RE.out]; simp [hg])
          go_wp2
          go_roundw
          case rel => exact ⟨i + 1, m + 1, by omega, by go_num, by go_num, by omega, ON', B1⟩
          case measure => simp [intOf]; omega
    · have HM : Hid ((m == 1) = oneF (js.map (doV σ n a b)) 0) := Lib.hid (by rw [← ON.out, List.drop_of_length_le (by omega)]; rfl)
      have hm10 : m ≤ 10 := by omega
      have em : ((m : Int) == 1) = (m == 1) := by
        rw [Bool.eq_iff_iff, beq_iff_eq, beq_iff_eq]
        omega
      have EM := Lib.hid em
      clear em
      go_wp2
      go_ret
      exact ⟨by rw [← HM.out, ← EM.out]; rfl, BW.out⟩

end Go.Proofs.YtnmhnaanpjlniaaGreat
/-
  What a caller may hand in, opened: a term, a list of terms, a text, a number.
-/
namespace Go.Proofs.YtnmhnaanpjlniaaGreat
open Go.ChangeShapes Go.WideShapes Go.ChangeAt Go.RowKit

theorem own : ownKnob Tryz.prog.godebug = none := by kernel_rfl
theorem laidOut : laidOutB Tryz.prog = true := by kernel_rfl

section
variable {H : Type} {enc : TypeId × Value → H}

theorem weights_le {l : List Nat} (h : l.all (· ≤ reachBytes) = true) : ∀ m ∈ l, m ≤ reachBytes := by simpa using h

theorem open_term {w : World} {v : Value} {d : DataW H} {p : List MemPlace} (hv : ∃ cs, v = .agg cs ∧ cs.size = Tryz.prog.cellsOf 25) (h : DataW.Trod enc Tryz.prog w 0 (fun _ => true) true 25 v d p)
    (hw : ∀ m ∈ d.weights Tryz.prog 25, m ≤ reachBytes) :
    ∃ (k : Int) (s : ByteArray) (n : Int) (p : Option Addr) (c : Nat) (ts : Ts), v = tv k s n p ts.len c ∧ Ts.At w p ts ∧ Ts.ok (.cons k s n p c ts .nil) := by
  obtain ⟨cs, rfl, hcs⟩ := hv
  obtain ⟨fuel, hf⟩ := h
  obtain ⟨k, s, n, v, y, m, _, hl, hk, hs, hn, hr, hwr⟩ := open_term_cells hf hw
  obtain ⟨p, ts, c, rfl, hat, hok, hc, hcap, hp⟩ := open_terms m hr hwr
  refine ⟨k, s, n, p, c, ts, ?_, hat, hk, hs, hn, ⟨hc, by omega⟩, hp, hok, trivial⟩
  have : cs.toList = [.int .u8 k, .string s, .int .i64 n, .slice p ts.len c] := by simpa [Value.cells] using hl
  unfold tv
  obtain ⟨l⟩ := cs
  simp only at this
  rw [this]



end
end Go.Proofs.YtnmhnaanpjlniaaGreat
/-
  What a caller may hand in, opened: a list of bindings.
-/
namespace Go.Proofs.YtnmhnaanpjlniaaGreat
open Go.ChangeShapes Go.WideShapes Go.ChangeAt Go.RowKit

section
variable {H : Type} {enc : TypeId × Value → H} {base : Nat} {hd : Bool}

theorem cellsBind : Tryz.prog.cellsOf 56 = 5 := by kernel_rfl
theorem bytesBind : Tryz.prog.bytesOf 56 = 64 := by kernel_rfl

set_option maxRecDepth 4000 in
theorem open_bind_cells {w : World} {fuel : Nat} {cs : List Value} {x : DataW H × List MemPlace} (h : DataW.trod enc Tryz.prog w base (fun _ => true) hd fuel 56 cs = some x)
    (hw : ∀ m ∈ x.1.weights Tryz.prog 56, m ≤ reachBytes) :
    ∃ (v : Int) (y : Nd), cs = [.int .i64 v, .int .u8 y.k, .string y.s, .int .i64 y.n, .slice y.p y.kids.len y.c] ∧ (-9223372036854775808 ≤ v ∧ v ≤ 9223372036854775807) ∧ Ts.At w y.p y.kids ∧ y.ok := by
  obtain ⟨xs, m, rfl, rfl, hl, hlen, hf⟩ := DataW.trod_struct Tryz.underlying56 h
  rw [cellsBind] at hl
  match cs, hl with
  | [c0, c1, c2, c3, c4], _ =>
    match xs, hlen with
    | [x0, x1], _ =>
      have f0 : DataW.trod enc Tryz.prog w base (fun _ => true) hd m 2 [c0] = some x0 := by have := hf 0 _ rfl; simpa [cellsI64] using this
      have f1 : DataW.trod enc Tryz.prog w base (fun _ => true) hd m 25 [c1, c2, c3, c4] = some x1 := by have := hf 1 _ rfl; simpa [cellsI64, cellsTerm] using this
      obtain ⟨n, e0, _, w0⟩ := DataW.trod_int Tryz.underlying2 f0
      simp only [List.cons.injEq, and_true] at e0
      subst e0
      have hin : ∀ q, q ∈ DataW.weightsEach Tryz.prog [2, 25] [x0.1, x1.1] → q ≤ reachBytes := fun q hq => by
        refine hw q ?_
        simp only [List.map_cons, List.map_nil, DataW.weights, Tryz.underlying56]
        exact hq
      obtain ⟨k, s, m', v', y', f, hf, e, hk, hs, hm', hkid, hkw⟩ := open_term_cells f1 (fun q hq => hin q (DataW.weights_mem_each (j := 1) rfl rfl q hq))
      obtain ⟨p, ks, kc, rfl, hat, hok, hkl, hkc, hpn⟩ := open_terms f hkid hkw
      exact ⟨n, ⟨k, s, m', p, kc, ks⟩, by rw [e], i64_of_wf w0, hat, hk, hs, hm', ⟨hkl, by simp only; omega⟩, hpn, hok, trivial⟩

set_option maxRecDepth 100000 in
/-- whatever reads as a list of bindings lies as one -/
theorem open_binds {w : World} {fuel : Nat} {v : Value} {x : DataW H × List MemPlace} (h : DataW.trod enc Tryz.prog w base (fun _ => true) hd fuel 22 [v] = some x)
    (hw : ∀ m ∈ x.1.weights Tryz.prog 22, m ≤ reachBytes) :
    ∃ (p : Option Addr) (l : List (Int × Nd)) (cap : Nat), v = .slice p l.length cap ∧ BsAt w p l ∧ (bsTs l).ok ∧ l.length ≤ 9223372036854775807 ∧ ∀ e ∈ l, -9223372036854775808 ≤ e.1 ∧ e.1 ≤ 9223372036854775807 := by
  rcases DataW.trod_slice Tryz.underlying22 h with ⟨hcs, rfl⟩ | ⟨a, len, cap, elems, rest, n, rfl, hcs, rfl, hb, hl, hm, hlen, hel, hsp, _⟩
  · simp only [List.cons.injEq, and_true] at hcs
    subst hcs
    exact ⟨none, [], 0, rfl, ⟨0, 0, .inl rfl, trivial⟩, trivial, by simp, fun e he => by cases he⟩
  · simp only [List.cons.injEq, and_true] at hcs
    subst hcs
    have hrest := (hsp rfl).1
    have hW : ∀ q, q ∈ ((elems.map (·.1)).length + (rest.map (·.1)).length) * 64 :: (DataW.weightsAll Tryz.prog 56 (elems.map (·.1)) ++ DataW.weightsAll Tryz.prog 56 (rest.map (·.1))) → q ≤ reachBytes := fun q hq => by
      refine hw q ?_
      simp only [DataW.weights, Tryz.underlying22, bytesBind]
      exact hq
    have hcap : cap * 64 ≤ 140737488351232 := by
      have h1 := hW _ (List.mem_cons_self ..)
      simp only [List.length_map, hlen, hrest] at h1
      rw [reach_eq] at h1
      rw [show len + (cap - len) = cap from by omega] at h1
      exact h1
    have hspot0 : 0 < len → a.spot = none := fun h0 => by
      have hi := hel 0 h0
      have hlt : 0 < elems.length := by omega
      rw [List.getElem?_eq_getElem hlt] at hi
      obtain ⟨cs, hcs, _⟩ := Option.bind_eq_some_iff.1 hi
      rw [cellsBind] at hcs
      obtain ⟨_, hcl, hcell⟩ := World.cells?_some hcs
      have h1 := hcell 0 (by omega)
      rw [List.getElem?_eq_getElem (by omega)] at h1
      have h2 := World.cell?_spot h1
      simpa [Addr.add] using h2
    have build : ∀ j, j ≤ len → ∃ l : List (Int × Nd), l.length = j ∧ BsLies w a.block (a.off + 5 * (len - j)) l ∧ (bsTs l).ok ∧ (l = [] ∨ a.spot = none) ∧ ∀ e ∈ l, -9223372036854775808 ≤ e.1 ∧ e.1 ≤ 9223372036854775807 := by
      intro j
      induction j with
      | zero => exact fun _ => ⟨[], rfl, trivial, trivial, .inl rfl, fun e he => by cases he⟩
      | succ j ihj =>
        intro hj
        obtain ⟨l, h1, h2, h3, _, h5⟩ := ihj (by omega)
        have hi := hel (len - (j + 1)) (by omega)
        have hget : ∃ y, elems[len - (j + 1)]? = some y ∧ y ∈ elems := by
          have hlt : len - (j + 1) < elems.length := by omega
          exact ⟨elems[len - (j + 1)], List.getElem?_eq_getElem hlt, List.getElem_mem hlt⟩
        obtain ⟨y, hy, hmem⟩ := hget
        rw [hy] at hi
        obtain ⟨cs, hcs, hread⟩ := Option.bind_eq_some_iff.1 hi
        rw [cellsBind] at hcs
        obtain ⟨_, hcl, hcell⟩ := World.cells?_some hcs
        obtain ⟨v, z, rfl, hv, hat, hok⟩ := open_bind_cells hread (fun q hq => hW q (List.mem_cons_of_mem _ (List.mem_append_left _ (weights_all (List.mem_map.2 ⟨y, hmem, rfl⟩) q hq))))
        have hspot := hspot0 (by omega)
        obtain ⟨b, off, spot⟩ := a
        simp only at hspot
        subst hspot
        have c0 := hcell 0 (by omega)
        have c1 := hcell 1 (by omega)
        have c2 := hcell 2 (by omega)
        have c3 := hcell 3 (by omega)
        have c4 := hcell 4 (by omega)
        simp only [add_plain, List.getElem?_cons_zero, List.getElem?_cons_succ] at c0 c1 c2 c3 c4
        have eo : off + (len - (j + 1)) * 5 = off + 5 * (len - (j + 1)) := by omega
        rw [eo] at c0 c1 c2 c3 c4
        refine ⟨(v, z) :: l, by simp [h1], ⟨c0, c1, c2, c3, c4, hat, ?_⟩, ⟨hok.1, hok.2.1, hok.2.2.1, hok.2.2.2.1, hok.2.2.2.2.1, hok.2.2.2.2.2.1, h3⟩, .inr rfl, fun e he => ?_⟩
        · rw [show off + 5 * (len - (j + 1)) + 5 = off + 5 * (len - j) from by omega]
          exact h2
        · rcases List.mem_cons.1 he with rfl | he
          · exact hv
          · exact h5 e he
    obtain ⟨l, h1, h2, h3, h4, h5⟩ := build len (Nat.le_refl _)
    refine ⟨some a, l, cap, by rw [h1], ?_, h3, by omega, h5⟩
    rcases h4 with rfl | h4
    · exact ⟨0, 0, .inl rfl, trivial⟩
    · obtain ⟨b, off, spot⟩ := a
      simp only at h4
      subst h4
      rw [show off + 5 * (len - len) = off from by omega] at h2
      exact ⟨b, off, .inr rfl, h2⟩

theorem open_bs {w : World} {v : Value} {d : DataW H} {p : List MemPlace} (hv : ∃ a len cap, v = .slice a len cap) (h : DataW.Trod enc Tryz.prog w 0 (fun _ => true) true 22 v d p)
    (hw : ∀ m ∈ d.weights Tryz.prog 22, m ≤ reachBytes) :
    ∃ (p : Option Addr) (l : List (Int × Nd)) (c : Nat), v = .slice p l.length c ∧ BsAt w p l ∧ (bsTs l).ok ∧ l.length ≤ 9223372036854775807 ∧ ∀ e ∈ l, -9223372036854775808 ≤ e.1 ∧ e.1 ≤ 9223372036854775807 := by
  obtain ⟨a, len, cap, rfl⟩ := hv
  obtain ⟨fuel, hf⟩ := h
  exact open_binds (by simpa [Value.cells] using hf) hw
end

end Go.Proofs.YtnmhnaanpjlniaaGreat
/-
  The law BuiltinGround, walked. (Written by gen_fn.py.)
-/
namespace Go.Proofs.YtnmhnaanpjlniaaGreat
open Go.RowKit





end Go.Proofs.YtnmhnaanpjlniaaGreat
