import Derived.Test.YtnmhnaanpjlniaaGreatXc
import Derived.Test.YtnmhnaanpjlniaaGreatTs
import Derived.Test.YtnmhnaanpjlniaaGreatTl
import Derived.BigQuiet
import Derived.Test.YtnmhnaanpjlniaaGreatTf
import Derived.Deep.CutBlock
import Derived.Test.YtnmhnaanpjlniaaGreatTw
/-
  Layer 2: plain facts of the order: it turns round, it goes on, it is zero just where two are alike, and it looks at no memory.
-/
namespace Go.Proofs.YtnmhnaanpjlniaaGreat
open Go.RowKit

theorem ci_neg (x y : Int) : ci y x = -(ci x y) := by
  unfold ci
  split <;> split <;> first | omega | (split <;> omega)

theorem ci_self (x : Int) : ci x x = 0 := by
  unfold ci
  rw [if_neg (by omega), if_neg (by omega)]

theorem ci_range (x y : Int) : -1 ≤ ci x y ∧ ci x y ≤ 1 := by
  unfold ci
  split
  · omega
  · split <;> omega

theorem cB_cons (a b : UInt8) (l m : List UInt8) : Lib.compareBytes (a :: l) (b :: m) = or0 (ci a.toNat b.toNat) (Lib.compareBytes l m) := by
  simp only [Lib.compareBytes]
  have h1 : (a < b) ↔ (a.toNat < b.toNat) := UInt8.lt_iff_toNat_lt
  have h2 : (b < a) ↔ (b.toNat < a.toNat) := UInt8.lt_iff_toNat_lt
  unfold or0 ci
  by_cases ha : a.toNat < b.toNat
  · rw [if_pos (h1.2 ha), if_pos (show ((a.toNat : Nat) : Int) < (b.toNat : Nat) by omega), if_neg (by omega)]
  · rw [if_neg (fun h => ha (h1.1 h)), if_neg (show ¬ ((a.toNat : Nat) : Int) < (b.toNat : Nat) by omega)]
    by_cases hb : b.toNat < a.toNat
    · rw [if_pos (h2.2 hb), if_pos (show ((b.toNat : Nat) : Int) < (a.toNat : Nat) by omega), if_neg (by omega)]
    · rw [if_neg (fun h => hb (h2.1 h)), if_neg (show ¬ ((b.toNat : Nat) : Int) < (a.toNat : Nat) by omega), if_pos rfl]

theorem or0_neg {a b a' b' : Int} (h : a' = -a) (h' : b' = -b) : or0 a' b' = -(or0 a b) := by
  unfold or0
  split <;> split <;> omega

theorem cB_neg : ∀ (l m : List UInt8), Lib.compareBytes m l = -(Lib.compareBytes l m)
  | [], [] => rfl
  | [], _ :: _ => rfl
  | _ :: _, [] => rfl
  | a :: l, b :: m => by rw [cB_cons, cB_cons]; exact or0_neg (ci_neg _ _) (cB_neg l m)

theorem cB_range : ∀ (l m : List UInt8), -1 ≤ Lib.compareBytes l m ∧ Lib.compareBytes l m ≤ 1
  | [], [] => by decide
  | [], _ :: _ => by simp [Lib.compareBytes]
  | _ :: _, [] => by simp [Lib.compareBytes]
  | a :: l, b :: m => by
    rw [cB_cons]
    have h1 := ci_range a.toNat b.toNat
    have h2 := cB_range l m
    unfold or0
    split <;> omega

theorem cB_zero : ∀ (l m : List UInt8), Lib.compareBytes l m = 0 ↔ l = m
  | [], [] => by simp [Lib.compareBytes]
  | [], _ :: _ => by simp [Lib.compareBytes]
  | _ :: _, [] => by simp [Lib.compareBytes]
  | a :: l, b :: m => by
    rw [cB_cons, List.cons.injEq, ← cB_zero l m]
    unfold or0
    constructor
    · intro h
      split at h
      · rename_i h0
        have := ci_zero h0
        exact ⟨UInt8.toNat_inj.1 this, h⟩
      · omega
    · rintro ⟨rfl, h⟩
      rw [ci_self, if_pos rfl]
      exact h

theorem cb_zero (s t : ByteArray) : cb s t = 0 ↔ (s.toList == t.toList) = true := by
  unfold cb
  rw [cB_zero, beq_iff_eq, ByteArray.toList_eq, ByteArray.toList_eq]


theorem ci_zero_iff (x y : Int) : ci x y = 0 ↔ (x == y) = true := by
  rw [beq_iff_eq]
  unfold ci
  constructor
  · intro h
    split at h
    · omega
    · split at h <;> omega
  · rintro rfl
    rw [if_neg (by omega), if_neg (by omega)]

theorem or0_zero (a b : Int) : or0 a b = 0 ↔ a = 0 ∧ b = 0 := by
  unfold or0
  split <;> omega

theorem or0_range {a b : Int} (h : -1 ≤ a ∧ a ≤ 1) (h' : -1 ≤ b ∧ b ≤ 1) : -1 ≤ or0 a b ∧ or0 a b ≤ 1 := by
  unfold or0
  split <;> omega

theorem cmpT_neg {k k' : Int} {s s' : ByteArray} {n n' : Int} {ts us : Ts} {r r' : Int} (h : r' = -r) : cmpT k' k s' s n' n us ts r' = -(cmpT k k' s s' n n' ts us r) :=
  or0_neg (ci_neg _ _) (or0_neg (ci_neg _ _) (or0_neg (ci_neg _ _) (or0_neg (cB_neg _ _) h)))

theorem cmpL_neg : ∀ (ts us : Ts), cmpL us ts = -(cmpL ts us)
  | .nil, .nil => rfl
  | .nil, .cons .. => rfl
  | .cons .., .nil => rfl
  | .cons k s n p c ks r, .cons k' s' n' p' c' ks' r' => by
    simp only [cmpL]
    exact or0_neg (cmpT_neg (cmpL_neg ks ks')) (cmpL_neg r r')

theorem cmpT_range {k k' : Int} {s s' : ByteArray} {n n' : Int} {ts us : Ts} {r : Int} (h : -1 ≤ r ∧ r ≤ 1) : -1 ≤ cmpT k k' s s' n n' ts us r ∧ cmpT k k' s s' n n' ts us r ≤ 1 :=
  or0_range (ci_range _ _) (or0_range (ci_range _ _) (or0_range (ci_range _ _) (or0_range (cB_range _ _) h)))

theorem cmpL_range : ∀ (ts us : Ts), -1 ≤ cmpL ts us ∧ cmpL ts us ≤ 1
  | .nil, .nil => by decide
  | .nil, .cons .. => by simp [cmpL]
  | .cons .., .nil => by simp [cmpL]
  | .cons k s n p c ks r, .cons k' s' n' p' c' ks' r' => by
    simp only [cmpL]
    exact or0_range (cmpT_range (cmpL_range ks ks')) (cmpL_range r r')

/-- zero, just where two are alike -/
theorem cmpL_zero : ∀ (ts us : Ts), ts.len = us.len → (cmpL ts us = 0 ↔ alike ts us = true)
  | .nil, .nil, _ => by simp [cmpL, alike]
  | .nil, .cons .., h => by simp [Ts.len] at h
  | .cons .., .nil, h => by simp [Ts.len] at h
  | .cons k s n p c ks r, .cons k' s' n' p' c' ks' r', h => by
    have hr : r.len = r'.len := by simp only [Ts.len] at h; omega
    simp only [cmpL, cmpT, alike, or0_zero, ci_zero_iff, cb_zero, Bool.and_eq_true, cmpL_zero r r' hr]
    constructor
    · rintro ⟨⟨h1, h2, h3, h4, h5⟩, h6⟩
      have hl : ks.len = ks'.len := by rw [beq_iff_eq] at h3; omega
      exact ⟨h1, h4, h2, (cmpL_zero ks ks' hl).1 h5, h6⟩
    · rintro ⟨h1, h4, h2, h5, h6⟩
      have hl := alike_len _ _ h5
      exact ⟨⟨h1, h2, by rw [hl]; simp, h4, (cmpL_zero ks ks' hl).2 h5⟩, h6⟩

theorem cmpT_zero (k k' : Int) (s s' : ByteArray) (n n' : Int) (ts us : Ts) : cmpT k k' s s' n n' ts us (cmpL ts us) = 0 ↔ (headAlike k k' s s' n n' && alike ts us) = true := by
  simp only [cmpT, headAlike, or0_zero, ci_zero_iff, cb_zero, Bool.and_eq_true]
  constructor
  · rintro ⟨h1, h2, h3, h4, h5⟩
    have hl : ts.len = us.len := by rw [beq_iff_eq] at h3; omega
    exact ⟨⟨h1, h4, h2⟩, (cmpL_zero _ _ hl).1 h5⟩
  · rintro ⟨⟨h1, h4, h2⟩, h5⟩
    have hl := alike_len _ _ h5
    exact ⟨h1, h2, by rw [hl]; simp, h4, (cmpL_zero _ _ hl).2 h5⟩







theorem cmpL_twin : ∀ {t u t' u' : Ts}, Ts.twin t t' → Ts.twin u u' → cmpL t u = cmpL t' u'
  | .nil, _, .nil, _, _, _ => by simp [cmpL]
  | .cons .., .nil, .cons .., .nil, _, _ => by simp [cmpL]
  | .cons .., .cons .., .cons .., .cons .., ⟨rfl, rfl, rfl, h1, h2⟩, ⟨rfl, rfl, rfl, h3, h4⟩ => by
    simp only [cmpL, cmpT]
    rw [cmpL_twin h1 h3, cmpL_twin h2 h4, Ts.twin_len _ _ h1, Ts.twin_len _ _ h3]
  | .nil, _, .cons .., _, h, _ => h.elim
  | .cons .., _, .nil, _, h, _ => h.elim
  | .cons .., .nil, .cons .., .cons .., _, h => h.elim
  | .cons .., .cons .., .cons .., .nil, _, h => h.elim

theorem cmpT_twin {k k' : Int} {s s' : ByteArray} {n n' : Int} {t u t' u' : Ts} (h : Ts.twin t t') (h' : Ts.twin u u') : cmpT k k' s s' n n' t u (cmpL t u) = cmpT k k' s s' n n' t' u' (cmpL t' u') := by
  unfold cmpT
  rw [cmpL_twin h h', Ts.twin_len _ _ h, Ts.twin_len _ _ h']


theorem cmpT_refl (k : Int) (s : ByteArray) (n : Int) (ts : Ts) : cmpT k k s s n n ts ts (cmpL ts ts) = 0 := by
  rw [cmpT_zero, alike_refl]
  simp [headAlike]

end Go.Proofs.YtnmhnaanpjlniaaGreat
/-
  Layer 2: the document's own Compare, of good terms. (Written by gen_xl.py.)
-/
namespace Go.Proofs.YtnmhnaanpjlniaaGreat
open Go.RowKit









end Go.Proofs.YtnmhnaanpjlniaaGreat
/-
  How two terms stand as far as that is known: the program's and the document's. (Written by gen_fd.py.)
-/
namespace Go.Proofs.YtnmhnaanpjlniaaGreat
open Go.RowKit

def ordH (k k' : Int) (s s' : ByteArray) (n n' : Int) (ts us : Ts) (r : Int × Bool) : Int × Bool :=
  if ((k == 1) && (k' == 1)) = true then (0, n == n')
  else if ((k == 4) && ((k' == 4) && ((s.toList == s'.toList) && decide (ts.len = us.len)))) = true then r else (cmpT k k' s s' n n' ts us (cmpL ts us), true)

def ordL : Ts → Ts → Int × Bool
  | .cons k s n _ _ ts r, .cons k' s' n' _ _ us r' =>
    if ((ordH k k' s s' n n' ts us (ordL ts us)).1 != 0 || !(ordH k k' s s' n n' ts us (ordL ts us)).2) = true then ordH k k' s s' n n' ts us (ordL ts us) else ordL r r'
  | _, _ => (0, true)

set_option maxRecDepth 100000 in
set_option maxHeartbeats 2000000 in
theorem tord_any : ∀ (sz : Nat) (ts us : Ts), ts.size < sz → ts.size ≤ 1000000 → ∀ (k k' : Int) (s s' : ByteArray) (n n' : Int) (w : World) (p p' : Option Addr) (c c' : Nat), Ts.ok (.cons k s n p c ts .nil) → Ts.ok (.cons k' s' n' p' c' us .nil) → Ts.At w p ts → Ts.At w p' us →
    Calls Tryz.prog 19 #[.agg #[.int .u8 k, .string s, .int .i64 n, .slice p ts.len c], .agg #[.int .u8 k', .string s', .int .i64 n', .slice p' us.len c']] w fun e w' =>
      e = .returned (.tuple #[.int .i64 (ordH k k' s s' n n' ts us (ordL ts us)).1, .bool (ordH k k' s s' n n' ts us (ordL ts us)).2]) ∧ Below w.heap.size w w' := by
  intro sz
  induction sz with
  | zero => intro ts us h; omega
  | succ sz ih =>
    intro ts us hsz hbig k k' s s' n n' w p p' c c' hok hok' hat hat'
    have IH := Lib.hid ih
    clear ih
    have OK := Lib.hid hok
    have OK' := Lib.hid hok'
    have hlen : ts.len ≤ 9223372036854775807 := by have := hok.2.2.2.1; omega
    have hlen' : us.len ≤ 9223372036854775807 := by have := hok'.2.2.2.1; omega
    have hbig' := Lib.hid hbig
    clear hok hok'
    obtain ⟨W2, hW2, hsz2, hB2, hc1, hc2⟩ := box2 w #[.int .u8 k, .string s, .int .i64 n, .slice p ts.len c] #[.int .u8 k', .string s', .int .i64 n', .slice p' us.len c'] 25 25
    have a0 : W2.cell? ⟨w.heap.size, 0, none⟩ = some (.int .u8 k) := hc1 0 _ rfl
    have a1 : W2.cell? ⟨w.heap.size, 1, none⟩ = some (.string s) := hc1 1 _ rfl
    have a2 : W2.cell? ⟨w.heap.size, 2, none⟩ = some (.int .i64 n) := hc1 2 _ rfl
    have a3 : W2.cell? ⟨w.heap.size, 3, none⟩ = some (.slice p ts.len c) := hc1 3 _ rfl
    have b0 : W2.cell? ⟨w.heap.size + 1, 0, none⟩ = some (.int .u8 k') := hc2 0 _ rfl
    have b1 : W2.cell? ⟨w.heap.size + 1, 1, none⟩ = some (.string s') := hc2 1 _ rfl
    have b2 : W2.cell? ⟨w.heap.size + 1, 2, none⟩ = some (.int .i64 n') := hc2 2 _ rfl
    have b3 : W2.cell? ⟨w.heap.size + 1, 3, none⟩ = some (.slice p' us.len c') := hc2 3 _ rfl
    have BW := Lib.hid hB2
    have AT := Lib.hid (hat.below hB2)
    have AT' := Lib.hid (hat'.below hB2)
    have Z := Lib.hid hW2
    have HS2 := Lib.hid hsz2
    clear hB2 hc1 hc2 hW2 hat hat' hsz2
    by_cases hv : ((k == 1) && (k' == 1)) = true
    · have HO : Hid (ordH k k' s s' n n' ts us (ordL ts us) = (0, n == n')) := Lib.hid (by unfold ordH; rw [if_pos hv])
      rw [Bool.and_eq_true] at hv
      obtain ⟨hv1, hv2⟩ := hv
      rw [HO.out]
      go_enter Tryz.func19, Tryz.ntmps19
      go_upto_region 1 with fail
      rw [← Z.out]
      go_upto_region 2 with fail
      go_quiet (fail)
      go_wp2
      go_ret2
      exact ⟨rfl, below_drewN BW.out _⟩
    have NV := Lib.hid hv
    by_cases hq : ((k == 4) && ((k' == 4) && ((s.toList == s'.toList) && decide (ts.len = us.len)))) = true
    · have HO : Hid (ordH k k' s s' n n' ts us (ordL ts us) = ordL ts us) := Lib.hid (by unfold ordH; rw [if_neg NV.out, if_pos hq])
      rw [HO.out]
      simp only [Bool.and_eq_true, decide_eq_true_eq] at hq
      obtain ⟨q1, q2, q3, q4⟩ := hq
      have HL := Lib.hid q4
      have e1 : (k == 1) = false := by rw [beq_iff_eq] at q1; rw [q1]; rfl
      have e2 : (k != 4) = false := by rw [beq_iff_eq] at q1; rw [q1]; rfl
      have e3 : (k' != 4) = false := by rw [beq_iff_eq] at q2; rw [q2]; rfl
      have e4 : (k != k') = false := by rw [beq_iff_eq] at q1 q2; rw [q1, q2]; rfl
      have e5 : ((ts.len : Int) != (us.len : Int)) = false := by rw [q4]; simp
      clear q1 q2 q4 hv
      go_enter Tryz.func19, Tryz.ntmps19
      go_upto_region 1 with fail
      rw [← Z.out]
      go_wp2
      clear a0 a1 a2 b0 b1 b2 e1 e2 e3 e4 e5 q3
      go_loopw [52] (fun i wr => ∃ j : Nat, j ≤ ts.len ∧ i = .int .i64 j ∧ Hid (ordL (ts.drop j) (us.drop j) = ordL ts us) ∧ Below W2.heap.size W2 wr) (fun i _ => ts.len - (intOf i).toNat)
      case atStart => exact ⟨0, Nat.zero_le _, rfl, Lib.hid rfl, Below.refl _ _⟩
      case round =>
        rename_i wr _
        obtain ⟨j, hk, rfl, R, hB⟩ := hrel
        have B := Lib.hid hB
        obtain ⟨b, o, hp, hlies⟩ := AT.out
        obtain ⟨b', o', hp', hlies'⟩ := AT'.out
        have a3' := (hB.cell (p := ⟨w.heap.size, 3, none⟩) (by have := HS2.out; simp only; omega)).trans a3
        have b3' := (hB.cell (p := ⟨w.heap.size + 1, 3, none⟩) (by have := HS2.out; simp only; omega)).trans b3
        by_cases hlt : j < ts.len
        · have hlt' : j < us.len := by have := HL.out; omega
          obtain ⟨kk, s1, nn, pp, cc, kids, rest, D, he, hz1, hO1⟩ := Ts.elem hlies hB OK.out.2.2.2.2.2.1 hlt
          obtain ⟨kk', s1', nn', pp', cc', kids', rest', D', he', hz1', hO2⟩ := Ts.elem hlies' hB OK'.out.2.2.2.2.2.1 hlt'
          have E := Lib.hid he
          have E' := Lib.hid he'
          have O1 := Lib.hid hO1
          have O2 := Lib.hid hO2
          have hp2 : p = some ⟨b, o, none⟩ := by
            rcases hp with rfl | rfl
            · simp [Ts.len] at hlt
            · rfl
          have hp2' : p' = some ⟨b', o', none⟩ := by
            rcases hp' with rfl | rfl
            · simp [Ts.len] at hlt'
            · rfl
          subst hp2 hp2'
          have hzA : w.heap.size < wr.heap.size := by have := HS2.out; have := hB.size; omega
          have hzB : w.heap.size + 1 < wr.heap.size := by have := HS2.out; have := hB.size; omega
          have A3 := Lib.hid a3'
          have B3' := Lib.hid b3'
          clear hB he he' hO1 hO2 hp hp' a3 b3 hlies hlies'
          obtain ⟨x, hx⟩ : ∃ x, x = ordH kk kk' s1 s1' nn nn' kids kids' (ordL kids kids') := ⟨_, rfl⟩
          have X := Lib.hid hx
          clear hx
          go_upto_region 8 with fail
          clear a3' b3'
          refine region_by_facts (fun W_ => Below wr.heap.size wr W_) [fun u _ => u = .pointer (some ⟨w.heap.size, 3, none⟩), fun u _ => u = .slice (some ⟨b, o, none⟩) ts.len c, fun u _ => u = .int .i64 j, fun u _ => u = .pointer (some ⟨b, o + j * 4, none⟩), fun u _ => u = .agg #[.int .u8 kk, .string s1, .int .i64 nn, .slice pp kids.len cc], fun u _ => u = .pointer (some ⟨w.heap.size + 1, 3, none⟩), fun u _ => u = .slice (some ⟨b', o', none⟩) us.len c', fun u _ => u = .int .i64 j, fun u _ => u = .pointer (some ⟨b', o' + j * 4, none⟩), fun u _ => u = .agg #[.int .u8 kk', .string s1', .int .i64 nn', .slice pp' kids'.len cc'], fun u _ => u = .tuple #[.int .i64 x.1, .bool x.2], fun u _ => u = .tuple #[.int .i64 x.1, .bool x.2], fun u _ => u = .int .i64 x.1, fun u _ => u = .bool x.2, fun u _ => u = .int .i64 x.1, fun u _ => u = .bool x.2]
            ⟨.eq _, .eq _, .eq _, .eq _, .eq _, .eq _, .eq _, .eq _, .eq _, .eq _, .eq _, .eq _, .eq _, .eq _, .eq _, .eq _, trivial⟩ (by kernel_rfl) (by kernel_rfl) (by kernel_rfl) ?h0 ?steps ?done
          case h0 => exact (Below.refl _ _).drew
          case steps =>
            refine ⟨?_, ?_, ?_, ?_, ?_, ?_, ?_, ?_, ?_, ?_, ?_, ?_, ?_, ?_, ?_, ?_, trivial⟩
            · intro g_ W_ hI hd K hK
              simp only [frameOf, Act.put, List.setIfInBounds_toArray, List.set_cons_zero, List.set_cons_succ]
              go_simp
              refine hK.out (.pointer (some ⟨w.heap.size, 3, none⟩)) _ W_ ?_ hI (Below.refl _ _) rfl
              simp only [frameOf, Act.put, List.setIfInBounds_toArray, List.set_cons_zero, List.set_cons_succ, Nat.zero_add, Nat.reduceAdd]
            · intro g_ W_ hI hd K hK
              simp only [frameOf, Act.put, List.setIfInBounds_toArray, List.set_cons_zero, List.set_cons_succ]
              have h0 : g_ 0 = .pointer (some ⟨w.heap.size, 3, none⟩) := hd 0 (by kernel_rfl)
              rw [h0]
              have c3 := (hI.cell (p := ⟨w.heap.size, 3, none⟩) hzA).trans A3.out
              go_simp
              refine hK.out (.slice (some ⟨b, o, none⟩) ts.len c) _ W_ ?_ hI (Below.refl _ _) rfl
              simp only [frameOf, Act.put, List.setIfInBounds_toArray, List.set_cons_zero, List.set_cons_succ, Nat.zero_add, Nat.reduceAdd, h0]
            · intro g_ W_ hI hd K hK
              simp only [frameOf, Act.put, List.setIfInBounds_toArray, List.set_cons_zero, List.set_cons_succ]
              go_simp
              refine hK.out (.int .i64 j) _ W_ ?_ hI (Below.refl _ _) rfl
              simp only [frameOf, Act.put, List.setIfInBounds_toArray, List.set_cons_zero, List.set_cons_succ, Nat.zero_add, Nat.reduceAdd]
            · intro g_ W_ hI hd K hK
              simp only [frameOf, Act.put, List.setIfInBounds_toArray, List.set_cons_zero, List.set_cons_succ]
              have h1 : g_ 1 = .slice (some ⟨b, o, none⟩) ts.len c := hd 1 (by kernel_rfl)
              have h2 : g_ 2 = .int .i64 j := hd 2 (by kernel_rfl)
              rw [h1, h2]
              go_simp
              refine hK.out (.pointer (some ⟨b, o + j * 4, none⟩)) _ W_ ?_ hI (Below.refl _ _) rfl
              simp only [frameOf, Act.put, List.setIfInBounds_toArray, List.set_cons_zero, List.set_cons_succ, Nat.zero_add, Nat.reduceAdd, h1, h2]
            · intro g_ W_ hI hd K hK
              simp only [frameOf, Act.put, List.setIfInBounds_toArray, List.set_cons_zero, List.set_cons_succ]
              have h3 : g_ 3 = .pointer (some ⟨b, o + j * 4, none⟩) := hd 3 (by kernel_rfl)
              rw [h3]
              have e_ := E.out.below hI
              have c0 := e_.c0
              have c1 := e_.c1
              have c2 := e_.c2
              have c3 := e_.c3
              go_simp
              refine hK.out (.agg #[.int .u8 kk, .string s1, .int .i64 nn, .slice pp kids.len cc]) _ W_ ?_ hI (Below.refl _ _) rfl
              simp only [frameOf, Act.put, List.setIfInBounds_toArray, List.set_cons_zero, List.set_cons_succ, Nat.zero_add, Nat.reduceAdd, h3]
            · intro g_ W_ hI hd K hK
              simp only [frameOf, Act.put, List.setIfInBounds_toArray, List.set_cons_zero, List.set_cons_succ]
              go_simp
              refine hK.out (.pointer (some ⟨w.heap.size + 1, 3, none⟩)) _ W_ ?_ hI (Below.refl _ _) rfl
              simp only [frameOf, Act.put, List.setIfInBounds_toArray, List.set_cons_zero, List.set_cons_succ, Nat.zero_add, Nat.reduceAdd]
            · intro g_ W_ hI hd K hK
              simp only [frameOf, Act.put, List.setIfInBounds_toArray, List.set_cons_zero, List.set_cons_succ]
              have h5 : g_ 5 = .pointer (some ⟨w.heap.size + 1, 3, none⟩) := hd 5 (by kernel_rfl)
              rw [h5]
              have c3 := (hI.cell (p := ⟨w.heap.size + 1, 3, none⟩) hzB).trans B3'.out
              go_simp
              refine hK.out (.slice (some ⟨b', o', none⟩) us.len c') _ W_ ?_ hI (Below.refl _ _) rfl
              simp only [frameOf, Act.put, List.setIfInBounds_toArray, List.set_cons_zero, List.set_cons_succ, Nat.zero_add, Nat.reduceAdd, h5]
            · intro g_ W_ hI hd K hK
              simp only [frameOf, Act.put, List.setIfInBounds_toArray, List.set_cons_zero, List.set_cons_succ]
              go_simp
              refine hK.out (.int .i64 j) _ W_ ?_ hI (Below.refl _ _) rfl
              simp only [frameOf, Act.put, List.setIfInBounds_toArray, List.set_cons_zero, List.set_cons_succ, Nat.zero_add, Nat.reduceAdd]
            · intro g_ W_ hI hd K hK
              simp only [frameOf, Act.put, List.setIfInBounds_toArray, List.set_cons_zero, List.set_cons_succ]
              have h6 : g_ 6 = .slice (some ⟨b', o', none⟩) us.len c' := hd 6 (by kernel_rfl)
              have h7 : g_ 7 = .int .i64 j := hd 7 (by kernel_rfl)
              rw [h6, h7]
              go_simp
              refine hK.out (.pointer (some ⟨b', o' + j * 4, none⟩)) _ W_ ?_ hI (Below.refl _ _) rfl
              simp only [frameOf, Act.put, List.setIfInBounds_toArray, List.set_cons_zero, List.set_cons_succ, Nat.zero_add, Nat.reduceAdd, h6, h7]
            · intro g_ W_ hI hd K hK
              simp only [frameOf, Act.put, List.setIfInBounds_toArray, List.set_cons_zero, List.set_cons_succ]
              have h8 : g_ 8 = .pointer (some ⟨b', o' + j * 4, none⟩) := hd 8 (by kernel_rfl)
              rw [h8]
              have e_ := E'.out.below hI
              have c0 := e_.c0
              have c1 := e_.c1
              have c2 := e_.c2
              have c3 := e_.c3
              go_simp
              refine hK.out (.agg #[.int .u8 kk', .string s1', .int .i64 nn', .slice pp' kids'.len cc']) _ W_ ?_ hI (Below.refl _ _) rfl
              simp only [frameOf, Act.put, List.setIfInBounds_toArray, List.set_cons_zero, List.set_cons_succ, Nat.zero_add, Nat.reduceAdd, h8]
            · intro g_ W_ hI hd K hK
              simp only [frameOf, Act.put, List.setIfInBounds_toArray, List.set_cons_zero, List.set_cons_succ]
              have h4 : g_ 4 = .agg #[.int .u8 kk, .string s1, .int .i64 nn, .slice pp kids.len cc] := hd 4 (by kernel_rfl)
              have h9 : g_ 9 = .agg #[.int .u8 kk', .string s1', .int .i64 nn', .slice pp' kids'.len cc'] := hd 9 (by kernel_rfl)
              rw [h4, h9]
              go_simp
              refine (IH.out kids kids' (by omega) (by have := hbig'.out; omega) kk kk' s1 s1' nn nn' W_ pp pp' cc cc' O1.out O2.out (E.out.below hI).tat (E'.out.below hI).tat).mono ?_
              rintro e w' ⟨rfl, hB⟩
              rw [← X.out]
              refine hK.out (.tuple #[.int .i64 x.1, .bool x.2]) _ _ ?_ (hI.trans (hB.mono hI.size)) hB rfl
              simp only [frameOf, Act.put, List.setIfInBounds_toArray, List.set_cons_zero, List.set_cons_succ, Nat.zero_add, Nat.reduceAdd, h4, h9]
            · intro g_ W_ hI hd K hK
              simp only [frameOf, Act.put, List.setIfInBounds_toArray, List.set_cons_zero, List.set_cons_succ]
              have h10 : g_ 10 = .tuple #[.int .i64 x.1, .bool x.2] := hd 10 (by kernel_rfl)
              rw [h10]
              go_simp
              refine hK.out (.tuple #[.int .i64 x.1, .bool x.2]) _ W_ ?_ hI (Below.refl _ _) rfl
              simp only [frameOf, Act.put, List.setIfInBounds_toArray, List.set_cons_zero, List.set_cons_succ, Nat.zero_add, Nat.reduceAdd, h10]
            · intro g_ W_ hI hd K hK
              simp only [frameOf, Act.put, List.setIfInBounds_toArray, List.set_cons_zero, List.set_cons_succ]
              have h11 : g_ 11 = .tuple #[.int .i64 x.1, .bool x.2] := hd 11 (by kernel_rfl)
              rw [h11]
              go_simp
              refine hK.out (.int .i64 x.1) _ W_ ?_ hI (Below.refl _ _) rfl
              simp only [frameOf, Act.put, List.setIfInBounds_toArray, List.set_cons_zero, List.set_cons_succ, Nat.zero_add, Nat.reduceAdd, h11]
            · intro g_ W_ hI hd K hK
              simp only [frameOf, Act.put, List.setIfInBounds_toArray, List.set_cons_zero, List.set_cons_succ]
              have h11 : g_ 11 = .tuple #[.int .i64 x.1, .bool x.2] := hd 11 (by kernel_rfl)
              rw [h11]
              go_simp
              refine hK.out (.bool x.2) _ W_ ?_ hI (Below.refl _ _) rfl
              simp only [frameOf, Act.put, List.setIfInBounds_toArray, List.set_cons_zero, List.set_cons_succ, Nat.zero_add, Nat.reduceAdd, h11]
            · intro g_ W_ hI hd K hK
              simp only [frameOf, Act.put, List.setIfInBounds_toArray, List.set_cons_zero, List.set_cons_succ]
              have h12 : g_ 12 = .int .i64 x.1 := hd 12 (by kernel_rfl)
              rw [h12]
              go_simp
              refine hK.out (.int .i64 x.1) _ W_ ?_ hI (Below.refl _ _) rfl
              simp only [frameOf, Act.put, List.setIfInBounds_toArray, List.set_cons_zero, List.set_cons_succ, Nat.zero_add, Nat.reduceAdd, h12]
            · intro g_ W_ hI hd K hK
              simp only [frameOf, Act.put, List.setIfInBounds_toArray, List.set_cons_zero, List.set_cons_succ]
              have h13 : g_ 13 = .bool x.2 := hd 13 (by kernel_rfl)
              rw [h13]
              go_simp
              refine hK.out (.bool x.2) _ W_ ?_ hI (Below.refl _ _) rfl
              simp only [frameOf, Act.put, List.setIfInBounds_toArray, List.set_cons_zero, List.set_cons_succ, Nat.zero_add, Nat.reduceAdd, h13]
          case done =>
            intro f_ W_ hI hd
            have h14 : f_ 14 = .int .i64 x.1 := hd 14 (by decide)
            have h15 : f_ 15 = .bool x.2 := hd 15 (by decide)
            simp only [frameOf, Act.put, List.setIfInBounds_toArray, List.set_cons_zero, List.set_cons_succ, Nat.zero_add, Nat.reduceAdd, h14, h15]
            have B3 := Lib.hid (B.out.trans (hI.mono B.out.size))
            clear hd h14 h15 hI
            obtain ⟨d, v⟩ := x
            by_cases hd0 : (d != 0) = true
            · have HR : Hid (ordL ts us = (d, v)) := Lib.hid (by
                rw [← R.out, D.out, D'.out]
                simp only [ordL, ← X.out, hd0, Bool.true_or, if_true])
              go_wp2
              go_ret2
              rw [HR.out]
              exact ⟨rfl, BW.out.trans (B3.out.mono BW.out.size)⟩
            rw [Bool.not_eq_true] at hd0
            cases v with
            | false =>
              have HR : Hid (ordL ts us = (d, false)) := Lib.hid (by
                rw [← R.out, D.out, D'.out]
                simp only [ordL, ← X.out, hd0, Bool.not_false, Bool.or_true, if_true])
              go_wp2
              go_ret2
              rw [HR.out]
              exact ⟨rfl, BW.out.trans (B3.out.mono BW.out.size)⟩
            | true =>
              have R' : Hid (ordL (ts.drop (j + 1)) (us.drop (j + 1)) = ordL ts us) := Lib.hid (by
                rw [Ts.drop_succ j ts D.out, Ts.drop_succ j us D'.out, ← R.out, D.out, D'.out]
                simp only [ordL, ← X.out, hd0, Bool.not_true, Bool.or_false, Bool.false_eq_true, if_false])
              go_wp2
              go_roundw
              case rel => exact ⟨j + 1, by omega, by go_num, R', B3.out⟩
              case measure => simp [intOf]; omega
        · have hke : j = ts.len := by omega
          have hd : ts.drop j = .nil := Ts.len_zero (by rw [Ts.drop_len]; omega)
          have hd' : us.drop j = .nil := Ts.len_zero (by rw [Ts.drop_len]; have := HL.out; omega)
          have h := R.out
          rw [hd, hd'] at h
          have H := Lib.hid h
          clear h hd hd' hke hB R
          go_wp2
          go_ret2
          exact ⟨by rw [← H.out]; rfl, BW.out.trans (B.out.mono BW.out.size)⟩
    · have HO : Hid (ordH k k' s s' n n' ts us (ordL ts us) = (cmpT k k' s s' n n' ts us (cmpL ts us), true)) := Lib.hid (by unfold ordH; rw [if_neg NV.out, if_neg hq])
      rw [HO.out]
      obtain ⟨C, hC⟩ : ∃ C, C = cmpT k k' s s' n n' ts us (cmpL ts us) := ⟨_, rfl⟩
      have CE := Lib.hid hC
      rw [← hC]
      clear hC HO
      have hcmp : ∀ W, Below W2.heap.size W2 W → Calls Tryz.prog 21 #[.agg #[.int .u8 k, .string s, .int .i64 n, .slice p ts.len c], .agg #[.int .u8 k', .string s', .int .i64 n', .slice p' us.len c']] W fun e w' => e = .returned (.int .i64 C) ∧ Below W.heap.size W w' := fun W hB => by
        rw [CE.out]
        exact compare_any hbig'.out OK.out.2.2.2.2.2.1 OK'.out.2.2.2.2.2.1 (AT.out.below hB) (AT'.out.below hB)
      have CMP := Lib.hid hcmp
      clear hcmp
      clear hv
      by_cases k1 : (k == 1) = true
      · have k1' : (k' == 1) = false := by
          rw [Bool.eq_false_iff]
          intro h
          exact NV.out (by rw [k1, h]; rfl)
        have k4 : (k != 4) = true := by rw [beq_iff_eq] at k1; rw [k1]; rfl
        go_enter Tryz.func19, Tryz.ntmps19
        go_upto_region 1 with fail
        rw [← Z.out]
        go_wp2_with fail
        refine (CMP.out _ (Below.refl _ _)).mono ?_
        rintro e w' ⟨rfl, hB⟩
        have BB := Lib.hid (BW.out.trans (hB.mono BW.out.size))
        clear hB
        go_wp2
        go_ret2
        exact ⟨rfl, BB.out⟩
      rw [Bool.not_eq_true] at k1
      by_cases k4 : (k != 4) = true
      · go_enter Tryz.func19, Tryz.ntmps19
        go_upto_region 1 with fail
        rw [← Z.out]
        go_wp2_with fail
        refine (CMP.out _ (Below.refl _ _)).mono ?_
        rintro e w' ⟨rfl, hB⟩
        have BB := Lib.hid (BW.out.trans (hB.mono BW.out.size))
        clear hB
        go_wp2
        go_ret2
        exact ⟨rfl, BB.out⟩
      rw [Bool.not_eq_true] at k4
      have h4 := Lib.hid (by simpa using k4 : k = 4)
      by_cases k4' : (k' != 4) = true
      · go_enter Tryz.func19, Tryz.ntmps19
        go_upto_region 1 with fail
        rw [← Z.out]
        go_wp2_with fail
        refine (CMP.out _ (Below.refl _ _)).mono ?_
        rintro e w' ⟨rfl, hB⟩
        have BB := Lib.hid (BW.out.trans (hB.mono BW.out.size))
        clear hB
        go_wp2
        go_ret2
        exact ⟨rfl, BB.out⟩
      rw [Bool.not_eq_true] at k4'
      have h4' := Lib.hid (by simpa using k4' : k' = 4)
      by_cases hs : (s.toList == s'.toList) = true
      · have hl : ((ts.len : Int) != (us.len : Int)) = true := by
          rw [bne_iff_ne]
          intro he
          apply hq
          rw [h4.out, h4'.out, hs, decide_eq_true (by omega : ts.len = us.len)]
          rfl
        clear h4 h4'
        go_enter Tryz.func19, Tryz.ntmps19
        go_upto_region 1 with fail
        rw [← Z.out]
        go_wp2_with fail
        refine (CMP.out _ (Below.refl _ _)).mono ?_
        rintro e w' ⟨rfl, hB⟩
        have BB := Lib.hid (BW.out.trans (hB.mono BW.out.size))
        clear hB
        go_wp2
        go_ret2
        exact ⟨rfl, BB.out⟩
      · rw [Bool.not_eq_true] at hs
        clear h4 h4'
        go_enter Tryz.func19, Tryz.ntmps19
        go_upto_region 1 with fail
        rw [← Z.out]
        go_wp2_with fail
        refine (CMP.out _ (Below.refl _ _)).mono ?_
        rintro e w' ⟨rfl, hB⟩
        have BB := Lib.hid (BW.out.trans (hB.mono BW.out.size))
        clear hB
        go_wp2
        go_ret2
        exact ⟨rfl, BB.out⟩



end Go.Proofs.YtnmhnaanpjlniaaGreat
