import Derived.Test.YtnmhnaanpjlniaaGreatFId
import Derived.Test.YtnmhnaanpjlniaaGreatFn
import Derived.Test.YtnmhnaanpjlniaaGreatFp
/-
  The law BuiltinKinds, walked. (Written by gen_fq.py.)
-/
namespace Go.Proofs.YtnmhnaanpjlniaaGreat
open Go.RowKit

def kl : Nat → List Int
  | 0 => [1]
  | 1 => [2, 3, 4]
  | 2 => [3]
  | 3 => [2]
  | 4 => [2, 3]
  | 5 => [4]
  | _ => []
theorem doneR_zero (x : Bool) : doneR (x, 0) = (x, 0) := by cases x <;> rfl

theorem doK_any (i : Nat) (hi : i < 6) (S : Nat) (σ : Sb) (n : Nat) (hn : n ≤ 900000) (w : World) (hS : SubAt S σ n w) (a g : Nd) (hk : g.k = 4) (hs : g.s = doSym (17 + i)) (hkids : g.kids = (.cons a.k a.s a.n a.p a.c a.kids .nil)) (hok : g.kids.ok) (hat : Ts.At w g.p g.kids) (ha : a.kids.size ≤ 5000) :
    Calls Tryz.prog 13 #[.pointer (some ⟨S, 0, none⟩), .agg #[.int .u8 g.k, .string g.s, .int .i64 g.n, .slice g.p g.kids.len g.c]] w fun e w' => (∃ p, e = .returned (.tuple #[p, .bool (kindB (kl i) (wk σ a).k), .int .i64 0])) ∧ Below w.heap.size w w' := by
  match i, hi with
  | 0, _ =>
    refine (do_17 S σ n hn w hS a a g hk hs hkids hok hat ha).mono ?_
    rintro e w' ⟨⟨p, rfl⟩, hB⟩
    refine ⟨⟨p, ?_⟩, hB⟩
    rw [show doV σ n a a 17 = (kindB (kl 0) (wk σ a).k, 0) from doneR_zero _]
  | 1, _ =>
    refine (do_18 S σ n hn w hS a a g hk hs hkids hok hat ha).mono ?_
    rintro e w' ⟨⟨p, rfl⟩, hB⟩
    refine ⟨⟨p, ?_⟩, hB⟩
    rw [show doV σ n a a 18 = (kindB (kl 1) (wk σ a).k, 0) from doneR_zero _]
  | 2, _ =>
    refine (do_19 S σ n hn w hS a a g hk hs hkids hok hat ha).mono ?_
    rintro e w' ⟨⟨p, rfl⟩, hB⟩
    refine ⟨⟨p, ?_⟩, hB⟩
    rw [show doV σ n a a 19 = (kindB (kl 2) (wk σ a).k, 0) from doneR_zero _]
  | 3, _ =>
    refine (do_20 S σ n hn w hS a a g hk hs hkids hok hat ha).mono ?_
    rintro e w' ⟨⟨p, rfl⟩, hB⟩
    refine ⟨⟨p, ?_⟩, hB⟩
    rw [show doV σ n a a 20 = (kindB (kl 3) (wk σ a).k, 0) from doneR_zero _]
  | 4, _ =>
    refine (do_21 S σ n hn w hS a a g hk hs hkids hok hat ha).mono ?_
    rintro e w' ⟨⟨p, rfl⟩, hB⟩
    refine ⟨⟨p, ?_⟩, hB⟩
    rw [show doV σ n a a 21 = (kindB (kl 4) (wk σ a).k, 0) from doneR_zero _]
  | 5, _ =>
    refine (do_22 S σ n hn w hS a a g hk hs hkids hok hat ha).mono ?_
    rintro e w' ⟨⟨p, rfl⟩, hB⟩
    refine ⟨⟨p, ?_⟩, hB⟩
    rw [show doV σ n a a 22 = (kindB (kl 5) (wk σ a).k, 0) from doneR_zero _]

theorem Chain.all {P : Nd → Prop} {l : List (Int × Nd)} (hl : ∀ e ∈ l, P e.2) {had : List (Int × Nd)} (h : Chain l had) : ∀ v x, look had v = some x → P x := by
  induction h with
  | nil => intro v x hx; cases hx
  | @snoc had v x _ hm h0 ih =>
    rw [look_put (bindE_zero h0)]
    exact put_all ih (hl _ hm)
def k14 (x : Nd) : Prop := x.k = 1 ∨ x.k = 2 ∨ x.k = 3 ∨ x.k = 4
theorem k14_good {x : Nd} (h : gdB x = true) : k14 x := by
  have h1 := good_shape h
  rw [Bool.and_eq_true] at h1
  have h2 := h1.2
  unfold headB at h2
  unfold k14
  split at h2
  · exact .inl ‹_›
  · split at h2
    · exact .inr (.inl ‹_›)
    · split at h2
      · exact .inr (.inr (.inl ‹_›))
      · simp only [Bool.and_eq_true, beq_iff_eq] at h2
        exact .inr (.inr (.inr h2.1))
theorem STw.back {σ ρ : Sb} (h : STw σ ρ) {P : Nd → Prop} (hP : ∀ {x y : Nd}, x.twin y → P y → P x) (hg : ∀ v x, ρ v = some x → P x) : ∀ v x, σ v = some x → P x := fun v x hx => by
  obtain ⟨y, h1, h2⟩ := h.yes v x hx
  exact hP h2 (hg v y h1)
theorem k14_tw {x y : Nd} (h : x.twin y) (hy : k14 y) : k14 x := by
  unfold k14 at *
  rw [h.1]
  exact hy
theorem k14_wk {l : List (Int × Nd)} (hl : badL l = 0) {had : List (Int × Nd)} (h : Chain l had) {σ : Sb} (hs : STw σ (look had)) (hE : Ends σ) {t : Nd} (ht : gdB t = true) : k14 (wk σ t) :=
  all_Wk (hs.back k14_tw (h.all (fun e he => k14_good (badL_none hl e he)))) (wk_spec hE t) (k14_good ht)

/-- six names that lie in a row -/
def SixS (NB : Nat) (w : World) : Prop := ∀ i, i < 6 → w.cell? ⟨NB, i, none⟩ = some (.string (doSym (17 + i)))
theorem SixS.below {NB : Nat} {w w' : World} (h : SixS NB w) (hB : Below w.heap.size w w') : SixS NB w' := fun i hi =>
  (hB.cell (p := ⟨NB, i, none⟩) (World.block_lt_of_cell? _ _ (h i hi))).trans (h i hi)
/-- what has been told so far -/
def SixB (K i : Nat) (q : Int) (w : World) : Prop := (∀ j, j < 6 → w.cell? ⟨K, j, none⟩ = some (.bool (if j < i then kindB (kl j) q else false))) ∧ ∀ j, w.frozen? ⟨K, j, none⟩ = false
theorem SixB.lt {K i : Nat} {q : Int} {w : World} (h : SixB K i q w) : K < w.heap.size := World.block_lt_of_cell? _ _ (h.1 0 (by omega))
theorem SixB.below {K i : Nat} {q : Int} {w w' : World} (h : SixB K i q w) (hB : Below w.heap.size w w') : SixB K i q w' :=
  ⟨fun j hj => (hB.cell (p := ⟨K, j, none⟩) h.lt).trans (h.1 j hj), fun j => (hB.frozen (p := ⟨K, j, none⟩) h.lt).trans (h.2 j)⟩
theorem SixB.put {K i : Nat} {q : Int} {w : World} (h : SixB K i q w) (hi : i < 6) : SixB K (i + 1) q (w.setCell ⟨K, i, none⟩ (.bool (kindB (kl i) q))) := by
  refine ⟨fun j hj => ?_, fun j => by simp [h.2 j]⟩
  by_cases e : j = i
  · subst e
    rw [World.cell?_setCell_same _ _ _ (h.1 j hj), if_pos (by omega)]
  · rw [World.cell?_setCell_other _ _ _ _ (by simp [e]), h.1 j hj]
    by_cases h1 : j < i
    · rw [if_pos h1, if_pos (by omega)]
    · rw [if_neg h1, if_neg (by omega)]

set_option maxRecDepth 100000 in
set_option maxHeartbeats 16000000 in
theorem builtinKinds_true (l : List (Int × Nd)) (hl63 : l.length ≤ 9223372036854775807) (hbok : (bsTs l).ok) (hvr : ∀ e ∈ l, -9223372036854775808 ≤ e.1 ∧ e.1 ≤ 9223372036854775807) (t : Nd) (w : World) (lp : Option Addr) (lc : Nat) (hatl : BsAt w lp l) (hokt : Ts.ok (.cons t.k t.s t.n t.p t.c t.kids .nil)) (hatt : Ts.At w t.p t.kids) :
    Calls Tryz.prog 3 #[.slice lp l.length lc, .agg #[.int .u8 t.k, .string t.s, .int .i64 t.n, .slice t.p t.kids.len t.c]] w fun e w' => e = .returned (.bool true) ∧ Below w.heap.size w w' := by
  have BOK := Lib.hid hbok
  have VR := Lib.hid hvr
  have ATl := Lib.hid hatl
  have OKt := Lib.hid (show t.ok from hokt)
  have ATt := Lib.hid hatt
  clear hbok hvr hatl hokt hatt
  go_enter Tryz.func3, Tryz.ntmps3
  go_upto_region 1 with fail
  obtain ⟨W0, hW0⟩ : ∃ W0, W0 = w.alloc (.cells #[.int .u8 t.k, .string t.s, .int .i64 t.n, .slice t.p t.kids.len t.c] 25) := ⟨_, rfl⟩
  rw [← hW0]
  have XT := Lib.hid (by rw [hW0]; exact BoxIs.new w t _ : BoxIs w.heap.size t W0)
  have BW := Lib.hid (by rw [hW0]; exact (Below.refl _ _).alloc (Nat.le_refl _) _ : Below w.heap.size w W0)
  clear hW0
  have c0 := XT.out.c0
  have c1 := XT.out.c1
  have c2 := XT.out.c2
  have c3 := XT.out.c3
  go_wp2_with fail
  refine (bgreat_any l t hl63 BOK.out W0 lp lc (ATl.out.below BW.out) OKt.out (ATt.out.below BW.out)).mono ?_
  rintro e w2 ⟨rfl, hI⟩
  replace XT := Lib.hid (XT.out.below hI)
  replace BW := Lib.hid (BW.out.trans (hI.mono BW.out.size))
  clear hI
  clear c0 c1 c2 c3
  obtain ⟨ga0, hga0⟩ : ∃ g, g = bGreat l t := ⟨_, rfl⟩
  rw [← hga0]
  have Gga0 := Lib.hid hga0
  clear hga0
  cases ga0 with
  | true =>
    go_wp2_with fail
    refine (wakes14_any _).mono ?_
    rintro e we ⟨rfl, hB⟩
    replace BW := Lib.hid (BW.out.trans (hB.mono BW.out.size))
    clear hB
    go_wp2
    go_ret
    exact ⟨rfl, BW.out⟩
  | false =>
  have hst := bGreat_1000 Gga0.out.symm
  obtain ⟨hl40, hst5, hbs⟩ := bGreat_size Gga0.out.symm
  have c0 := XT.out.c0
  have c1 := XT.out.c1
  have c2 := XT.out.c2
  have c3 := XT.out.c3
  go_wp2_with fail
  refine (rGood_any t.kids (by omega) OKt.out.2.2.2.2.2.1 t.k t.s t.n w2 t.p t.c OKt.out.2.1 (ATt.out.below BW.out)).mono ?_
  rintro e w3 ⟨rfl, hI⟩
  replace XT := Lib.hid (XT.out.below hI)
  replace BW := Lib.hid (BW.out.trans (hI.mono BW.out.size))
  clear hI
  clear c0 c1 c2 c3
  obtain ⟨gt, hgt⟩ : ∃ g, g = goodB 64 t.k t.s t.n t.kids := ⟨_, rfl⟩
  rw [← hgt]
  have Gt := Lib.hid hgt
  clear hgt
  cases gt with
  | false =>
    go_wp2_with fail
    refine (wakes14_any _).mono ?_
    rintro e we ⟨rfl, hB⟩
    replace BW := Lib.hid (BW.out.trans (hB.mono BW.out.size))
    clear hB
    go_wp2
    go_ret
    exact ⟨rfl, BW.out⟩
  | true =>
  have c0 := XT.out.c0
  have c1 := XT.out.c1
  have c2 := XT.out.c2
  have c3 := XT.out.c3
  go_wp2_with fail
  refine (bad_any l t hl40 BOK.out hbs w3 lp lc (ATl.out.below BW.out) OKt.out (ATt.out.below BW.out) hst5).mono ?_
  rintro e w4 ⟨rfl, hI⟩
  replace XT := Lib.hid (XT.out.below hI)
  replace BW := Lib.hid (BW.out.trans (hI.mono BW.out.size))
  clear hI
  clear c0 c1 c2 c3
  by_cases hbad : 0 < badL l + badT t.kids
  · have hb1 : (0 : Int) < ((badL l + badT t.kids : Nat) : Int) := by omega
    go_wp2_with fail
    refine (wakes14_any _).mono ?_
    rintro e we ⟨rfl, hB⟩
    replace BW := Lib.hid (BW.out.trans (hB.mono BW.out.size))
    clear hB
    go_wp2
    go_ret
    exact ⟨rfl, BW.out⟩
  have hb0 : badL l + badT t.kids = 0 := by omega
  have HB0 := Lib.hid (show badL l = 0 by omega)
  rw [hb0]
  clear hbad hb0
  go_wp2_with fail
  refine (make_chain l hl40 BOK.out hbs VR.out w4 lp lc (ATl.out.below BW.out)).mono ?_
  rintro e w5 ⟨had, σ, q9, c9, rfl, hhl, hS, hST, hch, hI⟩
  have SB := Lib.hid hS
  have K14 : Hid (k14 (wk σ t)) := Lib.hid (k14_wk HB0.out hch hST hS.ends (show gdB t = true from Gt.out.symm))
  obtain ⟨S, hSe⟩ : ∃ S, S = w4.heap.size := ⟨_, rfl⟩
  obtain ⟨N, hN⟩ : ∃ N, N = had.length := ⟨_, rfl⟩
  rw [← hSe] at SB ⊢
  rw [← hN] at SB
  have hN40 : N ≤ 40 := by omega
  obtain ⟨q, hq⟩ : ∃ q, q = (wk σ t).k := ⟨_, rfl⟩
  have QE := Lib.hid hq
  replace XT := Lib.hid (XT.out.below hI)
  replace BW := Lib.hid (BW.out.trans (hI.mono BW.out.size))
  replace ATt := Lib.hid (ATt.out.below BW.out)
  clear hI hSe hN hq hS hST hch hhl
  go_upto_region 7 with fail
  obtain ⟨W6, hW6⟩ : ∃ W, W = w5.alloc (.cells #[.string ⟨#[118, 97, 114]⟩, .string ⟨#[110, 111, 110, 118, 97, 114]⟩, .string ⟨#[97, 116, 111, 109]⟩, .string ⟨#[105, 110, 116, 101, 103, 101, 114]⟩, .string ⟨#[97, 116, 111, 109, 105, 99]⟩, .string ⟨#[99, 111, 109, 112, 111, 117, 110, 100]⟩] 9) := ⟨_, rfl⟩
  rw [← hW6]
  obtain ⟨NB, hNB⟩ : ∃ NB, NB = w5.heap.size := ⟨_, rfl⟩
  rw [← hNB]
  have hI : Below w5.heap.size w5 W6 := by rw [hW6]; exact (Below.refl _ _).alloc (Nat.le_refl _) _
  have NM := Lib.hid (show SixS NB W6 from fun i hi => by
    rw [hNB, hW6]
    match i, hi with
    | 0, _ | 1, _ | 2, _ | 3, _ | 4, _ | 5, _ => simp [doSym])
  replace XT := Lib.hid (XT.out.below hI)
  replace SB := Lib.hid (SB.out.below hI)
  replace ATt := Lib.hid (ATt.out.below hI)
  replace BW := Lib.hid (BW.out.trans (hI.mono BW.out.size))
  clear hI hW6 hNB
  go_upto_region 8 with fail
  obtain ⟨W7, hW7⟩ : ∃ W, W = W6.alloc (.cells #[.bool false, .bool false, .bool false, .bool false, .bool false, .bool false] 34) := ⟨_, rfl⟩
  rw [← hW7]
  have hI : Below W6.heap.size W6 W7 := by rw [hW7]; exact (Below.refl _ _).alloc (Nat.le_refl _) _
  have SX := Lib.hid (show SixB W6.heap.size 0 q W7 from ⟨fun j hj => by
    rw [hW7]
    match j, hj with
    | 0, _ | 1, _ | 2, _ | 3, _ | 4, _ | 5, _ => simp, fun j => by rw [hW7]; simp⟩)
  have BB := Lib.hid hI
  clear hI hW7
  go_wp2
  go_loopw [10] (fun s10 wr => ∃ i : Nat, i ≤ 6 ∧ s10 = .int .i64 i ∧ Hid (SixB W6.heap.size i q wr) ∧ Hid (Below W6.heap.size W6 wr)) (fun s10 _ => 6 - (intOf s10).toNat)
  case atStart => exact ⟨0, by omega, rfl, SX, BB⟩
  case round =>
    clear SX BB
    obtain ⟨i, hi, rfl, SX, BB⟩ := hrel
    replace XT := Lib.hid (XT.out.below BB.out)
    replace SB := Lib.hid (SB.out.below BB.out)
    replace NM := Lib.hid (NM.out.below BB.out)
    replace ATt := Lib.hid (ATt.out.below BB.out)
    replace BW := Lib.hid (BW.out.trans (BB.out.mono BW.out.size))
    by_cases hi6 : i < 6
    · obtain ⟨kb, hkb⟩ : ∃ kb, kb = kindB (kl i) q := ⟨_, rfl⟩
      have KBE := Lib.hid hkb
      clear hkb
      have hi63 : (i : Int) < 6 := by omega
      go_upto_region 11 with fail
      refine region_by_facts (fun W_ => Below wr.heap.size wr W_) [fun u _ => u = .pointer (some ⟨S, 0, none⟩), fun u _ => u = .slice (some ⟨NB, 0, none⟩) 6 6, fun u _ => u = .int .i64 i, fun u _ => u = .pointer (some ⟨NB, i, none⟩), fun u _ => u = .string (doSym (17 + i)), fun u _ => u = .agg #[.int .u8 t.k, .string t.s, .int .i64 t.n, .slice t.p t.kids.len t.c], fun u W => ∃ R, u = .slice (some ⟨R, 0, none⟩) 1 1 ∧ Ts.At W (some ⟨R, 0, none⟩) (.cons t.k t.s t.n t.p t.c t.kids .nil), fun u W => ∃ us q d, u = tv 4 (doSym (17 + i)) 0 q us.len d ∧ Ts.At W q us ∧ Ts.twin us (.cons t.k t.s t.n t.p t.c t.kids .nil) ∧ us.ok, fun u _ => ∃ p, u = .tuple #[p, .bool kb, .int .i64 0], fun u _ => ∃ p, u = .tuple #[p, .bool kb, .int .i64 0], fun _ _ => True, fun u _ => u = .bool kb, fun u _ => u = .int .i64 0, fun _ _ => True, fun u _ => u = .bool kb, fun u _ => u = .int .i64 0]
        ⟨.eq _, .eq _, .eq _, .eq _, .eq _, .eq _, (by rintro v_ w_ x_ ⟨R, h1, h2⟩ hB; exact ⟨R, h1, h2.below hB⟩), (by rintro v_ w_ x_ ⟨us, q, d, h1, h2, h3, h4⟩ hB; exact ⟨us, q, d, h1, h2.below hB, h3, h4⟩), (by rintro v_ w_ x_ ⟨p, h1⟩ hB; exact ⟨p, h1⟩), (by rintro v_ w_ x_ ⟨p, h1⟩ hB; exact ⟨p, h1⟩), (fun _ _ _ _ _ => trivial), .eq _, .eq _, (fun _ _ _ _ _ => trivial), .eq _, .eq _, trivial⟩ (by kernel_rfl) (by kernel_rfl) (by kernel_rfl) ?h0 ?steps ?done
      case h0 => exact (Below.refl _ _).drew
      case steps =>
        refine ⟨?_, ?_, ?_, ?_, ?_, ?_, ?_, ?_, ?_, ?_, ?_, ?_, ?_, ?_, ?_, ?_, trivial⟩
        · intro g_ W_ hI hd K hK
          simp only [frameOf, Act.put, List.setIfInBounds_toArray, List.set_cons_zero, List.set_cons_succ]
          go_simp
          refine hK.out (.pointer (some ⟨S, 0, none⟩)) _ W_ ?_ hI (Below.refl _ _) rfl
          simp only [frameOf, Act.put, List.setIfInBounds_toArray, List.set_cons_zero, List.set_cons_succ, Nat.zero_add, Nat.reduceAdd]
        · intro g_ W_ hI hd K hK
          simp only [frameOf, Act.put, List.setIfInBounds_toArray, List.set_cons_zero, List.set_cons_succ]
          go_simp
          refine hK.out (.slice (some ⟨NB, 0, none⟩) 6 6) _ W_ ?_ hI (Below.refl _ _) rfl
          simp only [frameOf, Act.put, List.setIfInBounds_toArray, List.set_cons_zero, List.set_cons_succ, Nat.zero_add, Nat.reduceAdd]
        · intro g_ W_ hI hd K hK
          simp only [frameOf, Act.put, List.setIfInBounds_toArray, List.set_cons_zero, List.set_cons_succ]
          go_simp
          refine hK.out (.int .i64 i) _ W_ ?_ hI (Below.refl _ _) rfl
          simp only [frameOf, Act.put, List.setIfInBounds_toArray, List.set_cons_zero, List.set_cons_succ, Nat.zero_add, Nat.reduceAdd]
        · intro g_ W_ hI hd K hK
          simp only [frameOf, Act.put, List.setIfInBounds_toArray, List.set_cons_zero, List.set_cons_succ]
          have h1 : g_ 1 = .slice (some ⟨NB, 0, none⟩) 6 6 := hd 1 (by kernel_rfl)
          have h2 : g_ 2 = .int .i64 i := hd 2 (by kernel_rfl)
          rw [h1, h2]
          go_simp
          refine hK.out (.pointer (some ⟨NB, i, none⟩)) _ W_ ?_ hI (Below.refl _ _) rfl
          simp only [frameOf, Act.put, List.setIfInBounds_toArray, List.set_cons_zero, List.set_cons_succ, Nat.zero_add, Nat.reduceAdd, h1, h2]
        · intro g_ W_ hI hd K hK
          simp only [frameOf, Act.put, List.setIfInBounds_toArray, List.set_cons_zero, List.set_cons_succ]
          have h3 : g_ 3 = .pointer (some ⟨NB, i, none⟩) := hd 3 (by kernel_rfl)
          rw [h3]
          have cn := (NM.out.below hI) i hi6
          go_simp
          refine hK.out (.string (doSym (17 + i))) _ W_ ?_ hI (Below.refl _ _) rfl
          simp only [frameOf, Act.put, List.setIfInBounds_toArray, List.set_cons_zero, List.set_cons_succ, Nat.zero_add, Nat.reduceAdd, h3]
        · intro g_ W_ hI hd K hK
          simp only [frameOf, Act.put, List.setIfInBounds_toArray, List.set_cons_zero, List.set_cons_succ]
          have e_ := XT.out.below hI
          have c0 := e_.c0
          have c1 := e_.c1
          have c2 := e_.c2
          have c3 := e_.c3
          go_simp
          refine hK.out (.agg #[.int .u8 t.k, .string t.s, .int .i64 t.n, .slice t.p t.kids.len t.c]) _ W_ ?_ hI (Below.refl _ _) rfl
          simp only [frameOf, Act.put, List.setIfInBounds_toArray, List.set_cons_zero, List.set_cons_succ, Nat.zero_add, Nat.reduceAdd]
        · intro g_ W_ hI hd K hK
          simp only [frameOf, Act.put, List.setIfInBounds_toArray, List.set_cons_zero, List.set_cons_succ]
          have h5 : g_ 5 = .agg #[.int .u8 t.k, .string t.s, .int .i64 t.n, .slice t.p t.kids.len t.c] := hd 5 (by kernel_rfl)
          rw [h5]
          go_simp
          obtain ⟨W6, hW6⟩ : ∃ W, W = W_.alloc (.cells #[.int .u8 t.k, .string t.s, .int .i64 t.n, .slice t.p t.kids.len t.c] 25) := ⟨_, rfl⟩
          rw [← hW6]
          obtain ⟨hB6, hat6⟩ := boxOne (b := t) hW6 ((ATt.out.below hI))
          refine hK.out (.slice (some ⟨W_.heap.size, 0, none⟩) 1 1) _ W6 ?_ (hI.trans (hB6.mono hI.size)) hB6 ⟨_, rfl, hat6⟩
          simp only [frameOf, Act.put, List.setIfInBounds_toArray, List.set_cons_zero, List.set_cons_succ, Nat.zero_add, Nat.reduceAdd, h5]
        · intro g_ W_ hI hd K hK
          simp only [frameOf, Act.put, List.setIfInBounds_toArray, List.set_cons_zero, List.set_cons_succ]
          have h4 : g_ 4 = .string (doSym (17 + i)) := hd 4 (by kernel_rfl)
          obtain ⟨R_, h6, ha_⟩ := hd 6 (by kernel_rfl)
          rw [h4, h6]
          go_simp
          refine (F_any (doSym (17 + i)) (.cons t.k t.s t.n t.p t.c t.kids .nil) (by simp only [Ts.size]; omega) (show Ts.ok _ from OKt.out) W_ _ 1 ha_).mono ?_
          rintro e w' ⟨us, q6, d6, rfl, hat6, htw6, hok6, hcl6, hpn6, hB⟩
          rw [if_neg (by simp [Ts.len])]
          refine hK.out (tv 4 (doSym (17 + i)) 0 q6 us.len d6) _ _ ?_ (hI.trans (hB.mono hI.size)) hB ⟨us, q6, d6, rfl, hat6.at, htw6, hok6⟩
          simp only [frameOf, Act.put, List.setIfInBounds_toArray, List.set_cons_zero, List.set_cons_succ, Nat.zero_add, Nat.reduceAdd, h4, h6]
        · intro g_ W_ hI hd K hK
          simp only [frameOf, Act.put, List.setIfInBounds_toArray, List.set_cons_zero, List.set_cons_succ]
          have h0 : g_ 0 = .pointer (some ⟨S, 0, none⟩) := hd 0 (by kernel_rfl)
          obtain ⟨us_, q_, d_, h7, ha_, ht_, ho_⟩ := hd 7 (by kernel_rfl)
          rw [h0, h7]
          obtain ⟨a_, hu_, hta_⟩ := twin_one (a := t) ht_
          have HU_ := Lib.hid hu_
          have HT_ := Lib.hid hta_
          have HO_ := Lib.hid ho_
          have HA_ := Lib.hid ha_
          clear hu_ hta_ ht_ ho_ ha_
          unfold tv at h7 ⊢
          go_simp
          refine (doK_any i hi6 S σ N (by omega) W_ (SB.out.below hI) a_ ⟨4, (doSym (17 + i)), 0, q_, d_, us_⟩ rfl rfl HU_.out HO_.out HA_.out (by rw [Ts.twin_size _ _ HT_.out.2.2.2]; omega)).mono ?_
          rintro e w' ⟨⟨p_, rfl⟩, hB⟩
          rw [show (wk σ a_).k = q from (wk_tw SB.out.ends HT_.out).1.trans QE.out.symm, show kindB (kl i) q = kb from KBE.out.symm]
          refine hK.out (.tuple #[p_, .bool kb, .int .i64 0]) _ _ ?_ (hI.trans (hB.mono hI.size)) hB ⟨p_, rfl⟩
          simp only [frameOf, Act.put, List.setIfInBounds_toArray, List.set_cons_zero, List.set_cons_succ, Nat.zero_add, Nat.reduceAdd, h0, h7]
        · intro g_ W_ hI hd K hK
          simp only [frameOf, Act.put, List.setIfInBounds_toArray, List.set_cons_zero, List.set_cons_succ]
          obtain ⟨p_, h8⟩ := hd 8 (by kernel_rfl)
          rw [h8]
          go_simp
          refine hK.out (.tuple #[p_, .bool kb, .int .i64 0]) _ W_ ?_ hI (Below.refl _ _) ⟨p_, rfl⟩
          simp only [frameOf, Act.put, List.setIfInBounds_toArray, List.set_cons_zero, List.set_cons_succ, Nat.zero_add, Nat.reduceAdd, h8]
        · intro g_ W_ hI hd K hK
          simp only [frameOf, Act.put, List.setIfInBounds_toArray, List.set_cons_zero, List.set_cons_succ]
          obtain ⟨p_, h9⟩ := hd 9 (by kernel_rfl)
          rw [h9]
          go_simp
          refine hK.out p_ _ W_ ?_ hI (Below.refl _ _) trivial
          simp only [frameOf, Act.put, List.setIfInBounds_toArray, List.set_cons_zero, List.set_cons_succ, Nat.zero_add, Nat.reduceAdd, h9]
        · intro g_ W_ hI hd K hK
          simp only [frameOf, Act.put, List.setIfInBounds_toArray, List.set_cons_zero, List.set_cons_succ]
          obtain ⟨p_, h9⟩ := hd 9 (by kernel_rfl)
          rw [h9]
          go_simp
          refine hK.out (.bool kb) _ W_ ?_ hI (Below.refl _ _) rfl
          simp only [frameOf, Act.put, List.setIfInBounds_toArray, List.set_cons_zero, List.set_cons_succ, Nat.zero_add, Nat.reduceAdd, h9]
        · intro g_ W_ hI hd K hK
          simp only [frameOf, Act.put, List.setIfInBounds_toArray, List.set_cons_zero, List.set_cons_succ]
          obtain ⟨p_, h9⟩ := hd 9 (by kernel_rfl)
          rw [h9]
          go_simp
          refine hK.out (.int .i64 0) _ W_ ?_ hI (Below.refl _ _) rfl
          simp only [frameOf, Act.put, List.setIfInBounds_toArray, List.set_cons_zero, List.set_cons_succ, Nat.zero_add, Nat.reduceAdd, h9]
        · intro g_ W_ hI hd K hK
          simp only [frameOf, Act.put, List.setIfInBounds_toArray, List.set_cons_zero, List.set_cons_succ]
          go_simp
          refine hK.out (g_ 10) _ W_ ?_ hI (Below.refl _ _) trivial
          simp only [frameOf, Act.put, List.setIfInBounds_toArray, List.set_cons_zero, List.set_cons_succ, Nat.zero_add, Nat.reduceAdd]
        · intro g_ W_ hI hd K hK
          simp only [frameOf, Act.put, List.setIfInBounds_toArray, List.set_cons_zero, List.set_cons_succ]
          have h11 : g_ 11 = .bool kb := hd 11 (by kernel_rfl)
          rw [h11]
          go_simp
          refine hK.out (.bool kb) _ W_ ?_ hI (Below.refl _ _) rfl
          simp only [frameOf, Act.put, List.setIfInBounds_toArray, List.set_cons_zero, List.set_cons_succ, Nat.zero_add, Nat.reduceAdd, h11]
        · intro g_ W_ hI hd K hK
          simp only [frameOf, Act.put, List.setIfInBounds_toArray, List.set_cons_zero, List.set_cons_succ]
          have h12 : g_ 12 = .int .i64 0 := hd 12 (by kernel_rfl)
          rw [h12]
          go_simp
          refine hK.out (.int .i64 0) _ W_ ?_ hI (Below.refl _ _) rfl
          simp only [frameOf, Act.put, List.setIfInBounds_toArray, List.set_cons_zero, List.set_cons_succ, Nat.zero_add, Nat.reduceAdd, h12]
      case done =>
        intro f_ W_ hI hd
        have ha_ : f_ 14 = .bool kb := hd 14 (by decide)
        have hb_ : f_ 15 = .int .i64 0 := hd 15 (by decide)
        simp only [frameOf, Act.put, List.setIfInBounds_toArray, List.set_cons_zero, List.set_cons_succ, Nat.zero_add, Nat.reduceAdd, ha_, hb_]
        clear hd ha_ hb_
        have SX1 := Lib.hid (SX.out.below hI)
        have B1 := Lib.hid (BB.out.trans (hI.mono BB.out.size))
        have kc := SX1.out.1 i hi6
        have kf := SX1.out.2 i
        clear hI
        go_wp2
        go_roundw
        case rel =>
          refine ⟨i + 1, by omega, by go_num, Lib.hid ?_, Lib.hid (B1.out.setCell (p := ⟨W6.heap.size, i, none⟩) (Nat.le_refl _) _)⟩
          rw [KBE.out]
          exact SX1.out.put hi6
        case measure => simp [intOf]; omega
    · obtain rfl : i = 6 := by omega
      have hcase : q = 1 ∨ q = 2 ∨ q = 3 ∨ q = 4 := by rw [QE.out]; exact K14.out
      rw [show ((6 : Nat) : Int) = 6 from rfl]
      clear BB
      rcases hcase with hq | hq | hq | hq
      · subst hq
        have k0 : wr.cell? ⟨W6.heap.size, 0, none⟩ = some (.bool true) := by
          have h := SX.out.1 0 (by omega)
          rw [if_pos (by omega), show kindB (kl 0) 1 = true by decide] at h
          exact h
        have k1 : wr.cell? ⟨W6.heap.size, 1, none⟩ = some (.bool false) := by
          have h := SX.out.1 1 (by omega)
          rw [if_pos (by omega), show kindB (kl 1) 1 = false by decide] at h
          exact h
        have k2 : wr.cell? ⟨W6.heap.size, 2, none⟩ = some (.bool false) := by
          have h := SX.out.1 2 (by omega)
          rw [if_pos (by omega), show kindB (kl 2) 1 = false by decide] at h
          exact h
        have k3 : wr.cell? ⟨W6.heap.size, 3, none⟩ = some (.bool false) := by
          have h := SX.out.1 3 (by omega)
          rw [if_pos (by omega), show kindB (kl 3) 1 = false by decide] at h
          exact h
        have k4 : wr.cell? ⟨W6.heap.size, 4, none⟩ = some (.bool false) := by
          have h := SX.out.1 4 (by omega)
          rw [if_pos (by omega), show kindB (kl 4) 1 = false by decide] at h
          exact h
        have k5 : wr.cell? ⟨W6.heap.size, 5, none⟩ = some (.bool false) := by
          have h := SX.out.1 5 (by omega)
          rw [if_pos (by omega), show kindB (kl 5) 1 = false by decide] at h
          exact h
        have c0 := XT.out.c0
        have c1 := XT.out.c1
        have c2 := XT.out.c2
        have c3 := XT.out.c3
        go_wp2_with fail
        refine (walk_any S σ N wr SB.out t OKt.out ATt.out (by omega)).mono ?_
        rintro e w9 ⟨v, rfl, hv, hI⟩
        obtain ⟨us, q1, d1, rfl, -, -, -, -, -⟩ := hv
        unfold tv
        rw [show (wk σ t).k = 1 from QE.out.symm]
        replace k0 := (hI.cell (p := ⟨W6.heap.size, 0, none⟩) SX.out.lt).trans k0
        replace k1 := (hI.cell (p := ⟨W6.heap.size, 1, none⟩) SX.out.lt).trans k1
        replace k2 := (hI.cell (p := ⟨W6.heap.size, 2, none⟩) SX.out.lt).trans k2
        replace k3 := (hI.cell (p := ⟨W6.heap.size, 3, none⟩) SX.out.lt).trans k3
        replace k4 := (hI.cell (p := ⟨W6.heap.size, 4, none⟩) SX.out.lt).trans k4
        replace k5 := (hI.cell (p := ⟨W6.heap.size, 5, none⟩) SX.out.lt).trans k5
        replace BW := Lib.hid (BW.out.trans (hI.mono BW.out.size))
        have hsx := Nat.lt_of_lt_of_le SX.out.lt hI.size
        clear hI c0 c1 c2 c3
        go_upto_region 16 with fail
        obtain ⟨W10, hW10⟩ : ∃ W, W = w9.alloc (.cells #[.int .u8 1, .string (wk σ t).s, .int .i64 (wk σ t).n, .slice q1 us.len d1] 25) := ⟨_, rfl⟩
        rw [← hW10]
        have hI : Below w9.heap.size w9 W10 := by rw [hW10]; exact (Below.refl _ _).alloc (Nat.le_refl _) _
        have m0 : W10.cell? ⟨w9.heap.size, 0, none⟩ = some (.int .u8 1) := by rw [hW10]; simp
        replace k0 := (hI.cell (p := ⟨W6.heap.size, 0, none⟩) hsx).trans k0
        replace k1 := (hI.cell (p := ⟨W6.heap.size, 1, none⟩) hsx).trans k1
        replace k2 := (hI.cell (p := ⟨W6.heap.size, 2, none⟩) hsx).trans k2
        replace k3 := (hI.cell (p := ⟨W6.heap.size, 3, none⟩) hsx).trans k3
        replace k4 := (hI.cell (p := ⟨W6.heap.size, 4, none⟩) hsx).trans k4
        replace k5 := (hI.cell (p := ⟨W6.heap.size, 5, none⟩) hsx).trans k5
        replace BW := Lib.hid (BW.out.trans (hI.mono BW.out.size))
        clear hI hW10 hsx
        go_wp2_with fail
        refine (wakes14_any _).mono ?_
        rintro e we ⟨rfl, hB⟩
        replace BW := Lib.hid (BW.out.trans (hB.mono BW.out.size))
        clear hB
        go_wp2
        go_ret
        exact ⟨rfl, BW.out⟩
      · subst hq
        have k0 : wr.cell? ⟨W6.heap.size, 0, none⟩ = some (.bool false) := by
          have h := SX.out.1 0 (by omega)
          rw [if_pos (by omega), show kindB (kl 0) 2 = false by decide] at h
          exact h
        have k1 : wr.cell? ⟨W6.heap.size, 1, none⟩ = some (.bool true) := by
          have h := SX.out.1 1 (by omega)
          rw [if_pos (by omega), show kindB (kl 1) 2 = true by decide] at h
          exact h
        have k2 : wr.cell? ⟨W6.heap.size, 2, none⟩ = some (.bool false) := by
          have h := SX.out.1 2 (by omega)
          rw [if_pos (by omega), show kindB (kl 2) 2 = false by decide] at h
          exact h
        have k3 : wr.cell? ⟨W6.heap.size, 3, none⟩ = some (.bool true) := by
          have h := SX.out.1 3 (by omega)
          rw [if_pos (by omega), show kindB (kl 3) 2 = true by decide] at h
          exact h
        have k4 : wr.cell? ⟨W6.heap.size, 4, none⟩ = some (.bool true) := by
          have h := SX.out.1 4 (by omega)
          rw [if_pos (by omega), show kindB (kl 4) 2 = true by decide] at h
          exact h
        have k5 : wr.cell? ⟨W6.heap.size, 5, none⟩ = some (.bool false) := by
          have h := SX.out.1 5 (by omega)
          rw [if_pos (by omega), show kindB (kl 5) 2 = false by decide] at h
          exact h
        have c0 := XT.out.c0
        have c1 := XT.out.c1
        have c2 := XT.out.c2
        have c3 := XT.out.c3
        go_wp2_with fail
        refine (walk_any S σ N wr SB.out t OKt.out ATt.out (by omega)).mono ?_
        rintro e w9 ⟨v, rfl, hv, hI⟩
        obtain ⟨us, q1, d1, rfl, -, -, -, -, -⟩ := hv
        unfold tv
        rw [show (wk σ t).k = 2 from QE.out.symm]
        replace k0 := (hI.cell (p := ⟨W6.heap.size, 0, none⟩) SX.out.lt).trans k0
        replace k1 := (hI.cell (p := ⟨W6.heap.size, 1, none⟩) SX.out.lt).trans k1
        replace k2 := (hI.cell (p := ⟨W6.heap.size, 2, none⟩) SX.out.lt).trans k2
        replace k3 := (hI.cell (p := ⟨W6.heap.size, 3, none⟩) SX.out.lt).trans k3
        replace k4 := (hI.cell (p := ⟨W6.heap.size, 4, none⟩) SX.out.lt).trans k4
        replace k5 := (hI.cell (p := ⟨W6.heap.size, 5, none⟩) SX.out.lt).trans k5
        replace BW := Lib.hid (BW.out.trans (hI.mono BW.out.size))
        have hsx := Nat.lt_of_lt_of_le SX.out.lt hI.size
        clear hI c0 c1 c2 c3
        go_upto_region 16 with fail
        obtain ⟨W10, hW10⟩ : ∃ W, W = w9.alloc (.cells #[.int .u8 2, .string (wk σ t).s, .int .i64 (wk σ t).n, .slice q1 us.len d1] 25) := ⟨_, rfl⟩
        rw [← hW10]
        have hI : Below w9.heap.size w9 W10 := by rw [hW10]; exact (Below.refl _ _).alloc (Nat.le_refl _) _
        have m0 : W10.cell? ⟨w9.heap.size, 0, none⟩ = some (.int .u8 2) := by rw [hW10]; simp
        replace k0 := (hI.cell (p := ⟨W6.heap.size, 0, none⟩) hsx).trans k0
        replace k1 := (hI.cell (p := ⟨W6.heap.size, 1, none⟩) hsx).trans k1
        replace k2 := (hI.cell (p := ⟨W6.heap.size, 2, none⟩) hsx).trans k2
        replace k3 := (hI.cell (p := ⟨W6.heap.size, 3, none⟩) hsx).trans k3
        replace k4 := (hI.cell (p := ⟨W6.heap.size, 4, none⟩) hsx).trans k4
        replace k5 := (hI.cell (p := ⟨W6.heap.size, 5, none⟩) hsx).trans k5
        replace BW := Lib.hid (BW.out.trans (hI.mono BW.out.size))
        clear hI hW10 hsx
        go_wp2_with fail
        refine (wakes14_any _).mono ?_
        rintro e we ⟨rfl, hB⟩
        replace BW := Lib.hid (BW.out.trans (hB.mono BW.out.size))
        clear hB
        go_wp2
        go_ret
        exact ⟨rfl, BW.out⟩
      · subst hq
        have k0 : wr.cell? ⟨W6.heap.size, 0, none⟩ = some (.bool false) := by
          have h := SX.out.1 0 (by omega)
          rw [if_pos (by omega), show kindB (kl 0) 3 = false by decide] at h
          exact h
        have k1 : wr.cell? ⟨W6.heap.size, 1, none⟩ = some (.bool true) := by
          have h := SX.out.1 1 (by omega)
          rw [if_pos (by omega), show kindB (kl 1) 3 = true by decide] at h
          exact h
        have k2 : wr.cell? ⟨W6.heap.size, 2, none⟩ = some (.bool true) := by
          have h := SX.out.1 2 (by omega)
          rw [if_pos (by omega), show kindB (kl 2) 3 = true by decide] at h
          exact h
        have k3 : wr.cell? ⟨W6.heap.size, 3, none⟩ = some (.bool false) := by
          have h := SX.out.1 3 (by omega)
          rw [if_pos (by omega), show kindB (kl 3) 3 = false by decide] at h
          exact h
        have k4 : wr.cell? ⟨W6.heap.size, 4, none⟩ = some (.bool true) := by
          have h := SX.out.1 4 (by omega)
          rw [if_pos (by omega), show kindB (kl 4) 3 = true by decide] at h
          exact h
        have k5 : wr.cell? ⟨W6.heap.size, 5, none⟩ = some (.bool false) := by
          have h := SX.out.1 5 (by omega)
          rw [if_pos (by omega), show kindB (kl 5) 3 = false by decide] at h
          exact h
        have c0 := XT.out.c0
        have c1 := XT.out.c1
        have c2 := XT.out.c2
        have c3 := XT.out.c3
        go_wp2_with fail
        refine (walk_any S σ N wr SB.out t OKt.out ATt.out (by omega)).mono ?_
        rintro e w9 ⟨v, rfl, hv, hI⟩
        obtain ⟨us, q1, d1, rfl, -, -, -, -, -⟩ := hv
        unfold tv
        rw [show (wk σ t).k = 3 from QE.out.symm]
        replace k0 := (hI.cell (p := ⟨W6.heap.size, 0, none⟩) SX.out.lt).trans k0
        replace k1 := (hI.cell (p := ⟨W6.heap.size, 1, none⟩) SX.out.lt).trans k1
        replace k2 := (hI.cell (p := ⟨W6.heap.size, 2, none⟩) SX.out.lt).trans k2
        replace k3 := (hI.cell (p := ⟨W6.heap.size, 3, none⟩) SX.out.lt).trans k3
        replace k4 := (hI.cell (p := ⟨W6.heap.size, 4, none⟩) SX.out.lt).trans k4
        replace k5 := (hI.cell (p := ⟨W6.heap.size, 5, none⟩) SX.out.lt).trans k5
        replace BW := Lib.hid (BW.out.trans (hI.mono BW.out.size))
        have hsx := Nat.lt_of_lt_of_le SX.out.lt hI.size
        clear hI c0 c1 c2 c3
        go_upto_region 16 with fail
        obtain ⟨W10, hW10⟩ : ∃ W, W = w9.alloc (.cells #[.int .u8 3, .string (wk σ t).s, .int .i64 (wk σ t).n, .slice q1 us.len d1] 25) := ⟨_, rfl⟩
        rw [← hW10]
        have hI : Below w9.heap.size w9 W10 := by rw [hW10]; exact (Below.refl _ _).alloc (Nat.le_refl _) _
        have m0 : W10.cell? ⟨w9.heap.size, 0, none⟩ = some (.int .u8 3) := by rw [hW10]; simp
        replace k0 := (hI.cell (p := ⟨W6.heap.size, 0, none⟩) hsx).trans k0
        replace k1 := (hI.cell (p := ⟨W6.heap.size, 1, none⟩) hsx).trans k1
        replace k2 := (hI.cell (p := ⟨W6.heap.size, 2, none⟩) hsx).trans k2
        replace k3 := (hI.cell (p := ⟨W6.heap.size, 3, none⟩) hsx).trans k3
        replace k4 := (hI.cell (p := ⟨W6.heap.size, 4, none⟩) hsx).trans k4
        replace k5 := (hI.cell (p := ⟨W6.heap.size, 5, none⟩) hsx).trans k5
        replace BW := Lib.hid (BW.out.trans (hI.mono BW.out.size))
        clear hI hW10 hsx
        go_wp2_with fail
        refine (wakes14_any _).mono ?_
        rintro e we ⟨rfl, hB⟩
        replace BW := Lib.hid (BW.out.trans (hB.mono BW.out.size))
        clear hB
        go_wp2
        go_ret
        exact ⟨rfl, BW.out⟩
      · subst hq
        have k0 : wr.cell? ⟨W6.heap.size, 0, none⟩ = some (.bool false) := by
          have h := SX.out.1 0 (by omega)
          rw [if_pos (by omega), show kindB (kl 0) 4 = false by decide] at h
          exact h
        have k1 : wr.cell? ⟨W6.heap.size, 1, none⟩ = some (.bool true) := by
          have h := SX.out.1 1 (by omega)
          rw [if_pos (by omega), show kindB (kl 1) 4 = true by decide] at h
          exact h
        have k2 : wr.cell? ⟨W6.heap.size, 2, none⟩ = some (.bool false) := by
          have h := SX.out.1 2 (by omega)
          rw [if_pos (by omega), show kindB (kl 2) 4 = false by decide] at h
          exact h
        have k3 : wr.cell? ⟨W6.heap.size, 3, none⟩ = some (.bool false) := by
          have h := SX.out.1 3 (by omega)
          rw [if_pos (by omega), show kindB (kl 3) 4 = false by decide] at h
          exact h
        have k4 : wr.cell? ⟨W6.heap.size, 4, none⟩ = some (.bool false) := by
          have h := SX.out.1 4 (by omega)
          rw [if_pos (by omega), show kindB (kl 4) 4 = false by decide] at h
          exact h
        have k5 : wr.cell? ⟨W6.heap.size, 5, none⟩ = some (.bool true) := by
          have h := SX.out.1 5 (by omega)
          rw [if_pos (by omega), show kindB (kl 5) 4 = true by decide] at h
          exact h
        have c0 := XT.out.c0
        have c1 := XT.out.c1
        have c2 := XT.out.c2
        have c3 := XT.out.c3
        go_wp2_with fail
        refine (walk_any S σ N wr SB.out t OKt.out ATt.out (by omega)).mono ?_
        rintro e w9 ⟨v, rfl, hv, hI⟩
        obtain ⟨us, q1, d1, rfl, -, -, -, -, -⟩ := hv
        unfold tv
        rw [show (wk σ t).k = 4 from QE.out.symm]
        replace k0 := (hI.cell (p := ⟨W6.heap.size, 0, none⟩) SX.out.lt).trans k0
        replace k1 := (hI.cell (p := ⟨W6.heap.size, 1, none⟩) SX.out.lt).trans k1
        replace k2 := (hI.cell (p := ⟨W6.heap.size, 2, none⟩) SX.out.lt).trans k2
        replace k3 := (hI.cell (p := ⟨W6.heap.size, 3, none⟩) SX.out.lt).trans k3
        replace k4 := (hI.cell (p := ⟨W6.heap.size, 4, none⟩) SX.out.lt).trans k4
        replace k5 := (hI.cell (p := ⟨W6.heap.size, 5, none⟩) SX.out.lt).trans k5
        replace BW := Lib.hid (BW.out.trans (hI.mono BW.out.size))
        have hsx := Nat.lt_of_lt_of_le SX.out.lt hI.size
        clear hI c0 c1 c2 c3
        go_upto_region 16 with fail
        obtain ⟨W10, hW10⟩ : ∃ W, W = w9.alloc (.cells #[.int .u8 4, .string (wk σ t).s, .int .i64 (wk σ t).n, .slice q1 us.len d1] 25) := ⟨_, rfl⟩
        rw [← hW10]
        have hI : Below w9.heap.size w9 W10 := by rw [hW10]; exact (Below.refl _ _).alloc (Nat.le_refl _) _
        have m0 : W10.cell? ⟨w9.heap.size, 0, none⟩ = some (.int .u8 4) := by rw [hW10]; simp
        replace k0 := (hI.cell (p := ⟨W6.heap.size, 0, none⟩) hsx).trans k0
        replace k1 := (hI.cell (p := ⟨W6.heap.size, 1, none⟩) hsx).trans k1
        replace k2 := (hI.cell (p := ⟨W6.heap.size, 2, none⟩) hsx).trans k2
        replace k3 := (hI.cell (p := ⟨W6.heap.size, 3, none⟩) hsx).trans k3
        replace k4 := (hI.cell (p := ⟨W6.heap.size, 4, none⟩) hsx).trans k4
        replace k5 := (hI.cell (p := ⟨W6.heap.size, 5, none⟩) hsx).trans k5
        replace BW := Lib.hid (BW.out.trans (hI.mono BW.out.size))
        clear hI hW10 hsx
        go_wp2_with fail
        refine (wakes14_any _).mono ?_
        rintro e we ⟨rfl, hB⟩
        replace BW := Lib.hid (BW.out.trans (hB.mono BW.out.size))
        clear hB
        go_wp2
        go_ret
        exact ⟨rfl, BW.out⟩

theorem builtinKinds_w (w : World) (lp : Option Addr) (l : List (Int × Nd)) (lc : Nat) (k : Int) (s : ByteArray) (n : Int) (p : Option Addr) (c : Nat) (ts : Ts)
    (hat : BsAt w lp l) (hbok : (bsTs l).ok) (hl : l.length ≤ 9223372036854775807) (hvr : ∀ e ∈ l, -9223372036854775808 ≤ e.1 ∧ e.1 ≤ 9223372036854775807) (hok : Ts.ok (.cons k s n p c ts .nil)) (hta : Ts.At w p ts) :
    Calls Tryz.prog 3 #[.slice lp l.length lc, tv k s n p ts.len c] w fun e w' => e = .returned (.bool true) ∧ Below w.heap.size w w' :=
  builtinKinds_true l hl hbok hvr ⟨k, s, n, p, c, ts⟩ w lp lc hat hok hta

end Go.Proofs.YtnmhnaanpjlniaaGreat
