import Derived.Test.YtflomdnjabgnaaaDh
import Derived.Test.YtflomdnjabgnaaaCr
import Derived.Test.YtflomdnjabgnaaaTj
/-
  The law UnifyTurns, walked. (Written by gen_cv.py.)
-/
namespace Go.Proofs.Ytflomdnjabgnaaa
open Go.RowKit

def okU : Out → Bool
  | .ok _ _ _ => true
  | _ => false
def gU : Out → Int
  | .full => 31
  | _ => 0
theorem okU_ok (ρ : Sb) (c r : Nat) : okU (.ok ρ c r) = true := rfl
theorem gU_ok (ρ : Sb) (c r : Nat) : gU (.ok ρ c r) = 0 := rfl
/-- the pointer that is told -/
def PU (o : Out) (u : Value) (W : World) : Prop := match o with
  | .ok ρ c _ => ∃ S2 σp, u = .pointer (some ⟨S2, 0, none⟩) ∧ STw σp ρ ∧ SubAt S2 σp c W
  | _ => u = .pointer none

theorem PU.below {o : Out} {u : Value} {W W' : World} (h : PU o u W) (hB : Below W.heap.size W W') : PU o u W' := by
  cases o with
  | full => exact h
  | no => exact h
  | ok ρ c r => obtain ⟨S2, σp, h1, h2, h3⟩ := h; exact ⟨S2, σp, h1, h2, h3.below hB⟩

theorem LRes.pu {σ : Sb} {n : Nat} {w w' : World} {L : List (Nd × Nd)} {e : Ending} (h : LRes σ n w L e w') : ∃ p, e = .returned (.tuple #[p, .bool (okU (un 4096 n σ L)), .int .i64 (gU (un 4096 n σ L))]) ∧ PU (un 4096 n σ L) p w' := by
  obtain ⟨_, h2⟩ := h
  cases hE : un 4096 n σ L with
  | full => rw [hE] at h2; exact ⟨_, h2, rfl⟩
  | no => rw [hE] at h2; exact ⟨_, h2, rfl⟩
  | ok ρ c r =>
    rw [hE] at h2
    obtain ⟨S2, σp, g1, g2, g3, g4, g5⟩ := h2
    exact ⟨_, g1, S2, σp, rfl, g3, g4⟩

theorem un_count : ∀ (r : Nat) {c : Nat} {σ : Sb} {l : List (Nd × Nd)} {ρ : Sb} {c' r' : Nat}, un r c σ l = .ok ρ c' r' → c' ≤ c + r := by
  intro r
  induction r using Nat.strongRecOn with
  | ind r ih =>
  intro c σ l ρ c' r' h
  cases l with
  | nil => rw [un_nil] at h; cases h; omega
  | cons p l =>
    obtain ⟨a, b⟩ := p
    cases r with
    | zero => rw [un_zero] at h; cases h
    | succ r =>
      cases e : one r c σ a b with
      | full => rw [un_full e] at h; cases h
      | no => rw [un_no e] at h; cases h
      | ok σ1 c1 r1 m =>
        rw [un_ok e] at h
        have hr := one_le e
        have hc := one_count e
        have := ih r1 (by omega) h
        omega

theorem headB_var {k : Int} {s : ByteArray} {n : Int} {len : Nat} (h : headB k s n len = true) (hk : (k == 1) = true) : 0 ≤ n ∧ len = 0 := by
  have e : k = 1 := by simpa using hk
  subst e
  unfold headB at h
  simp at h
  omega

theorem shape_good : ∀ {ts : Ts}, shapeL ts = true → goodT ts
  | .nil, _ => trivial
  | .cons k s n p c kids rest, h => by
    simp only [shapeL, Bool.and_eq_true] at h
    obtain ⟨⟨h1, h2⟩, h3⟩ := h
    refine ⟨fun hk => ?_, shape_good h1, shape_good h3⟩
    obtain ⟨g1, g2⟩ := headB_var h2 hk
    exact ⟨g1, Ts.len_zero g2⟩
theorem good_nd {a : Nd} (h : goodB 64 a.k a.s a.n a.kids = true) : goodN a := by
  have h1 : shapeL a.kids = true ∧ headB a.k a.s a.n a.kids.len = true := by
    unfold goodB at h
    simp only [Bool.and_eq_true] at h
    exact h.2
  refine ⟨fun hk => ?_, shape_good h1.1⟩
  obtain ⟨g1, g2⟩ := headB_var h1.2 hk
  exact ⟨g1, Ts.len_zero g2⟩

set_option maxRecDepth 100000 in
set_option maxHeartbeats 16000000 in
theorem unifyTurns_true (a b : Nd) (w : World) (hoka : Ts.ok (.cons a.k a.s a.n a.p a.c a.kids .nil)) (hata : Ts.At w a.p a.kids) (hokb : Ts.ok (.cons b.k b.s b.n b.p b.c b.kids .nil)) (hatb : Ts.At w b.p b.kids) :
    Calls Try.prog 9 #[.agg #[.int .u8 a.k, .string a.s, .int .i64 a.n, .slice a.p a.kids.len a.c], .agg #[.int .u8 b.k, .string b.s, .int .i64 b.n, .slice b.p b.kids.len b.c]] w fun e w' => e = .returned (.bool true) ∧ Below w.heap.size w w' := by
  have OKa := Lib.hid (show a.ok from hoka)
  have OKb := Lib.hid (show b.ok from hokb)
  have ATa := Lib.hid hata
  have ATb := Lib.hid hatb
  clear hoka hokb hata hatb
  obtain ⟨o1, ho1⟩ : ∃ o, o = un 4096 0 Sb.none [(a, b)] := ⟨_, rfl⟩
  obtain ⟨o2, ho2⟩ : ∃ o, o = un 4096 0 Sb.none [(b, a)] := ⟨_, rfl⟩
  obtain ⟨o3, ho3⟩ : ∃ o, o = un 4096 0 Sb.none [(a, a)] := ⟨_, rfl⟩
  have E1 := Lib.hid ho1
  have E2 := Lib.hid ho2
  have E3 := Lib.hid ho3
  clear ho1 ho2 ho3
  go_enter Try.func9, Try.ntmps9
  go_wp2_with fail
  obtain ⟨W3, hW3⟩ : ∃ W3, W3 = ((w.alloc (.cells #[.int .u8 a.k, .string a.s, .int .i64 a.n, .slice a.p a.kids.len a.c] 24)).alloc (.cells #[.int .u8 b.k, .string b.s, .int .i64 b.n, .slice b.p b.kids.len b.c] 24)).alloc (.cells #[.int .u8 a.k, .string a.s, .int .i64 a.n, .slice a.p a.kids.len a.c, .int .u8 b.k, .string b.s, .int .i64 b.n, .slice b.p b.kids.len b.c] 24) := ⟨_, rfl⟩
  rw [← hW3]
  obtain ⟨hba, hbb, hB, hat⟩ := pairBoxes hW3 ATa.out ATb.out
  have XT := Lib.hid hba
  have XO := Lib.hid hbb
  have BW := Lib.hid hB
  clear hba hbb hB hW3
  obtain ⟨g, hg⟩ : ∃ g, g = decide (1000 < manyP (.cons a.k a.s a.n a.p a.c a.kids (.cons b.k b.s b.n b.p b.c b.kids .nil)) 0) := ⟨_, rfl⟩
  refine (great_is (.cons a.k a.s a.n a.p a.c a.kids (.cons b.k b.s b.n b.p b.c b.kids .nil)) ⟨OKa.out.1, OKa.out.2.1, OKa.out.2.2.1, OKa.out.2.2.2.1, OKa.out.2.2.2.2.1, OKa.out.2.2.2.2.2.1, OKb.out⟩ g hg.symm W3 _ 2 hat (by simp [Ts.len])).mono ?_
  rintro e w2 ⟨rfl, hI⟩
  have GG := Lib.hid hg
  clear hg hat
  replace XT := Lib.hid (XT.out.below hI)
  replace XO := Lib.hid (XO.out.below hI)
  replace BW := Lib.hid (BW.out.trans (hI.mono BW.out.size))
  clear hI
  cases g with
  | true =>
    go_wp2_with fail
    refine (wakes4_any _).mono ?_
    rintro e we ⟨rfl, hB⟩
    replace BW := Lib.hid (BW.out.trans (hB.mono BW.out.size))
    clear hB
    go_wp2
    go_ret
    exact ⟨rfl, BW.out⟩
  | false =>
  have hsz0 := small_of_many GG.out.symm
  simp only [Ts.size] at hsz0
  have hsa : a.kids.size ≤ 5000 := by omega
  have hsb : b.kids.size ≤ 5000 := by omega
  have hsa2 : a.kids.size ≤ 1000 := by omega
  have c0 := XT.out.c0
  have c1 := XT.out.c1
  have c2 := XT.out.c2
  have c3 := XT.out.c3
  go_wp2_with fail
  refine (rGood_any a.kids (by omega) OKa.out.2.2.2.2.2.1 a.k a.s a.n w2 a.p a.c OKa.out.2.1 (ATa.out.below BW.out)).mono ?_
  rintro e w3 ⟨rfl, hI⟩
  replace XT := Lib.hid (XT.out.below hI)
  replace XO := Lib.hid (XO.out.below hI)
  replace BW := Lib.hid (BW.out.trans (hI.mono BW.out.size))
  clear hI c0 c1 c2 c3
  obtain ⟨ga, hga⟩ : ∃ g, g = goodB 64 a.k a.s a.n a.kids := ⟨_, rfl⟩
  rw [← hga]
  have GA := Lib.hid hga
  clear hga
  cases ga with
  | false =>
    go_wp2_with fail
    refine (wakes4_any _).mono ?_
    rintro e we ⟨rfl, hB⟩
    replace BW := Lib.hid (BW.out.trans (hB.mono BW.out.size))
    clear hB
    go_wp2
    go_ret
    exact ⟨rfl, BW.out⟩
  | true =>
  have c0 := XO.out.c0
  have c1 := XO.out.c1
  have c2 := XO.out.c2
  have c3 := XO.out.c3
  go_wp2_with fail
  refine (rGood_any b.kids (by omega) OKb.out.2.2.2.2.2.1 b.k b.s b.n w3 b.p b.c OKb.out.2.1 (ATb.out.below BW.out)).mono ?_
  rintro e w4 ⟨rfl, hI⟩
  replace XT := Lib.hid (XT.out.below hI)
  replace XO := Lib.hid (XO.out.below hI)
  replace BW := Lib.hid (BW.out.trans (hI.mono BW.out.size))
  clear hI c0 c1 c2 c3
  obtain ⟨gb, hgb⟩ : ∃ g, g = goodB 64 b.k b.s b.n b.kids := ⟨_, rfl⟩
  rw [← hgb]
  have GB := Lib.hid hgb
  clear hgb
  cases gb with
  | false =>
    go_wp2_with fail
    refine (wakes4_any _).mono ?_
    rintro e we ⟨rfl, hB⟩
    replace BW := Lib.hid (BW.out.trans (hB.mono BW.out.size))
    clear hB
    go_wp2
    go_ret
    exact ⟨rfl, BW.out⟩
  | true =>
  have NA := Lib.hid (good_nd GA.out.symm)
  have NB := Lib.hid (good_nd GB.out.symm)
  go_upto_region 3 with fail
  obtain ⟨W0, hW0⟩ : ∃ W0, W0 = w4 := ⟨_, rfl⟩
  rw [← hW0] at XT XO BW ⊢
  clear hW0
  refine region_by_facts (fun W_ => Below W0.heap.size W0 W_) [fun u W => ∃ S, u = .pointer (some ⟨S, 0, none⟩) ∧ SubAt S Sb.none 0 W, fun u _ => u = .agg #[.int .u8 a.k, .string a.s, .int .i64 a.n, .slice a.p a.kids.len a.c], fun u _ => u = .agg #[.int .u8 b.k, .string b.s, .int .i64 b.n, .slice b.p b.kids.len b.c], fun u W => ∃ p, u = .tuple #[p, .bool (okU o1), .int .i64 (gU o1)] ∧ PU o1 p W, fun u W => ∃ p, u = .tuple #[p, .bool (okU o1), .int .i64 (gU o1)] ∧ PU o1 p W, PU o1, fun u _ => u = .bool (okU o1), fun u _ => u = .int .i64 (gU o1), PU o1, fun u _ => u = .bool (okU o1), fun u _ => u = .int .i64 (gU o1)]
    ⟨(by rintro v_ w_ x_ ⟨S, h1, h2⟩ hB; exact ⟨S, h1, h2.below hB⟩), .eq _, .eq _, (by rintro v_ w_ x_ ⟨p, h1, h2⟩ hB; exact ⟨p, h1, h2.below hB⟩), (by rintro v_ w_ x_ ⟨p, h1, h2⟩ hB; exact ⟨p, h1, h2.below hB⟩), (fun v_ w_ x_ h hB => PU.below h hB), .eq _, .eq _, (fun v_ w_ x_ h hB => PU.below h hB), .eq _, .eq _, trivial⟩ (by kernel_rfl) (by kernel_rfl) (by kernel_rfl) ?h0a ?stepsa ?donea
  case h0a => exact (Below.refl _ _).drew
  case stepsa =>
    refine ⟨?_, ?_, ?_, ?_, ?_, ?_, ?_, ?_, ?_, ?_, ?_, trivial⟩
    · intro g_ W_ hI hd K hK
      simp only [frameOf, Act.put, List.setIfInBounds_toArray, List.set_cons_zero, List.set_cons_succ]
      go_simp
      refine (new_any W_).mono ?_
      rintro e w' ⟨rfl, hS, hB⟩
      refine hK.out (.pointer (some ⟨W_.heap.size, 0, none⟩)) _ _ ?_ (hI.trans (hB.mono hI.size)) hB ⟨_, rfl, hS⟩
      simp only [frameOf, Act.put, List.setIfInBounds_toArray, List.set_cons_zero, List.set_cons_succ, Nat.zero_add, Nat.reduceAdd]
    · intro g_ W_ hI hd K hK
      simp only [frameOf, Act.put, List.setIfInBounds_toArray, List.set_cons_zero, List.set_cons_succ]
      have XW := XT.out.below hI
      have c0 := XW.c0
      have c1 := XW.c1
      have c2 := XW.c2
      have c3 := XW.c3
      go_simp
      refine hK.out (.agg #[.int .u8 a.k, .string a.s, .int .i64 a.n, .slice a.p a.kids.len a.c]) _ W_ ?_ hI (Below.refl _ _) rfl
      simp only [frameOf, Act.put, List.setIfInBounds_toArray, List.set_cons_zero, List.set_cons_succ, Nat.zero_add, Nat.reduceAdd]
    · intro g_ W_ hI hd K hK
      simp only [frameOf, Act.put, List.setIfInBounds_toArray, List.set_cons_zero, List.set_cons_succ]
      have XW := XO.out.below hI
      have c0 := XW.c0
      have c1 := XW.c1
      have c2 := XW.c2
      have c3 := XW.c3
      go_simp
      refine hK.out (.agg #[.int .u8 b.k, .string b.s, .int .i64 b.n, .slice b.p b.kids.len b.c]) _ W_ ?_ hI (Below.refl _ _) rfl
      simp only [frameOf, Act.put, List.setIfInBounds_toArray, List.set_cons_zero, List.set_cons_succ, Nat.zero_add, Nat.reduceAdd]
    · intro g_ W_ hI hd K hK
      simp only [frameOf, Act.put, List.setIfInBounds_toArray, List.set_cons_zero, List.set_cons_succ]
      obtain ⟨S_, h0, hS_⟩ := hd 0 (by kernel_rfl)
      have h1 : g_ 1 = .agg #[.int .u8 a.k, .string a.s, .int .i64 a.n, .slice a.p a.kids.len a.c] := hd 1 (by kernel_rfl)
      have h2 : g_ 2 = .agg #[.int .u8 b.k, .string b.s, .int .i64 b.n, .slice b.p b.kids.len b.c] := hd 2 (by kernel_rfl)
      rw [h0, h1, h2]
      go_simp
      refine (Unify_any S_ Sb.none 0 W_ hS_ (by omega) a b OKa.out OKb.out (ATa.out.below (BW.out.trans (hI.mono BW.out.size))) (ATb.out.below (BW.out.trans (hI.mono BW.out.size))) hsa hsb).mono ?_
      intro e w' hL
      obtain ⟨p_, he, hp_⟩ := hL.pu
      rw [← E1.out] at he hp_
      subst he
      have hB := hL.1
      refine hK.out (.tuple #[p_, .bool (okU o1), .int .i64 (gU o1)]) _ _ ?_ (hI.trans (hB.mono hI.size)) hB ⟨p_, rfl, hp_⟩
      simp only [frameOf, Act.put, List.setIfInBounds_toArray, List.set_cons_zero, List.set_cons_succ, Nat.zero_add, Nat.reduceAdd, h0, h1, h2]
    · intro g_ W_ hI hd K hK
      simp only [frameOf, Act.put, List.setIfInBounds_toArray, List.set_cons_zero, List.set_cons_succ]
      obtain ⟨p_, h3, hp_⟩ := hd 3 (by kernel_rfl)
      rw [h3]
      go_simp
      refine hK.out (.tuple #[p_, .bool (okU o1), .int .i64 (gU o1)]) _ W_ ?_ hI (Below.refl _ _) ⟨p_, rfl, hp_⟩
      simp only [frameOf, Act.put, List.setIfInBounds_toArray, List.set_cons_zero, List.set_cons_succ, Nat.zero_add, Nat.reduceAdd, h3]
    · intro g_ W_ hI hd K hK
      simp only [frameOf, Act.put, List.setIfInBounds_toArray, List.set_cons_zero, List.set_cons_succ]
      obtain ⟨p_, h4, hp_⟩ := hd 4 (by kernel_rfl)
      rw [h4]
      go_simp
      refine hK.out p_ _ W_ ?_ hI (Below.refl _ _) hp_
      simp only [frameOf, Act.put, List.setIfInBounds_toArray, List.set_cons_zero, List.set_cons_succ, Nat.zero_add, Nat.reduceAdd, h4]
    · intro g_ W_ hI hd K hK
      simp only [frameOf, Act.put, List.setIfInBounds_toArray, List.set_cons_zero, List.set_cons_succ]
      obtain ⟨p_, h4, hp_⟩ := hd 4 (by kernel_rfl)
      rw [h4]
      go_simp
      refine hK.out (.bool (okU o1)) _ W_ ?_ hI (Below.refl _ _) rfl
      simp only [frameOf, Act.put, List.setIfInBounds_toArray, List.set_cons_zero, List.set_cons_succ, Nat.zero_add, Nat.reduceAdd, h4]
    · intro g_ W_ hI hd K hK
      simp only [frameOf, Act.put, List.setIfInBounds_toArray, List.set_cons_zero, List.set_cons_succ]
      obtain ⟨p_, h4, hp_⟩ := hd 4 (by kernel_rfl)
      rw [h4]
      go_simp
      refine hK.out (.int .i64 (gU o1)) _ W_ ?_ hI (Below.refl _ _) rfl
      simp only [frameOf, Act.put, List.setIfInBounds_toArray, List.set_cons_zero, List.set_cons_succ, Nat.zero_add, Nat.reduceAdd, h4]
    · intro g_ W_ hI hd K hK
      simp only [frameOf, Act.put, List.setIfInBounds_toArray, List.set_cons_zero, List.set_cons_succ]
      have hp_ := hd 5 (by kernel_rfl)
      go_simp
      refine hK.out (g_ 5) _ W_ ?_ hI (Below.refl _ _) hp_
      simp only [frameOf, Act.put, List.setIfInBounds_toArray, List.set_cons_zero, List.set_cons_succ, Nat.zero_add, Nat.reduceAdd]
    · intro g_ W_ hI hd K hK
      simp only [frameOf, Act.put, List.setIfInBounds_toArray, List.set_cons_zero, List.set_cons_succ]
      have h6 : g_ 6 = .bool (okU o1) := hd 6 (by kernel_rfl)
      rw [h6]
      go_simp
      refine hK.out (.bool (okU o1)) _ W_ ?_ hI (Below.refl _ _) rfl
      simp only [frameOf, Act.put, List.setIfInBounds_toArray, List.set_cons_zero, List.set_cons_succ, Nat.zero_add, Nat.reduceAdd, h6]
    · intro g_ W_ hI hd K hK
      simp only [frameOf, Act.put, List.setIfInBounds_toArray, List.set_cons_zero, List.set_cons_succ]
      have h7 : g_ 7 = .int .i64 (gU o1) := hd 7 (by kernel_rfl)
      rw [h7]
      go_simp
      refine hK.out (.int .i64 (gU o1)) _ W_ ?_ hI (Below.refl _ _) rfl
      simp only [frameOf, Act.put, List.setIfInBounds_toArray, List.set_cons_zero, List.set_cons_succ, Nat.zero_add, Nat.reduceAdd, h7]
  case donea =>
    intro fa W_ hI hd
    have q8 := hd 8 (by decide)
    have h9 : fa 9 = .bool (okU o1) := hd 9 (by decide)
    have h10 : fa 10 = .int .i64 (gU o1) := hd 10 (by decide)
    simp only [frameOf, Act.put, List.setIfInBounds_toArray, List.set_cons_zero, List.set_cons_succ, Nat.zero_add, Nat.reduceAdd, h9, h10]
    have P1 : Hid (PU o1 (fa 8) W_) := Lib.hid q8
    clear hd q8 h9 h10
    replace XT := Lib.hid (XT.out.below hI)
    replace XO := Lib.hid (XO.out.below hI)
    replace BW := Lib.hid (BW.out.trans (hI.mono BW.out.size))
    clear hI
    go_upto_region 4 with fail
    clear W0
    rename World => W0
    refine region_by_facts (fun W_ => Below W0.heap.size W0 W_) [fun u W => ∃ S, u = .pointer (some ⟨S, 0, none⟩) ∧ SubAt S Sb.none 0 W, fun u _ => u = .agg #[.int .u8 b.k, .string b.s, .int .i64 b.n, .slice b.p b.kids.len b.c], fun u _ => u = .agg #[.int .u8 a.k, .string a.s, .int .i64 a.n, .slice a.p a.kids.len a.c], fun u W => ∃ p, u = .tuple #[p, .bool (okU o2), .int .i64 (gU o2)] ∧ PU o2 p W, fun u W => ∃ p, u = .tuple #[p, .bool (okU o2), .int .i64 (gU o2)] ∧ PU o2 p W, PU o2, fun u _ => u = .bool (okU o2), fun u _ => u = .int .i64 (gU o2), PU o2, fun u _ => u = .bool (okU o2), fun u _ => u = .int .i64 (gU o2)]
      ⟨(by rintro v_ w_ x_ ⟨S, h1, h2⟩ hB; exact ⟨S, h1, h2.below hB⟩), .eq _, .eq _, (by rintro v_ w_ x_ ⟨p, h1, h2⟩ hB; exact ⟨p, h1, h2.below hB⟩), (by rintro v_ w_ x_ ⟨p, h1, h2⟩ hB; exact ⟨p, h1, h2.below hB⟩), (fun v_ w_ x_ h hB => PU.below h hB), .eq _, .eq _, (fun v_ w_ x_ h hB => PU.below h hB), .eq _, .eq _, trivial⟩ (by kernel_rfl) (by kernel_rfl) (by kernel_rfl) ?h0b ?stepsb ?doneb
    case h0b => exact (Below.refl _ _).drew
    case stepsb =>
      refine ⟨?_, ?_, ?_, ?_, ?_, ?_, ?_, ?_, ?_, ?_, ?_, trivial⟩
      · intro g_ W_ hI hd K hK
        simp only [frameOf, Act.put, List.setIfInBounds_toArray, List.set_cons_zero, List.set_cons_succ]
        go_simp
        refine (new_any W_).mono ?_
        rintro e w' ⟨rfl, hS, hB⟩
        refine hK.out (.pointer (some ⟨W_.heap.size, 0, none⟩)) _ _ ?_ (hI.trans (hB.mono hI.size)) hB ⟨_, rfl, hS⟩
        simp only [frameOf, Act.put, List.setIfInBounds_toArray, List.set_cons_zero, List.set_cons_succ, Nat.zero_add, Nat.reduceAdd]
      · intro g_ W_ hI hd K hK
        simp only [frameOf, Act.put, List.setIfInBounds_toArray, List.set_cons_zero, List.set_cons_succ]
        have XW := XO.out.below hI
        have c0 := XW.c0
        have c1 := XW.c1
        have c2 := XW.c2
        have c3 := XW.c3
        go_simp
        refine hK.out (.agg #[.int .u8 b.k, .string b.s, .int .i64 b.n, .slice b.p b.kids.len b.c]) _ W_ ?_ hI (Below.refl _ _) rfl
        simp only [frameOf, Act.put, List.setIfInBounds_toArray, List.set_cons_zero, List.set_cons_succ, Nat.zero_add, Nat.reduceAdd]
      · intro g_ W_ hI hd K hK
        simp only [frameOf, Act.put, List.setIfInBounds_toArray, List.set_cons_zero, List.set_cons_succ]
        have XW := XT.out.below hI
        have c0 := XW.c0
        have c1 := XW.c1
        have c2 := XW.c2
        have c3 := XW.c3
        go_simp
        refine hK.out (.agg #[.int .u8 a.k, .string a.s, .int .i64 a.n, .slice a.p a.kids.len a.c]) _ W_ ?_ hI (Below.refl _ _) rfl
        simp only [frameOf, Act.put, List.setIfInBounds_toArray, List.set_cons_zero, List.set_cons_succ, Nat.zero_add, Nat.reduceAdd]
      · intro g_ W_ hI hd K hK
        simp only [frameOf, Act.put, List.setIfInBounds_toArray, List.set_cons_zero, List.set_cons_succ]
        obtain ⟨S_, h0, hS_⟩ := hd 0 (by kernel_rfl)
        have h1 : g_ 1 = .agg #[.int .u8 b.k, .string b.s, .int .i64 b.n, .slice b.p b.kids.len b.c] := hd 1 (by kernel_rfl)
        have h2 : g_ 2 = .agg #[.int .u8 a.k, .string a.s, .int .i64 a.n, .slice a.p a.kids.len a.c] := hd 2 (by kernel_rfl)
        rw [h0, h1, h2]
        go_simp
        refine (Unify_any S_ Sb.none 0 W_ hS_ (by omega) b a OKb.out OKa.out (ATb.out.below (BW.out.trans (hI.mono BW.out.size))) (ATa.out.below (BW.out.trans (hI.mono BW.out.size))) hsb hsa).mono ?_
        intro e w' hL
        obtain ⟨p_, he, hp_⟩ := hL.pu
        rw [← E2.out] at he hp_
        subst he
        have hB := hL.1
        refine hK.out (.tuple #[p_, .bool (okU o2), .int .i64 (gU o2)]) _ _ ?_ (hI.trans (hB.mono hI.size)) hB ⟨p_, rfl, hp_⟩
        simp only [frameOf, Act.put, List.setIfInBounds_toArray, List.set_cons_zero, List.set_cons_succ, Nat.zero_add, Nat.reduceAdd, h0, h1, h2]
      · intro g_ W_ hI hd K hK
        simp only [frameOf, Act.put, List.setIfInBounds_toArray, List.set_cons_zero, List.set_cons_succ]
        obtain ⟨p_, h3, hp_⟩ := hd 3 (by kernel_rfl)
        rw [h3]
        go_simp
        refine hK.out (.tuple #[p_, .bool (okU o2), .int .i64 (gU o2)]) _ W_ ?_ hI (Below.refl _ _) ⟨p_, rfl, hp_⟩
        simp only [frameOf, Act.put, List.setIfInBounds_toArray, List.set_cons_zero, List.set_cons_succ, Nat.zero_add, Nat.reduceAdd, h3]
      · intro g_ W_ hI hd K hK
        simp only [frameOf, Act.put, List.setIfInBounds_toArray, List.set_cons_zero, List.set_cons_succ]
        obtain ⟨p_, h4, hp_⟩ := hd 4 (by kernel_rfl)
        rw [h4]
        go_simp
        refine hK.out p_ _ W_ ?_ hI (Below.refl _ _) hp_
        simp only [frameOf, Act.put, List.setIfInBounds_toArray, List.set_cons_zero, List.set_cons_succ, Nat.zero_add, Nat.reduceAdd, h4]
      · intro g_ W_ hI hd K hK
        simp only [frameOf, Act.put, List.setIfInBounds_toArray, List.set_cons_zero, List.set_cons_succ]
        obtain ⟨p_, h4, hp_⟩ := hd 4 (by kernel_rfl)
        rw [h4]
        go_simp
        refine hK.out (.bool (okU o2)) _ W_ ?_ hI (Below.refl _ _) rfl
        simp only [frameOf, Act.put, List.setIfInBounds_toArray, List.set_cons_zero, List.set_cons_succ, Nat.zero_add, Nat.reduceAdd, h4]
      · intro g_ W_ hI hd K hK
        simp only [frameOf, Act.put, List.setIfInBounds_toArray, List.set_cons_zero, List.set_cons_succ]
        obtain ⟨p_, h4, hp_⟩ := hd 4 (by kernel_rfl)
        rw [h4]
        go_simp
        refine hK.out (.int .i64 (gU o2)) _ W_ ?_ hI (Below.refl _ _) rfl
        simp only [frameOf, Act.put, List.setIfInBounds_toArray, List.set_cons_zero, List.set_cons_succ, Nat.zero_add, Nat.reduceAdd, h4]
      · intro g_ W_ hI hd K hK
        simp only [frameOf, Act.put, List.setIfInBounds_toArray, List.set_cons_zero, List.set_cons_succ]
        have hp_ := hd 5 (by kernel_rfl)
        go_simp
        refine hK.out (g_ 5) _ W_ ?_ hI (Below.refl _ _) hp_
        simp only [frameOf, Act.put, List.setIfInBounds_toArray, List.set_cons_zero, List.set_cons_succ, Nat.zero_add, Nat.reduceAdd]
      · intro g_ W_ hI hd K hK
        simp only [frameOf, Act.put, List.setIfInBounds_toArray, List.set_cons_zero, List.set_cons_succ]
        have h6 : g_ 6 = .bool (okU o2) := hd 6 (by kernel_rfl)
        rw [h6]
        go_simp
        refine hK.out (.bool (okU o2)) _ W_ ?_ hI (Below.refl _ _) rfl
        simp only [frameOf, Act.put, List.setIfInBounds_toArray, List.set_cons_zero, List.set_cons_succ, Nat.zero_add, Nat.reduceAdd, h6]
      · intro g_ W_ hI hd K hK
        simp only [frameOf, Act.put, List.setIfInBounds_toArray, List.set_cons_zero, List.set_cons_succ]
        have h7 : g_ 7 = .int .i64 (gU o2) := hd 7 (by kernel_rfl)
        rw [h7]
        go_simp
        refine hK.out (.int .i64 (gU o2)) _ W_ ?_ hI (Below.refl _ _) rfl
        simp only [frameOf, Act.put, List.setIfInBounds_toArray, List.set_cons_zero, List.set_cons_succ, Nat.zero_add, Nat.reduceAdd, h7]
    case doneb =>
      intro fb W_ hI hd
      have q8 := hd 8 (by decide)
      have h9 : fb 9 = .bool (okU o2) := hd 9 (by decide)
      have h10 : fb 10 = .int .i64 (gU o2) := hd 10 (by decide)
      simp only [frameOf, Act.put, List.setIfInBounds_toArray, List.set_cons_zero, List.set_cons_succ, Nat.zero_add, Nat.reduceAdd, h9, h10]
      have P2 : Hid (PU o2 (fb 8) W_) := Lib.hid q8
      clear hd q8 h9 h10
      replace XT := Lib.hid (XT.out.below hI)
      replace XO := Lib.hid (XO.out.below hI)
      replace P1 := Lib.hid (P1.out.below hI)
      replace BW := Lib.hid (BW.out.trans (hI.mono BW.out.size))
      clear hI
      go_upto_region 5 with fail
      clear W0
      rename World => W0
      refine region_by_facts (fun W_ => Below W0.heap.size W0 W_) [fun u W => ∃ S, u = .pointer (some ⟨S, 0, none⟩) ∧ SubAt S Sb.none 0 W, fun u _ => u = .agg #[.int .u8 a.k, .string a.s, .int .i64 a.n, .slice a.p a.kids.len a.c], fun u _ => u = .agg #[.int .u8 a.k, .string a.s, .int .i64 a.n, .slice a.p a.kids.len a.c], fun u W => ∃ p, u = .tuple #[p, .bool (okU o3), .int .i64 (gU o3)] ∧ PU o3 p W, fun u W => ∃ p, u = .tuple #[p, .bool (okU o3), .int .i64 (gU o3)] ∧ PU o3 p W, PU o3, fun u _ => u = .bool (okU o3), fun u _ => u = .int .i64 (gU o3), PU o3, fun u _ => u = .bool (okU o3), fun u _ => u = .int .i64 (gU o3)]
        ⟨(by rintro v_ w_ x_ ⟨S, h1, h2⟩ hB; exact ⟨S, h1, h2.below hB⟩), .eq _, .eq _, (by rintro v_ w_ x_ ⟨p, h1, h2⟩ hB; exact ⟨p, h1, h2.below hB⟩), (by rintro v_ w_ x_ ⟨p, h1, h2⟩ hB; exact ⟨p, h1, h2.below hB⟩), (fun v_ w_ x_ h hB => PU.below h hB), .eq _, .eq _, (fun v_ w_ x_ h hB => PU.below h hB), .eq _, .eq _, trivial⟩ (by kernel_rfl) (by kernel_rfl) (by kernel_rfl) ?h0c ?stepsc ?donec
      case h0c => exact (Below.refl _ _).drew
      case stepsc =>
        refine ⟨?_, ?_, ?_, ?_, ?_, ?_, ?_, ?_, ?_, ?_, ?_, trivial⟩
        · intro g_ W_ hI hd K hK
          simp only [frameOf, Act.put, List.setIfInBounds_toArray, List.set_cons_zero, List.set_cons_succ]
          go_simp
          refine (new_any W_).mono ?_
          rintro e w' ⟨rfl, hS, hB⟩
          refine hK.out (.pointer (some ⟨W_.heap.size, 0, none⟩)) _ _ ?_ (hI.trans (hB.mono hI.size)) hB ⟨_, rfl, hS⟩
          simp only [frameOf, Act.put, List.setIfInBounds_toArray, List.set_cons_zero, List.set_cons_succ, Nat.zero_add, Nat.reduceAdd]
        · intro g_ W_ hI hd K hK
          simp only [frameOf, Act.put, List.setIfInBounds_toArray, List.set_cons_zero, List.set_cons_succ]
          have XW := XT.out.below hI
          have c0 := XW.c0
          have c1 := XW.c1
          have c2 := XW.c2
          have c3 := XW.c3
          go_simp
          refine hK.out (.agg #[.int .u8 a.k, .string a.s, .int .i64 a.n, .slice a.p a.kids.len a.c]) _ W_ ?_ hI (Below.refl _ _) rfl
          simp only [frameOf, Act.put, List.setIfInBounds_toArray, List.set_cons_zero, List.set_cons_succ, Nat.zero_add, Nat.reduceAdd]
        · intro g_ W_ hI hd K hK
          simp only [frameOf, Act.put, List.setIfInBounds_toArray, List.set_cons_zero, List.set_cons_succ]
          have XW := XT.out.below hI
          have c0 := XW.c0
          have c1 := XW.c1
          have c2 := XW.c2
          have c3 := XW.c3
          go_simp
          refine hK.out (.agg #[.int .u8 a.k, .string a.s, .int .i64 a.n, .slice a.p a.kids.len a.c]) _ W_ ?_ hI (Below.refl _ _) rfl
          simp only [frameOf, Act.put, List.setIfInBounds_toArray, List.set_cons_zero, List.set_cons_succ, Nat.zero_add, Nat.reduceAdd]
        · intro g_ W_ hI hd K hK
          simp only [frameOf, Act.put, List.setIfInBounds_toArray, List.set_cons_zero, List.set_cons_succ]
          obtain ⟨S_, h0, hS_⟩ := hd 0 (by kernel_rfl)
          have h1 : g_ 1 = .agg #[.int .u8 a.k, .string a.s, .int .i64 a.n, .slice a.p a.kids.len a.c] := hd 1 (by kernel_rfl)
          have h2 : g_ 2 = .agg #[.int .u8 a.k, .string a.s, .int .i64 a.n, .slice a.p a.kids.len a.c] := hd 2 (by kernel_rfl)
          rw [h0, h1, h2]
          go_simp
          refine (Unify_any S_ Sb.none 0 W_ hS_ (by omega) a a OKa.out OKa.out (ATa.out.below (BW.out.trans (hI.mono BW.out.size))) (ATa.out.below (BW.out.trans (hI.mono BW.out.size))) hsa hsa).mono ?_
          intro e w' hL
          obtain ⟨p_, he, hp_⟩ := hL.pu
          rw [← E3.out] at he hp_
          subst he
          have hB := hL.1
          refine hK.out (.tuple #[p_, .bool (okU o3), .int .i64 (gU o3)]) _ _ ?_ (hI.trans (hB.mono hI.size)) hB ⟨p_, rfl, hp_⟩
          simp only [frameOf, Act.put, List.setIfInBounds_toArray, List.set_cons_zero, List.set_cons_succ, Nat.zero_add, Nat.reduceAdd, h0, h1, h2]
        · intro g_ W_ hI hd K hK
          simp only [frameOf, Act.put, List.setIfInBounds_toArray, List.set_cons_zero, List.set_cons_succ]
          obtain ⟨p_, h3, hp_⟩ := hd 3 (by kernel_rfl)
          rw [h3]
          go_simp
          refine hK.out (.tuple #[p_, .bool (okU o3), .int .i64 (gU o3)]) _ W_ ?_ hI (Below.refl _ _) ⟨p_, rfl, hp_⟩
          simp only [frameOf, Act.put, List.setIfInBounds_toArray, List.set_cons_zero, List.set_cons_succ, Nat.zero_add, Nat.reduceAdd, h3]
        · intro g_ W_ hI hd K hK
          simp only [frameOf, Act.put, List.setIfInBounds_toArray, List.set_cons_zero, List.set_cons_succ]
          obtain ⟨p_, h4, hp_⟩ := hd 4 (by kernel_rfl)
          rw [h4]
          go_simp
          refine hK.out p_ _ W_ ?_ hI (Below.refl _ _) hp_
          simp only [frameOf, Act.put, List.setIfInBounds_toArray, List.set_cons_zero, List.set_cons_succ, Nat.zero_add, Nat.reduceAdd, h4]
        · intro g_ W_ hI hd K hK
          simp only [frameOf, Act.put, List.setIfInBounds_toArray, List.set_cons_zero, List.set_cons_succ]
          obtain ⟨p_, h4, hp_⟩ := hd 4 (by kernel_rfl)
          rw [h4]
          go_simp
          refine hK.out (.bool (okU o3)) _ W_ ?_ hI (Below.refl _ _) rfl
          simp only [frameOf, Act.put, List.setIfInBounds_toArray, List.set_cons_zero, List.set_cons_succ, Nat.zero_add, Nat.reduceAdd, h4]
        · intro g_ W_ hI hd K hK
          simp only [frameOf, Act.put, List.setIfInBounds_toArray, List.set_cons_zero, List.set_cons_succ]
          obtain ⟨p_, h4, hp_⟩ := hd 4 (by kernel_rfl)
          rw [h4]
          go_simp
          refine hK.out (.int .i64 (gU o3)) _ W_ ?_ hI (Below.refl _ _) rfl
          simp only [frameOf, Act.put, List.setIfInBounds_toArray, List.set_cons_zero, List.set_cons_succ, Nat.zero_add, Nat.reduceAdd, h4]
        · intro g_ W_ hI hd K hK
          simp only [frameOf, Act.put, List.setIfInBounds_toArray, List.set_cons_zero, List.set_cons_succ]
          have hp_ := hd 5 (by kernel_rfl)
          go_simp
          refine hK.out (g_ 5) _ W_ ?_ hI (Below.refl _ _) hp_
          simp only [frameOf, Act.put, List.setIfInBounds_toArray, List.set_cons_zero, List.set_cons_succ, Nat.zero_add, Nat.reduceAdd]
        · intro g_ W_ hI hd K hK
          simp only [frameOf, Act.put, List.setIfInBounds_toArray, List.set_cons_zero, List.set_cons_succ]
          have h6 : g_ 6 = .bool (okU o3) := hd 6 (by kernel_rfl)
          rw [h6]
          go_simp
          refine hK.out (.bool (okU o3)) _ W_ ?_ hI (Below.refl _ _) rfl
          simp only [frameOf, Act.put, List.setIfInBounds_toArray, List.set_cons_zero, List.set_cons_succ, Nat.zero_add, Nat.reduceAdd, h6]
        · intro g_ W_ hI hd K hK
          simp only [frameOf, Act.put, List.setIfInBounds_toArray, List.set_cons_zero, List.set_cons_succ]
          have h7 : g_ 7 = .int .i64 (gU o3) := hd 7 (by kernel_rfl)
          rw [h7]
          go_simp
          refine hK.out (.int .i64 (gU o3)) _ W_ ?_ hI (Below.refl _ _) rfl
          simp only [frameOf, Act.put, List.setIfInBounds_toArray, List.set_cons_zero, List.set_cons_succ, Nat.zero_add, Nat.reduceAdd, h7]
      case donec =>
        intro fc W_ hI hd
        have q8 := hd 8 (by decide)
        have h9 : fc 9 = .bool (okU o3) := hd 9 (by decide)
        have h10 : fc 10 = .int .i64 (gU o3) := hd 10 (by decide)
        simp only [frameOf, Act.put, List.setIfInBounds_toArray, List.set_cons_zero, List.set_cons_succ, Nat.zero_add, Nat.reduceAdd, h9, h10]
        have P3 : Hid (PU o3 (fc 8) W_) := Lib.hid q8
        clear hd q8 h9 h10
        replace XT := Lib.hid (XT.out.below hI)
        replace XO := Lib.hid (XO.out.below hI)
        replace P1 := Lib.hid (P1.out.below hI)
        replace P2 := Lib.hid (P2.out.below hI)
        replace BW := Lib.hid (BW.out.trans (hI.mono BW.out.size))
        clear hI
        clear W0
        rename World => W0
        have hself : ∃ r', un 4096 0 Sb.none [(a, a)] = .ok Sb.none 0 r' := un_self 4096 0 (fun p hp => by simp only [List.mem_singleton] at hp; subst hp; rfl) (by simp only [tot]; omega)
        obtain ⟨r3, hr3⟩ := hself
        rw [hr3] at E3
        have e3 := E3.out
        subst e3
        obtain ⟨S3, σ3, hS3, _, hsub3⟩ := P3.out
        have SB3 := Lib.hid hsub3
        rw [hS3]
        clear hr3 hS3 hsub3 P3
        simp only [okU_ok, gU_ok]
        go_wp2_with fail
        refine (len_any S3 σ3 0 W0 SB3.out).mono ?_
        rintro e we ⟨he, hwe⟩
        have h8 := hwe.symm
        subst h8
        have he2 : e = .returned (.int .i64 0) := he
        subst he2
        clear he
        go_upto_region 8 with fail
        cases o1 with
        | full =>
          cases o2 with
          | full =>
            simp only [okU, gU]
            go_wp2_with fail
            refine (wakes4_any _).mono ?_
            rintro e we ⟨rfl, hB⟩
            replace BW := Lib.hid (BW.out.trans (hB.mono BW.out.size))
            clear hB
            go_wp2
            go_ret
            exact ⟨rfl, BW.out⟩
          | no =>
            simp only [okU, gU]
            go_wp2_with fail
            refine (wakes4_any _).mono ?_
            rintro e we ⟨rfl, hB⟩
            replace BW := Lib.hid (BW.out.trans (hB.mono BW.out.size))
            clear hB
            go_wp2
            go_ret
            exact ⟨rfl, BW.out⟩
          | ok ρ2 c2 r2 =>
            simp only [okU, gU]
            go_wp2_with fail
            refine (wakes4_any _).mono ?_
            rintro e we ⟨rfl, hB⟩
            replace BW := Lib.hid (BW.out.trans (hB.mono BW.out.size))
            clear hB
            go_wp2
            go_ret
            exact ⟨rfl, BW.out⟩
        | no =>
          cases o2 with
          | full =>
            simp only [okU, gU]
            go_wp2_with fail
            refine (wakes4_any _).mono ?_
            rintro e we ⟨rfl, hB⟩
            replace BW := Lib.hid (BW.out.trans (hB.mono BW.out.size))
            clear hB
            go_wp2
            go_ret
            exact ⟨rfl, BW.out⟩
          | no =>
            simp only [okU, gU]
            have hp1 : fa 8 = .pointer none := P1.out
            rw [hp1]
            clear hp1
            go_wp2_with fail
            refine (wakes4_any _).mono ?_
            rintro e we ⟨rfl, hB⟩
            replace BW := Lib.hid (BW.out.trans (hB.mono BW.out.size))
            clear hB
            go_wp2
            go_ret
            exact ⟨rfl, BW.out⟩
          | ok ρ2 c2 r2 => exact absurd E1.out.symm (un_turned NB.out NA.out E2.out.symm)
        | ok ρ1 c1 r1 =>
          cases o2 with
          | full =>
            simp only [okU, gU]
            go_wp2_with fail
            refine (wakes4_any _).mono ?_
            rintro e we ⟨rfl, hB⟩
            replace BW := Lib.hid (BW.out.trans (hB.mono BW.out.size))
            clear hB
            go_wp2
            go_ret
            exact ⟨rfl, BW.out⟩
          | no => exact absurd E2.out.symm (un_turned NA.out NB.out E1.out.symm)
          | ok ρ2 c2 r2 =>
            simp only [okU, gU]
            obtain ⟨S1, σ1, hS1, hst1, hsub1⟩ := P1.out
            have SB1 := Lib.hid hsub1
            have ST1 := Lib.hid hst1
            have hc1 : c1 ≤ 4096 := by have := un_count 4096 E1.out.symm; omega
            rw [hS1]
            clear hS1 hst1 hsub1 P1 P2 SB3
            have c0 := XT.out.c0
            have c1_ := XT.out.c1
            have c2_ := XT.out.c2
            have c3 := XT.out.c3
            have d0 := XO.out.c0
            have d1 := XO.out.c1
            have d2 := XO.out.c2
            have d3 := XO.out.c3
            go_wp2_with fail
            refine (Unify_any S1 σ1 c1 W0 SB1.out (by omega) a b OKa.out OKb.out (ATa.out.below BW.out) (ATb.out.below BW.out) hsa hsb).mono ?_
            intro e we hL
            obtain ⟨p4, he, hp4⟩ := hL.pu
            have hB := hL.1
            replace BW := Lib.hid (BW.out.trans (hB.mono BW.out.size))
            replace SB1 := Lib.hid (SB1.out.below hB)
            clear hB hL c0 c1_ c2_ c3 d0 d1 d2 d3
            rcases un_again (r2 := 4096) (c2 := c1) E1.out.symm ST1.out with h | ⟨r4, h⟩
            · rw [h] at he hp4
              have hp5 : p4 = .pointer none := hp4
              subst hp5
              simp only [okU, gU] at he
              subst he
              clear h hp4
              go_wp2_with fail
              refine (wakes4_any _).mono ?_
              rintro e we ⟨rfl, hB⟩
              replace BW := Lib.hid (BW.out.trans (hB.mono BW.out.size))
              clear hB
              go_wp2
              go_ret
              exact ⟨rfl, BW.out⟩
            · rw [h] at he hp4
              obtain ⟨S4, σ4, rfl, -, hsub4⟩ := hp4
              have SB4 := Lib.hid hsub4
              simp only [okU, gU] at he
              subst he
              clear h hsub4
              go_wp2_with fail
              refine (len_any S4 σ4 c1 we SB4.out).mono ?_
              rintro e w8 ⟨rfl, hw8⟩
              have h8 := hw8.symm
              subst h8
              go_wp2_with fail
              refine (len_any S1 σ1 c1 _ SB1.out).mono ?_
              rintro e w8 ⟨rfl, hw8⟩
              have h8 := hw8.symm
              subst h8
              go_wp2_with fail
              refine (wakes4_any _).mono ?_
              rintro e we ⟨rfl, hB⟩
              replace BW := Lib.hid (BW.out.trans (hB.mono BW.out.size))
              clear hB
              go_wp2
              go_ret
              exact ⟨rfl, BW.out⟩

end Go.Proofs.Ytflomdnjabgnaaa
