import Derived.Test.YtnmhnaanpjlniaaGreatFi
/-
  Do, of some names. (Written by gen_fi.py.)
-/
namespace Go.Proofs.YtnmhnaanpjlniaaGreat
open Go.RowKit Go.Maps

set_option maxRecDepth 100000 in
set_option maxHeartbeats 4000000 in
theorem do_12 (S : Nat) (σ : Sb) (n : Nat) (hn : n ≤ 900000) (w : World) (hS : SubAt S σ n w) (a b g : Nd) (hk : g.k = 4) (hs : g.s = ⟨#[61, 92, 61]⟩) (hkids : g.kids = (.cons a.k a.s a.n a.p a.c a.kids (.cons b.k b.s b.n b.p b.c b.kids .nil))) (hok : g.kids.ok) (hat : Ts.At w g.p g.kids) (ha : a.kids.size ≤ 5000) (hb : b.kids.size ≤ 5000) :
    Calls Tryz.prog 13 #[.pointer (some ⟨S, 0, none⟩), .agg #[.int .u8 g.k, .string g.s, .int .i64 g.n, .slice g.p g.kids.len g.c]] w fun e w' => (∃ p, e = .returned (.tuple #[p, .bool (doV σ n a b 12).1, .int .i64 (doV σ n a b 12).2]) ) ∧ Below w.heap.size w w' := by
  obtain ⟨r, hr⟩ : ∃ r, r = doV σ n a b 12 := ⟨_, rfl⟩
  rw [← hr]
  have RE : Hid (r = doneR (rkP σ a b (cmpI 1))) := Lib.hid hr
  clear hr
  rw [hkids] at hok hat
  rw [hkids, hk, hs]
  obtain ⟨pb, po, hp, hEa, hEb⟩ := args_two hat hok ha hb
  rw [hp]
  simp only [Ts.len, Nat.zero_add, Nat.reduceAdd]
  obtain ⟨W0, hW0, hs0, hB0, hc0⟩ := box1 w #[.int .u8 4, .string ⟨#[61, 92, 61]⟩, .int .i64 g.n, .slice (some ⟨pb, po, none⟩) 2 g.c] 25
  have g0 : W0.cell? ⟨w.heap.size, 0, none⟩ = some (.int .u8 4) := hc0 0 _ rfl
  have g1 : W0.cell? ⟨w.heap.size, 1, none⟩ = some (.string ⟨#[61, 92, 61]⟩) := hc0 1 _ rfl
  have g3 : W0.cell? ⟨w.heap.size, 3, none⟩ = some (.slice (some ⟨pb, po, none⟩) 2 g.c) := hc0 3 _ rfl
  have BW := Lib.hid hB0
  have SB := Lib.hid (hS.below hB0)
  have Ea := Lib.hid (hEa.below hB0)
  have Eb := Lib.hid (hEb.below hB0)
  have ZW := Lib.hid hW0
  have hz0 : w.heap.size < W0.heap.size := by omega
  clear hW0 hB0 hc0 hS hEa hEb hat hok hkids hp hk hs hs0
  have hsn : ((2 : Nat) : Int) = 2 := rfl
  go_enter Tryz.func13, Tryz.ntmps13
  go_upto_region 1 with fail
  rw [← ZW.out]
  clear hsn
  go_wp2_with fail
  refine (builtin_any ⟨#[61, 92, 61]⟩ 2 (by decide) (by decide) W0).mono ?_
  rintro e W1 ⟨rfl, hI⟩
  rw [show bltB ⟨#[61, 92, 61]⟩ 2 = true by decide +kernel]
  have G1 := Lib.hid ((hI.cell (p := ⟨w.heap.size, 1, none⟩) hz0).trans g1)
  have G3 := Lib.hid ((hI.cell (p := ⟨w.heap.size, 3, none⟩) hz0).trans g3)
  have hz : w.heap.size < W1.heap.size := Nat.lt_of_lt_of_le hz0 hI.size
  replace SB := Lib.hid (SB.out.below hI)
  replace Ea := Lib.hid (Ea.out.below hI)
  replace Eb := Lib.hid (Eb.out.below hI)
  replace BW := Lib.hid (BW.out.trans (hI.mono BW.out.size))
  clear hI g0 g1 g3 ZW hz0
  go_upto_region 6 with fail
  refine region_by_facts (fun W_ => Below W1.heap.size W1 W_) [fun u W => ∃ B l, u = .map (some B) ∧ DoIn B 23 l W, fun u _ => u = .pointer (some ⟨w.heap.size, 1, none⟩), fun u _ => u = .string ⟨#[61, 92, 61]⟩, fun u W => ∃ B, doCl B 12 u W, fun u _ => u = .pointer (some ⟨S, 0, none⟩), fun u _ => u = .pointer (some ⟨w.heap.size, 3, none⟩), fun u _ => u = .slice (some ⟨pb, po, none⟩) 2 g.c, fun u W => ∃ p, u = .tuple #[p, .bool r.1, .int .i64 r.2] ∧ True, fun _ _ => True, fun u _ => u = .bool r.1, fun u _ => u = .int .i64 r.2, fun _ _ => True, fun u _ => u = .bool r.1, fun u _ => u = .int .i64 r.2]
    ⟨(by rintro v_ w_ x_ ⟨B, l, h1, h2⟩ hB; exact ⟨B, l, h1, h2.gr (by omega) hB⟩), .eq _, .eq _, (by rintro v_ w_ x_ ⟨B, h1⟩ hB; exact ⟨B, doCl_st B 12 (by omega) _ _ _ h1 (.of_below hB)⟩), .eq _, .eq _, .eq _, (by rintro v_ w_ x_ ⟨p, h1, h2⟩ hB; exact ⟨p, h1, trivial⟩), (fun _ _ _ _ _ => trivial), .eq _, .eq _, (fun _ _ _ _ _ => trivial), .eq _, .eq _, trivial⟩ (by kernel_rfl) (by kernel_rfl) (by kernel_rfl) ?h0 ?steps ?done
  case h0 => exact (Below.refl _ _).drew
  case steps =>
    refine ⟨?_, ?_, ?_, ?_, ?_, ?_, ?_, ?_, ?_, ?_, ?_, ?_, ?_, ?_, trivial⟩
    · intro g_ W_ hI hd K hK
      simp only [frameOf, Act.put, List.setIfInBounds_toArray, List.set_cons_zero, List.set_cons_succ]
      go_simp
      refine (doings_any W_).mono ?_
      rintro e w' ⟨rfl, hB, l_, hD⟩
      refine hK.out (.map (some W_.heap.size)) _ _ ?_ (hI.trans (hB.mono hI.size)) hB ⟨_, l_, rfl, hD⟩
      simp only [frameOf, Act.put, List.setIfInBounds_toArray, List.set_cons_zero, List.set_cons_succ, Nat.zero_add, Nat.reduceAdd]
    · intro g_ W_ hI hd K hK
      simp only [frameOf, Act.put, List.setIfInBounds_toArray, List.set_cons_zero, List.set_cons_succ]
      go_simp
      refine hK.out (.pointer (some ⟨w.heap.size, 1, none⟩)) _ W_ ?_ hI (Below.refl _ _) rfl
      simp only [frameOf, Act.put, List.setIfInBounds_toArray, List.set_cons_zero, List.set_cons_succ, Nat.zero_add, Nat.reduceAdd]
    · intro g_ W_ hI hd K hK
      simp only [frameOf, Act.put, List.setIfInBounds_toArray, List.set_cons_zero, List.set_cons_succ]
      have h1 : g_ 1 = .pointer (some ⟨w.heap.size, 1, none⟩) := hd 1 (by kernel_rfl)
      rw [h1]
      have c1 := (hI.cell (p := ⟨w.heap.size, 1, none⟩) hz).trans G1.out
      go_simp
      refine hK.out (.string ⟨#[61, 92, 61]⟩) _ W_ ?_ hI (Below.refl _ _) rfl
      simp only [frameOf, Act.put, List.setIfInBounds_toArray, List.set_cons_zero, List.set_cons_succ, Nat.zero_add, Nat.reduceAdd, h1]
    · intro g_ W_ hI hd K hK
      simp only [frameOf, Act.put, List.setIfInBounds_toArray, List.set_cons_zero, List.set_cons_succ]
      obtain ⟨B_, l_, h0, hM_⟩ := hd 0 (by kernel_rfl)
      have h2 : g_ 2 = .string ⟨#[61, 92, 61]⟩ := hd 2 (by kernel_rfl)
      rw [h0, h2]
      obtain ⟨v_, hv_, hl⟩ := hM_.lookup 12 (by omega) (by decide)
      simp only [doSym] at hl
      go_simp
      refine hK.out v_ _ W_ ?_ hI (Below.refl _ _) ⟨_, hv_⟩
      simp only [frameOf, Act.put, List.setIfInBounds_toArray, List.set_cons_zero, List.set_cons_succ, Nat.zero_add, Nat.reduceAdd, h0, h2]
    · intro g_ W_ hI hd K hK
      simp only [frameOf, Act.put, List.setIfInBounds_toArray, List.set_cons_zero, List.set_cons_succ]
      go_simp
      refine hK.out (.pointer (some ⟨S, 0, none⟩)) _ W_ ?_ hI (Below.refl _ _) rfl
      simp only [frameOf, Act.put, List.setIfInBounds_toArray, List.set_cons_zero, List.set_cons_succ, Nat.zero_add, Nat.reduceAdd]
    · intro g_ W_ hI hd K hK
      simp only [frameOf, Act.put, List.setIfInBounds_toArray, List.set_cons_zero, List.set_cons_succ]
      go_simp
      refine hK.out (.pointer (some ⟨w.heap.size, 3, none⟩)) _ W_ ?_ hI (Below.refl _ _) rfl
      simp only [frameOf, Act.put, List.setIfInBounds_toArray, List.set_cons_zero, List.set_cons_succ, Nat.zero_add, Nat.reduceAdd]
    · intro g_ W_ hI hd K hK
      simp only [frameOf, Act.put, List.setIfInBounds_toArray, List.set_cons_zero, List.set_cons_succ]
      have h5 : g_ 5 = .pointer (some ⟨w.heap.size, 3, none⟩) := hd 5 (by kernel_rfl)
      rw [h5]
      have c1 := (hI.cell (p := ⟨w.heap.size, 3, none⟩) hz).trans G3.out
      go_simp
      refine hK.out (.slice (some ⟨pb, po, none⟩) 2 g.c) _ W_ ?_ hI (Below.refl _ _) rfl
      simp only [frameOf, Act.put, List.setIfInBounds_toArray, List.set_cons_zero, List.set_cons_succ, Nat.zero_add, Nat.reduceAdd, h5]
    · intro g_ W_ hI hd K hK
      simp only [frameOf, Act.put, List.setIfInBounds_toArray, List.set_cons_zero, List.set_cons_succ]
      have h4 : g_ 4 = .pointer (some ⟨S, 0, none⟩) := hd 4 (by kernel_rfl)
      have h6 : g_ 6 = .slice (some ⟨pb, po, none⟩) 2 g.c := hd 6 (by kernel_rfl)
      rw [h4, h6]
      obtain ⟨B_, hv_⟩ := hd 3 (by kernel_rfl)
      obtain ⟨z_, hz3⟩ : ∃ z, g_ 3 = z := ⟨_, rfl⟩
      rw [hz3] at hv_ ⊢
      obtain ⟨b1, u1, rfl, -, -, hc1, b2, u2, rfl, -, -, hc2, rfl⟩ := hv_
      go_simp
      refine (test_compared S (some ⟨pb, po, none⟩) 2 g.c W_ b1 b2 hc1 _ (compared1_any S σ n W_ (SB.out.below hI) a b pb po 2 g.c (Ea.out.below hI) (Eb.out.below hI) (by omega) b2 1 (by omega) hc2)).mono ?_
      rintro e w' ⟨⟨p_, rfl⟩, hB⟩
      rw [show doneR (rkP σ a b (cmpI 1)) = r from RE.out.symm]
      refine hK.out (.tuple #[p_, .bool r.1, .int .i64 r.2]) _ _ ?_ (hI.trans (hB.mono hI.size)) hB ⟨p_, rfl, trivial⟩
      simp only [frameOf, Act.put, List.setIfInBounds_toArray, List.set_cons_zero, List.set_cons_succ, Nat.zero_add, Nat.reduceAdd, h4, h6, hz3]
    · intro g_ W_ hI hd K hK
      simp only [frameOf, Act.put, List.setIfInBounds_toArray, List.set_cons_zero, List.set_cons_succ]
      obtain ⟨p_, h7, hp_⟩ := hd 7 (by kernel_rfl)
      rw [h7]
      go_simp
      refine hK.out p_ _ W_ ?_ hI (Below.refl _ _) hp_
      simp only [frameOf, Act.put, List.setIfInBounds_toArray, List.set_cons_zero, List.set_cons_succ, Nat.zero_add, Nat.reduceAdd, h7]
    · intro g_ W_ hI hd K hK
      simp only [frameOf, Act.put, List.setIfInBounds_toArray, List.set_cons_zero, List.set_cons_succ]
      obtain ⟨p_, h7, hp_⟩ := hd 7 (by kernel_rfl)
      rw [h7]
      go_simp
      refine hK.out (.bool r.1) _ W_ ?_ hI (Below.refl _ _) rfl
      simp only [frameOf, Act.put, List.setIfInBounds_toArray, List.set_cons_zero, List.set_cons_succ, Nat.zero_add, Nat.reduceAdd, h7]
    · intro g_ W_ hI hd K hK
      simp only [frameOf, Act.put, List.setIfInBounds_toArray, List.set_cons_zero, List.set_cons_succ]
      obtain ⟨p_, h7, hp_⟩ := hd 7 (by kernel_rfl)
      rw [h7]
      go_simp
      refine hK.out (.int .i64 r.2) _ W_ ?_ hI (Below.refl _ _) rfl
      simp only [frameOf, Act.put, List.setIfInBounds_toArray, List.set_cons_zero, List.set_cons_succ, Nat.zero_add, Nat.reduceAdd, h7]
    · intro g_ W_ hI hd K hK
      simp only [frameOf, Act.put, List.setIfInBounds_toArray, List.set_cons_zero, List.set_cons_succ]
      have hp_ := hd 8 (by kernel_rfl)
      go_simp
      refine hK.out (g_ 8) _ W_ ?_ hI (Below.refl _ _) hp_
      simp only [frameOf, Act.put, List.setIfInBounds_toArray, List.set_cons_zero, List.set_cons_succ, Nat.zero_add, Nat.reduceAdd]
    · intro g_ W_ hI hd K hK
      simp only [frameOf, Act.put, List.setIfInBounds_toArray, List.set_cons_zero, List.set_cons_succ]
      have h9 : g_ 9 = .bool r.1 := hd 9 (by kernel_rfl)
      rw [h9]
      go_simp
      refine hK.out (.bool r.1) _ W_ ?_ hI (Below.refl _ _) rfl
      simp only [frameOf, Act.put, List.setIfInBounds_toArray, List.set_cons_zero, List.set_cons_succ, Nat.zero_add, Nat.reduceAdd, h9]
    · intro g_ W_ hI hd K hK
      simp only [frameOf, Act.put, List.setIfInBounds_toArray, List.set_cons_zero, List.set_cons_succ]
      have h10 : g_ 10 = .int .i64 r.2 := hd 10 (by kernel_rfl)
      rw [h10]
      go_simp
      refine hK.out (.int .i64 r.2) _ W_ ?_ hI (Below.refl _ _) rfl
      simp only [frameOf, Act.put, List.setIfInBounds_toArray, List.set_cons_zero, List.set_cons_succ, Nat.zero_add, Nat.reduceAdd, h10]
  case done =>
    intro f_ W_ hI hd
    have q_ := hd 11 (by decide)
    have ha_ : f_ 12 = .bool r.1 := hd 12 (by decide)
    have hb_ : f_ 13 = .int .i64 r.2 := hd 13 (by decide)
    simp only [frameOf, Act.put, List.setIfInBounds_toArray, List.set_cons_zero, List.set_cons_succ, Nat.zero_add, Nat.reduceAdd, ha_, hb_]
    have PO := Lib.hid q_
    have BB := Lib.hid (BW.out.trans (hI.mono BW.out.size))
    clear hd q_ ha_ hb_ hI
    go_wp2
    exact bodyPost_ret (v := .tuple #[f_ 11, .bool r.1, .int .i64 r.2]) (by simp [results, Tryz.results13, go_sem]) rfl ⟨⟨_, rfl⟩, BB.out⟩

set_option maxRecDepth 100000 in
set_option maxHeartbeats 4000000 in
theorem do_13 (S : Nat) (σ : Sb) (n : Nat) (hn : n ≤ 900000) (w : World) (hS : SubAt S σ n w) (a b g : Nd) (hk : g.k = 4) (hs : g.s = ⟨#[60]⟩) (hkids : g.kids = (.cons a.k a.s a.n a.p a.c a.kids (.cons b.k b.s b.n b.p b.c b.kids .nil))) (hok : g.kids.ok) (hat : Ts.At w g.p g.kids) (ha : a.kids.size ≤ 5000) (hb : b.kids.size ≤ 5000) :
    Calls Tryz.prog 13 #[.pointer (some ⟨S, 0, none⟩), .agg #[.int .u8 g.k, .string g.s, .int .i64 g.n, .slice g.p g.kids.len g.c]] w fun e w' => (∃ p, e = .returned (.tuple #[p, .bool (doV σ n a b 13).1, .int .i64 (doV σ n a b 13).2]) ) ∧ Below w.heap.size w w' := by
  obtain ⟨r, hr⟩ : ∃ r, r = doV σ n a b 13 := ⟨_, rfl⟩
  rw [← hr]
  have RE : Hid (r = doneR (rkP σ a b (cmpI 2))) := Lib.hid hr
  clear hr
  rw [hkids] at hok hat
  rw [hkids, hk, hs]
  obtain ⟨pb, po, hp, hEa, hEb⟩ := args_two hat hok ha hb
  rw [hp]
  simp only [Ts.len, Nat.zero_add, Nat.reduceAdd]
  obtain ⟨W0, hW0, hs0, hB0, hc0⟩ := box1 w #[.int .u8 4, .string ⟨#[60]⟩, .int .i64 g.n, .slice (some ⟨pb, po, none⟩) 2 g.c] 25
  have g0 : W0.cell? ⟨w.heap.size, 0, none⟩ = some (.int .u8 4) := hc0 0 _ rfl
  have g1 : W0.cell? ⟨w.heap.size, 1, none⟩ = some (.string ⟨#[60]⟩) := hc0 1 _ rfl
  have g3 : W0.cell? ⟨w.heap.size, 3, none⟩ = some (.slice (some ⟨pb, po, none⟩) 2 g.c) := hc0 3 _ rfl
  have BW := Lib.hid hB0
  have SB := Lib.hid (hS.below hB0)
  have Ea := Lib.hid (hEa.below hB0)
  have Eb := Lib.hid (hEb.below hB0)
  have ZW := Lib.hid hW0
  have hz0 : w.heap.size < W0.heap.size := by omega
  clear hW0 hB0 hc0 hS hEa hEb hat hok hkids hp hk hs hs0
  have hsn : ((2 : Nat) : Int) = 2 := rfl
  go_enter Tryz.func13, Tryz.ntmps13
  go_upto_region 1 with fail
  rw [← ZW.out]
  clear hsn
  go_wp2_with fail
  refine (builtin_any ⟨#[60]⟩ 2 (by decide) (by decide) W0).mono ?_
  rintro e W1 ⟨rfl, hI⟩
  rw [show bltB ⟨#[60]⟩ 2 = true by decide +kernel]
  have G1 := Lib.hid ((hI.cell (p := ⟨w.heap.size, 1, none⟩) hz0).trans g1)
  have G3 := Lib.hid ((hI.cell (p := ⟨w.heap.size, 3, none⟩) hz0).trans g3)
  have hz : w.heap.size < W1.heap.size := Nat.lt_of_lt_of_le hz0 hI.size
  replace SB := Lib.hid (SB.out.below hI)
  replace Ea := Lib.hid (Ea.out.below hI)
  replace Eb := Lib.hid (Eb.out.below hI)
  replace BW := Lib.hid (BW.out.trans (hI.mono BW.out.size))
  clear hI g0 g1 g3 ZW hz0
  go_upto_region 6 with fail
  refine region_by_facts (fun W_ => Below W1.heap.size W1 W_) [fun u W => ∃ B l, u = .map (some B) ∧ DoIn B 23 l W, fun u _ => u = .pointer (some ⟨w.heap.size, 1, none⟩), fun u _ => u = .string ⟨#[60]⟩, fun u W => ∃ B, doCl B 13 u W, fun u _ => u = .pointer (some ⟨S, 0, none⟩), fun u _ => u = .pointer (some ⟨w.heap.size, 3, none⟩), fun u _ => u = .slice (some ⟨pb, po, none⟩) 2 g.c, fun u W => ∃ p, u = .tuple #[p, .bool r.1, .int .i64 r.2] ∧ True, fun _ _ => True, fun u _ => u = .bool r.1, fun u _ => u = .int .i64 r.2, fun _ _ => True, fun u _ => u = .bool r.1, fun u _ => u = .int .i64 r.2]
    ⟨(by rintro v_ w_ x_ ⟨B, l, h1, h2⟩ hB; exact ⟨B, l, h1, h2.gr (by omega) hB⟩), .eq _, .eq _, (by rintro v_ w_ x_ ⟨B, h1⟩ hB; exact ⟨B, doCl_st B 13 (by omega) _ _ _ h1 (.of_below hB)⟩), .eq _, .eq _, .eq _, (by rintro v_ w_ x_ ⟨p, h1, h2⟩ hB; exact ⟨p, h1, trivial⟩), (fun _ _ _ _ _ => trivial), .eq _, .eq _, (fun _ _ _ _ _ => trivial), .eq _, .eq _, trivial⟩ (by kernel_rfl) (by kernel_rfl) (by kernel_rfl) ?h0 ?steps ?done
  case h0 => exact (Below.refl _ _).drew
  case steps =>
    refine ⟨?_, ?_, ?_, ?_, ?_, ?_, ?_, ?_, ?_, ?_, ?_, ?_, ?_, ?_, trivial⟩
    · intro g_ W_ hI hd K hK
      simp only [frameOf, Act.put, List.setIfInBounds_toArray, List.set_cons_zero, List.set_cons_succ]
      go_simp
      refine (doings_any W_).mono ?_
      rintro e w' ⟨rfl, hB, l_, hD⟩
      refine hK.out (.map (some W_.heap.size)) _ _ ?_ (hI.trans (hB.mono hI.size)) hB ⟨_, l_, rfl, hD⟩
      simp only [frameOf, Act.put, List.setIfInBounds_toArray, List.set_cons_zero, List.set_cons_succ, Nat.zero_add, Nat.reduceAdd]
    · intro g_ W_ hI hd K hK
      simp only [frameOf, Act.put, List.setIfInBounds_toArray, List.set_cons_zero, List.set_cons_succ]
      go_simp
      refine hK.out (.pointer (some ⟨w.heap.size, 1, none⟩)) _ W_ ?_ hI (Below.refl _ _) rfl
      simp only [frameOf, Act.put, List.setIfInBounds_toArray, List.set_cons_zero, List.set_cons_succ, Nat.zero_add, Nat.reduceAdd]
    · intro g_ W_ hI hd K hK
      simp only [frameOf, Act.put, List.setIfInBounds_toArray, List.set_cons_zero, List.set_cons_succ]
      have h1 : g_ 1 = .pointer (some ⟨w.heap.size, 1, none⟩) := hd 1 (by kernel_rfl)
      rw [h1]
      have c1 := (hI.cell (p := ⟨w.heap.size, 1, none⟩) hz).trans G1.out
      go_simp
      refine hK.out (.string ⟨#[60]⟩) _ W_ ?_ hI (Below.refl _ _) rfl
      simp only [frameOf, Act.put, List.setIfInBounds_toArray, List.set_cons_zero, List.set_cons_succ, Nat.zero_add, Nat.reduceAdd, h1]
    · intro g_ W_ hI hd K hK
      simp only [frameOf, Act.put, List.setIfInBounds_toArray, List.set_cons_zero, List.set_cons_succ]
      obtain ⟨B_, l_, h0, hM_⟩ := hd 0 (by kernel_rfl)
      have h2 : g_ 2 = .string ⟨#[60]⟩ := hd 2 (by kernel_rfl)
      rw [h0, h2]
      obtain ⟨v_, hv_, hl⟩ := hM_.lookup 13 (by omega) (by decide)
      simp only [doSym] at hl
      go_simp
      refine hK.out v_ _ W_ ?_ hI (Below.refl _ _) ⟨_, hv_⟩
      simp only [frameOf, Act.put, List.setIfInBounds_toArray, List.set_cons_zero, List.set_cons_succ, Nat.zero_add, Nat.reduceAdd, h0, h2]
    · intro g_ W_ hI hd K hK
      simp only [frameOf, Act.put, List.setIfInBounds_toArray, List.set_cons_zero, List.set_cons_succ]
      go_simp
      refine hK.out (.pointer (some ⟨S, 0, none⟩)) _ W_ ?_ hI (Below.refl _ _) rfl
      simp only [frameOf, Act.put, List.setIfInBounds_toArray, List.set_cons_zero, List.set_cons_succ, Nat.zero_add, Nat.reduceAdd]
    · intro g_ W_ hI hd K hK
      simp only [frameOf, Act.put, List.setIfInBounds_toArray, List.set_cons_zero, List.set_cons_succ]
      go_simp
      refine hK.out (.pointer (some ⟨w.heap.size, 3, none⟩)) _ W_ ?_ hI (Below.refl _ _) rfl
      simp only [frameOf, Act.put, List.setIfInBounds_toArray, List.set_cons_zero, List.set_cons_succ, Nat.zero_add, Nat.reduceAdd]
    · intro g_ W_ hI hd K hK
      simp only [frameOf, Act.put, List.setIfInBounds_toArray, List.set_cons_zero, List.set_cons_succ]
      have h5 : g_ 5 = .pointer (some ⟨w.heap.size, 3, none⟩) := hd 5 (by kernel_rfl)
      rw [h5]
      have c1 := (hI.cell (p := ⟨w.heap.size, 3, none⟩) hz).trans G3.out
      go_simp
      refine hK.out (.slice (some ⟨pb, po, none⟩) 2 g.c) _ W_ ?_ hI (Below.refl _ _) rfl
      simp only [frameOf, Act.put, List.setIfInBounds_toArray, List.set_cons_zero, List.set_cons_succ, Nat.zero_add, Nat.reduceAdd, h5]
    · intro g_ W_ hI hd K hK
      simp only [frameOf, Act.put, List.setIfInBounds_toArray, List.set_cons_zero, List.set_cons_succ]
      have h4 : g_ 4 = .pointer (some ⟨S, 0, none⟩) := hd 4 (by kernel_rfl)
      have h6 : g_ 6 = .slice (some ⟨pb, po, none⟩) 2 g.c := hd 6 (by kernel_rfl)
      rw [h4, h6]
      obtain ⟨B_, hv_⟩ := hd 3 (by kernel_rfl)
      obtain ⟨z_, hz3⟩ : ∃ z, g_ 3 = z := ⟨_, rfl⟩
      rw [hz3] at hv_ ⊢
      obtain ⟨b1, u1, rfl, -, -, hc1, b2, u2, rfl, -, -, hc2, rfl⟩ := hv_
      go_simp
      refine (test_compared S (some ⟨pb, po, none⟩) 2 g.c W_ b1 b2 hc1 _ (compared1_any S σ n W_ (SB.out.below hI) a b pb po 2 g.c (Ea.out.below hI) (Eb.out.below hI) (by omega) b2 2 (by omega) hc2)).mono ?_
      rintro e w' ⟨⟨p_, rfl⟩, hB⟩
      rw [show doneR (rkP σ a b (cmpI 2)) = r from RE.out.symm]
      refine hK.out (.tuple #[p_, .bool r.1, .int .i64 r.2]) _ _ ?_ (hI.trans (hB.mono hI.size)) hB ⟨p_, rfl, trivial⟩
      simp only [frameOf, Act.put, List.setIfInBounds_toArray, List.set_cons_zero, List.set_cons_succ, Nat.zero_add, Nat.reduceAdd, h4, h6, hz3]
    · intro g_ W_ hI hd K hK
      simp only [frameOf, Act.put, List.setIfInBounds_toArray, List.set_cons_zero, List.set_cons_succ]
      obtain ⟨p_, h7, hp_⟩ := hd 7 (by kernel_rfl)
      rw [h7]
      go_simp
      refine hK.out p_ _ W_ ?_ hI (Below.refl _ _) hp_
      simp only [frameOf, Act.put, List.setIfInBounds_toArray, List.set_cons_zero, List.set_cons_succ, Nat.zero_add, Nat.reduceAdd, h7]
    · intro g_ W_ hI hd K hK
      simp only [frameOf, Act.put, List.setIfInBounds_toArray, List.set_cons_zero, List.set_cons_succ]
      obtain ⟨p_, h7, hp_⟩ := hd 7 (by kernel_rfl)
      rw [h7]
      go_simp
      refine hK.out (.bool r.1) _ W_ ?_ hI (Below.refl _ _) rfl
      simp only [frameOf, Act.put, List.setIfInBounds_toArray, List.set_cons_zero, List.set_cons_succ, Nat.zero_add, Nat.reduceAdd, h7]
    · intro g_ W_ hI hd K hK
      simp only [frameOf, Act.put, List.setIfInBounds_toArray, List.set_cons_zero, List.set_cons_succ]
      obtain ⟨p_, h7, hp_⟩ := hd 7 (by kernel_rfl)
      rw [h7]
      go_simp
      refine hK.out (.int .i64 r.2) _ W_ ?_ hI (Below.refl _ _) rfl
      simp only [frameOf, Act.put, List.setIfInBounds_toArray, List.set_cons_zero, List.set_cons_succ, Nat.zero_add, Nat.reduceAdd, h7]
    · intro g_ W_ hI hd K hK
      simp only [frameOf, Act.put, List.setIfInBounds_toArray, List.set_cons_zero, List.set_cons_succ]
      have hp_ := hd 8 (by kernel_rfl)
      go_simp
      refine hK.out (g_ 8) _ W_ ?_ hI (Below.refl _ _) hp_
      simp only [frameOf, Act.put, List.setIfInBounds_toArray, List.set_cons_zero, List.set_cons_succ, Nat.zero_add, Nat.reduceAdd]
    · intro g_ W_ hI hd K hK
      simp only [frameOf, Act.put, List.setIfInBounds_toArray, List.set_cons_zero, List.set_cons_succ]
      have h9 : g_ 9 = .bool r.1 := hd 9 (by kernel_rfl)
      rw [h9]
      go_simp
      refine hK.out (.bool r.1) _ W_ ?_ hI (Below.refl _ _) rfl
      simp only [frameOf, Act.put, List.setIfInBounds_toArray, List.set_cons_zero, List.set_cons_succ, Nat.zero_add, Nat.reduceAdd, h9]
    · intro g_ W_ hI hd K hK
      simp only [frameOf, Act.put, List.setIfInBounds_toArray, List.set_cons_zero, List.set_cons_succ]
      have h10 : g_ 10 = .int .i64 r.2 := hd 10 (by kernel_rfl)
      rw [h10]
      go_simp
      refine hK.out (.int .i64 r.2) _ W_ ?_ hI (Below.refl _ _) rfl
      simp only [frameOf, Act.put, List.setIfInBounds_toArray, List.set_cons_zero, List.set_cons_succ, Nat.zero_add, Nat.reduceAdd, h10]
  case done =>
    intro f_ W_ hI hd
    have q_ := hd 11 (by decide)
    have ha_ : f_ 12 = .bool r.1 := hd 12 (by decide)
    have hb_ : f_ 13 = .int .i64 r.2 := hd 13 (by decide)
    simp only [frameOf, Act.put, List.setIfInBounds_toArray, List.set_cons_zero, List.set_cons_succ, Nat.zero_add, Nat.reduceAdd, ha_, hb_]
    have PO := Lib.hid q_
    have BB := Lib.hid (BW.out.trans (hI.mono BW.out.size))
    clear hd q_ ha_ hb_ hI
    go_wp2
    exact bodyPost_ret (v := .tuple #[f_ 11, .bool r.1, .int .i64 r.2]) (by simp [results, Tryz.results13, go_sem]) rfl ⟨⟨_, rfl⟩, BB.out⟩

set_option maxRecDepth 100000 in
set_option maxHeartbeats 4000000 in
theorem do_14 (S : Nat) (σ : Sb) (n : Nat) (hn : n ≤ 900000) (w : World) (hS : SubAt S σ n w) (a b g : Nd) (hk : g.k = 4) (hs : g.s = ⟨#[62]⟩) (hkids : g.kids = (.cons a.k a.s a.n a.p a.c a.kids (.cons b.k b.s b.n b.p b.c b.kids .nil))) (hok : g.kids.ok) (hat : Ts.At w g.p g.kids) (ha : a.kids.size ≤ 5000) (hb : b.kids.size ≤ 5000) :
    Calls Tryz.prog 13 #[.pointer (some ⟨S, 0, none⟩), .agg #[.int .u8 g.k, .string g.s, .int .i64 g.n, .slice g.p g.kids.len g.c]] w fun e w' => (∃ p, e = .returned (.tuple #[p, .bool (doV σ n a b 14).1, .int .i64 (doV σ n a b 14).2]) ) ∧ Below w.heap.size w w' := by
  obtain ⟨r, hr⟩ : ∃ r, r = doV σ n a b 14 := ⟨_, rfl⟩
  rw [← hr]
  have RE : Hid (r = doneR (rkP σ a b (cmpI 3))) := Lib.hid hr
  clear hr
  rw [hkids] at hok hat
  rw [hkids, hk, hs]
  obtain ⟨pb, po, hp, hEa, hEb⟩ := args_two hat hok ha hb
  rw [hp]
  simp only [Ts.len, Nat.zero_add, Nat.reduceAdd]
  obtain ⟨W0, hW0, hs0, hB0, hc0⟩ := box1 w #[.int .u8 4, .string ⟨#[62]⟩, .int .i64 g.n, .slice (some ⟨pb, po, none⟩) 2 g.c] 25
  have g0 : W0.cell? ⟨w.heap.size, 0, none⟩ = some (.int .u8 4) := hc0 0 _ rfl
  have g1 : W0.cell? ⟨w.heap.size, 1, none⟩ = some (.string ⟨#[62]⟩) := hc0 1 _ rfl
  have g3 : W0.cell? ⟨w.heap.size, 3, none⟩ = some (.slice (some ⟨pb, po, none⟩) 2 g.c) := hc0 3 _ rfl
  have BW := Lib.hid hB0
  have SB := Lib.hid (hS.below hB0)
  have Ea := Lib.hid (hEa.below hB0)
  have Eb := Lib.hid (hEb.below hB0)
  have ZW := Lib.hid hW0
  have hz0 : w.heap.size < W0.heap.size := by omega
  clear hW0 hB0 hc0 hS hEa hEb hat hok hkids hp hk hs hs0
  have hsn : ((2 : Nat) : Int) = 2 := rfl
  go_enter Tryz.func13, Tryz.ntmps13
  go_upto_region 1 with fail
  rw [← ZW.out]
  clear hsn
  go_wp2_with fail
  refine (builtin_any ⟨#[62]⟩ 2 (by decide) (by decide) W0).mono ?_
  rintro e W1 ⟨rfl, hI⟩
  rw [show bltB ⟨#[62]⟩ 2 = true by decide +kernel]
  have G1 := Lib.hid ((hI.cell (p := ⟨w.heap.size, 1, none⟩) hz0).trans g1)
  have G3 := Lib.hid ((hI.cell (p := ⟨w.heap.size, 3, none⟩) hz0).trans g3)
  have hz : w.heap.size < W1.heap.size := Nat.lt_of_lt_of_le hz0 hI.size
  replace SB := Lib.hid (SB.out.below hI)
  replace Ea := Lib.hid (Ea.out.below hI)
  replace Eb := Lib.hid (Eb.out.below hI)
  replace BW := Lib.hid (BW.out.trans (hI.mono BW.out.size))
  clear hI g0 g1 g3 ZW hz0
  go_upto_region 6 with fail
  refine region_by_facts (fun W_ => Below W1.heap.size W1 W_) [fun u W => ∃ B l, u = .map (some B) ∧ DoIn B 23 l W, fun u _ => u = .pointer (some ⟨w.heap.size, 1, none⟩), fun u _ => u = .string ⟨#[62]⟩, fun u W => ∃ B, doCl B 14 u W, fun u _ => u = .pointer (some ⟨S, 0, none⟩), fun u _ => u = .pointer (some ⟨w.heap.size, 3, none⟩), fun u _ => u = .slice (some ⟨pb, po, none⟩) 2 g.c, fun u W => ∃ p, u = .tuple #[p, .bool r.1, .int .i64 r.2] ∧ True, fun _ _ => True, fun u _ => u = .bool r.1, fun u _ => u = .int .i64 r.2, fun _ _ => True, fun u _ => u = .bool r.1, fun u _ => u = .int .i64 r.2]
    ⟨(by rintro v_ w_ x_ ⟨B, l, h1, h2⟩ hB; exact ⟨B, l, h1, h2.gr (by omega) hB⟩), .eq _, .eq _, (by rintro v_ w_ x_ ⟨B, h1⟩ hB; exact ⟨B, doCl_st B 14 (by omega) _ _ _ h1 (.of_below hB)⟩), .eq _, .eq _, .eq _, (by rintro v_ w_ x_ ⟨p, h1, h2⟩ hB; exact ⟨p, h1, trivial⟩), (fun _ _ _ _ _ => trivial), .eq _, .eq _, (fun _ _ _ _ _ => trivial), .eq _, .eq _, trivial⟩ (by kernel_rfl) (by kernel_rfl) (by kernel_rfl) ?h0 ?steps ?done
  case h0 => exact (Below.refl _ _).drew
  case steps =>
    refine ⟨?_, ?_, ?_, ?_, ?_, ?_, ?_, ?_, ?_, ?_, ?_, ?_, ?_, ?_, trivial⟩
    · intro g_ W_ hI hd K hK
      simp only [frameOf, Act.put, List.setIfInBounds_toArray, List.set_cons_zero, List.set_cons_succ]
      go_simp
      refine (doings_any W_).mono ?_
      rintro e w' ⟨rfl, hB, l_, hD⟩
      refine hK.out (.map (some W_.heap.size)) _ _ ?_ (hI.trans (hB.mono hI.size)) hB ⟨_, l_, rfl, hD⟩
      simp only [frameOf, Act.put, List.setIfInBounds_toArray, List.set_cons_zero, List.set_cons_succ, Nat.zero_add, Nat.reduceAdd]
    · intro g_ W_ hI hd K hK
      simp only [frameOf, Act.put, List.setIfInBounds_toArray, List.set_cons_zero, List.set_cons_succ]
      go_simp
      refine hK.out (.pointer (some ⟨w.heap.size, 1, none⟩)) _ W_ ?_ hI (Below.refl _ _) rfl
      simp only [frameOf, Act.put, List.setIfInBounds_toArray, List.set_cons_zero, List.set_cons_succ, Nat.zero_add, Nat.reduceAdd]
    · intro g_ W_ hI hd K hK
      simp only [frameOf, Act.put, List.setIfInBounds_toArray, List.set_cons_zero, List.set_cons_succ]
      have h1 : g_ 1 = .pointer (some ⟨w.heap.size, 1, none⟩) := hd 1 (by kernel_rfl)
      rw [h1]
      have c1 := (hI.cell (p := ⟨w.heap.size, 1, none⟩) hz).trans G1.out
      go_simp
      refine hK.out (.string ⟨#[62]⟩) _ W_ ?_ hI (Below.refl _ _) rfl
      simp only [frameOf, Act.put, List.setIfInBounds_toArray, List.set_cons_zero, List.set_cons_succ, Nat.zero_add, Nat.reduceAdd, h1]
    · intro g_ W_ hI hd K hK
      simp only [frameOf, Act.put, List.setIfInBounds_toArray, List.set_cons_zero, List.set_cons_succ]
      obtain ⟨B_, l_, h0, hM_⟩ := hd 0 (by kernel_rfl)
      have h2 : g_ 2 = .string ⟨#[62]⟩ := hd 2 (by kernel_rfl)
      rw [h0, h2]
      obtain ⟨v_, hv_, hl⟩ := hM_.lookup 14 (by omega) (by decide)
      simp only [doSym] at hl
      go_simp
      refine hK.out v_ _ W_ ?_ hI (Below.refl _ _) ⟨_, hv_⟩
      simp only [frameOf, Act.put, List.setIfInBounds_toArray, List.set_cons_zero, List.set_cons_succ, Nat.zero_add, Nat.reduceAdd, h0, h2]
    · intro g_ W_ hI hd K hK
      simp only [frameOf, Act.put, List.setIfInBounds_toArray, List.set_cons_zero, List.set_cons_succ]
      go_simp
      refine hK.out (.pointer (some ⟨S, 0, none⟩)) _ W_ ?_ hI (Below.refl _ _) rfl
      simp only [frameOf, Act.put, List.setIfInBounds_toArray, List.set_cons_zero, List.set_cons_succ, Nat.zero_add, Nat.reduceAdd]
    · intro g_ W_ hI hd K hK
      simp only [frameOf, Act.put, List.setIfInBounds_toArray, List.set_cons_zero, List.set_cons_succ]
      go_simp
      refine hK.out (.pointer (some ⟨w.heap.size, 3, none⟩)) _ W_ ?_ hI (Below.refl _ _) rfl
      simp only [frameOf, Act.put, List.setIfInBounds_toArray, List.set_cons_zero, List.set_cons_succ, Nat.zero_add, Nat.reduceAdd]
    · intro g_ W_ hI hd K hK
      simp only [frameOf, Act.put, List.setIfInBounds_toArray, List.set_cons_zero, List.set_cons_succ]
      have h5 : g_ 5 = .pointer (some ⟨w.heap.size, 3, none⟩) := hd 5 (by kernel_rfl)
      rw [h5]
      have c1 := (hI.cell (p := ⟨w.heap.size, 3, none⟩) hz).trans G3.out
      go_simp
      refine hK.out (.slice (some ⟨pb, po, none⟩) 2 g.c) _ W_ ?_ hI (Below.refl _ _) rfl
      simp only [frameOf, Act.put, List.setIfInBounds_toArray, List.set_cons_zero, List.set_cons_succ, Nat.zero_add, Nat.reduceAdd, h5]
    · intro g_ W_ hI hd K hK
      simp only [frameOf, Act.put, List.setIfInBounds_toArray, List.set_cons_zero, List.set_cons_succ]
      have h4 : g_ 4 = .pointer (some ⟨S, 0, none⟩) := hd 4 (by kernel_rfl)
      have h6 : g_ 6 = .slice (some ⟨pb, po, none⟩) 2 g.c := hd 6 (by kernel_rfl)
      rw [h4, h6]
      obtain ⟨B_, hv_⟩ := hd 3 (by kernel_rfl)
      obtain ⟨z_, hz3⟩ : ∃ z, g_ 3 = z := ⟨_, rfl⟩
      rw [hz3] at hv_ ⊢
      obtain ⟨b1, u1, rfl, -, -, hc1, b2, u2, rfl, -, -, hc2, rfl⟩ := hv_
      go_simp
      refine (test_compared S (some ⟨pb, po, none⟩) 2 g.c W_ b1 b2 hc1 _ (compared1_any S σ n W_ (SB.out.below hI) a b pb po 2 g.c (Ea.out.below hI) (Eb.out.below hI) (by omega) b2 3 (by omega) hc2)).mono ?_
      rintro e w' ⟨⟨p_, rfl⟩, hB⟩
      rw [show doneR (rkP σ a b (cmpI 3)) = r from RE.out.symm]
      refine hK.out (.tuple #[p_, .bool r.1, .int .i64 r.2]) _ _ ?_ (hI.trans (hB.mono hI.size)) hB ⟨p_, rfl, trivial⟩
      simp only [frameOf, Act.put, List.setIfInBounds_toArray, List.set_cons_zero, List.set_cons_succ, Nat.zero_add, Nat.reduceAdd, h4, h6, hz3]
    · intro g_ W_ hI hd K hK
      simp only [frameOf, Act.put, List.setIfInBounds_toArray, List.set_cons_zero, List.set_cons_succ]
      obtain ⟨p_, h7, hp_⟩ := hd 7 (by kernel_rfl)
      rw [h7]
      go_simp
      refine hK.out p_ _ W_ ?_ hI (Below.refl _ _) hp_
      simp only [frameOf, Act.put, List.setIfInBounds_toArray, List.set_cons_zero, List.set_cons_succ, Nat.zero_add, Nat.reduceAdd, h7]
    · intro g_ W_ hI hd K hK
      simp only [frameOf, Act.put, List.setIfInBounds_toArray, List.set_cons_zero, List.set_cons_succ]
      obtain ⟨p_, h7, hp_⟩ := hd 7 (by kernel_rfl)
      rw [h7]
      go_simp
      refine hK.out (.bool r.1) _ W_ ?_ hI (Below.refl _ _) rfl
      simp only [frameOf, Act.put, List.setIfInBounds_toArray, List.set_cons_zero, List.set_cons_succ, Nat.zero_add, Nat.reduceAdd, h7]
    · intro g_ W_ hI hd K hK
      simp only [frameOf, Act.put, List.setIfInBounds_toArray, List.set_cons_zero, List.set_cons_succ]
      obtain ⟨p_, h7, hp_⟩ := hd 7 (by kernel_rfl)
      rw [h7]
      go_simp
      refine hK.out (.int .i64 r.2) _ W_ ?_ hI (Below.refl _ _) rfl
      simp only [frameOf, Act.put, List.setIfInBounds_toArray, List.set_cons_zero, List.set_cons_succ, Nat.zero_add, Nat.reduceAdd, h7]
    · intro g_ W_ hI hd K hK
      simp only [frameOf, Act.put, List.setIfInBounds_toArray, List.set_cons_zero, List.set_cons_succ]
      have hp_ := hd 8 (by kernel_rfl)
      go_simp
      refine hK.out (g_ 8) _ W_ ?_ hI (Below.refl _ _) hp_
      simp only [frameOf, Act.put, List.setIfInBounds_toArray, List.set_cons_zero, List.set_cons_succ, Nat.zero_add, Nat.reduceAdd]
    · intro g_ W_ hI hd K hK
      simp only [frameOf, Act.put, List.setIfInBounds_toArray, List.set_cons_zero, List.set_cons_succ]
      have h9 : g_ 9 = .bool r.1 := hd 9 (by kernel_rfl)
      rw [h9]
      go_simp
      refine hK.out (.bool r.1) _ W_ ?_ hI (Below.refl _ _) rfl
      simp only [frameOf, Act.put, List.setIfInBounds_toArray, List.set_cons_zero, List.set_cons_succ, Nat.zero_add, Nat.reduceAdd, h9]
    · intro g_ W_ hI hd K hK
      simp only [frameOf, Act.put, List.setIfInBounds_toArray, List.set_cons_zero, List.set_cons_succ]
      have h10 : g_ 10 = .int .i64 r.2 := hd 10 (by kernel_rfl)
      rw [h10]
      go_simp
      refine hK.out (.int .i64 r.2) _ W_ ?_ hI (Below.refl _ _) rfl
      simp only [frameOf, Act.put, List.setIfInBounds_toArray, List.set_cons_zero, List.set_cons_succ, Nat.zero_add, Nat.reduceAdd, h10]
  case done =>
    intro f_ W_ hI hd
    have q_ := hd 11 (by decide)
    have ha_ : f_ 12 = .bool r.1 := hd 12 (by decide)
    have hb_ : f_ 13 = .int .i64 r.2 := hd 13 (by decide)
    simp only [frameOf, Act.put, List.setIfInBounds_toArray, List.set_cons_zero, List.set_cons_succ, Nat.zero_add, Nat.reduceAdd, ha_, hb_]
    have PO := Lib.hid q_
    have BB := Lib.hid (BW.out.trans (hI.mono BW.out.size))
    clear hd q_ ha_ hb_ hI
    go_wp2
    exact bodyPost_ret (v := .tuple #[f_ 11, .bool r.1, .int .i64 r.2]) (by simp [results, Tryz.results13, go_sem]) rfl ⟨⟨_, rfl⟩, BB.out⟩

set_option maxRecDepth 100000 in
set_option maxHeartbeats 4000000 in
theorem do_15 (S : Nat) (σ : Sb) (n : Nat) (hn : n ≤ 900000) (w : World) (hS : SubAt S σ n w) (a b g : Nd) (hk : g.k = 4) (hs : g.s = ⟨#[61, 60]⟩) (hkids : g.kids = (.cons a.k a.s a.n a.p a.c a.kids (.cons b.k b.s b.n b.p b.c b.kids .nil))) (hok : g.kids.ok) (hat : Ts.At w g.p g.kids) (ha : a.kids.size ≤ 5000) (hb : b.kids.size ≤ 5000) :
    Calls Tryz.prog 13 #[.pointer (some ⟨S, 0, none⟩), .agg #[.int .u8 g.k, .string g.s, .int .i64 g.n, .slice g.p g.kids.len g.c]] w fun e w' => (∃ p, e = .returned (.tuple #[p, .bool (doV σ n a b 15).1, .int .i64 (doV σ n a b 15).2]) ) ∧ Below w.heap.size w w' := by
  obtain ⟨r, hr⟩ : ∃ r, r = doV σ n a b 15 := ⟨_, rfl⟩
  rw [← hr]
  have RE : Hid (r = doneR (rkP σ a b (cmpI 4))) := Lib.hid hr
  clear hr
  rw [hkids] at hok hat
  rw [hkids, hk, hs]
  obtain ⟨pb, po, hp, hEa, hEb⟩ := args_two hat hok ha hb
  rw [hp]
  simp only [Ts.len, Nat.zero_add, Nat.reduceAdd]
  obtain ⟨W0, hW0, hs0, hB0, hc0⟩ := box1 w #[.int .u8 4, .string ⟨#[61, 60]⟩, .int .i64 g.n, .slice (some ⟨pb, po, none⟩) 2 g.c] 25
  have g0 : W0.cell? ⟨w.heap.size, 0, none⟩ = some (.int .u8 4) := hc0 0 _ rfl
  have g1 : W0.cell? ⟨w.heap.size, 1, none⟩ = some (.string ⟨#[61, 60]⟩) := hc0 1 _ rfl
  have g3 : W0.cell? ⟨w.heap.size, 3, none⟩ = some (.slice (some ⟨pb, po, none⟩) 2 g.c) := hc0 3 _ rfl
  have BW := Lib.hid hB0
  have SB := Lib.hid (hS.below hB0)
  have Ea := Lib.hid (hEa.below hB0)
  have Eb := Lib.hid (hEb.below hB0)
  have ZW := Lib.hid hW0
  have hz0 : w.heap.size < W0.heap.size := by omega
  clear hW0 hB0 hc0 hS hEa hEb hat hok hkids hp hk hs hs0
  have hsn : ((2 : Nat) : Int) = 2 := rfl
  go_enter Tryz.func13, Tryz.ntmps13
  go_upto_region 1 with fail
  rw [← ZW.out]
  clear hsn
  go_wp2_with fail
  refine (builtin_any ⟨#[61, 60]⟩ 2 (by decide) (by decide) W0).mono ?_
  rintro e W1 ⟨rfl, hI⟩
  rw [show bltB ⟨#[61, 60]⟩ 2 = true by decide +kernel]
  have G1 := Lib.hid ((hI.cell (p := ⟨w.heap.size, 1, none⟩) hz0).trans g1)
  have G3 := Lib.hid ((hI.cell (p := ⟨w.heap.size, 3, none⟩) hz0).trans g3)
  have hz : w.heap.size < W1.heap.size := Nat.lt_of_lt_of_le hz0 hI.size
  replace SB := Lib.hid (SB.out.below hI)
  replace Ea := Lib.hid (Ea.out.below hI)
  replace Eb := Lib.hid (Eb.out.below hI)
  replace BW := Lib.hid (BW.out.trans (hI.mono BW.out.size))
  clear hI g0 g1 g3 ZW hz0
  go_upto_region 6 with fail
  refine region_by_facts (fun W_ => Below W1.heap.size W1 W_) [fun u W => ∃ B l, u = .map (some B) ∧ DoIn B 23 l W, fun u _ => u = .pointer (some ⟨w.heap.size, 1, none⟩), fun u _ => u = .string ⟨#[61, 60]⟩, fun u W => ∃ B, doCl B 15 u W, fun u _ => u = .pointer (some ⟨S, 0, none⟩), fun u _ => u = .pointer (some ⟨w.heap.size, 3, none⟩), fun u _ => u = .slice (some ⟨pb, po, none⟩) 2 g.c, fun u W => ∃ p, u = .tuple #[p, .bool r.1, .int .i64 r.2] ∧ True, fun _ _ => True, fun u _ => u = .bool r.1, fun u _ => u = .int .i64 r.2, fun _ _ => True, fun u _ => u = .bool r.1, fun u _ => u = .int .i64 r.2]
    ⟨(by rintro v_ w_ x_ ⟨B, l, h1, h2⟩ hB; exact ⟨B, l, h1, h2.gr (by omega) hB⟩), .eq _, .eq _, (by rintro v_ w_ x_ ⟨B, h1⟩ hB; exact ⟨B, doCl_st B 15 (by omega) _ _ _ h1 (.of_below hB)⟩), .eq _, .eq _, .eq _, (by rintro v_ w_ x_ ⟨p, h1, h2⟩ hB; exact ⟨p, h1, trivial⟩), (fun _ _ _ _ _ => trivial), .eq _, .eq _, (fun _ _ _ _ _ => trivial), .eq _, .eq _, trivial⟩ (by kernel_rfl) (by kernel_rfl) (by kernel_rfl) ?h0 ?steps ?done
  case h0 => exact (Below.refl _ _).drew
  case steps =>
    refine ⟨?_, ?_, ?_, ?_, ?_, ?_, ?_, ?_, ?_, ?_, ?_, ?_, ?_, ?_, trivial⟩
    · intro g_ W_ hI hd K hK
      simp only [frameOf, Act.put, List.setIfInBounds_toArray, List.set_cons_zero, List.set_cons_succ]
      go_simp
      refine (doings_any W_).mono ?_
      rintro e w' ⟨rfl, hB, l_, hD⟩
      refine hK.out (.map (some W_.heap.size)) _ _ ?_ (hI.trans (hB.mono hI.size)) hB ⟨_, l_, rfl, hD⟩
      simp only [frameOf, Act.put, List.setIfInBounds_toArray, List.set_cons_zero, List.set_cons_succ, Nat.zero_add, Nat.reduceAdd]
    · intro g_ W_ hI hd K hK
      simp only [frameOf, Act.put, List.setIfInBounds_toArray, List.set_cons_zero, List.set_cons_succ]
      go_simp
      refine hK.out (.pointer (some ⟨w.heap.size, 1, none⟩)) _ W_ ?_ hI (Below.refl _ _) rfl
      simp only [frameOf, Act.put, List.setIfInBounds_toArray, List.set_cons_zero, List.set_cons_succ, Nat.zero_add, Nat.reduceAdd]
    · intro g_ W_ hI hd K hK
      simp only [frameOf, Act.put, List.setIfInBounds_toArray, List.set_cons_zero, List.set_cons_succ]
      have h1 : g_ 1 = .pointer (some ⟨w.heap.size, 1, none⟩) := hd 1 (by kernel_rfl)
      rw [h1]
      have c1 := (hI.cell (p := ⟨w.heap.size, 1, none⟩) hz).trans G1.out
      go_simp
      refine hK.out (.string ⟨#[61, 60]⟩) _ W_ ?_ hI (Below.refl _ _) rfl
      simp only [frameOf, Act.put, List.setIfInBounds_toArray, List.set_cons_zero, List.set_cons_succ, Nat.zero_add, Nat.reduceAdd, h1]
    · intro g_ W_ hI hd K hK
      simp only [frameOf, Act.put, List.setIfInBounds_toArray, List.set_cons_zero, List.set_cons_succ]
      obtain ⟨B_, l_, h0, hM_⟩ := hd 0 (by kernel_rfl)
      have h2 : g_ 2 = .string ⟨#[61, 60]⟩ := hd 2 (by kernel_rfl)
      rw [h0, h2]
      obtain ⟨v_, hv_, hl⟩ := hM_.lookup 15 (by omega) (by decide)
      simp only [doSym] at hl
      go_simp
      refine hK.out v_ _ W_ ?_ hI (Below.refl _ _) ⟨_, hv_⟩
      simp only [frameOf, Act.put, List.setIfInBounds_toArray, List.set_cons_zero, List.set_cons_succ, Nat.zero_add, Nat.reduceAdd, h0, h2]
    · intro g_ W_ hI hd K hK
      simp only [frameOf, Act.put, List.setIfInBounds_toArray, List.set_cons_zero, List.set_cons_succ]
      go_simp
      refine hK.out (.pointer (some ⟨S, 0, none⟩)) _ W_ ?_ hI (Below.refl _ _) rfl
      simp only [frameOf, Act.put, List.setIfInBounds_toArray, List.set_cons_zero, List.set_cons_succ, Nat.zero_add, Nat.reduceAdd]
    · intro g_ W_ hI hd K hK
      simp only [frameOf, Act.put, List.setIfInBounds_toArray, List.set_cons_zero, List.set_cons_succ]
      go_simp
      refine hK.out (.pointer (some ⟨w.heap.size, 3, none⟩)) _ W_ ?_ hI (Below.refl _ _) rfl
      simp only [frameOf, Act.put, List.setIfInBounds_toArray, List.set_cons_zero, List.set_cons_succ, Nat.zero_add, Nat.reduceAdd]
    · intro g_ W_ hI hd K hK
      simp only [frameOf, Act.put, List.setIfInBounds_toArray, List.set_cons_zero, List.set_cons_succ]
      have h5 : g_ 5 = .pointer (some ⟨w.heap.size, 3, none⟩) := hd 5 (by kernel_rfl)
      rw [h5]
      have c1 := (hI.cell (p := ⟨w.heap.size, 3, none⟩) hz).trans G3.out
      go_simp
      refine hK.out (.slice (some ⟨pb, po, none⟩) 2 g.c) _ W_ ?_ hI (Below.refl _ _) rfl
      simp only [frameOf, Act.put, List.setIfInBounds_toArray, List.set_cons_zero, List.set_cons_succ, Nat.zero_add, Nat.reduceAdd, h5]
    · intro g_ W_ hI hd K hK
      simp only [frameOf, Act.put, List.setIfInBounds_toArray, List.set_cons_zero, List.set_cons_succ]
      have h4 : g_ 4 = .pointer (some ⟨S, 0, none⟩) := hd 4 (by kernel_rfl)
      have h6 : g_ 6 = .slice (some ⟨pb, po, none⟩) 2 g.c := hd 6 (by kernel_rfl)
      rw [h4, h6]
      obtain ⟨B_, hv_⟩ := hd 3 (by kernel_rfl)
      obtain ⟨z_, hz3⟩ : ∃ z, g_ 3 = z := ⟨_, rfl⟩
      rw [hz3] at hv_ ⊢
      obtain ⟨b1, u1, rfl, -, -, hc1, b2, u2, rfl, -, -, hc2, rfl⟩ := hv_
      go_simp
      refine (test_compared S (some ⟨pb, po, none⟩) 2 g.c W_ b1 b2 hc1 _ (compared1_any S σ n W_ (SB.out.below hI) a b pb po 2 g.c (Ea.out.below hI) (Eb.out.below hI) (by omega) b2 4 (by omega) hc2)).mono ?_
      rintro e w' ⟨⟨p_, rfl⟩, hB⟩
      rw [show doneR (rkP σ a b (cmpI 4)) = r from RE.out.symm]
      refine hK.out (.tuple #[p_, .bool r.1, .int .i64 r.2]) _ _ ?_ (hI.trans (hB.mono hI.size)) hB ⟨p_, rfl, trivial⟩
      simp only [frameOf, Act.put, List.setIfInBounds_toArray, List.set_cons_zero, List.set_cons_succ, Nat.zero_add, Nat.reduceAdd, h4, h6, hz3]
    · intro g_ W_ hI hd K hK
      simp only [frameOf, Act.put, List.setIfInBounds_toArray, List.set_cons_zero, List.set_cons_succ]
      obtain ⟨p_, h7, hp_⟩ := hd 7 (by kernel_rfl)
      rw [h7]
      go_simp
      refine hK.out p_ _ W_ ?_ hI (Below.refl _ _) hp_
      simp only [frameOf, Act.put, List.setIfInBounds_toArray, List.set_cons_zero, List.set_cons_succ, Nat.zero_add, Nat.reduceAdd, h7]
    · intro g_ W_ hI hd K hK
      simp only [frameOf, Act.put, List.setIfInBounds_toArray, List.set_cons_zero, List.set_cons_succ]
      obtain ⟨p_, h7, hp_⟩ := hd 7 (by kernel_rfl)
      rw [h7]
      go_simp
      refine hK.out (.bool r.1) _ W_ ?_ hI (Below.refl _ _) rfl
      simp only [frameOf, Act.put, List.setIfInBounds_toArray, List.set_cons_zero, List.set_cons_succ, Nat.zero_add, Nat.reduceAdd, h7]
    · intro g_ W_ hI hd K hK
      simp only [frameOf, Act.put, List.setIfInBounds_toArray, List.set_cons_zero, List.set_cons_succ]
      obtain ⟨p_, h7, hp_⟩ := hd 7 (by kernel_rfl)
      rw [h7]
      go_simp
      refine hK.out (.int .i64 r.2) _ W_ ?_ hI (Below.refl _ _) rfl
      simp only [frameOf, Act.put, List.setIfInBounds_toArray, List.set_cons_zero, List.set_cons_succ, Nat.zero_add, Nat.reduceAdd, h7]
    · intro g_ W_ hI hd K hK
      simp only [frameOf, Act.put, List.setIfInBounds_toArray, List.set_cons_zero, List.set_cons_succ]
      have hp_ := hd 8 (by kernel_rfl)
      go_simp
      refine hK.out (g_ 8) _ W_ ?_ hI (Below.refl _ _) hp_
      simp only [frameOf, Act.put, List.setIfInBounds_toArray, List.set_cons_zero, List.set_cons_succ, Nat.zero_add, Nat.reduceAdd]
    · intro g_ W_ hI hd K hK
      simp only [frameOf, Act.put, List.setIfInBounds_toArray, List.set_cons_zero, List.set_cons_succ]
      have h9 : g_ 9 = .bool r.1 := hd 9 (by kernel_rfl)
      rw [h9]
      go_simp
      refine hK.out (.bool r.1) _ W_ ?_ hI (Below.refl _ _) rfl
      simp only [frameOf, Act.put, List.setIfInBounds_toArray, List.set_cons_zero, List.set_cons_succ, Nat.zero_add, Nat.reduceAdd, h9]
    · intro g_ W_ hI hd K hK
      simp only [frameOf, Act.put, List.setIfInBounds_toArray, List.set_cons_zero, List.set_cons_succ]
      have h10 : g_ 10 = .int .i64 r.2 := hd 10 (by kernel_rfl)
      rw [h10]
      go_simp
      refine hK.out (.int .i64 r.2) _ W_ ?_ hI (Below.refl _ _) rfl
      simp only [frameOf, Act.put, List.setIfInBounds_toArray, List.set_cons_zero, List.set_cons_succ, Nat.zero_add, Nat.reduceAdd, h10]
  case done =>
    intro f_ W_ hI hd
    have q_ := hd 11 (by decide)
    have ha_ : f_ 12 = .bool r.1 := hd 12 (by decide)
    have hb_ : f_ 13 = .int .i64 r.2 := hd 13 (by decide)
    simp only [frameOf, Act.put, List.setIfInBounds_toArray, List.set_cons_zero, List.set_cons_succ, Nat.zero_add, Nat.reduceAdd, ha_, hb_]
    have PO := Lib.hid q_
    have BB := Lib.hid (BW.out.trans (hI.mono BW.out.size))
    clear hd q_ ha_ hb_ hI
    go_wp2
    exact bodyPost_ret (v := .tuple #[f_ 11, .bool r.1, .int .i64 r.2]) (by simp [results, Tryz.results13, go_sem]) rfl ⟨⟨_, rfl⟩, BB.out⟩

set_option maxRecDepth 100000 in
set_option maxHeartbeats 4000000 in
theorem do_16 (S : Nat) (σ : Sb) (n : Nat) (hn : n ≤ 900000) (w : World) (hS : SubAt S σ n w) (a b g : Nd) (hk : g.k = 4) (hs : g.s = ⟨#[62, 61]⟩) (hkids : g.kids = (.cons a.k a.s a.n a.p a.c a.kids (.cons b.k b.s b.n b.p b.c b.kids .nil))) (hok : g.kids.ok) (hat : Ts.At w g.p g.kids) (ha : a.kids.size ≤ 5000) (hb : b.kids.size ≤ 5000) :
    Calls Tryz.prog 13 #[.pointer (some ⟨S, 0, none⟩), .agg #[.int .u8 g.k, .string g.s, .int .i64 g.n, .slice g.p g.kids.len g.c]] w fun e w' => (∃ p, e = .returned (.tuple #[p, .bool (doV σ n a b 16).1, .int .i64 (doV σ n a b 16).2]) ) ∧ Below w.heap.size w w' := by
  obtain ⟨r, hr⟩ : ∃ r, r = doV σ n a b 16 := ⟨_, rfl⟩
  rw [← hr]
  have RE : Hid (r = doneR (rkP σ a b (cmpI 5))) := Lib.hid hr
  clear hr
  rw [hkids] at hok hat
  rw [hkids, hk, hs]
  obtain ⟨pb, po, hp, hEa, hEb⟩ := args_two hat hok ha hb
  rw [hp]
  simp only [Ts.len, Nat.zero_add, Nat.reduceAdd]
  obtain ⟨W0, hW0, hs0, hB0, hc0⟩ := box1 w #[.int .u8 4, .string ⟨#[62, 61]⟩, .int .i64 g.n, .slice (some ⟨pb, po, none⟩) 2 g.c] 25
  have g0 : W0.cell? ⟨w.heap.size, 0, none⟩ = some (.int .u8 4) := hc0 0 _ rfl
  have g1 : W0.cell? ⟨w.heap.size, 1, none⟩ = some (.string ⟨#[62, 61]⟩) := hc0 1 _ rfl
  have g3 : W0.cell? ⟨w.heap.size, 3, none⟩ = some (.slice (some ⟨pb, po, none⟩) 2 g.c) := hc0 3 _ rfl
  have BW := Lib.hid hB0
  have SB := Lib.hid (hS.below hB0)
  have Ea := Lib.hid (hEa.below hB0)
  have Eb := Lib.hid (hEb.below hB0)
  have ZW := Lib.hid hW0
  have hz0 : w.heap.size < W0.heap.size := by omega
  clear hW0 hB0 hc0 hS hEa hEb hat hok hkids hp hk hs hs0
  have hsn : ((2 : Nat) : Int) = 2 := rfl
  go_enter Tryz.func13, Tryz.ntmps13
  go_upto_region 1 with fail
  rw [← ZW.out]
  clear hsn
  go_wp2_with fail
  refine (builtin_any ⟨#[62, 61]⟩ 2 (by decide) (by decide) W0).mono ?_
  rintro e W1 ⟨rfl, hI⟩
  rw [show bltB ⟨#[62, 61]⟩ 2 = true by decide +kernel]
  have G1 := Lib.hid ((hI.cell (p := ⟨w.heap.size, 1, none⟩) hz0).trans g1)
  have G3 := Lib.hid ((hI.cell (p := ⟨w.heap.size, 3, none⟩) hz0).trans g3)
  have hz : w.heap.size < W1.heap.size := Nat.lt_of_lt_of_le hz0 hI.size
  replace SB := Lib.hid (SB.out.below hI)
  replace Ea := Lib.hid (Ea.out.below hI)
  replace Eb := Lib.hid (Eb.out.below hI)
  replace BW := Lib.hid (BW.out.trans (hI.mono BW.out.size))
  clear hI g0 g1 g3 ZW hz0
  go_upto_region 6 with fail
  refine region_by_facts (fun W_ => Below W1.heap.size W1 W_) [fun u W => ∃ B l, u = .map (some B) ∧ DoIn B 23 l W, fun u _ => u = .pointer (some ⟨w.heap.size, 1, none⟩), fun u _ => u = .string ⟨#[62, 61]⟩, fun u W => ∃ B, doCl B 16 u W, fun u _ => u = .pointer (some ⟨S, 0, none⟩), fun u _ => u = .pointer (some ⟨w.heap.size, 3, none⟩), fun u _ => u = .slice (some ⟨pb, po, none⟩) 2 g.c, fun u W => ∃ p, u = .tuple #[p, .bool r.1, .int .i64 r.2] ∧ True, fun _ _ => True, fun u _ => u = .bool r.1, fun u _ => u = .int .i64 r.2, fun _ _ => True, fun u _ => u = .bool r.1, fun u _ => u = .int .i64 r.2]
    ⟨(by rintro v_ w_ x_ ⟨B, l, h1, h2⟩ hB; exact ⟨B, l, h1, h2.gr (by omega) hB⟩), .eq _, .eq _, (by rintro v_ w_ x_ ⟨B, h1⟩ hB; exact ⟨B, doCl_st B 16 (by omega) _ _ _ h1 (.of_below hB)⟩), .eq _, .eq _, .eq _, (by rintro v_ w_ x_ ⟨p, h1, h2⟩ hB; exact ⟨p, h1, trivial⟩), (fun _ _ _ _ _ => trivial), .eq _, .eq _, (fun _ _ _ _ _ => trivial), .eq _, .eq _, trivial⟩ (by kernel_rfl) (by kernel_rfl) (by kernel_rfl) ?h0 ?steps ?done
  case h0 => exact (Below.refl _ _).drew
  case steps =>
    refine ⟨?_, ?_, ?_, ?_, ?_, ?_, ?_, ?_, ?_, ?_, ?_, ?_, ?_, ?_, trivial⟩
    · intro g_ W_ hI hd K hK
      simp only [frameOf, Act.put, List.setIfInBounds_toArray, List.set_cons_zero, List.set_cons_succ]
      go_simp
      refine (doings_any W_).mono ?_
      rintro e w' ⟨rfl, hB, l_, hD⟩
      refine hK.out (.map (some W_.heap.size)) _ _ ?_ (hI.trans (hB.mono hI.size)) hB ⟨_, l_, rfl, hD⟩
      simp only [frameOf, Act.put, List.setIfInBounds_toArray, List.set_cons_zero, List.set_cons_succ, Nat.zero_add, Nat.reduceAdd]
    · intro g_ W_ hI hd K hK
      simp only [frameOf, Act.put, List.setIfInBounds_toArray, List.set_cons_zero, List.set_cons_succ]
      go_simp
      refine hK.out (.pointer (some ⟨w.heap.size, 1, none⟩)) _ W_ ?_ hI (Below.refl _ _) rfl
      simp only [frameOf, Act.put, List.setIfInBounds_toArray, List.set_cons_zero, List.set_cons_succ, Nat.zero_add, Nat.reduceAdd]
    · intro g_ W_ hI hd K hK
      simp only [frameOf, Act.put, List.setIfInBounds_toArray, List.set_cons_zero, List.set_cons_succ]
      have h1 : g_ 1 = .pointer (some ⟨w.heap.size, 1, none⟩) := hd 1 (by kernel_rfl)
      rw [h1]
      have c1 := (hI.cell (p := ⟨w.heap.size, 1, none⟩) hz).trans G1.out
      go_simp
      refine hK.out (.string ⟨#[62, 61]⟩) _ W_ ?_ hI (Below.refl _ _) rfl
      simp only [frameOf, Act.put, List.setIfInBounds_toArray, List.set_cons_zero, List.set_cons_succ, Nat.zero_add, Nat.reduceAdd, h1]
    · intro g_ W_ hI hd K hK
      simp only [frameOf, Act.put, List.setIfInBounds_toArray, List.set_cons_zero, List.set_cons_succ]
      obtain ⟨B_, l_, h0, hM_⟩ := hd 0 (by kernel_rfl)
      have h2 : g_ 2 = .string ⟨#[62, 61]⟩ := hd 2 (by kernel_rfl)
      rw [h0, h2]
      obtain ⟨v_, hv_, hl⟩ := hM_.lookup 16 (by omega) (by decide)
      simp only [doSym] at hl
      go_simp
      refine hK.out v_ _ W_ ?_ hI (Below.refl _ _) ⟨_, hv_⟩
      simp only [frameOf, Act.put, List.setIfInBounds_toArray, List.set_cons_zero, List.set_cons_succ, Nat.zero_add, Nat.reduceAdd, h0, h2]
    · intro g_ W_ hI hd K hK
      simp only [frameOf, Act.put, List.setIfInBounds_toArray, List.set_cons_zero, List.set_cons_succ]
      go_simp
      refine hK.out (.pointer (some ⟨S, 0, none⟩)) _ W_ ?_ hI (Below.refl _ _) rfl
      simp only [frameOf, Act.put, List.setIfInBounds_toArray, List.set_cons_zero, List.set_cons_succ, Nat.zero_add, Nat.reduceAdd]
    · intro g_ W_ hI hd K hK
      simp only [frameOf, Act.put, List.setIfInBounds_toArray, List.set_cons_zero, List.set_cons_succ]
      go_simp
      refine hK.out (.pointer (some ⟨w.heap.size, 3, none⟩)) _ W_ ?_ hI (Below.refl _ _) rfl
      simp only [frameOf, Act.put, List.setIfInBounds_toArray, List.set_cons_zero, List.set_cons_succ, Nat.zero_add, Nat.reduceAdd]
    · intro g_ W_ hI hd K hK
      simp only [frameOf, Act.put, List.setIfInBounds_toArray, List.set_cons_zero, List.set_cons_succ]
      have h5 : g_ 5 = .pointer (some ⟨w.heap.size, 3, none⟩) := hd 5 (by kernel_rfl)
      rw [h5]
      have c1 := (hI.cell (p := ⟨w.heap.size, 3, none⟩) hz).trans G3.out
      go_simp
      refine hK.out (.slice (some ⟨pb, po, none⟩) 2 g.c) _ W_ ?_ hI (Below.refl _ _) rfl
      simp only [frameOf, Act.put, List.setIfInBounds_toArray, List.set_cons_zero, List.set_cons_succ, Nat.zero_add, Nat.reduceAdd, h5]
    · intro g_ W_ hI hd K hK
      simp only [frameOf, Act.put, List.setIfInBounds_toArray, List.set_cons_zero, List.set_cons_succ]
      have h4 : g_ 4 = .pointer (some ⟨S, 0, none⟩) := hd 4 (by kernel_rfl)
      have h6 : g_ 6 = .slice (some ⟨pb, po, none⟩) 2 g.c := hd 6 (by kernel_rfl)
      rw [h4, h6]
      obtain ⟨B_, hv_⟩ := hd 3 (by kernel_rfl)
      obtain ⟨z_, hz3⟩ : ∃ z, g_ 3 = z := ⟨_, rfl⟩
      rw [hz3] at hv_ ⊢
      obtain ⟨b1, u1, rfl, -, -, hc1, b2, u2, rfl, -, -, hc2, rfl⟩ := hv_
      go_simp
      refine (test_compared S (some ⟨pb, po, none⟩) 2 g.c W_ b1 b2 hc1 _ (compared1_any S σ n W_ (SB.out.below hI) a b pb po 2 g.c (Ea.out.below hI) (Eb.out.below hI) (by omega) b2 5 (by omega) hc2)).mono ?_
      rintro e w' ⟨⟨p_, rfl⟩, hB⟩
      rw [show doneR (rkP σ a b (cmpI 5)) = r from RE.out.symm]
      refine hK.out (.tuple #[p_, .bool r.1, .int .i64 r.2]) _ _ ?_ (hI.trans (hB.mono hI.size)) hB ⟨p_, rfl, trivial⟩
      simp only [frameOf, Act.put, List.setIfInBounds_toArray, List.set_cons_zero, List.set_cons_succ, Nat.zero_add, Nat.reduceAdd, h4, h6, hz3]
    · intro g_ W_ hI hd K hK
      simp only [frameOf, Act.put, List.setIfInBounds_toArray, List.set_cons_zero, List.set_cons_succ]
      obtain ⟨p_, h7, hp_⟩ := hd 7 (by kernel_rfl)
      rw [h7]
      go_simp
      refine hK.out p_ _ W_ ?_ hI (Below.refl _ _) hp_
      simp only [frameOf, Act.put, List.setIfInBounds_toArray, List.set_cons_zero, List.set_cons_succ, Nat.zero_add, Nat.reduceAdd, h7]
    · intro g_ W_ hI hd K hK
      simp only [frameOf, Act.put, List.setIfInBounds_toArray, List.set_cons_zero, List.set_cons_succ]
      obtain ⟨p_, h7, hp_⟩ := hd 7 (by kernel_rfl)
      rw [h7]
      go_simp
      refine hK.out (.bool r.1) _ W_ ?_ hI (Below.refl _ _) rfl
      simp only [frameOf, Act.put, List.setIfInBounds_toArray, List.set_cons_zero, List.set_cons_succ, Nat.zero_add, Nat.reduceAdd, h7]
    · intro g_ W_ hI hd K hK
      simp only [frameOf, Act.put, List.setIfInBounds_toArray, List.set_cons_zero, List.set_cons_succ]
      obtain ⟨p_, h7, hp_⟩ := hd 7 (by kernel_rfl)
      rw [h7]
      go_simp
      refine hK.out (.int .i64 r.2) _ W_ ?_ hI (Below.refl _ _) rfl
      simp only [frameOf, Act.put, List.setIfInBounds_toArray, List.set_cons_zero, List.set_cons_succ, Nat.zero_add, Nat.reduceAdd, h7]
    · intro g_ W_ hI hd K hK
      simp only [frameOf, Act.put, List.setIfInBounds_toArray, List.set_cons_zero, List.set_cons_succ]
      have hp_ := hd 8 (by kernel_rfl)
      go_simp
      refine hK.out (g_ 8) _ W_ ?_ hI (Below.refl _ _) hp_
      simp only [frameOf, Act.put, List.setIfInBounds_toArray, List.set_cons_zero, List.set_cons_succ, Nat.zero_add, Nat.reduceAdd]
    · intro g_ W_ hI hd K hK
      simp only [frameOf, Act.put, List.setIfInBounds_toArray, List.set_cons_zero, List.set_cons_succ]
      have h9 : g_ 9 = .bool r.1 := hd 9 (by kernel_rfl)
      rw [h9]
      go_simp
      refine hK.out (.bool r.1) _ W_ ?_ hI (Below.refl _ _) rfl
      simp only [frameOf, Act.put, List.setIfInBounds_toArray, List.set_cons_zero, List.set_cons_succ, Nat.zero_add, Nat.reduceAdd, h9]
    · intro g_ W_ hI hd K hK
      simp only [frameOf, Act.put, List.setIfInBounds_toArray, List.set_cons_zero, List.set_cons_succ]
      have h10 : g_ 10 = .int .i64 r.2 := hd 10 (by kernel_rfl)
      rw [h10]
      go_simp
      refine hK.out (.int .i64 r.2) _ W_ ?_ hI (Below.refl _ _) rfl
      simp only [frameOf, Act.put, List.setIfInBounds_toArray, List.set_cons_zero, List.set_cons_succ, Nat.zero_add, Nat.reduceAdd, h10]
  case done =>
    intro f_ W_ hI hd
    have q_ := hd 11 (by decide)
    have ha_ : f_ 12 = .bool r.1 := hd 12 (by decide)
    have hb_ : f_ 13 = .int .i64 r.2 := hd 13 (by decide)
    simp only [frameOf, Act.put, List.setIfInBounds_toArray, List.set_cons_zero, List.set_cons_succ, Nat.zero_add, Nat.reduceAdd, ha_, hb_]
    have PO := Lib.hid q_
    have BB := Lib.hid (BW.out.trans (hI.mono BW.out.size))
    clear hd q_ ha_ hb_ hI
    go_wp2
    exact bodyPost_ret (v := .tuple #[f_ 11, .bool r.1, .int .i64 r.2]) (by simp [results, Tryz.results13, go_sem]) rfl ⟨⟨_, rfl⟩, BB.out⟩

end Go.Proofs.YtnmhnaanpjlniaaGreat
