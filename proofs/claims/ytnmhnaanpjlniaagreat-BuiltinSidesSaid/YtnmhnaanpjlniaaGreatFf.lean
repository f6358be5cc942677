import Derived.Test.YtnmhnaanpjlniaaGreatXa
import Derived.Test.YtnmhnaanpjlniaaGreatXf0
import Derived.Test.YtnmhnaanpjlniaaGreatEj
import Derived.Test.YtnmhnaanpjlniaaGreatDd
import Derived.Test.YtnmhnaanpjlniaaGreatDi
/-
  What the builtins' functions do that unify: plain words, and their contracts. (Written by gen_ff.py.)
-/
namespace Go.Proofs.YtnmhnaanpjlniaaGreat
open Go.RowKit

def nI (x : Int) : Nd := ⟨2, ⟨#[]⟩, x, none, 0, .nil⟩
theorem nI_ok {x : Int} (h : isI64 x) : (nI x).ok := ⟨by simp [nI], by simp [nI, ByteArray.size], h, by simp [nI, Ts.len], fun _ => rfl, trivial, trivial⟩

/-- an element of Args -/
structure ArgEl (pb o : Nat) (x : Nd) (w : World) : Prop where
  el : El pb o x.k x.s x.n x.p x.c x.kids w
  ok : x.ok
  sz : x.kids.size ≤ 5000
theorem ArgEl.below {pb o : Nat} {x : Nd} {w w' : World} (h : ArgEl pb o x w) (hB : Below w.heap.size w w') : ArgEl pb o x w' := ⟨h.el.below hB, h.ok, h.sz⟩

noncomputable def unO (σ : Sb) (n : Nat) (a b : Nd) : Out := un 4096 n σ [(a, b)]
/-- what is tells -/
noncomputable def isR (σ : Sb) (n : Nat) (a b : Nd) : Bool × Int :=
  if (rk σ 4096 4096 b).1.2 = 0 then (okU (unO σ n a (nI (rk σ 4096 4096 b).1.1)), gU (unO σ n a (nI (rk σ 4096 4096 b).1.1))) else (false, (rk σ 4096 4096 b).1.2)

set_option maxRecDepth 100000 in
set_option maxHeartbeats 4000000 in
theorem differ_any (S : Nat) (σ : Sb) (n : Nat) (hn : n ≤ 900000) (w : World) (hS : SubAt S σ n w) (a b : Nd) (pb po L c : Nat) (ha : ArgEl pb po a w) (hb : ArgEl pb (po + 4) b w) (hL : 1 < L) :
    Calls Tryz.prog 76 #[.pointer (some ⟨S, 0, none⟩), .slice (some ⟨pb, po, none⟩) L c] w fun e w' => e = .returned (.tuple #[.bool (!okU (unO σ n a b)), .int .i64 (gU (unO σ n a b))]) ∧ Below w.heap.size w w' := by
  have SB := Lib.hid hS
  have Ea := Lib.hid ha
  have Eb := Lib.hid hb
  have hL0 : (0 : Nat) < L := by omega
  have hL1 : (1 : Int) < (L : Int) := by omega
  clear hS ha hb
  obtain ⟨o, ho⟩ : ∃ o, o = unO σ n a b := ⟨_, rfl⟩
  have OE : Hid (unO σ n a b = o) := Lib.hid ho.symm
  rw [← ho]
  clear ho
  go_enter Tryz.func76, Tryz.ntmps76
  go_upto_region 1 with fail
  refine region_by_facts (fun W_ => Below w.heap.size w W_) [fun u _ => u = .pointer (some ⟨S, 0, none⟩), fun u _ => u = .slice (some ⟨pb, po, none⟩) L c, fun u _ => u = .pointer (some ⟨pb, po, none⟩), fun u _ => u = .agg #[.int .u8 a.k, .string a.s, .int .i64 a.n, .slice a.p a.kids.len a.c], fun u _ => u = .slice (some ⟨pb, po, none⟩) L c, fun u _ => u = .pointer (some ⟨pb, po + 4, none⟩), fun u _ => u = .agg #[.int .u8 b.k, .string b.s, .int .i64 b.n, .slice b.p b.kids.len b.c], fun u W => ∃ p, u = .tuple #[p, .bool (okU o), .int .i64 (gU o)] ∧ PU o p W, fun u W => ∃ p, u = .tuple #[p, .bool (okU o), .int .i64 (gU o)] ∧ PU o p W, PU o, fun u _ => u = .bool (okU o), fun u _ => u = .int .i64 (gU o), PU o, fun u _ => u = .bool (okU o), fun u _ => u = .int .i64 (gU o)]
    ⟨.eq _, .eq _, .eq _, .eq _, .eq _, .eq _, .eq _, (by rintro v_ w_ x_ ⟨p, h1, h2⟩ hB; exact ⟨p, h1, h2.below hB⟩), (by rintro v_ w_ x_ ⟨p, h1, h2⟩ hB; exact ⟨p, h1, h2.below hB⟩), (fun v_ w_ x_ h hB => PU.below h hB), .eq _, .eq _, (fun v_ w_ x_ h hB => PU.below h hB), .eq _, .eq _, trivial⟩ (by kernel_rfl) (by kernel_rfl) (by kernel_rfl) ?h0 ?steps ?done
  case h0 => exact (Below.refl _ _).drew
  case steps =>
    refine ⟨?_, ?_, ?_, ?_, ?_, ?_, ?_, ?_, ?_, ?_, ?_, ?_, ?_, ?_, ?_, trivial⟩
    · intro g_ W_ hI hd K hK
      simp only [frameOf, Act.put, List.setIfInBounds_toArray, List.set_cons_zero, List.set_cons_succ]
      go_simp
      refine hK.out (.pointer (some ⟨S, 0, none⟩)) _ W_ ?_ hI (Below.refl _ _) rfl
      simp only [frameOf, Act.put, List.setIfInBounds_toArray, List.set_cons_zero, List.set_cons_succ, Nat.zero_add, Nat.reduceAdd]
    · intro g_ W_ hI hd K hK
      simp only [frameOf, Act.put, List.setIfInBounds_toArray, List.set_cons_zero, List.set_cons_succ]
      go_simp
      refine hK.out (.slice (some ⟨pb, po, none⟩) L c) _ W_ ?_ hI (Below.refl _ _) rfl
      simp only [frameOf, Act.put, List.setIfInBounds_toArray, List.set_cons_zero, List.set_cons_succ, Nat.zero_add, Nat.reduceAdd]
    · intro g_ W_ hI hd K hK
      simp only [frameOf, Act.put, List.setIfInBounds_toArray, List.set_cons_zero, List.set_cons_succ]
      have h1 : g_ 1 = .slice (some ⟨pb, po, none⟩) L c := hd 1 (by kernel_rfl)
      rw [h1]
      go_simp
      refine hK.out (.pointer (some ⟨pb, po, none⟩)) _ W_ ?_ hI (Below.refl _ _) rfl
      simp only [frameOf, Act.put, List.setIfInBounds_toArray, List.set_cons_zero, List.set_cons_succ, Nat.zero_add, Nat.reduceAdd, h1]
    · intro g_ W_ hI hd K hK
      simp only [frameOf, Act.put, List.setIfInBounds_toArray, List.set_cons_zero, List.set_cons_succ]
      have h2 : g_ 2 = .pointer (some ⟨pb, po, none⟩) := hd 2 (by kernel_rfl)
      rw [h2]
      have e_ := Ea.out.el.below hI
      have c0 := e_.c0
      have c1 := e_.c1
      have c2 := e_.c2
      have c3 := e_.c3
      go_simp
      refine hK.out (.agg #[.int .u8 a.k, .string a.s, .int .i64 a.n, .slice a.p a.kids.len a.c]) _ W_ ?_ hI (Below.refl _ _) rfl
      simp only [frameOf, Act.put, List.setIfInBounds_toArray, List.set_cons_zero, List.set_cons_succ, Nat.zero_add, Nat.reduceAdd, h2]
    · intro g_ W_ hI hd K hK
      simp only [frameOf, Act.put, List.setIfInBounds_toArray, List.set_cons_zero, List.set_cons_succ]
      go_simp
      refine hK.out (.slice (some ⟨pb, po, none⟩) L c) _ W_ ?_ hI (Below.refl _ _) rfl
      simp only [frameOf, Act.put, List.setIfInBounds_toArray, List.set_cons_zero, List.set_cons_succ, Nat.zero_add, Nat.reduceAdd]
    · intro g_ W_ hI hd K hK
      simp only [frameOf, Act.put, List.setIfInBounds_toArray, List.set_cons_zero, List.set_cons_succ]
      have h4 : g_ 4 = .slice (some ⟨pb, po, none⟩) L c := hd 4 (by kernel_rfl)
      rw [h4]
      go_simp
      refine hK.out (.pointer (some ⟨pb, po + 4, none⟩)) _ W_ ?_ hI (Below.refl _ _) rfl
      simp only [frameOf, Act.put, List.setIfInBounds_toArray, List.set_cons_zero, List.set_cons_succ, Nat.zero_add, Nat.reduceAdd, h4]
    · intro g_ W_ hI hd K hK
      simp only [frameOf, Act.put, List.setIfInBounds_toArray, List.set_cons_zero, List.set_cons_succ]
      have h5 : g_ 5 = .pointer (some ⟨pb, po + 4, none⟩) := hd 5 (by kernel_rfl)
      rw [h5]
      have e_ := Eb.out.el.below hI
      have c0 := e_.c0
      have c1 := e_.c1
      have c2 := e_.c2
      have c3 := e_.c3
      go_simp
      refine hK.out (.agg #[.int .u8 b.k, .string b.s, .int .i64 b.n, .slice b.p b.kids.len b.c]) _ W_ ?_ hI (Below.refl _ _) rfl
      simp only [frameOf, Act.put, List.setIfInBounds_toArray, List.set_cons_zero, List.set_cons_succ, Nat.zero_add, Nat.reduceAdd, h5]
    · intro g_ W_ hI hd K hK
      simp only [frameOf, Act.put, List.setIfInBounds_toArray, List.set_cons_zero, List.set_cons_succ]
      have h0 : g_ 0 = .pointer (some ⟨S, 0, none⟩) := hd 0 (by kernel_rfl)
      have h3 : g_ 3 = .agg #[.int .u8 a.k, .string a.s, .int .i64 a.n, .slice a.p a.kids.len a.c] := hd 3 (by kernel_rfl)
      have h6 : g_ 6 = .agg #[.int .u8 b.k, .string b.s, .int .i64 b.n, .slice b.p b.kids.len b.c] := hd 6 (by kernel_rfl)
      rw [h0, h3, h6]
      go_simp
      refine (Unify_any S σ n W_ (SB.out.below hI) hn a b Ea.out.ok Eb.out.ok (Ea.out.el.below hI).tat (Eb.out.el.below hI).tat Ea.out.sz Eb.out.sz).mono ?_
      intro e w' hL
      obtain ⟨p_, he, hp_⟩ := hL.pu
      have hoe : un 4096 n σ [(a, b)] = o := OE.out
      rw [hoe] at he hp_
      subst he
      have hB := hL.1
      refine hK.out (.tuple #[p_, .bool (okU o), .int .i64 (gU o)]) _ _ ?_ (hI.trans (hB.mono hI.size)) hB ⟨p_, rfl, hp_⟩
      simp only [frameOf, Act.put, List.setIfInBounds_toArray, List.set_cons_zero, List.set_cons_succ, Nat.zero_add, Nat.reduceAdd, h0, h3, h6]
    · intro g_ W_ hI hd K hK
      simp only [frameOf, Act.put, List.setIfInBounds_toArray, List.set_cons_zero, List.set_cons_succ]
      obtain ⟨p_, h7, hp_⟩ := hd 7 (by kernel_rfl)
      rw [h7]
      go_simp
      refine hK.out (.tuple #[p_, .bool (okU o), .int .i64 (gU o)]) _ W_ ?_ hI (Below.refl _ _) ⟨p_, rfl, hp_⟩
      simp only [frameOf, Act.put, List.setIfInBounds_toArray, List.set_cons_zero, List.set_cons_succ, Nat.zero_add, Nat.reduceAdd, h7]
    · intro g_ W_ hI hd K hK
      simp only [frameOf, Act.put, List.setIfInBounds_toArray, List.set_cons_zero, List.set_cons_succ]
      obtain ⟨p_, h8, hp_⟩ := hd 8 (by kernel_rfl)
      rw [h8]
      go_simp
      refine hK.out p_ _ W_ ?_ hI (Below.refl _ _) hp_
      simp only [frameOf, Act.put, List.setIfInBounds_toArray, List.set_cons_zero, List.set_cons_succ, Nat.zero_add, Nat.reduceAdd, h8]
    · intro g_ W_ hI hd K hK
      simp only [frameOf, Act.put, List.setIfInBounds_toArray, List.set_cons_zero, List.set_cons_succ]
      obtain ⟨p_, h8, hp_⟩ := hd 8 (by kernel_rfl)
      rw [h8]
      go_simp
      refine hK.out (.bool (okU o)) _ W_ ?_ hI (Below.refl _ _) rfl
      simp only [frameOf, Act.put, List.setIfInBounds_toArray, List.set_cons_zero, List.set_cons_succ, Nat.zero_add, Nat.reduceAdd, h8]
    · intro g_ W_ hI hd K hK
      simp only [frameOf, Act.put, List.setIfInBounds_toArray, List.set_cons_zero, List.set_cons_succ]
      obtain ⟨p_, h8, hp_⟩ := hd 8 (by kernel_rfl)
      rw [h8]
      go_simp
      refine hK.out (.int .i64 (gU o)) _ W_ ?_ hI (Below.refl _ _) rfl
      simp only [frameOf, Act.put, List.setIfInBounds_toArray, List.set_cons_zero, List.set_cons_succ, Nat.zero_add, Nat.reduceAdd, h8]
    · intro g_ W_ hI hd K hK
      simp only [frameOf, Act.put, List.setIfInBounds_toArray, List.set_cons_zero, List.set_cons_succ]
      have hp_ := hd 9 (by kernel_rfl)
      go_simp
      refine hK.out (g_ 9) _ W_ ?_ hI (Below.refl _ _) hp_
      simp only [frameOf, Act.put, List.setIfInBounds_toArray, List.set_cons_zero, List.set_cons_succ, Nat.zero_add, Nat.reduceAdd]
    · intro g_ W_ hI hd K hK
      simp only [frameOf, Act.put, List.setIfInBounds_toArray, List.set_cons_zero, List.set_cons_succ]
      have h10 : g_ 10 = .bool (okU o) := hd 10 (by kernel_rfl)
      rw [h10]
      go_simp
      refine hK.out (.bool (okU o)) _ W_ ?_ hI (Below.refl _ _) rfl
      simp only [frameOf, Act.put, List.setIfInBounds_toArray, List.set_cons_zero, List.set_cons_succ, Nat.zero_add, Nat.reduceAdd, h10]
    · intro g_ W_ hI hd K hK
      simp only [frameOf, Act.put, List.setIfInBounds_toArray, List.set_cons_zero, List.set_cons_succ]
      have h11 : g_ 11 = .int .i64 (gU o) := hd 11 (by kernel_rfl)
      rw [h11]
      go_simp
      refine hK.out (.int .i64 (gU o)) _ W_ ?_ hI (Below.refl _ _) rfl
      simp only [frameOf, Act.put, List.setIfInBounds_toArray, List.set_cons_zero, List.set_cons_succ, Nat.zero_add, Nat.reduceAdd, h11]
  case done =>
    intro f_ W_ hI hd
    have q_ := hd 12 (by decide)
    have ha_ : f_ 13 = .bool (okU o) := hd 13 (by decide)
    have hb_ : f_ 14 = .int .i64 (gU o) := hd 14 (by decide)
    simp only [frameOf, Act.put, List.setIfInBounds_toArray, List.set_cons_zero, List.set_cons_succ, Nat.zero_add, Nat.reduceAdd, ha_, hb_]
    have PO : Hid (PU o (f_ 12) W_) := Lib.hid q_
    have BB := Lib.hid hI
    clear hd q_ ha_ hb_ hI
    go_wp2
    go_ret2
    exact ⟨rfl, BB.out⟩

set_option maxRecDepth 100000 in
set_option maxHeartbeats 4000000 in
theorem equal_any (S : Nat) (σ : Sb) (n : Nat) (hn : n ≤ 900000) (w : World) (hS : SubAt S σ n w) (a b : Nd) (pb po L c : Nat) (ha : ArgEl pb po a w) (hb : ArgEl pb (po + 4) b w) (hL : 1 < L) :
    Calls Tryz.prog 75 #[.pointer (some ⟨S, 0, none⟩), .slice (some ⟨pb, po, none⟩) L c] w fun e w' => (∃ p, e = .returned (.tuple #[p, .bool (okU (unO σ n a b)), .int .i64 (gU (unO σ n a b))]) ∧ PU (unO σ n a b) p w') ∧ Below w.heap.size w w' := by
  have SB := Lib.hid hS
  have Ea := Lib.hid ha
  have Eb := Lib.hid hb
  have hL0 : (0 : Nat) < L := by omega
  have hL1 : (1 : Int) < (L : Int) := by omega
  clear hS ha hb
  obtain ⟨o, ho⟩ : ∃ o, o = unO σ n a b := ⟨_, rfl⟩
  have OE : Hid (unO σ n a b = o) := Lib.hid ho.symm
  rw [← ho]
  clear ho
  go_enter Tryz.func75, Tryz.ntmps75
  go_upto_region 1 with fail
  refine region_by_facts (fun W_ => Below w.heap.size w W_) [fun u _ => u = .pointer (some ⟨S, 0, none⟩), fun u _ => u = .slice (some ⟨pb, po, none⟩) L c, fun u _ => u = .pointer (some ⟨pb, po, none⟩), fun u _ => u = .agg #[.int .u8 a.k, .string a.s, .int .i64 a.n, .slice a.p a.kids.len a.c], fun u _ => u = .slice (some ⟨pb, po, none⟩) L c, fun u _ => u = .pointer (some ⟨pb, po + 4, none⟩), fun u _ => u = .agg #[.int .u8 b.k, .string b.s, .int .i64 b.n, .slice b.p b.kids.len b.c], fun u W => ∃ p, u = .tuple #[p, .bool (okU o), .int .i64 (gU o)] ∧ PU o p W, PU o, fun u _ => u = .bool (okU o), fun u _ => u = .int .i64 (gU o), PU o, fun u _ => u = .bool (okU o), fun u _ => u = .int .i64 (gU o)]
    ⟨.eq _, .eq _, .eq _, .eq _, .eq _, .eq _, .eq _, (by rintro v_ w_ x_ ⟨p, h1, h2⟩ hB; exact ⟨p, h1, h2.below hB⟩), (fun v_ w_ x_ h hB => PU.below h hB), .eq _, .eq _, (fun v_ w_ x_ h hB => PU.below h hB), .eq _, .eq _, trivial⟩ (by kernel_rfl) (by kernel_rfl) (by kernel_rfl) ?h0 ?steps ?done
  case h0 => exact (Below.refl _ _).drew
  case steps =>
    refine ⟨?_, ?_, ?_, ?_, ?_, ?_, ?_, ?_, ?_, ?_, ?_, ?_, ?_, ?_, trivial⟩
    · intro g_ W_ hI hd K hK
      simp only [frameOf, Act.put, List.setIfInBounds_toArray, List.set_cons_zero, List.set_cons_succ]
      go_simp
      refine hK.out (.pointer (some ⟨S, 0, none⟩)) _ W_ ?_ hI (Below.refl _ _) rfl
      simp only [frameOf, Act.put, List.setIfInBounds_toArray, List.set_cons_zero, List.set_cons_succ, Nat.zero_add, Nat.reduceAdd]
    · intro g_ W_ hI hd K hK
      simp only [frameOf, Act.put, List.setIfInBounds_toArray, List.set_cons_zero, List.set_cons_succ]
      go_simp
      refine hK.out (.slice (some ⟨pb, po, none⟩) L c) _ W_ ?_ hI (Below.refl _ _) rfl
      simp only [frameOf, Act.put, List.setIfInBounds_toArray, List.set_cons_zero, List.set_cons_succ, Nat.zero_add, Nat.reduceAdd]
    · intro g_ W_ hI hd K hK
      simp only [frameOf, Act.put, List.setIfInBounds_toArray, List.set_cons_zero, List.set_cons_succ]
      have h1 : g_ 1 = .slice (some ⟨pb, po, none⟩) L c := hd 1 (by kernel_rfl)
      rw [h1]
      go_simp
      refine hK.out (.pointer (some ⟨pb, po, none⟩)) _ W_ ?_ hI (Below.refl _ _) rfl
      simp only [frameOf, Act.put, List.setIfInBounds_toArray, List.set_cons_zero, List.set_cons_succ, Nat.zero_add, Nat.reduceAdd, h1]
    · intro g_ W_ hI hd K hK
      simp only [frameOf, Act.put, List.setIfInBounds_toArray, List.set_cons_zero, List.set_cons_succ]
      have h2 : g_ 2 = .pointer (some ⟨pb, po, none⟩) := hd 2 (by kernel_rfl)
      rw [h2]
      have e_ := Ea.out.el.below hI
      have c0 := e_.c0
      have c1 := e_.c1
      have c2 := e_.c2
      have c3 := e_.c3
      go_simp
      refine hK.out (.agg #[.int .u8 a.k, .string a.s, .int .i64 a.n, .slice a.p a.kids.len a.c]) _ W_ ?_ hI (Below.refl _ _) rfl
      simp only [frameOf, Act.put, List.setIfInBounds_toArray, List.set_cons_zero, List.set_cons_succ, Nat.zero_add, Nat.reduceAdd, h2]
    · intro g_ W_ hI hd K hK
      simp only [frameOf, Act.put, List.setIfInBounds_toArray, List.set_cons_zero, List.set_cons_succ]
      go_simp
      refine hK.out (.slice (some ⟨pb, po, none⟩) L c) _ W_ ?_ hI (Below.refl _ _) rfl
      simp only [frameOf, Act.put, List.setIfInBounds_toArray, List.set_cons_zero, List.set_cons_succ, Nat.zero_add, Nat.reduceAdd]
    · intro g_ W_ hI hd K hK
      simp only [frameOf, Act.put, List.setIfInBounds_toArray, List.set_cons_zero, List.set_cons_succ]
      have h4 : g_ 4 = .slice (some ⟨pb, po, none⟩) L c := hd 4 (by kernel_rfl)
      rw [h4]
      go_simp
      refine hK.out (.pointer (some ⟨pb, po + 4, none⟩)) _ W_ ?_ hI (Below.refl _ _) rfl
      simp only [frameOf, Act.put, List.setIfInBounds_toArray, List.set_cons_zero, List.set_cons_succ, Nat.zero_add, Nat.reduceAdd, h4]
    · intro g_ W_ hI hd K hK
      simp only [frameOf, Act.put, List.setIfInBounds_toArray, List.set_cons_zero, List.set_cons_succ]
      have h5 : g_ 5 = .pointer (some ⟨pb, po + 4, none⟩) := hd 5 (by kernel_rfl)
      rw [h5]
      have e_ := Eb.out.el.below hI
      have c0 := e_.c0
      have c1 := e_.c1
      have c2 := e_.c2
      have c3 := e_.c3
      go_simp
      refine hK.out (.agg #[.int .u8 b.k, .string b.s, .int .i64 b.n, .slice b.p b.kids.len b.c]) _ W_ ?_ hI (Below.refl _ _) rfl
      simp only [frameOf, Act.put, List.setIfInBounds_toArray, List.set_cons_zero, List.set_cons_succ, Nat.zero_add, Nat.reduceAdd, h5]
    · intro g_ W_ hI hd K hK
      simp only [frameOf, Act.put, List.setIfInBounds_toArray, List.set_cons_zero, List.set_cons_succ]
      have h0 : g_ 0 = .pointer (some ⟨S, 0, none⟩) := hd 0 (by kernel_rfl)
      have h3 : g_ 3 = .agg #[.int .u8 a.k, .string a.s, .int .i64 a.n, .slice a.p a.kids.len a.c] := hd 3 (by kernel_rfl)
      have h6 : g_ 6 = .agg #[.int .u8 b.k, .string b.s, .int .i64 b.n, .slice b.p b.kids.len b.c] := hd 6 (by kernel_rfl)
      rw [h0, h3, h6]
      go_simp
      refine (Unify_any S σ n W_ (SB.out.below hI) hn a b Ea.out.ok Eb.out.ok (Ea.out.el.below hI).tat (Eb.out.el.below hI).tat Ea.out.sz Eb.out.sz).mono ?_
      intro e w' hL
      obtain ⟨p_, he, hp_⟩ := hL.pu
      have hoe : un 4096 n σ [(a, b)] = o := OE.out
      rw [hoe] at he hp_
      subst he
      have hB := hL.1
      refine hK.out (.tuple #[p_, .bool (okU o), .int .i64 (gU o)]) _ _ ?_ (hI.trans (hB.mono hI.size)) hB ⟨p_, rfl, hp_⟩
      simp only [frameOf, Act.put, List.setIfInBounds_toArray, List.set_cons_zero, List.set_cons_succ, Nat.zero_add, Nat.reduceAdd, h0, h3, h6]
    · intro g_ W_ hI hd K hK
      simp only [frameOf, Act.put, List.setIfInBounds_toArray, List.set_cons_zero, List.set_cons_succ]
      obtain ⟨p_, h7, hp_⟩ := hd 7 (by kernel_rfl)
      rw [h7]
      go_simp
      refine hK.out p_ _ W_ ?_ hI (Below.refl _ _) hp_
      simp only [frameOf, Act.put, List.setIfInBounds_toArray, List.set_cons_zero, List.set_cons_succ, Nat.zero_add, Nat.reduceAdd, h7]
    · intro g_ W_ hI hd K hK
      simp only [frameOf, Act.put, List.setIfInBounds_toArray, List.set_cons_zero, List.set_cons_succ]
      obtain ⟨p_, h7, hp_⟩ := hd 7 (by kernel_rfl)
      rw [h7]
      go_simp
      refine hK.out (.bool (okU o)) _ W_ ?_ hI (Below.refl _ _) rfl
      simp only [frameOf, Act.put, List.setIfInBounds_toArray, List.set_cons_zero, List.set_cons_succ, Nat.zero_add, Nat.reduceAdd, h7]
    · intro g_ W_ hI hd K hK
      simp only [frameOf, Act.put, List.setIfInBounds_toArray, List.set_cons_zero, List.set_cons_succ]
      obtain ⟨p_, h7, hp_⟩ := hd 7 (by kernel_rfl)
      rw [h7]
      go_simp
      refine hK.out (.int .i64 (gU o)) _ W_ ?_ hI (Below.refl _ _) rfl
      simp only [frameOf, Act.put, List.setIfInBounds_toArray, List.set_cons_zero, List.set_cons_succ, Nat.zero_add, Nat.reduceAdd, h7]
    · intro g_ W_ hI hd K hK
      simp only [frameOf, Act.put, List.setIfInBounds_toArray, List.set_cons_zero, List.set_cons_succ]
      have hp_ := hd 8 (by kernel_rfl)
      go_simp
      refine hK.out (g_ 8) _ W_ ?_ hI (Below.refl _ _) hp_
      simp only [frameOf, Act.put, List.setIfInBounds_toArray, List.set_cons_zero, List.set_cons_succ, Nat.zero_add, Nat.reduceAdd]
    · intro g_ W_ hI hd K hK
      simp only [frameOf, Act.put, List.setIfInBounds_toArray, List.set_cons_zero, List.set_cons_succ]
      have h9 : g_ 9 = .bool (okU o) := hd 9 (by kernel_rfl)
      rw [h9]
      go_simp
      refine hK.out (.bool (okU o)) _ W_ ?_ hI (Below.refl _ _) rfl
      simp only [frameOf, Act.put, List.setIfInBounds_toArray, List.set_cons_zero, List.set_cons_succ, Nat.zero_add, Nat.reduceAdd, h9]
    · intro g_ W_ hI hd K hK
      simp only [frameOf, Act.put, List.setIfInBounds_toArray, List.set_cons_zero, List.set_cons_succ]
      have h10 : g_ 10 = .int .i64 (gU o) := hd 10 (by kernel_rfl)
      rw [h10]
      go_simp
      refine hK.out (.int .i64 (gU o)) _ W_ ?_ hI (Below.refl _ _) rfl
      simp only [frameOf, Act.put, List.setIfInBounds_toArray, List.set_cons_zero, List.set_cons_succ, Nat.zero_add, Nat.reduceAdd, h10]
  case done =>
    intro f_ W_ hI hd
    have q_ := hd 11 (by decide)
    have ha_ : f_ 12 = .bool (okU o) := hd 12 (by decide)
    have hb_ : f_ 13 = .int .i64 (gU o) := hd 13 (by decide)
    simp only [frameOf, Act.put, List.setIfInBounds_toArray, List.set_cons_zero, List.set_cons_succ, Nat.zero_add, Nat.reduceAdd, ha_, hb_]
    have PO : Hid (PU o (f_ 11) W_) := Lib.hid q_
    have BB := Lib.hid hI
    clear hd q_ ha_ hb_ hI
    go_wp2
    refine bodyPost_ret (v := .tuple #[f_ 11, .bool (okU o), .int .i64 (gU o)]) (by simp [results, Tryz.results75, go_sem]) rfl ⟨⟨_, rfl, PO.out⟩, BB.out⟩

set_option maxRecDepth 100000 in
set_option maxHeartbeats 4000000 in
theorem isfn_any (S : Nat) (σ : Sb) (n : Nat) (hn : n ≤ 900000) (w : World) (hS : SubAt S σ n w) (a b : Nd) (pb po L c : Nat) (ha : ArgEl pb po a w) (hb : ArgEl pb (po + 4) b w) (hL : 1 < L) (hgo : ∀ v x, σ v = some x → x.ok) :
    Calls Tryz.prog 83 #[.pointer (some ⟨S, 0, none⟩), .slice (some ⟨pb, po, none⟩) L c] w fun e w' => (∃ p, e = .returned (.tuple #[p, .bool (isR σ n a b).1, .int .i64 (isR σ n a b).2]) ∧ ((isR σ n a b).1 = true → PU (unO σ n a (nI (rk σ 4096 4096 b).1.1)) p w')) ∧ Below w.heap.size w w' := by
  have SB := Lib.hid hS
  have Ea := Lib.hid ha
  have Eb := Lib.hid hb
  have hL0 : (0 : Nat) < L := by omega
  have hL1 : (1 : Int) < (L : Int) := by omega
  clear hS ha hb
  obtain ⟨R, hR⟩ : ∃ R, R = (rk σ 4096 4096 b).1 := ⟨_, rfl⟩
  have RE := Lib.hid hR
  have I64 : Hid (isI64 R.1) := Lib.hid (by rw [hR]; exact rk_i64 SB.out.ends hgo 4096 4096 Eb.out.ok)
  clear hgo
  have e0 := Eb.out.el.c0
  have e1 := Eb.out.el.c1
  have e2 := Eb.out.el.c2
  have e3 := Eb.out.el.c3
  go_enter Tryz.func83, Tryz.ntmps83
  go_wp2_with fail
  refine (eval_gen S σ n w SB.out b Eb.out.ok Eb.out.el.tat Eb.out.sz).mono ?_
  rintro e w1 ⟨rfl, hB⟩
  rw [← RE.out]
  have BW := Lib.hid hB
  replace SB := Lib.hid (SB.out.below hB)
  replace Ea := Lib.hid (Ea.out.below hB)
  clear hB e0 e1 e2 e3 Eb
  by_cases h0 : R.2 = 0
  · obtain ⟨o, ho⟩ : ∃ o, o = unO σ n a (nI R.1) := ⟨_, rfl⟩
    have OE : Hid (unO σ n a (nI R.1) = o) := Lib.hid ho.symm
    have IE : Hid (isR σ n a b = (okU o, gU o)) := Lib.hid (by unfold isR; rw [← hR, if_pos h0, ← ho])
    rw [show ansOf R = .tuple #[.int .i64 R.1, .int .i64 0] by unfold ansOf; rw [if_pos h0, h0]]
    clear ho hR h0
    go_upto_region 4 with fail
    refine region_by_facts (fun W_ => Below w1.heap.size w1 W_) [fun u _ => u = .pointer (some ⟨S, 0, none⟩), fun u _ => u = .slice (some ⟨pb, po, none⟩) L c, fun u _ => u = .pointer (some ⟨pb, po, none⟩), fun u _ => u = .agg #[.int .u8 a.k, .string a.s, .int .i64 a.n, .slice a.p a.kids.len a.c], fun u _ => u = .int .i64 R.1, fun u _ => u = .agg #[.int .u8 2, .string ⟨#[]⟩, .int .i64 R.1, .slice none 0 0], fun u W => ∃ p, u = .tuple #[p, .bool (okU o), .int .i64 (gU o)] ∧ PU o p W, PU o, fun u _ => u = .bool (okU o), fun u _ => u = .int .i64 (gU o), PU o, fun u _ => u = .bool (okU o), fun u _ => u = .int .i64 (gU o)]
      ⟨.eq _, .eq _, .eq _, .eq _, .eq _, .eq _, (by rintro v_ w_ x_ ⟨p, h1, h2⟩ hB; exact ⟨p, h1, h2.below hB⟩), (fun v_ w_ x_ h hB => PU.below h hB), .eq _, .eq _, (fun v_ w_ x_ h hB => PU.below h hB), .eq _, .eq _, trivial⟩ (by kernel_rfl) (by kernel_rfl) (by kernel_rfl) ?h0 ?steps ?done
    case h0 => exact (Below.refl _ _).drew
    case steps =>
      refine ⟨?_, ?_, ?_, ?_, ?_, ?_, ?_, ?_, ?_, ?_, ?_, ?_, ?_, trivial⟩
      · intro g_ W_ hI hd K hK
        simp only [frameOf, Act.put, List.setIfInBounds_toArray, List.set_cons_zero, List.set_cons_succ]
        go_simp
        refine hK.out (.pointer (some ⟨S, 0, none⟩)) _ W_ ?_ hI (Below.refl _ _) rfl
        simp only [frameOf, Act.put, List.setIfInBounds_toArray, List.set_cons_zero, List.set_cons_succ, Nat.zero_add, Nat.reduceAdd]
      · intro g_ W_ hI hd K hK
        simp only [frameOf, Act.put, List.setIfInBounds_toArray, List.set_cons_zero, List.set_cons_succ]
        go_simp
        refine hK.out (.slice (some ⟨pb, po, none⟩) L c) _ W_ ?_ hI (Below.refl _ _) rfl
        simp only [frameOf, Act.put, List.setIfInBounds_toArray, List.set_cons_zero, List.set_cons_succ, Nat.zero_add, Nat.reduceAdd]
      · intro g_ W_ hI hd K hK
        simp only [frameOf, Act.put, List.setIfInBounds_toArray, List.set_cons_zero, List.set_cons_succ]
        have h1 : g_ 1 = .slice (some ⟨pb, po, none⟩) L c := hd 1 (by kernel_rfl)
        rw [h1]
        go_simp
        refine hK.out (.pointer (some ⟨pb, po, none⟩)) _ W_ ?_ hI (Below.refl _ _) rfl
        simp only [frameOf, Act.put, List.setIfInBounds_toArray, List.set_cons_zero, List.set_cons_succ, Nat.zero_add, Nat.reduceAdd, h1]
      · intro g_ W_ hI hd K hK
        simp only [frameOf, Act.put, List.setIfInBounds_toArray, List.set_cons_zero, List.set_cons_succ]
        have h2 : g_ 2 = .pointer (some ⟨pb, po, none⟩) := hd 2 (by kernel_rfl)
        rw [h2]
        have e_ := Ea.out.el.below hI
        have c0 := e_.c0
        have c1 := e_.c1
        have c2 := e_.c2
        have c3 := e_.c3
        go_simp
        refine hK.out (.agg #[.int .u8 a.k, .string a.s, .int .i64 a.n, .slice a.p a.kids.len a.c]) _ W_ ?_ hI (Below.refl _ _) rfl
        simp only [frameOf, Act.put, List.setIfInBounds_toArray, List.set_cons_zero, List.set_cons_succ, Nat.zero_add, Nat.reduceAdd, h2]
      · intro g_ W_ hI hd K hK
        simp only [frameOf, Act.put, List.setIfInBounds_toArray, List.set_cons_zero, List.set_cons_succ]
        go_simp
        refine hK.out (.int .i64 R.1) _ W_ ?_ hI (Below.refl _ _) rfl
        simp only [frameOf, Act.put, List.setIfInBounds_toArray, List.set_cons_zero, List.set_cons_succ, Nat.zero_add, Nat.reduceAdd]
      · intro g_ W_ hI hd K hK
        simp only [frameOf, Act.put, List.setIfInBounds_toArray, List.set_cons_zero, List.set_cons_succ]
        have h4 : g_ 4 = .int .i64 R.1 := hd 4 (by kernel_rfl)
        rw [h4]
        go_simp
        refine (I_any R.1 W_).mono ?_
        rintro e w' ⟨rfl, hB⟩
        refine hK.out (tv 2 ⟨#[]⟩ R.1 none 0 0) _ _ ?_ (hI.trans (hB.mono hI.size)) hB rfl
        simp only [frameOf, Act.put, List.setIfInBounds_toArray, List.set_cons_zero, List.set_cons_succ, Nat.zero_add, Nat.reduceAdd, h4]
      · intro g_ W_ hI hd K hK
        simp only [frameOf, Act.put, List.setIfInBounds_toArray, List.set_cons_zero, List.set_cons_succ]
        have h0 : g_ 0 = .pointer (some ⟨S, 0, none⟩) := hd 0 (by kernel_rfl)
        have h3 : g_ 3 = .agg #[.int .u8 a.k, .string a.s, .int .i64 a.n, .slice a.p a.kids.len a.c] := hd 3 (by kernel_rfl)
        have h5 : g_ 5 = .agg #[.int .u8 2, .string ⟨#[]⟩, .int .i64 R.1, .slice none 0 0] := hd 5 (by kernel_rfl)
        rw [h0, h3, h5]
        go_simp
        refine (Unify_any S σ n W_ (SB.out.below hI) hn a (nI R.1) Ea.out.ok (nI_ok I64.out) (Ea.out.el.below hI).tat ⟨0, 0, .inl rfl, trivial⟩ Ea.out.sz (Nat.zero_le _)).mono ?_
        intro e w' hL
        obtain ⟨p_, he, hp_⟩ := hL.pu
        have hoe : un 4096 n σ [(a, (nI R.1))] = o := OE.out
        rw [hoe] at he hp_
        subst he
        have hB := hL.1
        refine hK.out (.tuple #[p_, .bool (okU o), .int .i64 (gU o)]) _ _ ?_ (hI.trans (hB.mono hI.size)) hB ⟨p_, rfl, hp_⟩
        simp only [frameOf, Act.put, List.setIfInBounds_toArray, List.set_cons_zero, List.set_cons_succ, Nat.zero_add, Nat.reduceAdd, h0, h3, h5]
      · intro g_ W_ hI hd K hK
        simp only [frameOf, Act.put, List.setIfInBounds_toArray, List.set_cons_zero, List.set_cons_succ]
        obtain ⟨p_, h6, hp_⟩ := hd 6 (by kernel_rfl)
        rw [h6]
        go_simp
        refine hK.out p_ _ W_ ?_ hI (Below.refl _ _) hp_
        simp only [frameOf, Act.put, List.setIfInBounds_toArray, List.set_cons_zero, List.set_cons_succ, Nat.zero_add, Nat.reduceAdd, h6]
      · intro g_ W_ hI hd K hK
        simp only [frameOf, Act.put, List.setIfInBounds_toArray, List.set_cons_zero, List.set_cons_succ]
        obtain ⟨p_, h6, hp_⟩ := hd 6 (by kernel_rfl)
        rw [h6]
        go_simp
        refine hK.out (.bool (okU o)) _ W_ ?_ hI (Below.refl _ _) rfl
        simp only [frameOf, Act.put, List.setIfInBounds_toArray, List.set_cons_zero, List.set_cons_succ, Nat.zero_add, Nat.reduceAdd, h6]
      · intro g_ W_ hI hd K hK
        simp only [frameOf, Act.put, List.setIfInBounds_toArray, List.set_cons_zero, List.set_cons_succ]
        obtain ⟨p_, h6, hp_⟩ := hd 6 (by kernel_rfl)
        rw [h6]
        go_simp
        refine hK.out (.int .i64 (gU o)) _ W_ ?_ hI (Below.refl _ _) rfl
        simp only [frameOf, Act.put, List.setIfInBounds_toArray, List.set_cons_zero, List.set_cons_succ, Nat.zero_add, Nat.reduceAdd, h6]
      · intro g_ W_ hI hd K hK
        simp only [frameOf, Act.put, List.setIfInBounds_toArray, List.set_cons_zero, List.set_cons_succ]
        have hp_ := hd 7 (by kernel_rfl)
        go_simp
        refine hK.out (g_ 7) _ W_ ?_ hI (Below.refl _ _) hp_
        simp only [frameOf, Act.put, List.setIfInBounds_toArray, List.set_cons_zero, List.set_cons_succ, Nat.zero_add, Nat.reduceAdd]
      · intro g_ W_ hI hd K hK
        simp only [frameOf, Act.put, List.setIfInBounds_toArray, List.set_cons_zero, List.set_cons_succ]
        have h8 : g_ 8 = .bool (okU o) := hd 8 (by kernel_rfl)
        rw [h8]
        go_simp
        refine hK.out (.bool (okU o)) _ W_ ?_ hI (Below.refl _ _) rfl
        simp only [frameOf, Act.put, List.setIfInBounds_toArray, List.set_cons_zero, List.set_cons_succ, Nat.zero_add, Nat.reduceAdd, h8]
      · intro g_ W_ hI hd K hK
        simp only [frameOf, Act.put, List.setIfInBounds_toArray, List.set_cons_zero, List.set_cons_succ]
        have h9 : g_ 9 = .int .i64 (gU o) := hd 9 (by kernel_rfl)
        rw [h9]
        go_simp
        refine hK.out (.int .i64 (gU o)) _ W_ ?_ hI (Below.refl _ _) rfl
        simp only [frameOf, Act.put, List.setIfInBounds_toArray, List.set_cons_zero, List.set_cons_succ, Nat.zero_add, Nat.reduceAdd, h9]
    case done =>
      intro f_ W_ hI hd
      have q_ := hd 10 (by decide)
      have ha_ : f_ 11 = .bool (okU o) := hd 11 (by decide)
      have hb_ : f_ 12 = .int .i64 (gU o) := hd 12 (by decide)
      simp only [frameOf, Act.put, List.setIfInBounds_toArray, List.set_cons_zero, List.set_cons_succ, Nat.zero_add, Nat.reduceAdd, ha_, hb_]
      have PO : Hid (PU o (f_ 10) W_) := Lib.hid q_
      have BB := Lib.hid hI
      clear hd q_ ha_ hb_ hI
      go_wp2
      refine bodyPost_ret (v := .tuple #[f_ 10, .bool (okU o), .int .i64 (gU o)]) (by simp [results, Tryz.results83, go_sem]) rfl ?_
      rw [IE.out, ← RE.out, OE.out]
      exact ⟨⟨_, rfl, fun _ => PO.out⟩, BW.out.trans (BB.out.mono BW.out.size)⟩
  · have IE : Hid (isR σ n a b = (false, R.2)) := Lib.hid (by unfold isR; rw [← hR, if_neg h0])
    rw [show ansOf R = .tuple #[.int .i64 0, .int .i64 R.2] by unfold ansOf; rw [if_neg h0]]
    have hne : (R.2 != 0) = true := by simpa using h0
    clear hR h0
    go_wp2
    refine bodyPost_ret (v := .tuple #[.pointer none, .bool false, .int .i64 R.2]) (by simp [results, Tryz.results83, go_sem]) rfl ?_
    rw [IE.out]
    exact ⟨⟨_, rfl, fun h => by cases h⟩, BW.out⟩

end Go.Proofs.YtnmhnaanpjlniaaGreat
