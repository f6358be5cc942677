import Derived.Test.YtnmhnaanpjlniaaGreatTj
import Derived.Deep.CutBlock
import Derived.BigQuiet
import Derived.Test.YtnmhnaanpjlniaaGreatTw
import Derived.Test.YtnmhnaanpjlniaaGreatXa
import Derived.Test.YtnmhnaanpjlniaaGreatXl
import Derived.Test.YtnmhnaanpjlniaaGreatRows
import Derived.WalkKit
import Derived.WalkSpells
import Derived.WalkLawsBesides
import Derived.Lib.Hide
import Derived.Shelf.Bits.Mul64
import Derived.Test.YtnmhnaanpjlniaaGreatTn
/-
  How two terms stand as far as that is known: the program's and the document's. (Written by gen_fd.py.)
-/
namespace Go.Proofs.YtnmhnaanpjlniaaGreat
open Go.RowKit

def ordH (k k' : Int) (s s' : ByteArray) (n n' : Int) (ts us : Ts) (r : Int × Bool) : Int × Bool :=
  if ((k == 1) && (k' == 1)) = true then (0, n == n')
  else if ((k == 4) && ((k' == 4) && ((s.toList == s'.toList) && decide (ts.len = us.len)))) = true then r else (cmpT k k' s s' n n' ts us (cmpL ts us), true)

def ordL : Ts → Ts → Int × Bool
  | .cons k s n _ _ ts r, .cons k' s' n' _ _ us r' =>
    if ((ordH k k' s s' n n' ts us (ordL ts us)).1 != 0 || !(ordH k k' s s' n n' ts us (ordL ts us)).2) = true then ordH k k' s s' n n' ts us (ordL ts us) else ordL r r'
  | _, _ => (0, true)

set_option maxRecDepth 100000 in
set_option maxHeartbeats 2000000 in
theorem tord_any : ∀ (sz : Nat) (ts us : Ts), ts.size < sz → ts.size ≤ 1000000 → ∀ (k k' : Int) (s s' : ByteArray) (n n' : Int) (w : World) (p p' : Option Addr) (c c' : Nat), Ts.ok (.cons k s n p c ts .nil) → Ts.ok (.cons k' s' n' p' c' us .nil) → Ts.At w p ts → Ts.At w p' us →
    Calls Tryz.prog 19 #[.agg #[.int .u8 k, .string s, .int .i64 n, .slice p ts.len c], .agg #[.int .u8 k', .string s', .int .i64 n', .slice p' us.len c']] w fun e w' =>
      e = .returned (.tuple #[.int .i64 (ordH k k' s s' n n' ts us (ordL ts us)).1, .bool (ordH k k' s s' n n' ts us (ordL ts us)).2]) ∧ Below w.heap.size w w' := by
  intro sz
  induction sz with
  | zero => intro ts us h; omega
  | succ sz ih =>
    intro ts us hsz hbig k k' s s' n n' w p p' c c' hok hok' hat hat'
    have IH := Lib.hid ih
    clear ih
    have OK := Lib.hid hok
    have OK' := Lib.hid hok'
    have hlen : ts.len ≤ 9223372036854775807 := by have := hok.2.2.2.1; omega
    have hlen' : us.len ≤ 9223372036854775807 := by have := hok'.2.2.2.1; omega
    have hbig' := Lib.hid hbig
    clear hok hok'
    obtain ⟨W2, hW2, hsz2, hB2, hc1, hc2⟩ := box2 w #[.int .u8 k, .string s, .int .i64 n, .slice p ts.len c] #[.int .u8 k', .string s', .int .i64 n', .slice p' us.len c'] 25 25
    have a0 : W2.cell? ⟨w.heap.size, 0, none⟩ = some (.int .u8 k) := hc1 0 _ rfl
    have a1 : W2.cell? ⟨w.heap.size, 1, none⟩ = some (.string s) := hc1 1 _ rfl
    have a2 : W2.cell? ⟨w.heap.size, 2, none⟩ = some (.int .i64 n) := hc1 2 _ rfl
    have a3 : W2.cell? ⟨w.heap.size, 3, none⟩ = some (.slice p ts.len c) := hc1 3 _ rfl
    have b0 : W2.cell? ⟨w.heap.size + 1, 0, none⟩ = some (.int .u8 k') := hc2 0 _ rfl
    have b1 : W2.cell? ⟨w.heap.size + 1, 1, none⟩ = some (.string s') := hc2 1 _ rfl
    have b2 : W2.cell? ⟨w.heap.size + 1, 2, none⟩ = some (.int .i64 n') := hc2 2 _ rfl
    have b3 : W2.cell? ⟨w.heap.size + 1, 3, none⟩ = some (.slice p' us.len c') := hc2 3 _ rfl
    have BW := Lib.hid hB2
    have AT := Lib.hid (hat.below hB2)
    have AT' := Lib.hid (hat'.below hB2)
    have Z := Lib.hid hW2
    have HS2 := Lib.hid hsz2
    clear hB2 hc1 hc2 hW2 hat hat' hsz2
    by_cases hv : ((k == 1) && (k' == 1)) = true
    · have HO : Hid (ordH k k' s s' n n' ts us (ordL ts us) = (0, n == n')) := Lib.hid (by unfold ordH; rw [if_pos hv])
      rw [Bool.and_eq_true] at hv
      obtain ⟨hv1, hv2⟩ := hv
      rw [HO.out]
      go_enter Tryz.func19, Tryz.ntmps19
      go_upto_region 1 with fail
      rw [← Z.out]
      go_upto_region 2 with fail
      go_quiet (fail)
      go_wp2
      go_ret2
      exact ⟨rfl, below_drewN BW.out _⟩
    have NV := Lib.hid hv
    by_cases hq : ((k == 4) && ((k' == 4) && ((s.toList == s'.toList) && decide (ts.len = us.len)))) = true
    · have HO : Hid (ordH k k' s s' n n' ts us (ordL ts us) = ordL ts us) := Lib.hid (by unfold ordH; rw [if_neg NV.out, if_pos hq])
      rw [HO.out]
      simp only [Bool.and_eq_true, decide_eq_true_eq] at hq
      obtain ⟨q1, q2, q3, q4⟩ := hq
      have HL := Lib.hid q4
      have e1 : (k == 1) = false := by rw [beq_iff_eq] at q1; rw [q1]; rfl
      have e2 : (k != 4) = false := by rw [beq_iff_eq] at q1; rw [q1]; rfl
      have e3 : (k' != 4) = false := by rw [beq_iff_eq] at q2; rw [q2]; rfl
      have e4 : (k != k') = false := by rw [beq_iff_eq] at q1 q2; rw [q1, q2]; rfl
      have e5 : ((ts.len : Int) != (us.len : Int)) = false := by rw [q4]; simp
      clear q1 q2 q4 hv
      go_enter Tryz.func19, Tryz.ntmps19
      go_upto_region 1 with fail
      rw [← Z.out]
      go_wp2
      clear a0 a1 a2 b0 b1 b2 e1 e2 e3 e4 e5 q3
      go_loopw [52] (fun i wr => ∃ j : Nat, j ≤ ts.len ∧ i = .int .i64 j ∧ Hid (ordL (ts.drop j) (us.drop j) = ordL ts us) ∧ Below W2.heap.size W2 wr) (fun i _ => ts.len - (intOf i).toNat)
      case atStart => exact ⟨0, Nat.zero_le _, rfl, Lib.hid rfl, Below.refl _ _⟩
      case round =>
        rename_i wr _
        obtain ⟨j, hk, rfl, R, hB⟩ := hrel
        have B := Lib.hid hB
        obtain ⟨b, o, hp, hlies⟩ := AT.out
        obtain ⟨b', o', hp', hlies'⟩ := AT'.out
        have a3' := (hB.cell (p := ⟨w.heap.size, 3, none⟩) (by have := HS2.out; simp only; omega)).trans a3
        have b3' := (hB.cell (p := ⟨w.heap.size + 1, 3, none⟩) (by have := HS2.out; simp only; omega)).trans b3
        by_cases hlt : j < ts.len
        · have hlt' : j < us.len := by have := HL.out; omega
          obtain ⟨kk, s1, nn, pp, cc, kids, rest, D, he, hz1, hO1⟩ := Ts.elem hlies hB OK.out.2.2.2.2.2.1 hlt
          obtain ⟨kk', s1', nn', pp', cc', kids', rest', D', he', hz1', hO2⟩ := Ts.elem hlies' hB OK'.out.2.2.2.2.2.1 hlt'
          have E := Lib.hid he
          have E' := Lib.hid he'
          have O1 := Lib.hid hO1
          have O2 := Lib.hid hO2
          have hp2 : p = some ⟨b, o, none⟩ := by
            rcases hp with rfl | rfl
            · simp [Ts.len] at hlt
            · rfl
          have hp2' : p' = some ⟨b', o', none⟩ := by
            rcases hp' with rfl | rfl
            · simp [Ts.len] at hlt'
            · rfl
          subst hp2 hp2'
          have hzA : w.heap.size < wr.heap.size := by have := HS2.out; have := hB.size; omega
          have hzB : w.heap.size + 1 < wr.heap.size := by have := HS2.out; have := hB.size; omega
          have A3 := Lib.hid a3'
          have B3' := Lib.hid b3'
          clear hB he he' hO1 hO2 hp hp' a3 b3 hlies hlies'
          obtain ⟨x, hx⟩ : ∃ x, x = ordH kk kk' s1 s1' nn nn' kids kids' (ordL kids kids') := ⟨_, rfl⟩
          have X := Lib.hid hx
          clear hx
          go_upto_region 8 with fail
          clear a3' b3'
          refine region_by_facts (fun W_ => Below wr.heap.size wr W_) [fun u _ => u = .pointer (some ⟨w.heap.size, 3, none⟩), fun u _ => u = .slice (some ⟨b, o, none⟩) ts.len c, fun u _ => u = .int .i64 j, fun u _ => u = .pointer (some ⟨b, o + j * 4, none⟩), fun u _ => u = .agg #[.int .u8 kk, .string s1, .int .i64 nn, .slice pp kids.len cc], fun u _ => u = .pointer (some ⟨w.heap.size + 1, 3, none⟩), fun u _ => u = .slice (some ⟨b', o', none⟩) us.len c', fun u _ => u = .int .i64 j, fun u _ => u = .pointer (some ⟨b', o' + j * 4, none⟩), fun u _ => u = .agg #[.int .u8 kk', .string s1', .int .i64 nn', .slice pp' kids'.len cc'], fun u _ => u = .tuple #[.int .i64 x.1, .bool x.2], fun u _ => u = .tuple #[.int .i64 x.1, .bool x.2], fun u _ => u = .int .i64 x.1, fun u _ => u = .bool x.2, fun u _ => u = .int .i64 x.1, fun u _ => u = .bool x.2]
            ⟨.eq _, .eq _, .eq _, .eq _, .eq _, .eq _, .eq _, .eq _, .eq _, .eq _, .eq _, .eq _, .eq _, .eq _, .eq _, .eq _, trivial⟩ (by kernel_rfl) (by kernel_rfl) (by kernel_rfl) ?h0 ?steps ?done
          case h0 => exact (Below.refl _ _).drew
          case steps =>
            refine ⟨?_, ?_, ?_, ?_, ?_, ?_, ?_, ?_, ?_, ?_, ?_, ?_, ?_, ?_, ?_, ?_, trivial⟩
            · intro g_ W_ hI hd K hK
              simp only [frameOf, Act.put, List.setIfInBounds_toArray, List.set_cons_zero, List.set_cons_succ]
              go_simp
              refine hK.out (.pointer (some ⟨w.heap.size, 3, none⟩)) _ W_ ?_ hI (Below.refl _ _) rfl
              simp only [frameOf, Act.put, List.setIfInBounds_toArray, List.set_cons_zero, List.set_cons_succ, Nat.zero_add, Nat.reduceAdd]
            · intro g_ W_ hI hd K hK
              simp only [frameOf, Act.put, List.setIfInBounds_toArray, List.set_cons_zero, List.set_cons_succ]
              have h0 : g_ 0 = .pointer (some ⟨w.heap.size, 3, none⟩) := hd 0 (by kernel_rfl)
              rw [h0]
              have c3 := (hI.cell (p := ⟨w.heap.size, 3, none⟩) hzA).trans A3.out
              go_simp
              refine hK.out (.slice (some ⟨b, o, none⟩) ts.len c) _ W_ ?_ hI (Below.refl _ _) rfl
              simp only [frameOf, Act.put, List.setIfInBounds_toArray, List.set_cons_zero, List.set_cons_succ, Nat.zero_add, Nat.reduceAdd, h0]
            · intro g_ W_ hI hd K hK
              simp only [frameOf, Act.put, List.setIfInBounds_toArray, List.set_cons_zero, List.set_cons_succ]
              go_simp
              refine hK.out (.int .i64 j) _ W_ ?_ hI (Below.refl _ _) rfl
              simp only [frameOf, Act.put, List.setIfInBounds_toArray, List.set_cons_zero, List.set_cons_succ, Nat.zero_add, Nat.reduceAdd]
            · intro g_ W_ hI hd K hK
              simp only [frameOf, Act.put, List.setIfInBounds_toArray, List.set_cons_zero, List.set_cons_succ]
              have h1 : g_ 1 = .slice (some ⟨b, o, none⟩) ts.len c := hd 1 (by kernel_rfl)
              have h2 : g_ 2 = .int .i64 j := hd 2 (by kernel_rfl)
              rw [h1, h2]
              go_simp
              refine hK.out (.pointer (some ⟨b, o + j * 4, none⟩)) _ W_ ?_ hI (Below.refl _ _) rfl
              simp only [frameOf, Act.put, List.setIfInBounds_toArray, List.set_cons_zero, List.set_cons_succ, Nat.zero_add, Nat.reduceAdd, h1, h2]
            · intro g_ W_ hI hd K hK
              simp only [frameOf, Act.put, List.setIfInBounds_toArray, List.set_cons_zero, List.set_cons_succ]
              have h3 : g_ 3 = .pointer (some ⟨b, o + j * 4, none⟩) := hd 3 (by kernel_rfl)
              rw [h3]
              have e_ := E.out.below hI
              have c0 := e_.c0
              have c1 := e_.c1
              have c2 := e_.c2
              have c3 := e_.c3
              go_simp
              refine hK.out (.agg #[.int .u8 kk, .string s1, .int .i64 nn, .slice pp kids.len cc]) _ W_ ?_ hI (Below.refl _ _) rfl
              simp only [frameOf, Act.put, List.setIfInBounds_toArray, List.set_cons_zero, List.set_cons_succ, Nat.zero_add, Nat.reduceAdd, h3]
            · intro g_ W_ hI hd K hK
              simp only [frameOf, Act.put, List.setIfInBounds_toArray, List.set_cons_zero, List.set_cons_succ]
              go_simp
              refine hK.out (.pointer (some ⟨w.heap.size + 1, 3, none⟩)) _ W_ ?_ hI (Below.refl _ _) rfl
              simp only [frameOf, Act.put, List.setIfInBounds_toArray, List.set_cons_zero, List.set_cons_succ, Nat.zero_add, Nat.reduceAdd]
            · intro g_ W_ hI hd K hK
              simp only [frameOf, Act.put, List.setIfInBounds_toArray, List.set_cons_zero, List.set_cons_succ]
              have h5 : g_ 5 = .pointer (some ⟨w.heap.size + 1, 3, none⟩) := hd 5 (by kernel_rfl)
              rw [h5]
              have c3 := (hI.cell (p := ⟨w.heap.size + 1, 3, none⟩) hzB).trans B3'.out
              go_simp
              refine hK.out (.slice (some ⟨b', o', none⟩) us.len c') _ W_ ?_ hI (Below.refl _ _) rfl
              simp only [frameOf, Act.put, List.setIfInBounds_toArray, List.set_cons_zero, List.set_cons_succ, Nat.zero_add, Nat.reduceAdd, h5]
            · intro g_ W_ hI hd K hK
              simp only [frameOf, Act.put, List.setIfInBounds_toArray, List.set_cons_zero, List.set_cons_succ]
              go_simp
              refine hK.out (.int .i64 j) _ W_ ?_ hI (Below.refl _ _) rfl
              simp only [frameOf, Act.put, List.setIfInBounds_toArray, List.set_cons_zero, List.set_cons_succ, Nat.zero_add, Nat.reduceAdd]
            · intro g_ W_ hI hd K hK
              simp only [frameOf, Act.put, List.setIfInBounds_toArray, List.set_cons_zero, List.set_cons_succ]
              have h6 : g_ 6 = .slice (some ⟨b', o', none⟩) us.len c' := hd 6 (by kernel_rfl)
              have h7 : g_ 7 = .int .i64 j := hd 7 (by kernel_rfl)
              rw [h6, h7]
              go_simp
              refine hK.out (.pointer (some ⟨b', o' + j * 4, none⟩)) _ W_ ?_ hI (Below.refl _ _) rfl
              simp only [frameOf, Act.put, List.setIfInBounds_toArray, List.set_cons_zero, List.set_cons_succ, Nat.zero_add, Nat.reduceAdd, h6, h7]
            · intro g_ W_ hI hd K hK
              simp only [frameOf, Act.put, List.setIfInBounds_toArray, List.set_cons_zero, List.set_cons_succ]
              have h8 : g_ 8 = .pointer (some ⟨b', o' + j * 4, none⟩) := hd 8 (by kernel_rfl)
              rw [h8]
              have e_ := E'.out.below hI
              have c0 := e_.c0
              have c1 := e_.c1
              have c2 := e_.c2
              have c3 := e_.c3
              go_simp
              refine hK.out (.agg #[.int .u8 kk', .string s1', .int .i64 nn', .slice pp' kids'.len cc']) _ W_ ?_ hI (Below.refl _ _) rfl
              simp only [frameOf, Act.put, List.setIfInBounds_toArray, List.set_cons_zero, List.set_cons_succ, Nat.zero_add, Nat.reduceAdd, h8]
            · intro g_ W_ hI hd K hK
              simp only [frameOf, Act.put, List.setIfInBounds_toArray, List.set_cons_zero, List.set_cons_succ]
              have h4 : g_ 4 = .agg #[.int .u8 kk, .string s1, .int .i64 nn, .slice pp kids.len cc] := hd 4 (by kernel_rfl)
              have h9 : g_ 9 = .agg #[.int .u8 kk', .string s1', .int .i64 nn', .slice pp' kids'.len cc'] := hd 9 (by kernel_rfl)
              rw [h4, h9]
              go_simp
              refine (IH.out kids kids' (by omega) (by have := hbig'.out; omega) kk kk' s1 s1' nn nn' W_ pp pp' cc cc' O1.out O2.out (E.out.below hI).tat (E'.out.below hI).tat).mono ?_
              rintro e w' ⟨rfl, hB⟩
              rw [← X.out]
              refine hK.out (.tuple #[.int .i64 x.1, .bool x.2]) _ _ ?_ (hI.trans (hB.mono hI.size)) hB rfl
              simp only [frameOf, Act.put, List.setIfInBounds_toArray, List.set_cons_zero, List.set_cons_succ, Nat.zero_add, Nat.reduceAdd, h4, h9]
            · intro g_ W_ hI hd K hK
              simp only [frameOf, Act.put, List.setIfInBounds_toArray, List.set_cons_zero, List.set_cons_succ]
              have h10 : g_ 10 = .tuple #[.int .i64 x.1, .bool x.2] := hd 10 (by kernel_rfl)
              rw [h10]
              go_simp
              refine hK.out (.tuple #[.int .i64 x.1, .bool x.2]) _ W_ ?_ hI (Below.refl _ _) rfl
              simp only [frameOf, Act.put, List.setIfInBounds_toArray, List.set_cons_zero, List.set_cons_succ, Nat.zero_add, Nat.reduceAdd, h10]
            · intro g_ W_ hI hd K hK
              simp only [frameOf, Act.put, List.setIfInBounds_toArray, List.set_cons_zero, List.set_cons_succ]
              have h11 : g_ 11 = .tuple #[.int .i64 x.1, .bool x.2] := hd 11 (by kernel_rfl)
              rw [h11]
              go_simp
              refine hK.out (.int .i64 x.1) _ W_ ?_ hI (Below.refl _ _) rfl
              simp only [frameOf, Act.put, List.setIfInBounds_toArray, List.set_cons_zero, List.set_cons_succ, Nat.zero_add, Nat.reduceAdd, h11]
            · intro g_ W_ hI hd K hK
              simp only [frameOf, Act.put, List.setIfInBounds_toArray, List.set_cons_zero, List.set_cons_succ]
              have h11 : g_ 11 = .tuple #[.int .i64 x.1, .bool x.2] := hd 11 (by kernel_rfl)
              rw [h11]
              go_simp
              refine hK.out (.bool x.2) _ W_ ?_ hI (Below.refl _ _) rfl
              simp only [frameOf, Act.put, List.setIfInBounds_toArray, List.set_cons_zero, List.set_cons_succ, Nat.zero_add, Nat.reduceAdd, h11]
            · intro g_ W_ hI hd K hK
              simp only [frameOf, Act.put, List.setIfInBounds_toArray, List.set_cons_zero, List.set_cons_succ]
              have h12 : g_ 12 = .int .i64 x.1 := hd 12 (by kernel_rfl)
              rw [h12]
              go_simp
              refine hK.out (.int .i64 x.1) _ W_ ?_ hI (Below.refl _ _) rfl
              simp only [frameOf, Act.put, List.setIfInBounds_toArray, List.set_cons_zero, List.set_cons_succ, Nat.zero_add, Nat.reduceAdd, h12]
            · intro g_ W_ hI hd K hK
              simp only [frameOf, Act.put, List.setIfInBounds_toArray, List.set_cons_zero, List.set_cons_succ]
              have h13 : g_ 13 = .bool x.2 := hd 13 (by kernel_rfl)
              rw [h13]
              go_simp
              refine hK.out (.bool x.2) _ W_ ?_ hI (Below.refl _ _) rfl
              simp only [frameOf, Act.put, List.setIfInBounds_toArray, List.set_cons_zero, List.set_cons_succ, Nat.zero_add, Nat.reduceAdd, h13]
          case done =>
            intro f_ W_ hI hd
            have h14 : f_ 14 = .int .i64 x.1 := hd 14 (by decide)
            have h15 : f_ 15 = .bool x.2 := hd 15 (by decide)
            simp only [frameOf, Act.put, List.setIfInBounds_toArray, List.set_cons_zero, List.set_cons_succ, Nat.zero_add, Nat.reduceAdd, h14, h15]
            have B3 := Lib.hid (B.out.trans (hI.mono B.out.size))
            clear hd h14 h15 hI
            obtain ⟨d, v⟩ := x
            by_cases hd0 : (d != 0) = true
            · have HR : Hid (ordL ts us = (d, v)) := Lib.hid (by
                rw [← R.out, D.out, D'.out]
                simp only [ordL, ← X.out, hd0, Bool.true_or, if_true])
              go_wp2
              go_ret2
              rw [HR.out]
              exact ⟨rfl, BW.out.trans (B3.out.mono BW.out.size)⟩
            rw [Bool.not_eq_true] at hd0
            cases v with
            | false =>
              have HR : Hid (ordL ts us = (d, false)) := Lib.hid (by
                rw [← R.out, D.out, D'.out]
                simp only [ordL, ← X.out, hd0, Bool.not_false, Bool.or_true, if_true])
              go_wp2
              go_ret2
              rw [HR.out]
              exact ⟨rfl, BW.out.trans (B3.out.mono BW.out.size)⟩
            | true =>
              have R' : Hid (ordL (ts.drop (j + 1)) (us.drop (j + 1)) = ordL ts us) := Lib.hid (by
                rw [Ts.drop_succ j ts D.out, Ts.drop_succ j us D'.out, ← R.out, D.out, D'.out]
                simp only [ordL, ← X.out, hd0, Bool.not_true, Bool.or_false, Bool.false_eq_true, if_false])
              go_wp2
              go_roundw
              case rel => exact ⟨j + 1, by omega, by go_num, R', B3.out⟩
              case measure => simp [intOf]; omega
        · have hke : j = ts.len := by omega
          have hd : ts.drop j = .nil := Ts.len_zero (by rw [Ts.drop_len]; omega)
          have hd' : us.drop j = .nil := Ts.len_zero (by rw [Ts.drop_len]; have := HL.out; omega)
          have h := R.out
          rw [hd, hd'] at h
          have H := Lib.hid h
          clear h hd hd' hke hB R
          go_wp2
          go_ret2
          exact ⟨by rw [← H.out]; rfl, BW.out.trans (B.out.mono BW.out.size)⟩
    · have HO : Hid (ordH k k' s s' n n' ts us (ordL ts us) = (cmpT k k' s s' n n' ts us (cmpL ts us), true)) := Lib.hid (by unfold ordH; rw [if_neg NV.out, if_neg hq])
      rw [HO.out]
      obtain ⟨C, hC⟩ : ∃ C, C = cmpT k k' s s' n n' ts us (cmpL ts us) := ⟨_, rfl⟩
      have CE := Lib.hid hC
      rw [← hC]
      clear hC HO
      have hcmp : ∀ W, Below W2.heap.size W2 W → Calls Tryz.prog 21 #[.agg #[.int .u8 k, .string s, .int .i64 n, .slice p ts.len c], .agg #[.int .u8 k', .string s', .int .i64 n', .slice p' us.len c']] W fun e w' => e = .returned (.int .i64 C) ∧ Below W.heap.size W w' := fun W hB => by
        rw [CE.out]
        exact compare_any hbig'.out OK.out.2.2.2.2.2.1 OK'.out.2.2.2.2.2.1 (AT.out.below hB) (AT'.out.below hB)
      have CMP := Lib.hid hcmp
      clear hcmp
      clear hv
      by_cases k1 : (k == 1) = true
      · have k1' : (k' == 1) = false := by
          rw [Bool.eq_false_iff]
          intro h
          exact NV.out (by rw [k1, h]; rfl)
        have k4 : (k != 4) = true := by rw [beq_iff_eq] at k1; rw [k1]; rfl
        go_enter Tryz.func19, Tryz.ntmps19
        go_upto_region 1 with fail
        rw [← Z.out]
        go_wp2_with fail
        refine (CMP.out _ (Below.refl _ _)).mono ?_
        rintro e w' ⟨rfl, hB⟩
        have BB := Lib.hid (BW.out.trans (hB.mono BW.out.size))
        clear hB
        go_wp2
        go_ret2
        exact ⟨rfl, BB.out⟩
      rw [Bool.not_eq_true] at k1
      by_cases k4 : (k != 4) = true
      · go_enter Tryz.func19, Tryz.ntmps19
        go_upto_region 1 with fail
        rw [← Z.out]
        go_wp2_with fail
        refine (CMP.out _ (Below.refl _ _)).mono ?_
        rintro e w' ⟨rfl, hB⟩
        have BB := Lib.hid (BW.out.trans (hB.mono BW.out.size))
        clear hB
        go_wp2
        go_ret2
        exact ⟨rfl, BB.out⟩
      rw [Bool.not_eq_true] at k4
      have h4 := Lib.hid (by simpa using k4 : k = 4)
      by_cases k4' : (k' != 4) = true
      · go_enter Tryz.func19, Tryz.ntmps19
        go_upto_region 1 with fail
        rw [← Z.out]
        go_wp2_with fail
        refine (CMP.out _ (Below.refl _ _)).mono ?_
        rintro e w' ⟨rfl, hB⟩
        have BB := Lib.hid (BW.out.trans (hB.mono BW.out.size))
        clear hB
        go_wp2
        go_ret2
        exact ⟨rfl, BB.out⟩
      rw [Bool.not_eq_true] at k4'
      have h4' := Lib.hid (by simpa using k4' : k' = 4)
      by_cases hs : (s.toList == s'.toList) = true
      · have hl : ((ts.len : Int) != (us.len : Int)) = true := by
          rw [bne_iff_ne]
          intro he
          apply hq
          rw [h4.out, h4'.out, hs, decide_eq_true (by omega : ts.len = us.len)]
          rfl
        clear h4 h4'
        go_enter Tryz.func19, Tryz.ntmps19
        go_upto_region 1 with fail
        rw [← Z.out]
        go_wp2_with fail
        refine (CMP.out _ (Below.refl _ _)).mono ?_
        rintro e w' ⟨rfl, hB⟩
        have BB := Lib.hid (BW.out.trans (hB.mono BW.out.size))
        clear hB
        go_wp2
        go_ret2
        exact ⟨rfl, BB.out⟩
      · rw [Bool.not_eq_true] at hs
        clear h4 h4'
        go_enter Tryz.func19, Tryz.ntmps19
        go_upto_region 1 with fail
        rw [← Z.out]
        go_wp2_with fail
        refine (CMP.out _ (Below.refl _ _)).mono ?_
        rintro e w' ⟨rfl, hB⟩
        have BB := Lib.hid (BW.out.trans (hB.mono BW.out.size))
        clear hB
        go_wp2
        go_ret2
        exact ⟨rfl, BB.out⟩



end Go.Proofs.YtnmhnaanpjlniaaGreat
/-
  What the small functions of arith and term do: each contract says what one call hands back or panics with, and that memory that was there stays as it was.
-/
namespace Go.Proofs.YtnmhnaanpjlniaaGreat
open Go.RowKit


/-- what is thrown -/
def thrown (n : Int) : List PanicEntry := [{ v := .iface 35 (.int .i64 n), recovered := false }]




set_option maxHeartbeats 400000 in
theorem within_true (w : World) :
    Calls Tryz.prog 137 #[.bool true] w fun e w' => e = .returned (.tuple #[]) ∧ w' = w := by
  go_enter Tryz.func137, Tryz.ntmps137
  go_wp2
  go_end0
  exact ⟨rfl, rfl⟩

set_option maxHeartbeats 400000 in
theorem within_false (w : World) :
    Calls Tryz.prog 137 #[.bool false] w fun e w' => e = .panicked (thrown 22) ∧ w' = w := by
  go_enter Tryz.func137, Tryz.ntmps137
  go_wp2
  exact ⟨rfl, rfl, rfl⟩

set_option maxHeartbeats 400000 in
theorem zero_no (n : Int) (h : n ≠ 0) (w : World) :
    Calls Tryz.prog 140 #[.int .i64 n] w fun e w' => e = .returned (.tuple #[]) ∧ w' = w := by
  have h1 : (n == 0) = false := by simp [h]
  go_enter Tryz.func140, Tryz.ntmps140
  go_wp2
  go_end0
  exact ⟨rfl, rfl⟩

set_option maxHeartbeats 400000 in
theorem zero_yes (w : World) :
    Calls Tryz.prog 140 #[.int .i64 0] w fun e w' => e = .panicked (thrown 23) ∧ w' = w := by
  go_enter Tryz.func140, Tryz.ntmps140
  go_wp2
  exact ⟨rfl, rfl, rfl⟩

def isI64 (n : Int) : Prop := -9223372036854775808 ≤ n ∧ n ≤ 9223372036854775807

/-- how a call ends that answers a number, or throws -/
def endsAs (r : Int × Int) : Ending := if r.2 = 0 then .returned (.int .i64 r.1) else .panicked (thrown r.2)

def plusR (a b : Int) : Int × Int := if -9223372036854775808 ≤ a + b ∧ a + b ≤ 9223372036854775807 then (a + b, 0) else (0, 22)
def minusR (a b : Int) : Int × Int := if -9223372036854775808 ≤ a - b ∧ a - b ≤ 9223372036854775807 then (a - b, 0) else (0, 22)
def timesR (a b : Int) : Int × Int := if -9223372036854775808 ≤ a * b ∧ a * b ≤ 9223372036854775807 then (a * b, 0) else (0, 22)
def quotR (a b : Int) : Int × Int := if b = 0 then (0, 23) else if a = -9223372036854775808 ∧ b = -1 then (0, 22) else (a.tdiv b, 0)
def remR (a b : Int) : Int × Int := if b = 0 then (0, 23) else (a.tmod b, 0)
def modR (a b : Int) : Int × Int := if b = 0 then (0, 23) else if a.tmod b ≠ 0 ∧ ¬ (a.tmod b < 0 ↔ b < 0) then (a.tmod b + b, 0) else (a.tmod b, 0)

theorem endsAs_ok (n : Int) : endsAs (n, 0) = .returned (.int .i64 n) := rfl
theorem if_iff {α : Type} {p q : Prop} [Decidable p] [Decidable q] (h : p ↔ q) (x y : α) : (if p then x else y) = if q then x else y := by
  by_cases hp : p
  · rw [if_pos hp, if_pos (h.1 hp)]
  · rw [if_neg hp, if_neg (fun hq => hp (h.2 hq))]

theorem dec_eq {p q : Prop} [Decidable p] [Decidable q] (h : p ↔ q) : (decide p == decide q) = true := by simp [h]
theorem dec_ne {p q : Prop} [Decidable p] [Decidable q] (h : ¬ (p ↔ q)) : (decide p == decide q) = false := by
  by_cases hp : p <;> by_cases hq : q <;> simp_all

set_option maxHeartbeats 400000 in
theorem plus_any (a b : Int) (ha : isI64 a) (hb : isI64 b) (w : World) :
    Calls Tryz.prog 129 #[.int .i64 a, .int .i64 b] w fun e w' => e = endsAs (plusR a b) ∧ w' = w := by
  unfold isI64 at ha hb
  unfold plusR
  by_cases h : -9223372036854775808 ≤ a + b ∧ a + b ≤ 9223372036854775807
  · rw [if_pos h]
    have e1 := Lib.hid (dec_eq (p := a + b < a) (q := b < 0) (by omega))
    go_enter Tryz.func129, Tryz.ntmps129
    go_wp2_with fail
    rw [e1.out]
    refine (within_true _).mono ?_
    rintro e w' ⟨rfl, rfl⟩
    go_wp2
    go_ret
    exact ⟨rfl, rfl⟩
  · rw [if_neg h]
    have e1 := Lib.hid (dec_ne (p := wrap64 (a + b) < a) (q := b < 0) (by unfold wrap64; omega))
    go_enter Tryz.func129, Tryz.ntmps129
    go_wp2_with fail
    rw [e1.out]
    refine (within_false _).mono ?_
    rintro e w' ⟨rfl, rfl⟩
    go_wp2
    exact ⟨rfl, rfl, rfl⟩

set_option maxHeartbeats 400000 in
theorem minus_any (a b : Int) (ha : isI64 a) (hb : isI64 b) (w : World) :
    Calls Tryz.prog 130 #[.int .i64 a, .int .i64 b] w fun e w' => e = endsAs (minusR a b) ∧ w' = w := by
  unfold isI64 at ha hb
  unfold minusR
  by_cases h : -9223372036854775808 ≤ a - b ∧ a - b ≤ 9223372036854775807
  · rw [if_pos h]
    have e1 := Lib.hid (dec_eq (p := a < a - b) (q := b < 0) (by omega))
    go_enter Tryz.func130, Tryz.ntmps130
    go_wp2_with fail
    rw [e1.out]
    refine (within_true _).mono ?_
    rintro e w' ⟨rfl, rfl⟩
    go_wp2
    go_ret
    exact ⟨rfl, rfl⟩
  · rw [if_neg h]
    have e1 := Lib.hid (dec_ne (p := a < wrap64 (a - b)) (q := b < 0) (by unfold wrap64; omega))
    go_enter Tryz.func130, Tryz.ntmps130
    go_wp2_with fail
    rw [e1.out]
    refine (within_false _).mono ?_
    rintro e w' ⟨rfl, rfl⟩
    go_wp2
    exact ⟨rfl, rfl, rfl⟩

theorem ret_u64 {a b : Int} (h : a = b) : Ending.returned (.int .u64 a) = .returned (.int .u64 b) := by rw [h]
theorem ret_i64 {a b : Int} (h : a = b) : Ending.returned (.int .i64 a) = .returned (.int .i64 b) := by rw [h]

set_option maxHeartbeats 400000 in
theorem magnitude_any (a : Int) (ha : isI64 a) (w : World) :
    Calls Tryz.prog 139 #[.int .i64 a] w fun e w' => e = .returned (.int .u64 (a.natAbs : Int)) ∧ w' = w := by
  unfold isI64 at ha
  by_cases h : a < 0
  · have e1 := Lib.hid (show IntKind.u64.wrap (-IntKind.u64.wrap a) = (a.natAbs : Int) by rw [IntKind.wrap_u64, IntKind.wrap_u64]; omega)
    go_enter Tryz.func139, Tryz.ntmps139
    go_wp2
    go_ret
    exact ⟨ret_u64 e1.out, rfl⟩
  · go_enter Tryz.func139, Tryz.ntmps139
    go_wp2
    go_ret
    exact ⟨ret_u64 (by omega), rfl⟩

def hiU (x y : Nat) : Int := ((x * y / 18446744073709551616 : Nat) : Int)
def loU (x y : Nat) : Int := ((x * y % 18446744073709551616 : Nat) : Int)

set_option maxHeartbeats 1000000 in
theorem mul64_any (x y : Nat) (hx : x < 18446744073709551616) (hy : y < 18446744073709551616) (w : World) :
    Calls Tryz.prog 138 #[.int .u64 x, .int .u64 y] w fun e w' => e = .returned (.tuple #[.int .u64 (hiU x y), .int .u64 (loU x y)]) ∧ w' = w := by
  obtain ⟨bd, bt, bw, hhi⟩ := Lib.mul64_hi x y hx hy
  have ba := Lib.half_mul_le (a := x / 4294967296) (b := y / 4294967296) (by omega) (by omega)
  have bb := Lib.half_mul_le (a := x / 4294967296) (b := y % 4294967296) (by omega) (by omega)
  have bc := Lib.half_mul_le (a := x % 4294967296) (b := y / 4294967296) (by omega) (by omega)
  go_enter Tryz.func138, Tryz.ntmps138
  go_wp2
  simp only [Mul64.maskN x hx, Mul64.maskN y hy, Mul64.divN, Mul64.mulN, Mul64.addN, Mul64.wrapN _ bd, Mul64.wrapN _ (show x / 4294967296 * (y % 4294967296) < 18446744073709551616 by omega), Mul64.wrapN _ bt, Mul64.maskN _ bt, Mul64.wrapN _ (show x % 4294967296 * (y / 4294967296) < 18446744073709551616 by omega), Mul64.wrapN _ bw, Mul64.wrapN _ (show x / 4294967296 * (y / 4294967296) < 18446744073709551616 by omega), Mul64.wrapM (x * y),
    Mul64.wrapN _ (show x / 4294967296 * (y / 4294967296) + (x / 4294967296 * (y % 4294967296) + x % 4294967296 * (y % 4294967296) / 4294967296) / 4294967296 < 18446744073709551616 by omega),
    Mul64.wrapN _ (show x / 4294967296 * (y / 4294967296) + (x / 4294967296 * (y % 4294967296) + x % 4294967296 * (y % 4294967296) / 4294967296) / 4294967296 + ((x / 4294967296 * (y % 4294967296) + x % 4294967296 * (y % 4294967296) / 4294967296) % 4294967296 + x % 4294967296 * (y / 4294967296)) / 4294967296 < 18446744073709551616 by omega)]
  rw [hhi]
  go_ret2
  exact ⟨rfl, rfl⟩

theorem natAbs_bound {a : Int} (ha : isI64 a) : a.natAbs ≤ 9223372036854775808 := by unfold isI64 at ha; omega

/-- what the test of times tells, by the product -/
theorem times_test (a b : Int) (_ha : isI64 a) (_hb : isI64 b) (m : Int)
    (hm : m = if (a < 0) ↔ (b < 0) then 9223372036854775807 else 9223372036854775808) :
    (hiU a.natAbs b.natAbs = 0 ∧ loU a.natAbs b.natAbs ≤ m) ↔ (-9223372036854775808 ≤ a * b ∧ a * b ≤ 9223372036854775807) := by
  have e : a.natAbs * b.natAbs = (a * b).natAbs := (Int.natAbs_mul a b).symm
  unfold hiU loU
  rw [e]
  have hs1 : (a < 0 ↔ b < 0) → 0 ≤ a * b := fun h => by
    by_cases h0 : a < 0
    · exact Int.le_of_lt (Int.mul_pos_of_neg_of_neg h0 (h.1 h0))
    · exact Int.mul_nonneg (by omega) (by have : ¬ b < 0 := fun hb => h0 (h.2 hb); omega)
  have hs2 : ¬ (a < 0 ↔ b < 0) → a * b ≤ 0 := fun h => by
    by_cases h0 : a < 0
    · have hb : 0 ≤ b := by
        by_cases hb : b < 0
        · exact absurd ⟨fun _ => hb, fun _ => h0⟩ h
        · omega
      exact Int.mul_nonpos_of_nonpos_of_nonneg (by omega) hb
    · have hb : b < 0 := by
        by_cases hb : b < 0
        · exact hb
        · exact absurd ⟨fun h' => absurd h' h0, fun h' => absurd h' hb⟩ h
      exact Int.mul_nonpos_of_nonneg_of_nonpos (by omega) (by omega)
  generalize a * b = p at *
  by_cases h : (a < 0 ↔ b < 0)
  · rw [if_pos h] at hm
    have := hs1 h
    omega
  · rw [if_neg h] at hm
    have := hs2 h
    omega

set_option maxHeartbeats 1000000 in
set_option maxRecDepth 100000 in
/-- times, by what its test tells -/
theorem times_walk (a b m h l : Int) (isN : Bool) (ha : isI64 a) (hb : isI64 b)
    (eh : hiU a.natAbs b.natAbs = h) (el : loU a.natAbs b.natAbs = l) (sa sb : Bool) (qa : decide (a < 0) = sa) (qb : decide (b < 0) = sb) (e1 : (sa != sb) = isN) (em : m = if isN then 9223372036854775808 else 9223372036854775807)
    (c : (h = 0 ∧ l ≤ m ∧ wrap64 (a * b) = a * b) ∨ (h = 0 ∧ ¬ l ≤ m) ∨ h ≠ 0) (w : World) :
    Calls Tryz.prog 131 #[.int .i64 a, .int .i64 b] w fun e w' => e = endsAs (if h = 0 ∧ l ≤ m then (a * b, 0) else (0, 22)) ∧ w' = w := by
  have na := natAbs_bound ha
  have nb := natAbs_bound hb
  have EH := Lib.hid eh
  have EL := Lib.hid el
  clear eh el
  cases sa <;> cases sb <;> cases isN <;> first | (exfalso; revert e1; decide) | skip
  all_goals
    clear e1
    have ra := qa
    have rb := qb
    simp only [decide_eq_true_eq, decide_eq_false_iff_not] at ra rb
    simp only [if_true, Bool.false_eq_true, if_false] at em
    subst em
    rcases c with ⟨rfl, hl, hw⟩ | ⟨rfl, hl⟩ | hh
  all_goals
    first
    | (have HW := Lib.hid hw
       clear hw
       rw [if_pos ⟨rfl, hl⟩, endsAs_ok])
    | (rw [if_neg (fun hc => hl hc.2)]
       have hd := decide_eq_false hl
       clear hl)
    | (have hz : (h == 0) = false := beq_eq_false_iff_ne.2 hh
       rw [if_neg (fun hc => hh hc.1)]
       clear hh)
  all_goals
    go_enter Tryz.func131, Tryz.ntmps131
    go_wp2_with fail
    refine (magnitude_any _ ha _).mono ?_
    rintro e w' ⟨rfl, rfl⟩
    go_wp2_with fail
    refine (magnitude_any _ hb _).mono ?_
    rintro e w' ⟨rfl, rfl⟩
    go_wp2_with fail
    refine (mul64_any _ _ (by omega) (by omega) _).mono ?_
    rintro e w' ⟨rfl, rfl⟩
    rw [EH.out, EL.out]
    go_wp2_with fail
    first
    | (refine (within_true _).mono ?_
       rintro e w' ⟨rfl, rfl⟩
       go_wp2
       go_ret
       exact ⟨ret_i64 HW.out, rfl⟩)
    | (refine (within_false _).mono ?_
       rintro e w' ⟨rfl, rfl⟩
       go_wp2
       exact ⟨rfl, rfl, rfl⟩)

theorem times_any (a b : Int) (ha : isI64 a) (hb : isI64 b) (w : World) :
    Calls Tryz.prog 131 #[.int .i64 a, .int .i64 b] w fun e w' => e = endsAs (timesR a b) ∧ w' = w := by
  by_cases hs : (a < 0 ↔ b < 0)
  · have e1 : (decide (a < 0) != decide (b < 0)) = false := by rw [bne_eq_false_iff_eq]; exact beq_iff_eq.1 (dec_eq hs)
    have T := times_test a b ha hb _ rfl
    rw [if_pos hs] at T
    have K := times_walk a b 9223372036854775807 _ _ false ha hb rfl rfl _ _ rfl rfl e1 rfl (by
      by_cases h1 : hiU a.natAbs b.natAbs = 0
      · by_cases h2 : loU a.natAbs b.natAbs ≤ 9223372036854775807
        · exact .inl ⟨h1, h2, IntWalk.wrap64_in _ (T.1 ⟨h1, h2⟩)⟩
        · exact .inr (.inl ⟨h1, h2⟩)
      · exact .inr (.inr h1)) w
    unfold timesR
    rwa [if_iff T] at K
  · have e1 : (decide (a < 0) != decide (b < 0)) = true := by rw [bne_iff_ne]; exact beq_eq_false_iff_ne.1 (dec_ne hs)
    have T := times_test a b ha hb _ rfl
    rw [if_neg hs] at T
    have K := times_walk a b 9223372036854775808 _ _ true ha hb rfl rfl _ _ rfl rfl e1 rfl (by
      by_cases h1 : hiU a.natAbs b.natAbs = 0
      · by_cases h2 : loU a.natAbs b.natAbs ≤ 9223372036854775808
        · exact .inl ⟨h1, h2, IntWalk.wrap64_in _ (T.1 ⟨h1, h2⟩)⟩
        · exact .inr (.inl ⟨h1, h2⟩)
      · exact .inr (.inr h1)) w
    unfold timesR
    rwa [if_iff T] at K

set_option maxHeartbeats 400000 in
theorem quotient_any (a b : Int) (ha : isI64 a) (hb : isI64 b) (w : World) :
    Calls Tryz.prog 132 #[.int .i64 a, .int .i64 b] w fun e w' => e = endsAs (quotR a b) ∧ w' = w := by
  unfold isI64 at ha hb
  unfold quotR
  by_cases h : b = 0
  · subst h
    rw [if_pos rfl]
    go_enter Tryz.func132, Tryz.ntmps132
    go_wp2_with fail
    refine (zero_yes _).mono ?_
    rintro e w' ⟨rfl, rfl⟩
    go_wp2
    exact ⟨rfl, rfl, rfl⟩
  · rw [if_neg h]
    have q1 : a = -9223372036854775808 ∧ b = -1 ∨ (a = -9223372036854775808 ∧ b ≠ -1) ∨ a ≠ -9223372036854775808 := by omega
    have bd : b ≠ -1 ∨ a ≠ -9223372036854775808 → -9223372036854775808 ≤ a.tdiv b ∧ a.tdiv b ≤ 9223372036854775807 := by
      intro hc
      have h1 : (a.tdiv b).natAbs = a.natAbs / b.natAbs := Int.natAbs_tdiv a b
      have h2 : a.natAbs / b.natAbs ≤ a.natAbs := Nat.div_le_self _ _
      have h3 : a.tdiv b ≠ 9223372036854775808 := by
        intro he
        rw [he] at h1
        have h4 : b.natAbs ≠ 1 → a.natAbs / b.natAbs ≤ a.natAbs / 2 := fun hb1 => Nat.div_le_div_left (by omega) (by omega)
        have h5 : b.natAbs = 1 := by
          by_cases hb1 : b.natAbs = 1
          · exact hb1
          · have := h4 hb1; omega
        have h6 : b = 1 ∨ b = -1 := by omega
        rcases h6 with rfl | rfl
        · rw [Int.tdiv_one] at he; omega
        · have h7 : a.tdiv (-1) = -a := by rw [Int.tdiv_neg, Int.tdiv_one]
          rw [h7] at he
          omega
      omega
    have bd' := Lib.hid bd
    clear bd
    have e3 : (b != -1) = !decide (b = -1) := by by_cases hb1 : b = -1 <;> simp [hb1]
    have e4 : (a != -9223372036854775808) = !decide (a = -9223372036854775808) := by by_cases hb1 : a = -9223372036854775808 <;> simp [hb1]
    rcases q1 with ⟨qa, qb⟩ | ⟨qa, hb1⟩ | ha1
    · rw [if_pos ⟨qa, qb⟩]
      rw [decide_eq_true qa] at e4
      rw [decide_eq_true qb] at e3
      clear qa qb
      go_enter Tryz.func132, Tryz.ntmps132
      go_wp2_with fail
      refine (zero_no _ h _).mono ?_
      rintro e w' ⟨rfl, rfl⟩
      go_wp2_with fail
      refine (within_false _).mono ?_
      rintro e w' ⟨rfl, rfl⟩
      go_wp2
      exact ⟨rfl, rfl, rfl⟩
    · rw [if_neg (fun hc => hb1 hc.2), endsAs_ok]
      rw [decide_eq_true qa] at e4
      rw [decide_eq_false hb1] at e3
      have e2 := Lib.hid (IntWalk.wrap64_in _ (bd'.out (.inl hb1)))
      clear qa hb1
      go_enter Tryz.func132, Tryz.ntmps132
      go_wp2_with fail
      refine (zero_no _ h _).mono ?_
      rintro e w' ⟨rfl, rfl⟩
      go_wp2_with fail
      refine (within_true _).mono ?_
      rintro e w' ⟨rfl, rfl⟩
      go_wp2
      go_ret
      exact ⟨ret_i64 e2.out, rfl⟩
    · rw [if_neg (fun hc => ha1 hc.1), endsAs_ok]
      rw [decide_eq_false ha1] at e4
      have e2 := Lib.hid (IntWalk.wrap64_in _ (bd'.out (.inr ha1)))
      clear ha1 e3
      go_enter Tryz.func132, Tryz.ntmps132
      go_wp2_with fail
      refine (zero_no _ h _).mono ?_
      rintro e w' ⟨rfl, rfl⟩
      go_wp2_with fail
      refine (within_true _).mono ?_
      rintro e w' ⟨rfl, rfl⟩
      go_wp2
      go_ret
      exact ⟨ret_i64 e2.out, rfl⟩

theorem tmod_bd (a b : Int) (hb : isI64 b) (h : b ≠ 0) : -9223372036854775808 < a.tmod b ∧ a.tmod b < 9223372036854775808 := by
  unfold isI64 at hb
  have h1 : (a.tmod b).natAbs = a.natAbs % b.natAbs := Int.natAbs_tmod a b
  have h2 : a.natAbs % b.natAbs < b.natAbs := Nat.mod_lt _ (by omega)
  omega

set_option maxHeartbeats 400000 in
theorem remainder_any (a b : Int) (_ha : isI64 a) (hb : isI64 b) (w : World) :
    Calls Tryz.prog 133 #[.int .i64 a, .int .i64 b] w fun e w' => e = endsAs (remR a b) ∧ w' = w := by
  unfold remR
  by_cases h : b = 0
  · subst h
    rw [if_pos rfl]
    go_enter Tryz.func133, Tryz.ntmps133
    go_wp2_with fail
    refine (zero_yes _).mono ?_
    rintro e w' ⟨rfl, rfl⟩
    go_wp2
    exact ⟨rfl, rfl, rfl⟩
  · rw [if_neg h]
    have bd := tmod_bd a b hb h
    have e2 := Lib.hid (IntWalk.wrap64_in (a.tmod b) (by omega))
    clear bd
    go_enter Tryz.func133, Tryz.ntmps133
    go_wp2_with fail
    refine (zero_no _ h _).mono ?_
    rintro e w' ⟨rfl, rfl⟩
    go_wp2
    go_ret
    exact ⟨rfl, rfl⟩

set_option maxHeartbeats 400000 in
theorem modulo_any (a b : Int) (_ha : isI64 a) (hb : isI64 b) (w : World) :
    Calls Tryz.prog 134 #[.int .i64 a, .int .i64 b] w fun e w' => e = endsAs (modR a b) ∧ w' = w := by
  unfold modR
  by_cases h : b = 0
  · subst h
    rw [if_pos rfl]
    go_enter Tryz.func134, Tryz.ntmps134
    go_wp2_with fail
    refine (zero_yes _).mono ?_
    rintro e w' ⟨rfl, rfl⟩
    go_wp2
    exact ⟨rfl, rfl, rfl⟩
  · rw [if_neg h]
    have bd := tmod_bd a b hb h
    unfold isI64 at hb
    generalize hr : a.tmod b = r at *
    have hr' := Lib.hid hr
    clear hr
    have c : r = 0 ∨ (r ≠ 0 ∧ ((r < 0 ∧ 0 < b) ∨ (0 < r ∧ b < 0))) ∨ (r ≠ 0 ∧ ((r < 0 ∧ b < 0) ∨ (0 < r ∧ 0 < b))) := by omega
    have hw : IntKind.i64.wrap r = r := IntWalk.i64_in _ (by omega)
    rcases c with rfl | ⟨h1, h2 | h2⟩ | ⟨h1, h2 | h2⟩
    all_goals
      first
      | rw [if_neg (fun hc => hc.1 rfl), endsAs_ok]
      | rw [if_pos (by omega), endsAs_ok]
      | rw [if_neg (by omega), endsAs_ok]
    all_goals
      try have hn : (r != 0) = true := by rw [bne_iff_ne]; exact h1
      try clear h1
      first | have d1 : decide (r < 0) = true := decide_eq_true (by omega) | have d1 : decide (r < 0) = false := decide_eq_false (by omega) | skip
      first | have d2 : decide (b < 0) = true := decide_eq_true (by omega) | have d2 : decide (b < 0) = false := decide_eq_false (by omega) | skip
      try obtain ⟨h3, h4⟩ := h2
      go_enter Tryz.func134, Tryz.ntmps134
      go_wp2_with fail
      refine (zero_no _ h _).mono ?_
      rintro e w' ⟨rfl, rfl⟩
      have hr2 := hr'.out
      go_wp2
    all_goals
      go_ret
      first
      | exact ⟨rfl, rfl⟩
      | exact ⟨ret_i64 (IntWalk.wrap64_in _ (by omega)), rfl⟩

end Go.Proofs.YtnmhnaanpjlniaaGreat
/-
  A term is stored into a list's place.
-/
namespace Go.Proofs.YtnmhnaanpjlniaaGreat
open Go.RowKit

/-- a term into a list's place -/
theorem put4 (w' : World) (R x : Nat) (v0 v1 v2 v3 : Value) (r0 : (w'.cell? ⟨R, x, none⟩).isSome) (r1 : (w'.cell? ⟨R, x + 1, none⟩).isSome) (r2 : (w'.cell? ⟨R, x + 2, none⟩).isSome) (r3 : (w'.cell? ⟨R, x + 3, none⟩).isSome) :
    ∃ W, W = ((((w'.setCell ⟨R, x, none⟩ v0).setCell ⟨R, x + 1, none⟩ v1).setCell ⟨R, x + 2, none⟩ v2).setCell ⟨R, x + 3, none⟩ v3) ∧ W.heap.size = w'.heap.size ∧
      (∀ b y, b ≠ R → W.cell? ⟨b, y, none⟩ = w'.cell? ⟨b, y, none⟩) ∧ (∀ y, y < x ∨ x + 4 ≤ y → W.cell? ⟨R, y, none⟩ = w'.cell? ⟨R, y, none⟩) ∧
      W.cell? ⟨R, x, none⟩ = some v0 ∧ W.cell? ⟨R, x + 1, none⟩ = some v1 ∧ W.cell? ⟨R, x + 2, none⟩ = some v2 ∧ W.cell? ⟨R, x + 3, none⟩ = some v3 ∧ (∀ b y, W.frozen? ⟨b, y, none⟩ = w'.frozen? ⟨b, y, none⟩) ∧
      (∀ B (w : World), B ≤ R → Below B w w' → Below B w W) := by
  have hneq : ∀ y z : Nat, y ≠ z → (⟨R, y, none⟩ : Addr) ≠ ⟨R, z, none⟩ := fun y z h e => h (by injection e)
  have other : ∀ (u : World) (p q : Addr) (v : Value), p ≠ q → (u.setCell p v).cell? q = u.cell? q := fun u p q v h => World.cell?_setCell_other _ _ _ _ h
  have same : ∀ (u : World) (p : Addr) (v y : Value), u.cell? p = some y → (u.setCell p v).cell? p = some v := fun u p v y h => World.cell?_setCell_same _ _ _ h
  obtain ⟨u0, r0⟩ := Option.isSome_iff_exists.1 r0
  obtain ⟨u1, r1⟩ := Option.isSome_iff_exists.1 r1
  obtain ⟨u2, r2⟩ := Option.isSome_iff_exists.1 r2
  obtain ⟨u3, r3⟩ := Option.isSome_iff_exists.1 r3
  refine ⟨_, rfl, by simp, fun b y h2 => ?_, fun y hy => ?_, ?_, ?_, ?_, ?_, fun b y => by simp, fun B w hR hB => ?_⟩
  · have hb : ∀ z : Nat, (⟨R, z, none⟩ : Addr) ≠ ⟨b, y, none⟩ := fun z e => h2 (by injection e with e1; exact e1.symm)
    rw [other _ _ _ _ (hb _), other _ _ _ _ (hb _), other _ _ _ _ (hb _), other _ _ _ _ (hb _)]
  · rw [other _ _ _ _ (hneq _ _ (by omega)), other _ _ _ _ (hneq _ _ (by omega)), other _ _ _ _ (hneq _ _ (by omega)), other _ _ _ _ (hneq _ _ (by omega))]
  · rw [other _ _ _ _ (hneq _ _ (by omega)), other _ _ _ _ (hneq _ _ (by omega)), other _ _ _ _ (hneq _ _ (by omega))]
    exact same _ _ _ u0 r0
  · rw [other _ _ _ _ (hneq _ _ (by omega)), other _ _ _ _ (hneq _ _ (by omega))]
    exact same _ _ _ u1 (by rw [other _ _ _ _ (hneq _ _ (by omega))]; exact r1)
  · rw [other _ _ _ _ (hneq _ _ (by omega))]
    exact same _ _ _ u2 (by rw [other _ _ _ _ (hneq _ _ (by omega)), other _ _ _ _ (hneq _ _ (by omega))]; exact r2)
  · exact same _ _ _ u3 (by rw [other _ _ _ _ (hneq _ _ (by omega)), other _ _ _ _ (hneq _ _ (by omega)), other _ _ _ _ (hneq _ _ (by omega))]; exact r3)
  · exact (((hB.setCell (p := ⟨R, x, none⟩) hR _).setCell (p := ⟨R, x + 1, none⟩) hR _).setCell (p := ⟨R, x + 2, none⟩) hR _).setCell (p := ⟨R, x + 3, none⟩) hR _

end Go.Proofs.YtnmhnaanpjlniaaGreat
