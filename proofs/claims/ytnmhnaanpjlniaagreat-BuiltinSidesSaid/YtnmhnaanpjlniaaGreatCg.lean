import Derived.Test.YtnmhnaanpjlniaaGreatCh
/-
  Layer 4: a pair is unified, but for its Args. (Written by gen_cg.py.)
-/
namespace Go.Proofs.YtnmhnaanpjlniaaGreat
open Go.RowKit

theorem setCell_self {w : World} {a : Addr} {v : Value} (h : w.cell? a = some v) : w.setCell a v = w := by
  obtain ⟨b, o, s⟩ := a
  have hs : s = none := World.cell?_spot h
  subst hs
  cases w with
  | mk heap tape drawn os output =>
  simp only [World.setCell, World.cell?] at h ⊢
  congr 1
  apply Array.ext
  · simp
  · intro i h1 h2
    rw [Array.getElem_modify]
    split
    · rename_i e
      subst e
      rw [Array.getElem?_eq_getElem h2] at h
      cases ho : heap[b] with
      | cells cs t fr =>
        rw [ho] at h
        simp only [Option.isSome_none, Bool.false_eq_true, if_false] at h ⊢
        congr 1
        obtain ⟨h3, h4⟩ := Array.getElem?_eq_some_iff.1 h
        apply Array.ext
        · simp
        · intro j g1 g2
          rw [Array.getElem_setIfInBounds]
          split
          · rename_i e; subst e; exact h4.symm
          · rfl
      | _ => rfl
    · rfl

theorem nd_ok2 {k : Int} {s : ByteArray} {n : Int} {p : Option Addr} {c : Nat} {kids : Ts} (hk : 0 ≤ k ∧ k ≤ 255) (hs : s.size ≤ 140737488351232) (hn : -9223372036854775808 ≤ n ∧ n ≤ 9223372036854775807) (hc : kids.len ≤ c ∧ c ≤ 9223372036854775807) (hp : p = none → c = 0) (ho : kids.ok) : Nd.ok ⟨k, s, n, p, c, kids⟩ := ⟨hk, hs, hn, hc, hp, ho, trivial⟩

/-- a pair put into a box -/
def putP (w : World) (N : Nat) (x y : Nd) : World := (((((((w.setCell ⟨N, 0, none⟩ (.int .u8 x.k)).setCell ⟨N, 1, none⟩ (.string x.s)).setCell ⟨N, 2, none⟩ (.int .i64 x.n)).setCell ⟨N, 3, none⟩ (.slice x.p x.kids.len x.c)).setCell ⟨N, 4, none⟩ (.int .u8 y.k)).setCell ⟨N, 5, none⟩ (.string y.s)).setCell ⟨N, 6, none⟩ (.int .i64 y.n)).setCell ⟨N, 7, none⟩ (.slice y.p y.kids.len y.c)

theorem putP_self {w : World} {N : Nat} {x y : Nd} (h : PairIs N x y w) : putP w N x y = w := by
  unfold putP
  rw [setCell_self h.c0, setCell_self h.c1, setCell_self h.c2, setCell_self h.c3, setCell_self h.c4, setCell_self h.c5, setCell_self h.c6, setCell_self h.c7]

theorem putP_block {w : World} {N : Nat} {x y : Nd} {b : Nat} (h : b ≠ N) : (putP w N x y).heap[b]? = w.heap[b]? := by
  have st : ∀ (w : World) (i : Nat) (v : Value), (w.setCell ⟨N, i, none⟩ v).heap[b]? = w.heap[b]? := fun w i v => Below.heap_setCell w ⟨N, i, none⟩ v b h
  unfold putP
  exact (st _ _ _).trans ((st _ _ _).trans ((st _ _ _).trans ((st _ _ _).trans ((st _ _ _).trans ((st _ _ _).trans ((st _ _ _).trans (st _ _ _)))))))

theorem grown_two {a b c : World} {N : Nat} (h : a.grownBy b (some N)) (k : b.grownBy c (some N)) : a.grownBy c (some N) :=
  ⟨k.os.trans h.os, k.tape.trans h.tape, k.output.trans h.output, Nat.le_trans h.size k.size, fun i hi hn => (k.block i (Nat.lt_of_lt_of_le hi h.size) hn).trans (h.block i hi hn)⟩

theorem putP_grown (w : World) (N : Nat) (x y : Nd) : w.grownBy (putP w N x y) (some N) := by
  unfold putP
  exact grown_two (grown_two (grown_two (grown_two (grown_two (grown_two (grown_two (grown_set _ _ _ _) (grown_set _ _ _ _)) (grown_set _ _ _ _)) (grown_set _ _ _ _)) (grown_set _ _ _ _)) (grown_set _ _ _ _)) (grown_set _ _ _ _)) (grown_set _ _ _ _)

theorem PairIs.put {w : World} {N : Nat} {a b x y : Nd} (h : PairIs N a b w) : PairIs N x y (putP w N x y) := by
  have c0 := h.c0
  have c1 := h.c1
  have c2 := h.c2
  have c3 := h.c3
  have c4 := h.c4
  have c5 := h.c5
  have c6 := h.c6
  have c7 := h.c7
  unfold putP
  constructor
  all_goals simp [c0, c1, c2, c3, c4, c5, c6, c7, go_sem, h.fr]

/-- what 'one' leaves -/
def UOne (KB S : Nat) (P : Nat → Prop) (σ : Sb) (n m : Nat) (w : World) (a b : Nd) (e : Ending) (w' : World) : Prop :=
  G2 KB S w w' ∧ match one (4095 - m) n σ a b with
    | .full => e = .panicked fullP
    | .no => ∃ v, e = .returned (.tuple #[v, .bool false]) ∧ ∃ X Y : Nd, v = pairV X Y
    | .ok σ' c' r' l => ∃ X Y : Nd, e = .returned (.tuple #[pairV X Y, .bool true]) ∧ (∃ σp, STw σp σ' ∧ UAt KB S σp c' (4096 - r') w' ∧ ∀ v x, σp v = some x → σ v = some x ∨ Ts.AtP (fun b => w.heap.size ≤ b) w' x.p x.kids) ∧ TwP ((elems X.kids).zip (elems Y.kids)) l ∧ X.kids.len = Y.kids.len ∧ (Ts.AtP P w' X.p X.kids ∧ X.kids.ok ∧ (X.kids.len ≤ X.c ∧ X.c ≤ 9223372036854775807) ∧ (X.p = none → X.c = 0) ∧ X.kids.size ≤ 5000) ∧ Ts.AtP P w' Y.p Y.kids ∧ Y.kids.ok ∧ (Y.kids.len ≤ Y.c ∧ Y.c ≤ 9223372036854775807) ∧ (Y.p = none → Y.c = 0) ∧ Y.kids.size ≤ 5000

theorem zero_atP (P : Nat → Prop) (w : World) : Ts.AtP P w zeroN.p zeroN.kids ∧ zeroN.kids.ok ∧ (zeroN.kids.len ≤ zeroN.c ∧ zeroN.c ≤ 9223372036854775807) ∧ (zeroN.p = none → zeroN.c = 0) ∧ zeroN.kids.size ≤ 5000 := ⟨⟨0, 0, .inl rfl, trivial⟩, trivial, ⟨Nat.le_refl _, by simp [zeroN]⟩, (fun _ => rfl), by simp [zeroN, Ts.size]⟩

section
variable {KB S : Nat} {P : Nat → Prop} {σ : Sb} {n m : Nat} {w : World} {a b : Nd} {w' : World}
theorem UOne.mk_full (hg : G2 KB S w w') (h : one (4095 - m) n σ a b = .full) : UOne KB S P σ n m w a b (.panicked fullP) w' := ⟨hg, by rw [h]⟩
theorem UOne.mk_no {X Y : Nd} (hg : G2 KB S w w') (h : one (4095 - m) n σ a b = .no) : UOne KB S P σ n m w a b (.returned (.tuple #[pairV X Y, .bool false])) w' := ⟨hg, by rw [h]; exact ⟨_, rfl, X, Y, rfl⟩⟩
theorem UOne.mk_ok0 {σ' σp : Sb} {c' r' : Nat} (hg : G2 KB S w w') (h : one (4095 - m) n σ a b = .ok σ' c' r' []) (hs : STw σp σ') (hu : UAt KB S σp c' (4096 - r') w') (hn : ∀ v x, σp v = some x → σ v = some x ∨ Ts.AtP (fun b => w.heap.size ≤ b) w' x.p x.kids) : UOne KB S P σ n m w a b (.returned (.tuple #[pairV zeroN zeroN, .bool true])) w' :=
  ⟨hg, by rw [h]; exact ⟨zeroN, zeroN, rfl, ⟨σp, hs, hu, hn⟩, .nil, rfl, zero_atP P w', zero_atP P w'⟩⟩
theorem UOne.mk_okS {X Y : Nd} {r' : Nat} {l : List (Nd × Nd)} (hg : G2 KB S w w') (h : one (4095 - m) n σ a b = .ok σ n r' l) (hu : UAt KB S σ n (4096 - r') w') (hl : TwP ((elems X.kids).zip (elems Y.kids)) l) (hlen : X.kids.len = Y.kids.len)
    (hx : Ts.AtP P w' X.p X.kids ∧ X.kids.ok ∧ (X.kids.len ≤ X.c ∧ X.c ≤ 9223372036854775807) ∧ (X.p = none → X.c = 0) ∧ X.kids.size ≤ 5000) (hy : Ts.AtP P w' Y.p Y.kids ∧ Y.kids.ok ∧ (Y.kids.len ≤ Y.c ∧ Y.c ≤ 9223372036854775807) ∧ (Y.p = none → Y.c = 0) ∧ Y.kids.size ≤ 5000) : UOne KB S P σ n m w a b (.returned (.tuple #[pairV X Y, .bool true])) w' :=
  ⟨hg, by rw [h]; exact ⟨X, Y, rfl, ⟨σ, ⟨fun _ h => h, fun _ x h => ⟨x, h, Nd.twin_refl x⟩⟩, hu, fun _ _ h => .inl h⟩, hl, hlen, hx, hy⟩⟩
end

theorem STw.refl (σ : Sb) : STw σ σ := ⟨fun _ h => h, fun _ x h => ⟨x, h, Nd.twin_refl x⟩⟩


theorem one_same {r c : Nat} {σ : Sb} {a b : Nd} (h1 : ((wk σ a).k == 1) = true) (h2 : ((wk σ b).k == 1) = true) (h3 : (wk σ a).n = (wk σ b).n) : one r c σ a b = .ok σ c r [] := by
  unfold one; rw [if_pos h1, if_pos ⟨h2, h3⟩]
theorem one_x {r c : Nat} {σ : Sb} {a b : Nd} (h1 : ((wk σ a).k == 1) = true) (h2 : ¬ (((wk σ b).k == 1) = true ∧ (wk σ a).n = (wk σ b).n)) : one r c σ a b = (match bnd r σ (wk σ a).n (wk σ b) with | .full => .full | .no => .no | .ok r' => .ok (σ.put (wk σ a).n (wk σ b)) (c + 1) (min r' r) []) := by
  unfold one; rw [if_pos h1, if_neg h2]; generalize bnd r σ (wk σ a).n (wk σ b) = o; cases o <;> rfl
theorem one_y {r c : Nat} {σ : Sb} {a b : Nd} (h1 : ((wk σ a).k == 1) = false) (h2 : ((wk σ b).k == 1) = true) : one r c σ a b = (match bnd r σ (wk σ b).n (wk σ a) with | .full => .full | .no => .no | .ok r' => .ok (σ.put (wk σ b).n (wk σ a)) (c + 1) (min r' r) []) := by
  unfold one; rw [if_neg (by rw [h1]; simp), if_pos h2]; generalize bnd r σ (wk σ b).n (wk σ a) = o; cases o <;> rfl
theorem one_struct {r c : Nat} {σ : Sb} {a b : Nd} (h1 : ((wk σ a).k == 1) = false) (h2 : ((wk σ b).k == 1) = false) : one r c σ a b = if headU (wk σ a) (wk σ b) = true then .ok σ c r ((elems (wk σ a).kids).zip (elems (wk σ b).kids)) else .no := by
  unfold one; rw [if_neg (by rw [h1]; simp), if_neg (by rw [h2]; simp)]

set_option maxRecDepth 100000 in
set_option maxHeartbeats 16000000 in
theorem uone_full (KB S : Nat) (σ : Sb) (n m : Nat) (w : World) (hU : UAt KB S σ n m w) (hm : m = 4096) (a b : Nd) :
    Calls Tryz.prog 136 #[.pointer (some ⟨KB, 0, none⟩), .agg #[.int .u8 a.k, .string a.s, .int .i64 a.n, .slice a.p a.kids.len a.c, .int .u8 b.k, .string b.s, .int .i64 b.n, .slice b.p b.kids.len b.c]] w fun e w' => e = .panicked fullP ∧ G2 KB S w w' := by
  have UU := Lib.hid hU
  have HM := Lib.hid hm
  clear hU hm
  go_enter Tryz.func136, Tryz.ntmps136
  go_wp2_with fail
  have hB : Below w.heap.size w ((w.alloc (.cells #[.int .u8 a.k, .string a.s, .int .i64 a.n, .slice a.p a.kids.len a.c, .int .u8 b.k, .string b.s, .int .i64 b.n, .slice b.p b.kids.len b.c] 165)).alloc (.cells #[.int .u8 0, .string ⟨#[]⟩, .int .i64 0, .slice none 0 0, .int .u8 0, .string ⟨#[]⟩, .int .i64 0, .slice none 0 0] 165)) := below2 _ _ _
  refine (visit_full KB S σ n m _ (UU.out.below hB) HM.out).mono ?_
  rintro e w' ⟨rfl, rfl⟩
  have G := Lib.hid ((G2.of_below hB : G2 KB S w _).trans (.of_K (seen_grown KB m _)))
  go_wp2
  exact ⟨rfl, rfl, G.out⟩

set_option maxRecDepth 100000 in
set_option maxHeartbeats 16000000 in
theorem uone_any (KB S : Nat) (σ : Sb) (n m : Nat) (w : World) (hU : UAt KB S σ n m w) (hm : m < 4096) (hn : n < 1000000) (P : Nat → Prop) (hP : ∀ b, w.heap.size ≤ b → P b) (a b : Nd) (hoka : a.ok) (hokb : b.ok) (hata : Ts.AtP P w a.p a.kids) (hatb : Ts.AtP P w b.p b.kids) (hsza : a.kids.size ≤ 5000) (hszb : b.kids.size ≤ 5000) :
    Calls Tryz.prog 136 #[.pointer (some ⟨KB, 0, none⟩), .agg #[.int .u8 a.k, .string a.s, .int .i64 a.n, .slice a.p a.kids.len a.c, .int .u8 b.k, .string b.s, .int .i64 b.n, .slice b.p b.kids.len b.c]] w (UOne KB S P σ n m w a b) := by
  have UU := Lib.hid hU
  have HP := Lib.hid hP
  have OKA := Lib.hid hoka
  have OKB := Lib.hid hokb
  have ATA := Lib.hid hata
  have ATB := Lib.hid hatb
  have hKl := hU.lt
  have hSl := hU.sub.lt
  have TK := Lib.hid hU.tinyK
  have TS := Lib.hid hU.sub.tiny
  clear hU hP hoka hokb hata hatb
  go_enter Tryz.func136, Tryz.ntmps136
  go_wp2_with fail
  obtain ⟨W0, hW0⟩ : ∃ W0, W0 = (w.alloc (.cells #[.int .u8 a.k, .string a.s, .int .i64 a.n, .slice a.p a.kids.len a.c, .int .u8 b.k, .string b.s, .int .i64 b.n, .slice b.p b.kids.len b.c] 165)).alloc (.cells #[.int .u8 0, .string ⟨#[]⟩, .int .i64 0, .slice none 0 0, .int .u8 0, .string ⟨#[]⟩, .int .i64 0, .slice none 0 0] 165) := ⟨_, rfl⟩
  have hB0 : Below w.heap.size w W0 := by rw [hW0]; exact below2 _ _ _
  have hPA : PairIs w.heap.size a b W0 := by rw [hW0]; exact (PairIs.new w a b _).below ((Below.refl _ _).alloc (Nat.le_refl _) _)
  have hPR : PairIs (w.heap.size + 1) zeroN zeroN W0 := by
    have h := PairIs.new (w.alloc (.cells #[.int .u8 a.k, .string a.s, .int .i64 a.n, .slice a.p a.kids.len a.c, .int .u8 b.k, .string b.s, .int .i64 b.n, .slice b.p b.kids.len b.c] 165)) zeroN zeroN 165
    rw [World.size_alloc] at h
    rw [hW0]; exact h
  rw [← hW0]
  have Z0 := Lib.hid hW0
  have B0 := Lib.hid hB0
  have hs0 : w.heap.size + 2 ≤ W0.heap.size := by rw [hW0]; simp
  refine (visit_go KB S σ n m W0 (UU.out.below hB0) hm).mono ?_
  rintro e w1 ⟨rfl, hw1⟩
  have hg1 : G2 KB KB W0 w1 := by rw [hw1]; exact .of_K (seen_grown _ _ _)
  have U1 : Hid (UAt KB S σ n (m + 1) w1) := Lib.hid (by rw [hw1]; exact (UU.out.below hB0).seen)
  have G1 : Hid (G2 KB KB w w1) := Lib.hid ((G2.of_below hB0).trans hg1)
  have PA := Lib.hid (hPA.of_block (hg1.block _ hPA.lt (by omega) (by omega)))
  have PR := Lib.hid (hPR.of_block (hg1.block _ hPR.lt (by omega) (by omega)))
  have ATA1 := Lib.hid (AtP_g2 G1.out TK.out TK.out (AtP_imp (fun b hl hb => ⟨hb, hl⟩) ATA.out : Ts.AtP (fun b => P b ∧ b < w.heap.size) w a.p a.kids))
  have ATB1 := Lib.hid (AtP_g2 G1.out TK.out TK.out (AtP_imp (fun b hl hb => ⟨hb, hl⟩) ATB.out : Ts.AtP (fun b => P b ∧ b < w.heap.size) w b.p b.kids))
  have hs1 : w.heap.size + 2 ≤ w1.heap.size := Nat.le_trans hs0 hg1.size
  clear hW0 hB0 hPA hPR hw1 hg1 hs0
  go_upto_region 2 with fail
  refine region_by_inv (GU w1.drew (fun b => P b ∧ b ≠ w.heap.size + 1) (.pointer (some ⟨KB, 0, none⟩)) (.pointer (some ⟨w.heap.size, 0, none⟩)) (.pointer (some ⟨w.heap.size, 4, none⟩)) (.agg #[.int .u8 a.k, .string a.s, .int .i64 a.n, .slice a.p a.kids.len a.c]) (.agg #[.int .u8 b.k, .string b.s, .int .i64 b.n, .slice b.p b.kids.len b.c]) (wk σ a) (wk σ b)) (by kernel_rfl) (by kernel_rfl) (by kernel_rfl) ?h0 ?steps ?done
  case h0 =>
    intro f
    exact ⟨Below.refl _ _, (fun h => by cases h), (fun h => by cases h), (fun h => by cases h), (fun h => by cases h), (fun h => by cases h), (fun h => by cases h), (fun h => by cases h), (fun h => by cases h), (fun h => by cases h), (fun h => by cases h), (fun h => by cases h), (fun h => by cases h), (fun h => by cases h)⟩
  case steps =>
    replace PA : Hid (PairIs w.heap.size a b w1.drew) := Lib.hid (PA.out.below (Below.refl _ _).drew)
    replace U1 : Hid (UAt KB S σ n (m + 1) w1.drew) := Lib.hid (U1.out.below (Below.refl _ _).drew)
    replace ATA1 : Hid (Ts.AtP (fun b => P b ∧ b < w.heap.size) w1.drew a.p a.kids) := Lib.hid (ATA1.out.stay fun x _ hx => (Below.refl _ w1).drew.block x hx)
    replace ATB1 : Hid (Ts.AtP (fun b => P b ∧ b < w.heap.size) w1.drew b.p b.kids) := Lib.hid (ATB1.out.stay fun x _ hx => (Below.refl _ w1).drew.block x hx)
    have hs1d : w.heap.size + 2 ≤ w1.drew.heap.size := hs1
    refine ⟨?_, ?_, ?_, ?_, ?_, ?_, ?_, ?_, ?_, ?_, ?_, ?_, trivial⟩
    · intro L f W hi hw hG K hK
      simp only [frameOf, Act.put, List.setIfInBounds_toArray, List.set_cons_zero, List.set_cons_succ]
      go_simp
      refine hK.out (.pointer (some ⟨KB, 0, none⟩)) _ W ?_ (hG.set0 hi rfl)
      simp only [frameOf, Act.put, List.setIfInBounds_toArray, List.set_cons_zero, List.set_cons_succ]
    · intro L f W hi hw hG K hK
      simp only [frameOf, Act.put, List.setIfInBounds_toArray, List.set_cons_zero, List.set_cons_succ]
      go_simp
      refine hK.out (.pointer (some ⟨w.heap.size, 0, none⟩)) _ W ?_ (hG.set1 hi rfl)
      simp only [frameOf, Act.put, List.setIfInBounds_toArray, List.set_cons_zero, List.set_cons_succ]
    · intro L f W hi hw hG K hK
      simp only [frameOf, Act.put, List.setIfInBounds_toArray, List.set_cons_zero, List.set_cons_succ]
      have e1 := hG.f1 (hw 1 (by kernel_rfl))
      rw [e1]
      have tt := (PA.out).below (w' := W) hG.B
      have k0 := tt.c0
      have k1 := tt.c1
      have k2 := tt.c2
      have k3 := tt.c3
      go_simp
      refine hK.out (.agg #[.int .u8 a.k, .string a.s, .int .i64 a.n, .slice a.p a.kids.len a.c]) _ W ?_ (hG.set2 hi rfl)
      simp only [frameOf, Act.put, List.setIfInBounds_toArray, List.set_cons_zero, List.set_cons_succ, e1]
    · intro L f W hi hw hG K hK
      simp only [frameOf, Act.put, List.setIfInBounds_toArray, List.set_cons_zero, List.set_cons_succ]
      have e0 := hG.f0 (hw 0 (by kernel_rfl))
      have e2 := hG.f2 (hw 2 (by kernel_rfl))
      rw [e0, e2]
      have h10 : L 10 = false := by cases h : L 10 with | false => rfl | true => exact noU (hG.w10 h).2.1 hi
      have h11 : L 11 = false := by cases h : L 11 with | false => rfl | true => exact noU (hG.w11 h).1 h10
      go_simp
      refine (uwalk_any KB S σ n (m + 1) W (U1.out.below hG.B) (AV L f (fun b => P b ∧ b ≠ w.heap.size + 1)) (fun x hx => ⟨⟨HP.out x (by have := hG.B.size; omega), by have := hG.B.size; omega⟩, (fun e8 e => zb_past (hG.f8 e8 h10) hx e), (fun e9 e => zb_past (hG.f9 e9 h11) hx e)⟩) a OKA.out (AtP_imp (fun x _ hx => ⟨⟨hx.1, by have := hx.2; omega⟩, (fun e8 e => zb_old (hG.f8 e8 h10) (Nat.lt_of_lt_of_le hx.2 (by omega)) e), (fun e9 e => zb_old (hG.f9 e9 h11) (Nat.lt_of_lt_of_le hx.2 (by omega)) e)⟩) (ATA1.out.stay fun x hx hl => hG.B.block x hl)) hsza).mono ?_
      rintro e w' ⟨v', rfl, hWO, hB⟩
      refine hK.out v' _ w' ?_ ((hG.keep hB).set3 hi hWO)
      simp only [frameOf, Act.put, List.setIfInBounds_toArray, List.set_cons_zero, List.set_cons_succ, e0, e2]
    · intro L f W hi hw hG K hK
      simp only [frameOf, Act.put, List.setIfInBounds_toArray, List.set_cons_zero, List.set_cons_succ]
      go_simp
      refine hK.out (.pointer (some ⟨KB, 0, none⟩)) _ W ?_ (hG.set4 hi rfl)
      simp only [frameOf, Act.put, List.setIfInBounds_toArray, List.set_cons_zero, List.set_cons_succ]
    · intro L f W hi hw hG K hK
      simp only [frameOf, Act.put, List.setIfInBounds_toArray, List.set_cons_zero, List.set_cons_succ]
      go_simp
      refine hK.out (.pointer (some ⟨w.heap.size, 4, none⟩)) _ W ?_ (hG.set5 hi rfl)
      simp only [frameOf, Act.put, List.setIfInBounds_toArray, List.set_cons_zero, List.set_cons_succ]
    · intro L f W hi hw hG K hK
      simp only [frameOf, Act.put, List.setIfInBounds_toArray, List.set_cons_zero, List.set_cons_succ]
      have e1 := hG.f5 (hw 5 (by kernel_rfl))
      rw [e1]
      have tt := (PA.out).below (w' := W) hG.B
      have k0 := tt.c4
      have k1 := tt.c5
      have k2 := tt.c6
      have k3 := tt.c7
      go_simp
      refine hK.out (.agg #[.int .u8 b.k, .string b.s, .int .i64 b.n, .slice b.p b.kids.len b.c]) _ W ?_ (hG.set6 hi rfl)
      simp only [frameOf, Act.put, List.setIfInBounds_toArray, List.set_cons_zero, List.set_cons_succ, e1]
    · intro L f W hi hw hG K hK
      simp only [frameOf, Act.put, List.setIfInBounds_toArray, List.set_cons_zero, List.set_cons_succ]
      have e0 := hG.f4 (hw 4 (by kernel_rfl))
      have e2 := hG.f6 (hw 6 (by kernel_rfl))
      rw [e0, e2]
      have h10 : L 10 = false := by cases h : L 10 with | false => rfl | true => exact noU (hG.w10 h).2.2.2.1 hi
      have h11 : L 11 = false := by cases h : L 11 with | false => rfl | true => exact noU (hG.w11 h).1 h10
      go_simp
      refine (uwalk_any KB S σ n (m + 1) W (U1.out.below hG.B) (AV L f (fun b => P b ∧ b ≠ w.heap.size + 1)) (fun x hx => ⟨⟨HP.out x (by have := hG.B.size; omega), by have := hG.B.size; omega⟩, (fun e8 e => zb_past (hG.f8 e8 h10) hx e), (fun e9 e => zb_past (hG.f9 e9 h11) hx e)⟩) b OKB.out (AtP_imp (fun x _ hx => ⟨⟨hx.1, by have := hx.2; omega⟩, (fun e8 e => zb_old (hG.f8 e8 h10) (Nat.lt_of_lt_of_le hx.2 (by omega)) e), (fun e9 e => zb_old (hG.f9 e9 h11) (Nat.lt_of_lt_of_le hx.2 (by omega)) e)⟩) (ATB1.out.stay fun x hx hl => hG.B.block x hl)) hszb).mono ?_
      rintro e w' ⟨v', rfl, hWO, hB⟩
      refine hK.out v' _ w' ?_ ((hG.keep hB).set7 hi hWO)
      simp only [frameOf, Act.put, List.setIfInBounds_toArray, List.set_cons_zero, List.set_cons_succ, e0, e2]
    · intro L f W hi hw hG K hK
      simp only [frameOf, Act.put, List.setIfInBounds_toArray, List.set_cons_zero, List.set_cons_succ]
      go_simp
      refine hK.out (.pointer (some ⟨W.heap.size, 0, none⟩)) _ _ ?_ (hG.new8 hi _)
      simp only [frameOf, Act.put, List.setIfInBounds_toArray, List.set_cons_zero, List.set_cons_succ]
    · intro L f W hi hw hG K hK
      simp only [frameOf, Act.put, List.setIfInBounds_toArray, List.set_cons_zero, List.set_cons_succ]
      go_simp
      refine hK.out (.pointer (some ⟨W.heap.size, 0, none⟩)) _ _ ?_ (hG.new9 hi _)
      simp only [frameOf, Act.put, List.setIfInBounds_toArray, List.set_cons_zero, List.set_cons_succ]
    · intro L f W hi hw hG K hK
      simp only [frameOf, Act.put, List.setIfInBounds_toArray, List.set_cons_zero, List.set_cons_succ]
      have h8 := hw 8 (by kernel_rfl)
      have h3 := hw 3 (by kernel_rfl)
      have h9 := hw 9 (by kernel_rfl)
      have h7 := hw 7 (by kernel_rfl)
      obtain ⟨us, q, d, ef, -, -, -⟩ := hG.f3 h3
      obtain ⟨T, hT, hB0, hbx, W', hW', hfull, hs, hblk, hbl⟩ := zb_store (k := (wk σ a).k) (s := (wk σ a).s) (n := (wk σ a).n) (p := q) (len := us.len) (c := d) (hG.f8 h8 hi)
      have hfull2 : FB w1.drew.heap.size (f 8) (f 3) W' := by rw [ef]; exact hfull
      unfold tv at ef
      rw [hT, ef]
      have y0 := hbx.c0
      have y1 := hbx.c1
      have y2 := hbx.c2
      have y3 := hbx.c3
      have yf := hbx.fr
      go_simp
      rw [← hW']
      refine hK.out undef _ _ ?_ ⟨hbl _ hG.B, hG.f0, hG.f1, hG.f2, fun _ => (hG.f3 h3).of_block hblk (fun x hx e => hx.2.1 h8 (by rw [hT, e])), hG.f4, hG.f5, hG.f6, fun _ => (hG.f7 h7).of_block hblk (fun x hx e => hx.2.1 h8 (by rw [hT, e])), fun _ b => noU rfl b, fun a b => (hG.f9 a b).of_block hblk (fun e => hG.ne h8 h9 (hT.trans e.symm)), hG.ne, fun _ => ⟨h8, h3, h9, h7, hfull2⟩, fun a => noU (hG.w11 a).1 hi⟩
      simp only [frameOf, Act.put, List.setIfInBounds_toArray, List.set_cons_zero, List.set_cons_succ, hT, ef]
    · intro L f W hi hw hG K hK
      simp only [frameOf, Act.put, List.setIfInBounds_toArray, List.set_cons_zero, List.set_cons_succ]
      have h9 := hw 9 (by kernel_rfl)
      have h7 := hw 7 (by kernel_rfl)
      have h10 := hw 10 (by kernel_rfl)
      obtain ⟨h8, h3, -, -, hfl⟩ := hG.w10 h10
      obtain ⟨us, q, d, ef, -, -, -⟩ := hG.f7 h7
      obtain ⟨T, hT, hB0, hbx, W', hW', hfull, hs, hblk, hbl⟩ := zb_store (k := (wk σ b).k) (s := (wk σ b).s) (n := (wk σ b).n) (p := q) (len := us.len) (c := d) (hG.f9 h9 hi)
      have hfull2 : FB w1.drew.heap.size (f 9) (f 7) W' := by rw [ef]; exact hfull
      unfold tv at ef
      rw [hT, ef]
      have y0 := hbx.c0
      have y1 := hbx.c1
      have y2 := hbx.c2
      have y3 := hbx.c3
      have yf := hbx.fr
      go_simp
      rw [← hW']
      refine hK.out undef _ _ ?_ ⟨hbl _ hG.B, hG.f0, hG.f1, hG.f2, fun _ => (hG.f3 h3).of_block hblk (fun x hx e => hx.2.2 h9 (by rw [hT, e])), hG.f4, hG.f5, hG.f6, fun _ => (hG.f7 h7).of_block hblk (fun x hx e => hx.2.2 h9 (by rw [hT, e])), fun _ b => noU h10 b, fun _ b => noU rfl b, hG.ne, fun _ => ⟨h8, h3, h9, h7, hfl.of_block (by omega) hblk (fun e => hG.ne h8 h9 (e.trans hT.symm))⟩, fun _ => ⟨h10, hfull2⟩⟩
      simp only [frameOf, Act.put, List.setIfInBounds_toArray, List.set_cons_zero, List.set_cons_succ, hT, ef]
  case done =>
  intro L f_ w2 hL hG
  obtain ⟨-, -, -, -, hfu⟩ := hG.w10 (hL 10 (by decide))
  obtain ⟨-, hfu'⟩ := hG.w11 (hL 11 (by decide))
  have WX := hG.f3 (hL 3 (by decide))
  have WY := hG.f7 (hL 7 (by decide))
  obtain ⟨us, q, d, e3, hxat, hxtw, hxok, hxcap, hxnn⟩ := WX
  obtain ⟨vs, q', d', e7, hyat, hytw, hyok, hycap, hynn⟩ := WY
  rw [e3] at hfu
  rw [e7] at hfu'
  obtain ⟨T6, e8, hT6b, hT6, x0, x1, x2, x3⟩ := hfu.cells
  obtain ⟨T7, e9, hT7b, hT7, z0, z1, z2, z3⟩ := hfu'.cells
  have hB12 : Below w1.heap.size w1 w2 := (Below.refl _ w1).drew.trans hG.B
  have U2 := Lib.hid (U1.out.below hB12)
  have G22 := Lib.hid (G1.out.trans (.of_below hB12))
  have PR2 := Lib.hid (PR.out.below hB12)
  have XK := Lib.hid (nd_ok2 (k := (wk σ a).k) (s := (wk σ a).s) (n := (wk σ a).n) (p := q) (c := d) (kids := us) (UU.out.sub.wk_ok OKA.out (AtP_at ATA.out) hsza).1 (UU.out.sub.wk_ok OKA.out (AtP_at ATA.out) hsza).2.1 (UU.out.sub.wk_ok OKA.out (AtP_at ATA.out) hsza).2.2.1 hxcap hxnn hxok)
  have YK := Lib.hid (nd_ok2 (k := (wk σ b).k) (s := (wk σ b).s) (n := (wk σ b).n) (p := q') (c := d') (kids := vs) (UU.out.sub.wk_ok OKB.out (AtP_at ATB.out) hszb).1 (UU.out.sub.wk_ok OKB.out (AtP_at ATB.out) hszb).2.1 (UU.out.sub.wk_ok OKB.out (AtP_at ATB.out) hszb).2.2.1 hycap hynn hyok)
  have hXs : us.size ≤ 5000 := by
    rw [Ts.twin_size _ _ hxtw]
    exact (UU.out.sub.walked (t := a) ⟨AtP_at ATA.out, OKA.out, hsza⟩).2.2
  have hYs : vs.size ≤ 5000 := by
    rw [Ts.twin_size _ _ hytw]
    exact (UU.out.sub.walked (t := b) ⟨AtP_at ATB.out, OKB.out, hszb⟩).2.2
  obtain ⟨X, hX⟩ : ∃ X : Nd, X = ⟨(wk σ a).k, (wk σ a).s, (wk σ a).n, q, d, us⟩ := ⟨_, rfl⟩
  obtain ⟨Y, hY⟩ : ∃ Y : Nd, Y = ⟨(wk σ b).k, (wk σ b).s, (wk σ b).n, q', d', vs⟩ := ⟨_, rfl⟩
  have XTW : Hid (X.twin (wk σ a)) := Lib.hid (by rw [hX]; exact ⟨rfl, rfl, rfl, hxtw⟩)
  have YTW : Hid (Y.twin (wk σ b)) := Lib.hid (by rw [hY]; exact ⟨rfl, rfl, rfl, hytw⟩)
  replace XK : Hid X.ok := Lib.hid (by rw [hX]; exact XK.out)
  replace YK : Hid Y.ok := Lib.hid (by rw [hY]; exact YK.out)
  have XAV : Hid (Ts.AtP (fun b => P b ∧ b ≠ w.heap.size + 1) w2 X.p X.kids) := Lib.hid (by rw [hX]; exact AtP_imp (fun x _ hx => hx.1) hxat)
  have YAV : Hid (Ts.AtP (fun b => P b ∧ b ≠ w.heap.size + 1) w2 Y.p Y.kids) := Lib.hid (by rw [hY]; exact AtP_imp (fun x _ hx => hx.1) hyat)
  have XA : Hid (Ts.AtP P w2 X.p X.kids) := Lib.hid (AtP_imp (fun x _ hx => hx.1) XAV.out)
  have YA : Hid (Ts.AtP P w2 Y.p Y.kids) := Lib.hid (AtP_imp (fun x _ hx => hx.1) YAV.out)
  replace hXs : X.kids.size ≤ 5000 := by rw [hX]; exact hXs
  replace hYs : Y.kids.size ≤ 5000 := by rw [hY]; exact hYs
  replace x0 : w2.cell? ⟨T6, 0, none⟩ = some (.int .u8 X.k) := by rw [hX]; exact x0
  replace x1 : w2.cell? ⟨T6, 1, none⟩ = some (.string X.s) := by rw [hX]; exact x1
  replace x2 : w2.cell? ⟨T6, 2, none⟩ = some (.int .i64 X.n) := by rw [hX]; exact x2
  replace x3 : w2.cell? ⟨T6, 3, none⟩ = some (.slice X.p X.kids.len X.c) := by rw [hX]; exact x3
  replace z0 : w2.cell? ⟨T7, 0, none⟩ = some (.int .u8 Y.k) := by rw [hY]; exact z0
  replace z1 : w2.cell? ⟨T7, 1, none⟩ = some (.string Y.s) := by rw [hY]; exact z1
  replace z2 : w2.cell? ⟨T7, 2, none⟩ = some (.int .i64 Y.n) := by rw [hY]; exact z2
  replace z3 : w2.cell? ⟨T7, 3, none⟩ = some (.slice Y.p Y.kids.len Y.c) := by rw [hY]; exact z3
  simp only [frameOf, Act.put, List.setIfInBounds_toArray, List.set_cons_zero, List.set_cons_succ, Nat.zero_add, Nat.reduceAdd, e8, e9]
  generalize f_ 0 = g0
  generalize f_ 1 = g1
  generalize f_ 2 = g2
  generalize f_ 3 = g3
  generalize f_ 4 = g4
  generalize f_ 5 = g5
  generalize f_ 6 = g6
  generalize f_ 7 = g7
  have hs2 : w1.heap.size ≤ w2.heap.size := hB12.size
  have hT6c : w1.heap.size ≤ T6 := hT6b
  have hT7c : w1.heap.size ≤ T7 := hT7b
  clear e8 e9 e3 e7 hfu hfu' hG hL hB12 hX hY hxat hyat hxtw hytw hxok hyok hxcap hycap hxnn hynn U1 PR PA ATA1 ATB1 hT6b hT7b
  obtain ⟨bx, hbx⟩ : ∃ x, x = (X.k == 1) := ⟨_, rfl⟩
  obtain ⟨by_, hby⟩ : ∃ x, x = (Y.k == 1) := ⟨_, rfl⟩
  obtain ⟨bn, hbn⟩ : ∃ x, x = (X.n == Y.n) := ⟨_, rfl⟩
  have HBX := Lib.hid hbx
  have HBY := Lib.hid hby
  have HBN := Lib.hid hbn
  clear hbx hby hbn
  go_upto_region 3 with fail
  go_cut [18] from 19 to 34 (fun s18 wx => s18 = .bool (bx && (by_ && bn)) ∧ wx = w2)
  case first =>
    have h1 := HBX.out.symm
    have h2 := HBY.out.symm
    have h3 := HBN.out.symm
    cases bx with
    | false =>
      go_wp2_with fail
      go_meet
      exact ⟨rfl, rfl⟩
    | true =>
      cases by_ with
      | false =>
        go_wp2_with fail
        go_meet
        exact ⟨rfl, rfl⟩
      | true =>
        cases bn with
        | false =>
          go_wp2_with fail
          go_meet
          exact ⟨rfl, rfl⟩
        | true =>
          go_wp2_with fail
          go_meet
          exact ⟨rfl, rfl⟩
  case rest =>
  obtain ⟨rfl, hw3⟩ := hcut
  have hw3 := hw3.symm
  subst hw3
  have PR3 := PR2
  cases bx with
  | true =>
    have h1 := HBX.out.symm
    have hk1 : ((wk σ a).k == 1) = true := by rw [← XTW.out.1]; exact h1
    by_cases hyn : (by_ && bn) = true
    · rw [Bool.and_eq_true] at hyn
      obtain ⟨rfl, rfl⟩ := hyn
      have ON : Hid (one (4095 - m) n σ a b = .ok σ n (4095 - m) []) := Lib.hid (one_same hk1 (by rw [← YTW.out.1]; exact HBY.out.symm) (by rw [← XTW.out.2.2.1, ← YTW.out.2.2.1]; simpa using HBN.out.symm))
      have U3 : Hid (UAt KB S σ n (4096 - (4095 - m)) w2) := Lib.hid (by rw [show 4096 - (4095 - m) = m + 1 by omega]; exact U2.out)
      have hall : (true && (true && true)) = true := rfl
      clear h1 hk1
      have y0 := PR3.out.c0
      have y1 := PR3.out.c1
      have y2 := PR3.out.c2
      have y3 := PR3.out.c3
      have y4 := PR3.out.c4
      have y5 := PR3.out.c5
      have y6 := PR3.out.c6
      have y7 := PR3.out.c7
      have yf := PR3.out.fr
      simp only [zeroN, Ts.len] at y0 y1 y2 y3 y4 y5 y6 y7
      go_wp2
      have P0 := PR3.out.put (x := zeroN) (y := zeroN)
      have p0 := P0.c0
      have p1 := P0.c1
      have p2 := P0.c2
      have p3 := P0.c3
      have p4 := P0.c4
      have p5 := P0.c5
      have p6 := P0.c6
      have p7 := P0.c7
      have PS := Lib.hid (putP_self PR3.out)
      simp only [putP, zeroN, Ts.len] at p0 p1 p2 p3 p4 p5 p6 p7
      clear P0
      exact bodyPost_ret (v := .tuple #[pairV zeroN zeroN, .bool true]) (by simp [results, Tryz.results136, go_sem, p0, p1, p2, p3, p4, p5, p6, p7, pairV, zeroN, Ts.len]) rfl ((by rw [PS.out]; exact UOne.mk_ok0 G22.out.one ON.out (STw.refl σ) U3.out (fun _ _ h => .inl h)) : UOne KB S P σ n m w a b _ (putP _ (w.heap.size + 1) zeroN zeroN))

    · have hyn2 : (by_ && bn) = false := by simpa using hyn
      rw [hyn2]
      have hne : ¬ (((wk σ b).k == 1) = true ∧ (wk σ a).n = (wk σ b).n) := fun hh => hyn (by
        rw [Bool.and_eq_true]
        refine ⟨by rw [HBY.out, YTW.out.1]; exact hh.1, ?_⟩
        rw [HBN.out, XTW.out.2.2.1, YTW.out.2.2.1, hh.2]
        simp)
      have hall : (true && false) = false := rfl
      have HK1 := Lib.hid hk1
      have HNE := Lib.hid hne
      clear hyn hyn2 hk1 hne
      have hfree : σ X.n = none := by
        rw [XTW.out.2.2.1]
        rcases (wk_spec UU.out.sub.ends a).ends with h | h
        · rw [← XTW.out.1] at h; rw [h] at h1; cases h1
        · exact h
      have BE : Hid (bnd (4095 - m) σ (wk σ a).n (wk σ b) = bnd (4096 - (m + 1)) σ X.n Y) := Lib.hid (by
        rw [XTW.out.2.2.1, show 4095 - m = 4096 - (m + 1) by omega]
        exact (bnd_tw (STw.refl σ) UU.out.sub.ends YTW.out).symm)
      have FREE := Lib.hid hfree
      clear hfree
      go_wp2_with fail
      refine (ubind_any KB S σ n (m + 1) w2 U2.out (by omega) hn X.n XK.out.2.2.1 FREE.out Y YK.out (AtP_at YA.out) hYs).mono ?_
      rintro e w3 ⟨hg3, hm3⟩
      have G3 := Lib.hid (G22.out.one.trans hg3)
      have PR3 := Lib.hid (PR2.out.of_block (hg3.block _ PR2.out.lt (by omega) (by omega)))
      cases hb : bnd (4096 - (m + 1)) σ X.n Y with
      | full =>
        rw [hb] at hm3
        obtain rfl := hm3
        have ON : Hid (one (4095 - m) n σ a b = .full) := Lib.hid (by rw [one_x HK1.out HNE.out, BE.out, hb])
        clear hb hg3
        go_wp2
        exact ⟨rfl, UOne.mk_full G3.out ON.out⟩
      | no =>
        rw [hb] at hm3
        obtain rfl := hm3
        have ON : Hid (one (4095 - m) n σ a b = .no) := Lib.hid (by rw [one_x HK1.out HNE.out, BE.out, hb])
        clear hb hg3
        have y0 := PR3.out.c0
        have y1 := PR3.out.c1
        have y2 := PR3.out.c2
        have y3 := PR3.out.c3
        have y4 := PR3.out.c4
        have y5 := PR3.out.c5
        have y6 := PR3.out.c6
        have y7 := PR3.out.c7
        have yf := PR3.out.fr
        simp only [zeroN, Ts.len] at y0 y1 y2 y3 y4 y5 y6 y7
        go_wp2
        have P0 := PR3.out.put (x := zeroN) (y := zeroN)
        have p0 := P0.c0
        have p1 := P0.c1
        have p2 := P0.c2
        have p3 := P0.c3
        have p4 := P0.c4
        have p5 := P0.c5
        have p6 := P0.c6
        have p7 := P0.c7
        have PS := Lib.hid (putP_self PR3.out)
        simp only [putP, zeroN, Ts.len] at p0 p1 p2 p3 p4 p5 p6 p7
        clear P0
        exact bodyPost_ret (v := .tuple #[pairV zeroN zeroN, .bool false]) (by simp [results, Tryz.results136, go_sem, p0, p1, p2, p3, p4, p5, p6, p7, pairV, zeroN, Ts.len]) rfl ((by rw [PS.out]; exact UOne.mk_no G3.out ON.out) : UOne KB S P σ n m w a b _ (putP _ (w.heap.size + 1) zeroN zeroN))
      | ok r' =>
        rw [hb] at hm3
        obtain ⟨rfl, x', hx', hU3, hxa⟩ := hm3
        have hrl := bnd_le hb
        have ON : Hid (one (4095 - m) n σ a b = .ok (σ.put (wk σ a).n (wk σ b)) (n + 1) r' []) := Lib.hid (by rw [one_x HK1.out HNE.out, BE.out, hb]; simp only [OneO.ok.injEq, true_and, and_true]; omega)
        have U3 := Lib.hid hU3
        have ST : Hid (STw (σ.put X.n x') (σ.put (wk σ a).n (wk σ b))) := Lib.hid (by rw [XTW.out.2.2.1]; exact (STw.refl σ).put2 (Nd.twin_trans hx' YTW.out))
        have NW : Hid (∀ v x, (σ.put X.n x') v = some x → σ v = some x ∨ Ts.AtP (fun b => w.heap.size ≤ b) w3 x.p x.kids) := Lib.hid fun v x h => by
          by_cases e : v = X.n
          · rw [e, Sb.put_same] at h
            cases h
            exact .inr (AtP_imp (fun b _ hb => by omega) hxa)
          · rw [Sb.put_other e] at h
            exact .inl h
        clear hb hg3 hU3 hx' hxa
        have y0 := PR3.out.c0
        have y1 := PR3.out.c1
        have y2 := PR3.out.c2
        have y3 := PR3.out.c3
        have y4 := PR3.out.c4
        have y5 := PR3.out.c5
        have y6 := PR3.out.c6
        have y7 := PR3.out.c7
        have yf := PR3.out.fr
        simp only [zeroN, Ts.len] at y0 y1 y2 y3 y4 y5 y6 y7
        go_wp2
        have P0 := PR3.out.put (x := zeroN) (y := zeroN)
        have p0 := P0.c0
        have p1 := P0.c1
        have p2 := P0.c2
        have p3 := P0.c3
        have p4 := P0.c4
        have p5 := P0.c5
        have p6 := P0.c6
        have p7 := P0.c7
        have PS := Lib.hid (putP_self PR3.out)
        simp only [putP, zeroN, Ts.len] at p0 p1 p2 p3 p4 p5 p6 p7
        clear P0
        exact bodyPost_ret (v := .tuple #[pairV zeroN zeroN, .bool true]) (by simp [results, Tryz.results136, go_sem, p0, p1, p2, p3, p4, p5, p6, p7, pairV, zeroN, Ts.len]) rfl ((by rw [PS.out]; exact UOne.mk_ok0 G3.out ON.out ST.out U3.out NW.out) : UOne KB S P σ n m w a b _ (putP _ (w.heap.size + 1) zeroN zeroN))

  | false =>
    have h1 := HBX.out.symm
    have HK1 : Hid (((wk σ a).k == 1) = false) := Lib.hid (by rw [← XTW.out.1]; exact h1)
    have hall : (false && (by_ && bn)) = false := rfl
    rw [hall]
    clear hall
    cases by_ with
    | true =>
      have h2 := HBY.out.symm
      have HK2 : Hid (((wk σ b).k == 1) = true) := Lib.hid (by rw [← YTW.out.1]; exact h2)
      have hfree : σ Y.n = none := by
        rw [YTW.out.2.2.1]
        rcases (wk_spec UU.out.sub.ends b).ends with h | h
        · rw [← YTW.out.1] at h; rw [h] at h2; cases h2
        · exact h
      have BE : Hid (bnd (4095 - m) σ (wk σ b).n (wk σ a) = bnd (4096 - (m + 1)) σ Y.n X) := Lib.hid (by
        rw [YTW.out.2.2.1, show 4095 - m = 4096 - (m + 1) by omega]
        exact (bnd_tw (STw.refl σ) UU.out.sub.ends XTW.out).symm)
      have FREE := Lib.hid hfree
      clear hfree
      go_wp2_with fail
      refine (ubind_any KB S σ n (m + 1) w2 U2.out (by omega) hn Y.n YK.out.2.2.1 FREE.out X XK.out (AtP_at XA.out) hXs).mono ?_
      rintro e w3 ⟨hg3, hm3⟩
      have G3 := Lib.hid (G22.out.one.trans hg3)
      have PR3 := Lib.hid (PR2.out.of_block (hg3.block _ PR2.out.lt (by omega) (by omega)))
      cases hb : bnd (4096 - (m + 1)) σ Y.n X with
      | full =>
        rw [hb] at hm3
        obtain rfl := hm3
        have ON : Hid (one (4095 - m) n σ a b = .full) := Lib.hid (by rw [one_y HK1.out HK2.out, BE.out, hb])
        clear hb hg3
        go_wp2
        exact ⟨rfl, UOne.mk_full G3.out ON.out⟩
      | no =>
        rw [hb] at hm3
        obtain rfl := hm3
        have ON : Hid (one (4095 - m) n σ a b = .no) := Lib.hid (by rw [one_y HK1.out HK2.out, BE.out, hb])
        clear hb hg3
        have y0 := PR3.out.c0
        have y1 := PR3.out.c1
        have y2 := PR3.out.c2
        have y3 := PR3.out.c3
        have y4 := PR3.out.c4
        have y5 := PR3.out.c5
        have y6 := PR3.out.c6
        have y7 := PR3.out.c7
        have yf := PR3.out.fr
        simp only [zeroN, Ts.len] at y0 y1 y2 y3 y4 y5 y6 y7
        go_wp2
        have P0 := PR3.out.put (x := zeroN) (y := zeroN)
        have p0 := P0.c0
        have p1 := P0.c1
        have p2 := P0.c2
        have p3 := P0.c3
        have p4 := P0.c4
        have p5 := P0.c5
        have p6 := P0.c6
        have p7 := P0.c7
        have PS := Lib.hid (putP_self PR3.out)
        simp only [putP, zeroN, Ts.len] at p0 p1 p2 p3 p4 p5 p6 p7
        clear P0
        exact bodyPost_ret (v := .tuple #[pairV zeroN zeroN, .bool false]) (by simp [results, Tryz.results136, go_sem, p0, p1, p2, p3, p4, p5, p6, p7, pairV, zeroN, Ts.len]) rfl ((by rw [PS.out]; exact UOne.mk_no G3.out ON.out) : UOne KB S P σ n m w a b _ (putP _ (w.heap.size + 1) zeroN zeroN))
      | ok r' =>
        rw [hb] at hm3
        obtain ⟨rfl, x', hx', hU3, hxa⟩ := hm3
        have hrl := bnd_le hb
        have ON : Hid (one (4095 - m) n σ a b = .ok (σ.put (wk σ b).n (wk σ a)) (n + 1) r' []) := Lib.hid (by rw [one_y HK1.out HK2.out, BE.out, hb]; simp only [OneO.ok.injEq, true_and, and_true]; omega)
        have U3 := Lib.hid hU3
        have ST : Hid (STw (σ.put Y.n x') (σ.put (wk σ b).n (wk σ a))) := Lib.hid (by rw [YTW.out.2.2.1]; exact (STw.refl σ).put2 (Nd.twin_trans hx' XTW.out))
        have NW : Hid (∀ v x, (σ.put Y.n x') v = some x → σ v = some x ∨ Ts.AtP (fun b => w.heap.size ≤ b) w3 x.p x.kids) := Lib.hid fun v x h => by
          by_cases e : v = Y.n
          · rw [e, Sb.put_same] at h
            cases h
            exact .inr (AtP_imp (fun b _ hb => by omega) hxa)
          · rw [Sb.put_other e] at h
            exact .inl h
        clear hb hg3 hU3 hx' hxa
        have y0 := PR3.out.c0
        have y1 := PR3.out.c1
        have y2 := PR3.out.c2
        have y3 := PR3.out.c3
        have y4 := PR3.out.c4
        have y5 := PR3.out.c5
        have y6 := PR3.out.c6
        have y7 := PR3.out.c7
        have yf := PR3.out.fr
        simp only [zeroN, Ts.len] at y0 y1 y2 y3 y4 y5 y6 y7
        go_wp2
        have P0 := PR3.out.put (x := zeroN) (y := zeroN)
        have p0 := P0.c0
        have p1 := P0.c1
        have p2 := P0.c2
        have p3 := P0.c3
        have p4 := P0.c4
        have p5 := P0.c5
        have p6 := P0.c6
        have p7 := P0.c7
        have PS := Lib.hid (putP_self PR3.out)
        simp only [putP, zeroN, Ts.len] at p0 p1 p2 p3 p4 p5 p6 p7
        clear P0
        exact bodyPost_ret (v := .tuple #[pairV zeroN zeroN, .bool true]) (by simp [results, Tryz.results136, go_sem, p0, p1, p2, p3, p4, p5, p6, p7, pairV, zeroN, Ts.len]) rfl ((by rw [PS.out]; exact UOne.mk_ok0 G3.out ON.out ST.out U3.out NW.out) : UOne KB S P σ n m w a b _ (putP _ (w.heap.size + 1) zeroN zeroN))

    | false =>
      have h2 := HBY.out.symm
      have HK2 : Hid (((wk σ b).k == 1) = false) := Lib.hid (by rw [← YTW.out.1]; exact h2)
      have hlx : X.kids.len ≤ 5000 := Nat.le_trans (Ts.len_size _) hXs
      have hly : Y.kids.len ≤ 5000 := Nat.le_trans (Ts.len_size _) hYs
      have HU : Hid (headU (wk σ a) (wk σ b) = headU X Y) := Lib.hid (headU_tw XTW.out YTW.out).symm
      have hR1 : w.heap.size + 1 ≠ T6 := by omega
      have hR2 : w.heap.size + 1 ≠ T7 := by omega
      obtain ⟨c1, hk⟩ : ∃ c, (X.k == Y.k) = c := ⟨_, rfl⟩
      obtain ⟨bs, hs⟩ : ∃ c, (X.s.toList == Y.s.toList) = c := ⟨_, rfl⟩
      obtain ⟨bm, hnn⟩ : ∃ c, (X.n == Y.n) = c := ⟨_, rfl⟩
      obtain ⟨bl, hl⟩ : ∃ c, ((X.kids.len : Int) == (Y.kids.len : Int)) = c := ⟨_, rfl⟩
      have HF : Hid (headU X Y = (c1 && (bs && (bm && bl)))) := Lib.hid (by
        unfold headU
        rw [hk, hs, hnn, ← hl]
        congr 3
        rw [Bool.eq_iff_iff]
        simp only [decide_eq_true_eq, beq_iff_eq]
        omega)
      have HL := Lib.hid hl
      obtain ⟨c2, h2c⟩ : ∃ c, c = (c1 && bs) := ⟨_, rfl⟩
      obtain ⟨c3, h3c⟩ : ∃ c, c = (c2 && bm) := ⟨_, rfl⟩
      obtain ⟨c4, h4c⟩ : ∃ c, c = (c3 && bl) := ⟨_, rfl⟩
      have C2 := Lib.hid h2c
      have C3 := Lib.hid h3c
      have C4 := Lib.hid h4c
      clear h2c h3c h4c
      go_upto_region 9 with fail
      clear h1 h2
      refine region_by_rel (TurnsTo (w.heap.size + 1) (PairIs (w.heap.size + 1) X Y)) (fun W_ => G2 (w.heap.size + 1) (w.heap.size + 1) w2 W_ ∧ ∃ x y, PairIs (w.heap.size + 1) x y W_) [fun u _ => u = .agg #[.int .u8 X.k, .string X.s, .int .i64 X.n, .slice X.p X.kids.len X.c], fun u _ => u = .agg #[.int .u8 Y.k, .string Y.s, .int .i64 Y.n, .slice Y.p Y.kids.len Y.c], fun u _ => u = .agg #[.int .u8 X.k, .string X.s, .int .i64 X.n, .slice X.p X.kids.len X.c, .int .u8 Y.k, .string Y.s, .int .i64 Y.n, .slice Y.p Y.kids.len Y.c], fun u _ => u = .pointer (some ⟨T6, 0, none⟩), fun u _ => u = .int .u8 X.k, fun u _ => u = .pointer (some ⟨T7, 0, none⟩), fun u _ => u = .int .u8 Y.k, fun u _ => u = .bool c1, fun u _ => u = .bool c1, fun u _ => u = (cond c1 (.pointer (some ⟨T6, 1, none⟩)) undef), fun u _ => u = (cond c1 (.string X.s) undef), fun u _ => u = (cond c1 (.pointer (some ⟨T7, 1, none⟩)) undef), fun u _ => u = (cond c1 (.string Y.s) undef), fun u _ => u = (cond c1 (.bool bs) undef), fun u _ => u = .bool c2, fun u _ => u = .bool c2, fun u _ => u = (cond c2 (.pointer (some ⟨T6, 2, none⟩)) undef), fun u _ => u = (cond c2 (.int .i64 X.n) undef), fun u _ => u = (cond c2 (.pointer (some ⟨T7, 2, none⟩)) undef), fun u _ => u = (cond c2 (.int .i64 Y.n) undef), fun u _ => u = (cond c2 (.bool bm) undef), fun u _ => u = .bool c3, fun u _ => u = .bool c3, fun u _ => u = (cond c3 (.pointer (some ⟨T6, 3, none⟩)) undef), fun u _ => u = (cond c3 (.slice X.p X.kids.len X.c) undef), fun u _ => u = (cond c3 (.int .i64 (X.kids.len : Nat)) undef), fun u _ => u = (cond c3 (.pointer (some ⟨T7, 3, none⟩)) undef), fun u _ => u = (cond c3 (.slice Y.p Y.kids.len Y.c) undef), fun u _ => u = (cond c3 (.int .i64 (Y.kids.len : Nat)) undef), fun u _ => u = (cond c3 (.bool bl) undef), fun u _ => u = .bool c4, fun _ W => PairIs (w.heap.size + 1) X Y W, fun u _ => u = .bool c4]
        (factOf_keeps ⟨.eq _, .eq _, .eq _, .eq _, .eq _, .eq _, .eq _, .eq _, .eq _, .eq _, .eq _, .eq _, .eq _, .eq _, .eq _, .eq _, .eq _, .eq _, .eq _, .eq _, .eq _, .eq _, .eq _, .eq _, .eq _, .eq _, .eq _, .eq _, .eq _, .eq _, .eq _, (fun _ _ _ h hr => hr.f h), .eq _, trivial⟩) (by kernel_rfl) (by kernel_rfl) (by kernel_rfl) ?h09 ?steps9 ?done9
      case h09 => exact ⟨.of_below (Below.refl _ _).drew, zeroN, zeroN, PR2.out.below (Below.refl _ _).drew⟩
      case steps9 =>
        refine ⟨?_, ?_, ?_, ?_, ?_, ?_, ?_, ?_, ?_, ?_, ?_, ?_, ?_, ?_, ?_, ?_, ?_, ?_, ?_, ?_, ?_, ?_, ?_, ?_, ?_, ?_, ?_, ?_, ?_, ?_, ?_, ?_, ?_, trivial⟩
        · intro g_ W_ hI hd K hK
          simp only [frameOf, Act.put, List.setIfInBounds_toArray, List.set_cons_zero, List.set_cons_succ]
          have hb := hI.1.block T6 hT6 (Ne.symm hR1) (Ne.symm hR1)
          have e0 := (World.cell?_of_block (a := ⟨T6, 0, none⟩) hb).trans x0
          have e1 := (World.cell?_of_block (a := ⟨T6, 1, none⟩) hb).trans x1
          have e2 := (World.cell?_of_block (a := ⟨T6, 2, none⟩) hb).trans x2
          have e3 := (World.cell?_of_block (a := ⟨T6, 3, none⟩) hb).trans x3
          clear hb
          go_simp
          refine hK.out (.agg #[.int .u8 X.k, .string X.s, .int .i64 X.n, .slice X.p X.kids.len X.c]) _ W_ ?_ hI ⟨.refl _ _ _, id⟩ rfl
          simp only [frameOf, Act.put, List.setIfInBounds_toArray, List.set_cons_zero, List.set_cons_succ, Nat.zero_add, Nat.reduceAdd]
        · intro g_ W_ hI hd K hK
          simp only [frameOf, Act.put, List.setIfInBounds_toArray, List.set_cons_zero, List.set_cons_succ]
          have hb := hI.1.block T7 hT7 (Ne.symm hR2) (Ne.symm hR2)
          have e0 := (World.cell?_of_block (a := ⟨T7, 0, none⟩) hb).trans z0
          have e1 := (World.cell?_of_block (a := ⟨T7, 1, none⟩) hb).trans z1
          have e2 := (World.cell?_of_block (a := ⟨T7, 2, none⟩) hb).trans z2
          have e3 := (World.cell?_of_block (a := ⟨T7, 3, none⟩) hb).trans z3
          clear hb
          go_simp
          refine hK.out (.agg #[.int .u8 Y.k, .string Y.s, .int .i64 Y.n, .slice Y.p Y.kids.len Y.c]) _ W_ ?_ hI ⟨.refl _ _ _, id⟩ rfl
          simp only [frameOf, Act.put, List.setIfInBounds_toArray, List.set_cons_zero, List.set_cons_succ, Nat.zero_add, Nat.reduceAdd]
        · intro g_ W_ hI hd K hK
          simp only [frameOf, Act.put, List.setIfInBounds_toArray, List.set_cons_zero, List.set_cons_succ]
          have h0 : g_ 0 = .agg #[.int .u8 X.k, .string X.s, .int .i64 X.n, .slice X.p X.kids.len X.c] := hd 0 (by kernel_rfl)
          have h1 : g_ 1 = .agg #[.int .u8 Y.k, .string Y.s, .int .i64 Y.n, .slice Y.p Y.kids.len Y.c] := hd 1 (by kernel_rfl)
          rw [h0, h1]
          go_simp
          refine hK.out (.agg #[.int .u8 X.k, .string X.s, .int .i64 X.n, .slice X.p X.kids.len X.c, .int .u8 Y.k, .string Y.s, .int .i64 Y.n, .slice Y.p Y.kids.len Y.c]) _ W_ ?_ hI ⟨.refl _ _ _, id⟩ rfl
          simp only [frameOf, Act.put, List.setIfInBounds_toArray, List.set_cons_zero, List.set_cons_succ, Nat.zero_add, Nat.reduceAdd, h0, h1]
        · intro g_ W_ hI hd K hK
          simp only [frameOf, Act.put, List.setIfInBounds_toArray, List.set_cons_zero, List.set_cons_succ]
          go_simp
          refine hK.out (.pointer (some ⟨T6, 0, none⟩)) _ W_ ?_ hI ⟨.refl _ _ _, id⟩ rfl
          simp only [frameOf, Act.put, List.setIfInBounds_toArray, List.set_cons_zero, List.set_cons_succ, Nat.zero_add, Nat.reduceAdd]
        · intro g_ W_ hI hd K hK
          simp only [frameOf, Act.put, List.setIfInBounds_toArray, List.set_cons_zero, List.set_cons_succ]
          have h3 : g_ 3 = .pointer (some ⟨T6, 0, none⟩) := hd 3 (by kernel_rfl)
          rw [h3]
          have e0 := (World.cell?_of_block (a := ⟨T6, 0, none⟩) (hI.1.block T6 hT6 (Ne.symm hR1) (Ne.symm hR1))).trans x0
          go_simp
          refine hK.out (.int .u8 X.k) _ W_ ?_ hI ⟨.refl _ _ _, id⟩ rfl
          simp only [frameOf, Act.put, List.setIfInBounds_toArray, List.set_cons_zero, List.set_cons_succ, Nat.zero_add, Nat.reduceAdd, h3]
        · intro g_ W_ hI hd K hK
          simp only [frameOf, Act.put, List.setIfInBounds_toArray, List.set_cons_zero, List.set_cons_succ]
          go_simp
          refine hK.out (.pointer (some ⟨T7, 0, none⟩)) _ W_ ?_ hI ⟨.refl _ _ _, id⟩ rfl
          simp only [frameOf, Act.put, List.setIfInBounds_toArray, List.set_cons_zero, List.set_cons_succ, Nat.zero_add, Nat.reduceAdd]
        · intro g_ W_ hI hd K hK
          simp only [frameOf, Act.put, List.setIfInBounds_toArray, List.set_cons_zero, List.set_cons_succ]
          have h5 : g_ 5 = .pointer (some ⟨T7, 0, none⟩) := hd 5 (by kernel_rfl)
          rw [h5]
          have e0 := (World.cell?_of_block (a := ⟨T7, 0, none⟩) (hI.1.block T7 hT7 (Ne.symm hR2) (Ne.symm hR2))).trans z0
          go_simp
          refine hK.out (.int .u8 Y.k) _ W_ ?_ hI ⟨.refl _ _ _, id⟩ rfl
          simp only [frameOf, Act.put, List.setIfInBounds_toArray, List.set_cons_zero, List.set_cons_succ, Nat.zero_add, Nat.reduceAdd, h5]
        · intro g_ W_ hI hd K hK
          simp only [frameOf, Act.put, List.setIfInBounds_toArray, List.set_cons_zero, List.set_cons_succ]
          have h4 : g_ 4 = .int .u8 X.k := hd 4 (by kernel_rfl)
          have h6 : g_ 6 = .int .u8 Y.k := hd 6 (by kernel_rfl)
          rw [h4, h6]
          go_simp
          refine hK.out (.bool c1) _ W_ ?_ hI ⟨.refl _ _ _, id⟩ rfl
          simp only [frameOf, Act.put, List.setIfInBounds_toArray, List.set_cons_zero, List.set_cons_succ, Nat.zero_add, Nat.reduceAdd, h4, h6]
        · intro g_ W_ hI hd K hK
          simp only [frameOf, Act.put, List.setIfInBounds_toArray, List.set_cons_zero, List.set_cons_succ]
          have h7 : g_ 7 = .bool c1 := hd 7 (by kernel_rfl)
          rw [h7]
          go_simp
          refine hK.out (.bool c1) _ W_ ?_ hI ⟨.refl _ _ _, id⟩ rfl
          simp only [frameOf, Act.put, List.setIfInBounds_toArray, List.set_cons_zero, List.set_cons_succ, Nat.zero_add, Nat.reduceAdd, h7]
        · intro g_ W_ hI hd K hK
          simp only [frameOf, Act.put, List.setIfInBounds_toArray, List.set_cons_zero, List.set_cons_succ]
          have h8 : g_ 8 = .bool c1 := hd 8 (by kernel_rfl)
          rw [h8]
          cases c1 with
          | false =>
            go_simp
            refine hK.out undef _ W_ ?_ hI ⟨.refl _ _ _, id⟩ rfl
            simp only [frameOf, Act.put, List.setIfInBounds_toArray, List.set_cons_zero, List.set_cons_succ, Nat.zero_add, Nat.reduceAdd, h8, cond_true, cond_false]
          | true =>
            try simp only [cond_true]
            go_simp
            refine hK.out (.pointer (some ⟨T6, 1, none⟩)) _ W_ ?_ hI ⟨.refl _ _ _, id⟩ rfl
            simp only [frameOf, Act.put, List.setIfInBounds_toArray, List.set_cons_zero, List.set_cons_succ, Nat.zero_add, Nat.reduceAdd, h8, cond_true, cond_false]
        · intro g_ W_ hI hd K hK
          simp only [frameOf, Act.put, List.setIfInBounds_toArray, List.set_cons_zero, List.set_cons_succ]
          have h8 : g_ 8 = .bool c1 := hd 8 (by kernel_rfl)
          have h9 : g_ 9 = (cond c1 (.pointer (some ⟨T6, 1, none⟩)) undef) := hd 9 (by kernel_rfl)
          rw [h8, h9]
          have e0 := (World.cell?_of_block (a := ⟨T6, 1, none⟩) (hI.1.block T6 hT6 (Ne.symm hR1) (Ne.symm hR1))).trans x1
          cases c1 with
          | false =>
            go_simp
            refine hK.out undef _ W_ ?_ hI ⟨.refl _ _ _, id⟩ rfl
            simp only [frameOf, Act.put, List.setIfInBounds_toArray, List.set_cons_zero, List.set_cons_succ, Nat.zero_add, Nat.reduceAdd, h8, h9, cond_true, cond_false]
          | true =>
            try simp only [cond_true]
            go_simp
            refine hK.out (.string X.s) _ W_ ?_ hI ⟨.refl _ _ _, id⟩ rfl
            simp only [frameOf, Act.put, List.setIfInBounds_toArray, List.set_cons_zero, List.set_cons_succ, Nat.zero_add, Nat.reduceAdd, h8, h9, cond_true, cond_false]
        · intro g_ W_ hI hd K hK
          simp only [frameOf, Act.put, List.setIfInBounds_toArray, List.set_cons_zero, List.set_cons_succ]
          have h8 : g_ 8 = .bool c1 := hd 8 (by kernel_rfl)
          rw [h8]
          cases c1 with
          | false =>
            go_simp
            refine hK.out undef _ W_ ?_ hI ⟨.refl _ _ _, id⟩ rfl
            simp only [frameOf, Act.put, List.setIfInBounds_toArray, List.set_cons_zero, List.set_cons_succ, Nat.zero_add, Nat.reduceAdd, h8, cond_true, cond_false]
          | true =>
            try simp only [cond_true]
            go_simp
            refine hK.out (.pointer (some ⟨T7, 1, none⟩)) _ W_ ?_ hI ⟨.refl _ _ _, id⟩ rfl
            simp only [frameOf, Act.put, List.setIfInBounds_toArray, List.set_cons_zero, List.set_cons_succ, Nat.zero_add, Nat.reduceAdd, h8, cond_true, cond_false]
        · intro g_ W_ hI hd K hK
          simp only [frameOf, Act.put, List.setIfInBounds_toArray, List.set_cons_zero, List.set_cons_succ]
          have h8 : g_ 8 = .bool c1 := hd 8 (by kernel_rfl)
          have h11 : g_ 11 = (cond c1 (.pointer (some ⟨T7, 1, none⟩)) undef) := hd 11 (by kernel_rfl)
          rw [h8, h11]
          have e0 := (World.cell?_of_block (a := ⟨T7, 1, none⟩) (hI.1.block T7 hT7 (Ne.symm hR2) (Ne.symm hR2))).trans z1
          cases c1 with
          | false =>
            go_simp
            refine hK.out undef _ W_ ?_ hI ⟨.refl _ _ _, id⟩ rfl
            simp only [frameOf, Act.put, List.setIfInBounds_toArray, List.set_cons_zero, List.set_cons_succ, Nat.zero_add, Nat.reduceAdd, h8, h11, cond_true, cond_false]
          | true =>
            try simp only [cond_true]
            go_simp
            refine hK.out (.string Y.s) _ W_ ?_ hI ⟨.refl _ _ _, id⟩ rfl
            simp only [frameOf, Act.put, List.setIfInBounds_toArray, List.set_cons_zero, List.set_cons_succ, Nat.zero_add, Nat.reduceAdd, h8, h11, cond_true, cond_false]
        · intro g_ W_ hI hd K hK
          simp only [frameOf, Act.put, List.setIfInBounds_toArray, List.set_cons_zero, List.set_cons_succ]
          have h8 : g_ 8 = .bool c1 := hd 8 (by kernel_rfl)
          have h10 : g_ 10 = (cond c1 (.string X.s) undef) := hd 10 (by kernel_rfl)
          have h12 : g_ 12 = (cond c1 (.string Y.s) undef) := hd 12 (by kernel_rfl)
          rw [h8, h10, h12]
          cases c1 with
          | false =>
            go_simp
            refine hK.out undef _ W_ ?_ hI ⟨.refl _ _ _, id⟩ rfl
            simp only [frameOf, Act.put, List.setIfInBounds_toArray, List.set_cons_zero, List.set_cons_succ, Nat.zero_add, Nat.reduceAdd, h8, h10, h12, cond_true, cond_false]
          | true =>
            try simp only [cond_true]
            go_simp
            refine hK.out (.bool bs) _ W_ ?_ hI ⟨.refl _ _ _, id⟩ rfl
            simp only [frameOf, Act.put, List.setIfInBounds_toArray, List.set_cons_zero, List.set_cons_succ, Nat.zero_add, Nat.reduceAdd, h8, h10, h12, cond_true, cond_false]
        · intro g_ W_ hI hd K hK
          simp only [frameOf, Act.put, List.setIfInBounds_toArray, List.set_cons_zero, List.set_cons_succ]
          have h8 : g_ 8 = .bool c1 := hd 8 (by kernel_rfl)
          have h13 : g_ 13 = (cond c1 (.bool bs) undef) := hd 13 (by kernel_rfl)
          rw [h8, h13]
          have hc := C2.out
          cases c1 with
          | false =>
            simp only [Bool.false_and] at hc
            go_simp
            refine hK.out (.bool false) _ W_ ?_ hI ⟨.refl _ _ _, id⟩ (by show Value.bool false = Value.bool c2; rw [hc])
            simp only [frameOf, Act.put, List.setIfInBounds_toArray, List.set_cons_zero, List.set_cons_succ, Nat.zero_add, Nat.reduceAdd, h8, h13, cond_true, cond_false]
          | true =>
            simp only [Bool.true_and] at hc
            try simp only [cond_true]
            clear hc
            go_simp
            have hc := C2.out
            simp only [Bool.true_and] at hc
            refine hK.out (.bool bs) _ W_ ?_ hI ⟨.refl _ _ _, id⟩ (by show Value.bool bs = Value.bool c2; rw [hc])
            simp only [frameOf, Act.put, List.setIfInBounds_toArray, List.set_cons_zero, List.set_cons_succ, Nat.zero_add, Nat.reduceAdd, h8, h13, cond_true, cond_false]
        · intro g_ W_ hI hd K hK
          simp only [frameOf, Act.put, List.setIfInBounds_toArray, List.set_cons_zero, List.set_cons_succ]
          have h14 : g_ 14 = .bool c2 := hd 14 (by kernel_rfl)
          rw [h14]
          go_simp
          refine hK.out (.bool c2) _ W_ ?_ hI ⟨.refl _ _ _, id⟩ rfl
          simp only [frameOf, Act.put, List.setIfInBounds_toArray, List.set_cons_zero, List.set_cons_succ, Nat.zero_add, Nat.reduceAdd, h14]
        · intro g_ W_ hI hd K hK
          simp only [frameOf, Act.put, List.setIfInBounds_toArray, List.set_cons_zero, List.set_cons_succ]
          have h15 : g_ 15 = .bool c2 := hd 15 (by kernel_rfl)
          rw [h15]
          cases c2 with
          | false =>
            go_simp
            refine hK.out undef _ W_ ?_ hI ⟨.refl _ _ _, id⟩ rfl
            simp only [frameOf, Act.put, List.setIfInBounds_toArray, List.set_cons_zero, List.set_cons_succ, Nat.zero_add, Nat.reduceAdd, h15, cond_true, cond_false]
          | true =>
            try simp only [cond_true]
            go_simp
            refine hK.out (.pointer (some ⟨T6, 2, none⟩)) _ W_ ?_ hI ⟨.refl _ _ _, id⟩ rfl
            simp only [frameOf, Act.put, List.setIfInBounds_toArray, List.set_cons_zero, List.set_cons_succ, Nat.zero_add, Nat.reduceAdd, h15, cond_true, cond_false]
        · intro g_ W_ hI hd K hK
          simp only [frameOf, Act.put, List.setIfInBounds_toArray, List.set_cons_zero, List.set_cons_succ]
          have h15 : g_ 15 = .bool c2 := hd 15 (by kernel_rfl)
          have h16 : g_ 16 = (cond c2 (.pointer (some ⟨T6, 2, none⟩)) undef) := hd 16 (by kernel_rfl)
          rw [h15, h16]
          have e0 := (World.cell?_of_block (a := ⟨T6, 2, none⟩) (hI.1.block T6 hT6 (Ne.symm hR1) (Ne.symm hR1))).trans x2
          cases c2 with
          | false =>
            go_simp
            refine hK.out undef _ W_ ?_ hI ⟨.refl _ _ _, id⟩ rfl
            simp only [frameOf, Act.put, List.setIfInBounds_toArray, List.set_cons_zero, List.set_cons_succ, Nat.zero_add, Nat.reduceAdd, h15, h16, cond_true, cond_false]
          | true =>
            try simp only [cond_true]
            go_simp
            refine hK.out (.int .i64 X.n) _ W_ ?_ hI ⟨.refl _ _ _, id⟩ rfl
            simp only [frameOf, Act.put, List.setIfInBounds_toArray, List.set_cons_zero, List.set_cons_succ, Nat.zero_add, Nat.reduceAdd, h15, h16, cond_true, cond_false]
        · intro g_ W_ hI hd K hK
          simp only [frameOf, Act.put, List.setIfInBounds_toArray, List.set_cons_zero, List.set_cons_succ]
          have h15 : g_ 15 = .bool c2 := hd 15 (by kernel_rfl)
          rw [h15]
          cases c2 with
          | false =>
            go_simp
            refine hK.out undef _ W_ ?_ hI ⟨.refl _ _ _, id⟩ rfl
            simp only [frameOf, Act.put, List.setIfInBounds_toArray, List.set_cons_zero, List.set_cons_succ, Nat.zero_add, Nat.reduceAdd, h15, cond_true, cond_false]
          | true =>
            try simp only [cond_true]
            go_simp
            refine hK.out (.pointer (some ⟨T7, 2, none⟩)) _ W_ ?_ hI ⟨.refl _ _ _, id⟩ rfl
            simp only [frameOf, Act.put, List.setIfInBounds_toArray, List.set_cons_zero, List.set_cons_succ, Nat.zero_add, Nat.reduceAdd, h15, cond_true, cond_false]
        · intro g_ W_ hI hd K hK
          simp only [frameOf, Act.put, List.setIfInBounds_toArray, List.set_cons_zero, List.set_cons_succ]
          have h15 : g_ 15 = .bool c2 := hd 15 (by kernel_rfl)
          have h18 : g_ 18 = (cond c2 (.pointer (some ⟨T7, 2, none⟩)) undef) := hd 18 (by kernel_rfl)
          rw [h15, h18]
          have e0 := (World.cell?_of_block (a := ⟨T7, 2, none⟩) (hI.1.block T7 hT7 (Ne.symm hR2) (Ne.symm hR2))).trans z2
          cases c2 with
          | false =>
            go_simp
            refine hK.out undef _ W_ ?_ hI ⟨.refl _ _ _, id⟩ rfl
            simp only [frameOf, Act.put, List.setIfInBounds_toArray, List.set_cons_zero, List.set_cons_succ, Nat.zero_add, Nat.reduceAdd, h15, h18, cond_true, cond_false]
          | true =>
            try simp only [cond_true]
            go_simp
            refine hK.out (.int .i64 Y.n) _ W_ ?_ hI ⟨.refl _ _ _, id⟩ rfl
            simp only [frameOf, Act.put, List.setIfInBounds_toArray, List.set_cons_zero, List.set_cons_succ, Nat.zero_add, Nat.reduceAdd, h15, h18, cond_true, cond_false]
        · intro g_ W_ hI hd K hK
          simp only [frameOf, Act.put, List.setIfInBounds_toArray, List.set_cons_zero, List.set_cons_succ]
          have h15 : g_ 15 = .bool c2 := hd 15 (by kernel_rfl)
          have h17 : g_ 17 = (cond c2 (.int .i64 X.n) undef) := hd 17 (by kernel_rfl)
          have h19 : g_ 19 = (cond c2 (.int .i64 Y.n) undef) := hd 19 (by kernel_rfl)
          rw [h15, h17, h19]
          cases c2 with
          | false =>
            go_simp
            refine hK.out undef _ W_ ?_ hI ⟨.refl _ _ _, id⟩ rfl
            simp only [frameOf, Act.put, List.setIfInBounds_toArray, List.set_cons_zero, List.set_cons_succ, Nat.zero_add, Nat.reduceAdd, h15, h17, h19, cond_true, cond_false]
          | true =>
            try simp only [cond_true]
            go_simp
            refine hK.out (.bool bm) _ W_ ?_ hI ⟨.refl _ _ _, id⟩ rfl
            simp only [frameOf, Act.put, List.setIfInBounds_toArray, List.set_cons_zero, List.set_cons_succ, Nat.zero_add, Nat.reduceAdd, h15, h17, h19, cond_true, cond_false]
        · intro g_ W_ hI hd K hK
          simp only [frameOf, Act.put, List.setIfInBounds_toArray, List.set_cons_zero, List.set_cons_succ]
          have h15 : g_ 15 = .bool c2 := hd 15 (by kernel_rfl)
          have h20 : g_ 20 = (cond c2 (.bool bm) undef) := hd 20 (by kernel_rfl)
          rw [h15, h20]
          have hc := C3.out
          cases c2 with
          | false =>
            simp only [Bool.false_and] at hc
            go_simp
            refine hK.out (.bool false) _ W_ ?_ hI ⟨.refl _ _ _, id⟩ (by show Value.bool false = Value.bool c3; rw [hc])
            simp only [frameOf, Act.put, List.setIfInBounds_toArray, List.set_cons_zero, List.set_cons_succ, Nat.zero_add, Nat.reduceAdd, h15, h20, cond_true, cond_false]
          | true =>
            simp only [Bool.true_and] at hc
            try simp only [cond_true]
            clear hc
            go_simp
            have hc := C3.out
            simp only [Bool.true_and] at hc
            refine hK.out (.bool bm) _ W_ ?_ hI ⟨.refl _ _ _, id⟩ (by show Value.bool bm = Value.bool c3; rw [hc])
            simp only [frameOf, Act.put, List.setIfInBounds_toArray, List.set_cons_zero, List.set_cons_succ, Nat.zero_add, Nat.reduceAdd, h15, h20, cond_true, cond_false]
        · intro g_ W_ hI hd K hK
          simp only [frameOf, Act.put, List.setIfInBounds_toArray, List.set_cons_zero, List.set_cons_succ]
          have h21 : g_ 21 = .bool c3 := hd 21 (by kernel_rfl)
          rw [h21]
          go_simp
          refine hK.out (.bool c3) _ W_ ?_ hI ⟨.refl _ _ _, id⟩ rfl
          simp only [frameOf, Act.put, List.setIfInBounds_toArray, List.set_cons_zero, List.set_cons_succ, Nat.zero_add, Nat.reduceAdd, h21]
        · intro g_ W_ hI hd K hK
          simp only [frameOf, Act.put, List.setIfInBounds_toArray, List.set_cons_zero, List.set_cons_succ]
          have h22 : g_ 22 = .bool c3 := hd 22 (by kernel_rfl)
          rw [h22]
          cases c3 with
          | false =>
            go_simp
            refine hK.out undef _ W_ ?_ hI ⟨.refl _ _ _, id⟩ rfl
            simp only [frameOf, Act.put, List.setIfInBounds_toArray, List.set_cons_zero, List.set_cons_succ, Nat.zero_add, Nat.reduceAdd, h22, cond_true, cond_false]
          | true =>
            try simp only [cond_true]
            go_simp
            refine hK.out (.pointer (some ⟨T6, 3, none⟩)) _ W_ ?_ hI ⟨.refl _ _ _, id⟩ rfl
            simp only [frameOf, Act.put, List.setIfInBounds_toArray, List.set_cons_zero, List.set_cons_succ, Nat.zero_add, Nat.reduceAdd, h22, cond_true, cond_false]
        · intro g_ W_ hI hd K hK
          simp only [frameOf, Act.put, List.setIfInBounds_toArray, List.set_cons_zero, List.set_cons_succ]
          have h22 : g_ 22 = .bool c3 := hd 22 (by kernel_rfl)
          have h23 : g_ 23 = (cond c3 (.pointer (some ⟨T6, 3, none⟩)) undef) := hd 23 (by kernel_rfl)
          rw [h22, h23]
          have e0 := (World.cell?_of_block (a := ⟨T6, 3, none⟩) (hI.1.block T6 hT6 (Ne.symm hR1) (Ne.symm hR1))).trans x3
          cases c3 with
          | false =>
            go_simp
            refine hK.out undef _ W_ ?_ hI ⟨.refl _ _ _, id⟩ rfl
            simp only [frameOf, Act.put, List.setIfInBounds_toArray, List.set_cons_zero, List.set_cons_succ, Nat.zero_add, Nat.reduceAdd, h22, h23, cond_true, cond_false]
          | true =>
            try simp only [cond_true]
            go_simp
            refine hK.out (.slice X.p X.kids.len X.c) _ W_ ?_ hI ⟨.refl _ _ _, id⟩ rfl
            simp only [frameOf, Act.put, List.setIfInBounds_toArray, List.set_cons_zero, List.set_cons_succ, Nat.zero_add, Nat.reduceAdd, h22, h23, cond_true, cond_false]
        · intro g_ W_ hI hd K hK
          simp only [frameOf, Act.put, List.setIfInBounds_toArray, List.set_cons_zero, List.set_cons_succ]
          have h22 : g_ 22 = .bool c3 := hd 22 (by kernel_rfl)
          have h24 : g_ 24 = (cond c3 (.slice X.p X.kids.len X.c) undef) := hd 24 (by kernel_rfl)
          rw [h22, h24]
          cases c3 with
          | false =>
            go_simp
            refine hK.out undef _ W_ ?_ hI ⟨.refl _ _ _, id⟩ rfl
            simp only [frameOf, Act.put, List.setIfInBounds_toArray, List.set_cons_zero, List.set_cons_succ, Nat.zero_add, Nat.reduceAdd, h22, h24, cond_true, cond_false]
          | true =>
            try simp only [cond_true]
            go_simp
            refine hK.out (.int .i64 (X.kids.len : Nat)) _ W_ ?_ hI ⟨.refl _ _ _, id⟩ rfl
            simp only [frameOf, Act.put, List.setIfInBounds_toArray, List.set_cons_zero, List.set_cons_succ, Nat.zero_add, Nat.reduceAdd, h22, h24, cond_true, cond_false]
        · intro g_ W_ hI hd K hK
          simp only [frameOf, Act.put, List.setIfInBounds_toArray, List.set_cons_zero, List.set_cons_succ]
          have h22 : g_ 22 = .bool c3 := hd 22 (by kernel_rfl)
          rw [h22]
          cases c3 with
          | false =>
            go_simp
            refine hK.out undef _ W_ ?_ hI ⟨.refl _ _ _, id⟩ rfl
            simp only [frameOf, Act.put, List.setIfInBounds_toArray, List.set_cons_zero, List.set_cons_succ, Nat.zero_add, Nat.reduceAdd, h22, cond_true, cond_false]
          | true =>
            try simp only [cond_true]
            go_simp
            refine hK.out (.pointer (some ⟨T7, 3, none⟩)) _ W_ ?_ hI ⟨.refl _ _ _, id⟩ rfl
            simp only [frameOf, Act.put, List.setIfInBounds_toArray, List.set_cons_zero, List.set_cons_succ, Nat.zero_add, Nat.reduceAdd, h22, cond_true, cond_false]
        · intro g_ W_ hI hd K hK
          simp only [frameOf, Act.put, List.setIfInBounds_toArray, List.set_cons_zero, List.set_cons_succ]
          have h22 : g_ 22 = .bool c3 := hd 22 (by kernel_rfl)
          have h26 : g_ 26 = (cond c3 (.pointer (some ⟨T7, 3, none⟩)) undef) := hd 26 (by kernel_rfl)
          rw [h22, h26]
          have e0 := (World.cell?_of_block (a := ⟨T7, 3, none⟩) (hI.1.block T7 hT7 (Ne.symm hR2) (Ne.symm hR2))).trans z3
          cases c3 with
          | false =>
            go_simp
            refine hK.out undef _ W_ ?_ hI ⟨.refl _ _ _, id⟩ rfl
            simp only [frameOf, Act.put, List.setIfInBounds_toArray, List.set_cons_zero, List.set_cons_succ, Nat.zero_add, Nat.reduceAdd, h22, h26, cond_true, cond_false]
          | true =>
            try simp only [cond_true]
            go_simp
            refine hK.out (.slice Y.p Y.kids.len Y.c) _ W_ ?_ hI ⟨.refl _ _ _, id⟩ rfl
            simp only [frameOf, Act.put, List.setIfInBounds_toArray, List.set_cons_zero, List.set_cons_succ, Nat.zero_add, Nat.reduceAdd, h22, h26, cond_true, cond_false]
        · intro g_ W_ hI hd K hK
          simp only [frameOf, Act.put, List.setIfInBounds_toArray, List.set_cons_zero, List.set_cons_succ]
          have h22 : g_ 22 = .bool c3 := hd 22 (by kernel_rfl)
          have h27 : g_ 27 = (cond c3 (.slice Y.p Y.kids.len Y.c) undef) := hd 27 (by kernel_rfl)
          rw [h22, h27]
          cases c3 with
          | false =>
            go_simp
            refine hK.out undef _ W_ ?_ hI ⟨.refl _ _ _, id⟩ rfl
            simp only [frameOf, Act.put, List.setIfInBounds_toArray, List.set_cons_zero, List.set_cons_succ, Nat.zero_add, Nat.reduceAdd, h22, h27, cond_true, cond_false]
          | true =>
            try simp only [cond_true]
            go_simp
            refine hK.out (.int .i64 (Y.kids.len : Nat)) _ W_ ?_ hI ⟨.refl _ _ _, id⟩ rfl
            simp only [frameOf, Act.put, List.setIfInBounds_toArray, List.set_cons_zero, List.set_cons_succ, Nat.zero_add, Nat.reduceAdd, h22, h27, cond_true, cond_false]
        · intro g_ W_ hI hd K hK
          simp only [frameOf, Act.put, List.setIfInBounds_toArray, List.set_cons_zero, List.set_cons_succ]
          have h22 : g_ 22 = .bool c3 := hd 22 (by kernel_rfl)
          have h25 : g_ 25 = (cond c3 (.int .i64 (X.kids.len : Nat)) undef) := hd 25 (by kernel_rfl)
          have h28 : g_ 28 = (cond c3 (.int .i64 (Y.kids.len : Nat)) undef) := hd 28 (by kernel_rfl)
          rw [h22, h25, h28]
          cases c3 with
          | false =>
            go_simp
            refine hK.out undef _ W_ ?_ hI ⟨.refl _ _ _, id⟩ rfl
            simp only [frameOf, Act.put, List.setIfInBounds_toArray, List.set_cons_zero, List.set_cons_succ, Nat.zero_add, Nat.reduceAdd, h22, h25, h28, cond_true, cond_false]
          | true =>
            try simp only [cond_true]
            go_simp
            refine hK.out (.bool bl) _ W_ ?_ hI ⟨.refl _ _ _, id⟩ rfl
            simp only [frameOf, Act.put, List.setIfInBounds_toArray, List.set_cons_zero, List.set_cons_succ, Nat.zero_add, Nat.reduceAdd, h22, h25, h28, cond_true, cond_false]
        · intro g_ W_ hI hd K hK
          simp only [frameOf, Act.put, List.setIfInBounds_toArray, List.set_cons_zero, List.set_cons_succ]
          have h22 : g_ 22 = .bool c3 := hd 22 (by kernel_rfl)
          have h29 : g_ 29 = (cond c3 (.bool bl) undef) := hd 29 (by kernel_rfl)
          rw [h22, h29]
          have hc := C4.out
          cases c3 with
          | false =>
            simp only [Bool.false_and] at hc
            go_simp
            refine hK.out (.bool false) _ W_ ?_ hI ⟨.refl _ _ _, id⟩ (by show Value.bool false = Value.bool c4; rw [hc])
            simp only [frameOf, Act.put, List.setIfInBounds_toArray, List.set_cons_zero, List.set_cons_succ, Nat.zero_add, Nat.reduceAdd, h22, h29, cond_true, cond_false]
          | true =>
            simp only [Bool.true_and] at hc
            try simp only [cond_true]
            clear hc
            go_simp
            have hc := C4.out
            simp only [Bool.true_and] at hc
            refine hK.out (.bool bl) _ W_ ?_ hI ⟨.refl _ _ _, id⟩ (by show Value.bool bl = Value.bool c4; rw [hc])
            simp only [frameOf, Act.put, List.setIfInBounds_toArray, List.set_cons_zero, List.set_cons_succ, Nat.zero_add, Nat.reduceAdd, h22, h29, cond_true, cond_false]
        · intro g_ W_ hI hd K hK
          simp only [frameOf, Act.put, List.setIfInBounds_toArray, List.set_cons_zero, List.set_cons_succ]
          have h2 : g_ 2 = .agg #[.int .u8 X.k, .string X.s, .int .i64 X.n, .slice X.p X.kids.len X.c, .int .u8 Y.k, .string Y.s, .int .i64 Y.n, .slice Y.p Y.kids.len Y.c] := hd 2 (by kernel_rfl)
          rw [h2]
          obtain ⟨x9, y9, hp9⟩ := hI.2
          have q0 := hp9.c0
          have q1 := hp9.c1
          have q2 := hp9.c2
          have q3 := hp9.c3
          have q4 := hp9.c4
          have q5 := hp9.c5
          have q6 := hp9.c6
          have q7 := hp9.c7
          have qf := hp9.fr
          go_simp
          have hgp : G2 (w.heap.size + 1) (w.heap.size + 1) W_ (putP W_ (w.heap.size + 1) X Y) := .of_K (putP_grown _ _ _ _)
          refine hK.out undef _ (putP W_ (w.heap.size + 1) X Y) ?_ ⟨hI.1.trans hgp, X, Y, hp9.put⟩ ⟨hgp, fun _ => hp9.put⟩ hp9.put
          simp only [frameOf, Act.put, List.setIfInBounds_toArray, List.set_cons_zero, List.set_cons_succ, Nat.zero_add, Nat.reduceAdd, h2]
        · intro g_ W_ hI hd K hK
          simp only [frameOf, Act.put, List.setIfInBounds_toArray, List.set_cons_zero, List.set_cons_succ]
          have h30 : g_ 30 = .bool c4 := hd 30 (by kernel_rfl)
          rw [h30]
          go_simp
          refine hK.out (.bool c4) _ W_ ?_ hI ⟨.refl _ _ _, id⟩ rfl
          simp only [frameOf, Act.put, List.setIfInBounds_toArray, List.set_cons_zero, List.set_cons_succ, Nat.zero_add, Nat.reduceAdd, h30]
      case done9 =>
        intro f_ W_ hI hd
        have hP : PairIs (w.heap.size + 1) X Y W_ := hd 31 (by decide)
        have h32 : f_ 32 = .bool c4 := hd 32 (by decide)
        simp only [frameOf, Act.put, List.setIfInBounds_toArray, List.set_cons_zero, List.set_cons_succ, Nat.zero_add, Nat.reduceAdd, h32]
        have GK : G2 KB KB w W_ := G22.out.fresh2 hI.1 (by omega)
        have GF : Hid (G2 KB S w W_) := Lib.hid GK.one
        have UF : Hid (UAt KB S σ n (4096 - (4095 - m)) W_) := Lib.hid (by
          rw [show 4096 - (4095 - m) = m + 1 by omega]
          exact ⟨(hI.1.block KB U2.out.lt (by omega) (by omega)).trans U2.out.cell, UU.out.sub.g1 GK TK.out (fun e => UU.out.ne e.symm), UU.out.ne⟩)
        have XF : Hid (Ts.AtP P W_ X.p X.kids) := Lib.hid (AtP_imp (fun x _ hx => hx.1) (XAV.out.stay fun x hx hl => hI.1.block x hl hx.2 hx.2))
        have YF : Hid (Ts.AtP P W_ Y.p Y.kids) := Lib.hid (AtP_imp (fun x _ hx => hx.1) (YAV.out.stay fun x hx hl => hI.1.block x hl hx.2 hx.2))
        have C5 : Hid (headU X Y = c4) := Lib.hid (by rw [HF.out, C4.out, C3.out, C2.out]; cases c1 <;> cases bs <;> cases bm <;> rfl)
        have p0 := hP.c0
        have p1 := hP.c1
        have p2 := hP.c2
        have p3 := hP.c3
        have p4 := hP.c4
        have p5 := hP.c5
        have p6 := hP.c6
        have p7 := hP.c7
        have BL : Hid (c4 = true → X.kids.len = Y.kids.len) := Lib.hid fun h => by
          have h5 := C4.out
          rw [h] at h5
          have h6 : bl = true := by cases bl with
            | true => rfl
            | false => simp at h5
          have h7 := HL.out
          rw [h6] at h7
          simp at h7
          omega
        clear hd hI hP GK hk hs hnn hl
        cases c4 with
        | true =>
          have HLE := Lib.hid (BL.out rfl)
          have ON : Hid (one (4095 - m) n σ a b = .ok σ n (4095 - m) ((elems (wk σ a).kids).zip (elems (wk σ b).kids))) := Lib.hid (by rw [one_struct HK1.out HK2.out, HU.out, C5.out]; rfl)
          go_wp2
          exact bodyPost_ret (v := .tuple #[pairV X Y, .bool true]) (by simp [results, Tryz.results136, go_sem, p0, p1, p2, p3, p4, p5, p6, p7, pairV]) rfl (UOne.mk_okS GF.out ON.out UF.out ((elems_tw XTW.out.2.2.2).zip (elems_tw YTW.out.2.2.2)) HLE.out ⟨XF.out, XK.out.2.2.2.2.2.1, XK.out.2.2.2.1, XK.out.2.2.2.2.1, hXs⟩ ⟨YF.out, YK.out.2.2.2.2.2.1, YK.out.2.2.2.1, YK.out.2.2.2.2.1, hYs⟩)
        | false =>
          have ON : Hid (one (4095 - m) n σ a b = .no) := Lib.hid (by rw [one_struct HK1.out HK2.out, HU.out, C5.out]; rfl)
          go_wp2
          exact bodyPost_ret (v := .tuple #[pairV X Y, .bool false]) (by simp [results, Tryz.results136, go_sem, p0, p1, p2, p3, p4, p5, p6, p7, pairV]) rfl (UOne.mk_no GF.out ON.out)


end Go.Proofs.YtnmhnaanpjlniaaGreat
