import Derived.Test.YtnmhnaanpjlniaaBb
import Derived.Test.YtnmhnaanpjlniaaAv
import Derived.Test.YtnmhnaanpjlniaaAz
/-
  Layer 3: the document's applied terms. (Written by gen_bc.py.)
-/
namespace Go.Proofs.Ytnmhnaanpjlniaa
open Go.RowKit

theorem OwnL.push0 {base m : Nat} {e : TypeId} {v v' : Value} {acc U : Ts} {W W7 : World} (h : OwnL base e v acc W) (hown : W7.ownsRow base e 4 v' (acc.len + U.len) (cellsL acc ++ cellsL U))
    (hg : W.grownBy W7 v.ownBlock) (hob : v'.ownBlock = v.ownBlock ∨ v'.ownBlock = some W.heap.size) (hUok : U.ok) (hk : KidsP (fun b => m ≤ b) W U) (hm : base ≤ m) (hgm : ∀ q, v.ownBlock = some q → q < m) : OwnL base e v' (acc.app U) W7 := by
  obtain ⟨h1, h2, h3⟩ := h
  have hk' : KidsP (fun b => base ≤ b ∧ v.ownBlock ≠ some b) W U := KidsP.stay (fun _ _ _ => rfl) (fun b hb _ => ⟨by omega, fun e => by have := hgm b e; omega⟩) hk
  refine ⟨by rw [app_len, cellsL_app]; exact hown, app_ok h2 hUok, KidsP.stay (w := W) (fun b hb hlt => ?_) (fun b hb hlt => ?_) (KidsP.app h3 hk')⟩
  · exact hg.block b hlt (fun e => hb.2 e.symm)
  · refine ⟨hb.1, ?_⟩
    rcases hob with e | e
    · rw [e]; exact hb.2
    · rw [e]
      intro e2
      have e3 := Option.some.inj e2
      omega

/-- a box whose list is being made -/
structure OutIs (T : Nat) (X : Nd) (rv : Value) (w : World) : Prop where
  c0 : w.cell? ⟨T, 0, none⟩ = some (.int .u8 X.k)
  c1 : w.cell? ⟨T, 1, none⟩ = some (.string X.s)
  c2 : w.cell? ⟨T, 2, none⟩ = some (.int .i64 X.n)
  c3 : w.cell? ⟨T, 3, none⟩ = some rv
  fr : ∀ i, w.frozen? ⟨T, i, none⟩ = false

theorem OutIs.of_block {T : Nat} {X : Nd} {rv : Value} {w w' : World} (h : OutIs T X rv w) (hb : w'.heap[T]? = w.heap[T]?) : OutIs T X rv w' :=
  ⟨(World.cell?_of_block (a := ⟨T, 0, none⟩) hb).trans h.c0, (World.cell?_of_block (a := ⟨T, 1, none⟩) hb).trans h.c1, (World.cell?_of_block (a := ⟨T, 2, none⟩) hb).trans h.c2, (World.cell?_of_block (a := ⟨T, 3, none⟩) hb).trans h.c3, fun i => (World.frozen?_of_block (a := ⟨T, i, none⟩) hb).trans (h.fr i)⟩

theorem OutIs.lt {T : Nat} {X : Nd} {rv : Value} {w : World} (h : OutIs T X rv w) : T < w.heap.size := World.block_lt_of_cell? _ _ h.c0

theorem OutIs.put {T : Nat} {X : Nd} {rv : Value} {w : World} (h : OutIs T X rv w) (v : Value) : OutIs T X v (w.setCell ⟨T, 3, none⟩ v) :=
  ⟨by rw [World.cell?_setCell_other _ _ _ _ (by simp)]; exact h.c0, by rw [World.cell?_setCell_other _ _ _ _ (by simp)]; exact h.c1, by rw [World.cell?_setCell_other _ _ _ _ (by simp)]; exact h.c2, World.cell?_setCell_same _ _ _ h.c3, fun i => by simp [h.fr i]⟩

/-- what is made of a term: its node, and its parts applied -/
def RApp (σ : Sb) (X : Nd) (B : Nat) (v : Value) (w : World) : Prop := ∃ us q c, v = tv X.k X.s X.n q us.len c ∧ Ts.AtP (fun b => B ≤ b) w q us ∧ App σ (elems X.kids) us ∧ us.ok ∧ (us.len ≤ c ∧ c ≤ 9223372036854775807) ∧ (q = none → c = 0)

/-- between two rounds -/
structure ApIn (σ : Sb) (X : Nd) (N T B : Nat) (w : World) (j nj : Nat) (rv : Value) (acc : Ts) (wr : World) : Prop where
  jl : j ≤ X.kids.len
  al : acc.len = j
  bx : BoxIs N X wr
  out : OutIs T X rv wr
  res : BoxIs (N + 1) ⟨0, ⟨#[]⟩, 0, none, 0, .nil⟩ wr
  own : OwnL B 25 rv acc wr
  app : ∀ rs, App σ (elems (X.kids.drop j)) rs → App σ (elems X.kids) (acc.app rs)
  cnt : Cnt σ (elems (X.kids.drop j)) nj
  ord : N + 1 < T ∧ T < B ∧ B ≤ wr.heap.size ∧ w.heap.size ≤ N
  B : Below w.heap.size w wr

theorem RApp.below {σ : Sb} {X : Nd} {B : Nat} {v : Value} {w w' : World} (h : RApp σ X B v w) (hB : Below w.heap.size w w') : RApp σ X B v w' := by
  obtain ⟨us, q, c, h1, h2, h3⟩ := h
  exact ⟨us, q, c, h1, h2.stay fun b _ hb => hB.block b hb, h3⟩
theorem RApp.mono {σ : Sb} {X : Nd} {B B' : Nat} {v : Value} {w : World} (h : RApp σ X B v w) (hBB : B' ≤ B) : RApp σ X B' v w := by
  obtain ⟨us, q, c, h1, h2, h3⟩ := h
  exact ⟨us, q, c, h1, AtP_imp (fun b _ hb => Nat.le_trans hBB hb) h2, h3⟩

/-- one term applied, in a row of its own -/
def One (σ : Sb) (t : Nd) (B : Nat) (v : Value) (w : World) : Prop := ∃ (R : Nat) (U : Ts), v = .slice (some ⟨R, 0, none⟩) U.len 1 ∧ U.len = 1 ∧ Ts.At w (some ⟨R, 0, none⟩) U ∧ U.ok ∧ KidsP (fun b => B ≤ b) w U ∧ App σ [t] U
theorem One.below {σ : Sb} {t : Nd} {B : Nat} {v : Value} {w w' : World} (h : One σ t B v w) (hB : Below w.heap.size w w') : One σ t B v w' := by
  obtain ⟨R, U, h1, h2, h3, h4, h5, h6⟩ := h
  exact ⟨R, U, h1, h2, h3.below hB, h4, KidsP.stay (fun b _ hb => hB.block b hb) (fun _ hb _ => hb) h5, h6⟩

theorem One.new {σ : Sb} {t : Nd} {B : Nat} {w : World} {k : Int} {s : ByteArray} {n : Int} {q : Option Addr} {c : Nat} {us : Ts} (e1 : k = (wk σ t).k) (e2 : s = (wk σ t).s) (e3 : n = (wk σ t).n) (hX : (wk σ t).ok) (hat : Ts.AtP (fun b => B ≤ b) w q us) (happ : App σ (elems (wk σ t).kids) us) (hok : us.ok) (hc : us.len ≤ c ∧ c ≤ 9223372036854775807) (hq : q = none → c = 0) :
    One σ t B (.slice (some ⟨w.heap.size, 0, none⟩) 1 1) (w.alloc (.cells #[.int .u8 k, .string s, .int .i64 n, .slice q us.len c] 25)) := by
  have hA := BoxIs.new w ⟨k, s, n, q, c, us⟩ 25
  have hB : Below w.heap.size w (w.alloc (.cells #[.int .u8 k, .string s, .int .i64 n, .slice q us.len c] 25)) := (Below.refl _ _).alloc (Nat.le_refl _) _
  subst e1 e2 e3
  refine ⟨w.heap.size, .cons (wk σ t).k (wk σ t).s (wk σ t).n q c us .nil, rfl, rfl, ⟨_, _, .inr rfl, hA.c0, hA.c1, hA.c2, hA.c3, (AtP_at hat).below hB, trivial⟩, ⟨hX.1, hX.2.1, hX.2.2.1, hc, hq, hok, trivial⟩, ⟨hat.stay fun b _ hb => hB.block b hb, trivial⟩, .cons happ .nil⟩

theorem OwnL.far {base : Nat} {e : TypeId} {v : Value} {acc : Ts} {w w' : World} (h : OwnL base e v acc w) (hb : ∀ b, base ≤ b → w'.heap[b]? = w.heap[b]?) : OwnL base e v acc w' := by
  refine ⟨⟨h.1.1, ?_⟩, h.2.1, KidsP.stay (fun b hp _ => hb b hp.1) (fun _ hb _ => hb) h.2.2⟩
  rcases h.1.2 with h | ⟨g, cap, cur, e1, hg, h2, h3⟩
  · exact .inl h
  · exact .inr ⟨g, cap, cur, e1, hg, (hb g hg).trans h2, h3⟩

theorem App.one_app {σ : Sb} {t : Nd} {rest : List Nd} {U rs : Ts} (h : App σ [t] U) (h' : App σ rest rs) : App σ (t :: rest) (U.app rs) := by
  cases h with
  | cons h1 h2 => cases h2; exact .cons h1 h'

theorem Cnt.inv {σ : Sb} {t : Nd} {rest : List Nd} {n : Nat} (h : Cnt σ (t :: rest) n) : ∃ a b, Cnt σ (elems (wk σ t).kids) a ∧ Cnt σ rest b ∧ n = a + b + 1 := by
  cases h with
  | cons h h' => exact ⟨_, _, h, h', rfl⟩

set_option maxRecDepth 100000 in
set_option maxHeartbeats 16000000 in
theorem rapply_any (l : List (Int × Nd)) (hl : l.length ≤ 1000000) (hE : Ends (look l)) (hS : Small (look l)) : ∀ (n : Nat) (t : Nd), Cnt (look l) (elems (wk (look l) t).kids) n → n ≤ 4096 → t.ok → t.kids.size ≤ 5000 → ∀ (w : World) (lp : Option Addr) (lc : Nat), BsAt w lp l → Ts.At w t.p t.kids →
    Calls Try.prog 24 #[.slice lp l.length lc, .agg #[.int .u8 t.k, .string t.s, .int .i64 t.n, .slice t.p t.kids.len t.c]] w fun e w' => ∃ v, e = .returned v ∧ RApp (look l) (wk (look l) t) w.heap.size v w' ∧ Below w.heap.size w w' := by
  intro n
  induction n using Nat.strongRecOn with
  | ind n ih =>
  intro t hcnt hn hok hsz w lp lc hat htat
  have HE := Lib.hid hE
  have HSM := Lib.hid hS
  have AT := Lib.hid hat
  have hxw := fun (w' : World) (hB : Below w.heap.size w w') => walked_lies hE hS (hat.below hB) hok hsz (htat.below hB)
  obtain ⟨X, hX⟩ : ∃ X, X = wk (look l) t := ⟨_, rfl⟩
  rw [← hX] at hcnt hxw ⊢
  have HX := Lib.hid hX
  have XW := Lib.hid hxw
  have CNT := Lib.hid hcnt
  have hXs := (hxw w (Below.refl _ _)).2.1
  have hXl : X.kids.len ≤ 5000 := Nat.le_trans (Ts.len_size _) hXs
  clear hE hS hat hX hxw hcnt
  obtain ⟨tk, ts, tn, tp, tc, tks⟩ := t
  go_enter Try.func24, Try.ntmps24
  go_wp2_with fail
  obtain ⟨W0, hW0⟩ : ∃ W0, W0 = (w.alloc (.cells #[.int .u8 tk, .string ts, .int .i64 tn, .slice tp tks.len tc] 25)).alloc (.cells #[.int .u8 0, .string ⟨#[]⟩, .int .i64 0, .slice none 0 0] 25) := ⟨_, rfl⟩
  rw [← hW0]
  have hB0 : Below w.heap.size w W0 := by rw [hW0]; exact below2 _ _ _
  have hX0 : BoxIs w.heap.size ⟨tk, ts, tn, tp, tc, tks⟩ W0 := by rw [hW0]; exact (BoxIs.new w ⟨tk, ts, tn, tp, tc, tks⟩ _).below ((Below.refl _ _).alloc (Nat.le_refl _) _)
  have hY0 : BoxIs (w.heap.size + 1) ⟨0, ⟨#[]⟩, 0, none, 0, .nil⟩ W0 := by
    have := BoxIs.new (w.alloc (.cells #[.int .u8 tk, .string ts, .int .i64 tn, .slice tp tks.len tc] 25)) ⟨0, ⟨#[]⟩, 0, none, 0, .nil⟩ 25
    rw [World.size_alloc] at this
    rw [hW0]; exact this
  have B0 := Lib.hid hB0
  have X0 := Lib.hid hX0
  have Y0 := Lib.hid hY0
  clear hW0 hB0 hX0 hY0
  refine (rwalk_any l hl HE.out W0 lp lc (AT.out.below B0.out) tk ts tn tp tks tc).mono ?_
  rintro e w1 ⟨rfl, hB1⟩
  rw [← HX.out]
  replace X0 := Lib.hid (X0.out.below hB1)
  replace Y0 := Lib.hid (Y0.out.below hB1)
  replace B0 := Lib.hid (B0.out.trans (hB1.mono B0.out.size))
  clear hB1
  unfold Nd.val
  have c0 := X0.out.c0
  have c1 := X0.out.c1
  have c2 := X0.out.c2
  have c3 := X0.out.c3
  have f0 := X0.out.fr
  simp only at c0 c1 c2 c3
  have hlt1 : w.heap.size + 1 < w1.heap.size := Y0.out.lt
  go_upto_region 2 with fail
  obtain ⟨W1, hW1⟩ : ∃ W1, W1 = (((w1.setCell ⟨w.heap.size, 0, none⟩ (.int .u8 X.k)).setCell ⟨w.heap.size, 1, none⟩ (.string X.s)).setCell ⟨w.heap.size, 2, none⟩ (.int .i64 X.n)).setCell ⟨w.heap.size, 3, none⟩ (.slice X.p X.kids.len X.c) := ⟨_, rfl⟩
  have hX1 : BoxIs w.heap.size X W1 := by rw [hW1]; exact X0.out.put (y := X)
  have hY1 : BoxIs (w.heap.size + 1) ⟨0, ⟨#[]⟩, 0, none, 0, .nil⟩ W1 := Y0.out.of_block (by
    rw [hW1, Below.heap_setCell _ _ _ _ (by simp), Below.heap_setCell _ _ _ _ (by simp), Below.heap_setCell _ _ _ _ (by simp), Below.heap_setCell _ _ _ _ (by simp)])
  have hB1 : Below w.heap.size w W1 := by rw [hW1]; exact below_put4 B0.out (Nat.le_refl _) _ _ _ _
  have hs1 : W1.heap.size = w1.heap.size := by rw [hW1]; simp
  rw [← hW1]
  have Z1 := Lib.hid hW1
  clear hW1 X0 Y0 B0 c0 c1 c2 c3 f0
  have c0 := hX1.c0
  have c1 := hX1.c1
  have c2 := hX1.c2
  have c3 := hX1.c3
  go_upto_region 4 with fail
  obtain ⟨T, hT⟩ : ∃ T, T = w1.heap.size := ⟨_, rfl⟩
  rw [← hT] at hs1 hlt1
  obtain ⟨W2, hW2, hs2, hB2, hc2, hf2⟩ := alloc_new W1 #[.int .u8 X.k, .string X.s, .int .i64 X.n, .slice none 0 0] 25
  rw [hs1] at hs2 hc2 hf2
  have hIn : ApIn (look l) X w.heap.size T (T + 1) w 0 n (.slice none 0 0) .nil W2 :=
    ⟨Nat.zero_le _, rfl, hX1.below (by rw [← hs1] at *; exact hB2), ⟨hc2 0 _ rfl, hc2 1 _ rfl, hc2 2 _ rfl, hc2 3 _ rfl, hf2⟩, hY1.below hB2, OwnL.start _ _ _, (fun rs h => h), CNT.out, ⟨hlt1, by omega, by omega, Nat.le_refl _⟩, hB1.trans (hB2.mono hB1.size)⟩
  have IN := Lib.hid hIn
  have Z2 := Lib.hid hW2
  have TT := Lib.hid hT
  clear hIn hc2 hf2 hB2 hX1 hY1 hB1 c0 c1 c2 c3 hW2
  rw [← hT, ← Z2.out]
  clear hT
  go_wp2_with fail
  go_loopw [6] (fun s6 wr => ∃ (j nj : Nat) (rv : Value) (acc : Ts), s6 = .int .i64 j ∧ nj ≤ n ∧ Hid (ApIn (look l) X w.heap.size T (T + 1) w j nj rv acc wr)) (fun i _ => X.kids.len - (intOf i).toNat)
  case atStart => exact ⟨0, n, .slice none 0 0, .nil, rfl, Nat.le_refl _, IN⟩
  case round =>
    obtain ⟨j, nj, rv, acc, rfl, hnj, AI⟩ := hrel
    have hjl := AI.out.jl
    have ho1 := AI.out.ord.1
    have ho2 := AI.out.ord.2.1
    have ho3 := AI.out.ord.2.2.1
    by_cases hlt : j < X.kids.len
    · obtain ⟨hXo, _, b, o, hXp, hlies⟩ := XW.out wr AI.out.B
      replace hXp := Ts.some_of hXp hlt
      obtain ⟨k, s, m, p, c, kids, rest, hd, hEl, hsz1, hok1⟩ := Ts.elem hlies (Below.refl _ _) hXo.2.2.2.2.2.1 hlt
      have hcn := AI.out.cnt
      have happ := AI.out.app
      rw [hd.out] at hcn happ
      obtain ⟨a, nb, hca, hcb, hnab⟩ := Cnt.inv hcn
      have hks : kids.size ≤ 5000 := by omega
      have hdn : X.kids.drop (j + 1) = rest := Ts.drop_succ j _ hd.out
      have c3 := AI.out.bx.c3
      rw [hXp] at c3
      have CA := Lib.hid hca
      have CB := Lib.hid hcb
      have AP := Lib.hid happ
      have DN := Lib.hid hdn
      have EL := Lib.hid hEl
      have OK1 := Lib.hid hok1
      have hblt : b < wr.heap.size := hEl.lt
      have e3 := AI.out.out.c3
      clear hlies hXp hd hEl hok1 hcn happ hca hcb hdn
      go_upto_region 7 with fail
      have LT := Lib.hid hlt
      refine region_facts_mid (fun W_ => Below wr.heap.size wr W_) [fun u _ => u = .pointer (some ⟨T, 3, none⟩), fun u _ => u = rv, fun u _ => u = .slice lp l.length lc, fun u _ => u = .pointer (some ⟨w.heap.size, 3, none⟩), fun u _ => u = .slice (some ⟨b, o, none⟩) X.kids.len X.c, fun u _ => u = .int .i64 j, fun u _ => u = .pointer (some ⟨b, o + j * 4, none⟩), fun u _ => u = .agg #[.int .u8 k, .string s, .int .i64 m, .slice p kids.len c], fun u W => RApp (look l) (wk (look l) ⟨k, s, m, p, c, kids⟩) wr.heap.size u W, fun u W => One (look l) ⟨k, s, m, p, c, kids⟩ wr.heap.size u W] (fun u W => ∃ U : Ts, OwnL (T + 1) 25 u (acc.app U) W ∧ U.len = 1 ∧ App (look l) [⟨k, s, m, p, c, kids⟩] U ∧ Below (T + 1) wr W) 10 (fun i => if i = 11 then some (.pointer (some ⟨T, 3, none⟩)) else none)
        ⟨.eq _, .eq _, .eq _, .eq _, .eq _, .eq _, .eq _, .eq _, (fun _ _ _ h hB => h.below hB), (fun _ _ _ h hB => h.below hB), trivial⟩ (by kernel_rfl) (by kernel_rfl) (by kernel_rfl) (by kernel_rfl) _ rfl (Below.refl _ _).drew ?_ (by decide) rfl ?hll ?hlf
      case hll =>
        intro j' c' h
        by_cases e : j' = 11
        · subst e; decide
        · simp [e] at h
      case hlf =>
        intro j' c' h W'
        by_cases e : j' = 11
        · subst e; trivial
        · simp [e] at h
      refine ⟨?_, ?_, ?_, ?_, ?_, ?_, ?_, ?_, ?_, ?_, ?_, ?_, ?_, trivial⟩
      · refine KStep.of_early (by decide) (by decide) rfl ?_
        intro g_ W_ hz hI hd K hK
        simp only [frameOf, Act.put, List.setIfInBounds_toArray, List.set_cons_zero, List.set_cons_succ]
        go_simp
        refine hK.out (.pointer (some ⟨T, 3, none⟩)) _ W_ ?_ hI (Below.refl _ _) rfl
        simp only [frameOf, Act.put, List.setIfInBounds_toArray, List.set_cons_zero, List.set_cons_succ, Nat.zero_add, Nat.reduceAdd]
      · refine KStep.of_early (by decide) (by decide) rfl ?_
        intro g_ W_ hz hI hd K hK
        simp only [frameOf, Act.put, List.setIfInBounds_toArray, List.set_cons_zero, List.set_cons_succ]
        have h0 : g_ 0 = .pointer (some ⟨T, 3, none⟩) := hd 0 (by kernel_rfl)
        rw [h0]
        have c9 := ((stays hI).1 T 3 (World.block_lt_of_cell? _ _ e3)).trans e3
        go_simp
        refine hK.out rv _ W_ ?_ hI (Below.refl _ _) rfl
        simp only [frameOf, Act.put, List.setIfInBounds_toArray, List.set_cons_zero, List.set_cons_succ, Nat.zero_add, Nat.reduceAdd, h0]
      · refine KStep.of_early (by decide) (by decide) rfl ?_
        intro g_ W_ hz hI hd K hK
        simp only [frameOf, Act.put, List.setIfInBounds_toArray, List.set_cons_zero, List.set_cons_succ]
        go_simp
        refine hK.out (.slice lp l.length lc) _ W_ ?_ hI (Below.refl _ _) rfl
        simp only [frameOf, Act.put, List.setIfInBounds_toArray, List.set_cons_zero, List.set_cons_succ, Nat.zero_add, Nat.reduceAdd]
      · refine KStep.of_early (by decide) (by decide) rfl ?_
        intro g_ W_ hz hI hd K hK
        simp only [frameOf, Act.put, List.setIfInBounds_toArray, List.set_cons_zero, List.set_cons_succ]
        go_simp
        refine hK.out (.pointer (some ⟨w.heap.size, 3, none⟩)) _ W_ ?_ hI (Below.refl _ _) rfl
        simp only [frameOf, Act.put, List.setIfInBounds_toArray, List.set_cons_zero, List.set_cons_succ, Nat.zero_add, Nat.reduceAdd]
      · refine KStep.of_early (by decide) (by decide) rfl ?_
        intro g_ W_ hz hI hd K hK
        simp only [frameOf, Act.put, List.setIfInBounds_toArray, List.set_cons_zero, List.set_cons_succ]
        have h3 : g_ 3 = .pointer (some ⟨w.heap.size, 3, none⟩) := hd 3 (by kernel_rfl)
        rw [h3]
        have c9 := ((stays hI).1 w.heap.size 3 (World.block_lt_of_cell? _ _ c3)).trans c3
        go_simp
        refine hK.out (.slice (some ⟨b, o, none⟩) X.kids.len X.c) _ W_ ?_ hI (Below.refl _ _) rfl
        simp only [frameOf, Act.put, List.setIfInBounds_toArray, List.set_cons_zero, List.set_cons_succ, Nat.zero_add, Nat.reduceAdd, h3]
      · refine KStep.of_early (by decide) (by decide) rfl ?_
        intro g_ W_ hz hI hd K hK
        simp only [frameOf, Act.put, List.setIfInBounds_toArray, List.set_cons_zero, List.set_cons_succ]
        go_simp
        refine hK.out (.int .i64 j) _ W_ ?_ hI (Below.refl _ _) rfl
        simp only [frameOf, Act.put, List.setIfInBounds_toArray, List.set_cons_zero, List.set_cons_succ, Nat.zero_add, Nat.reduceAdd]
      · refine KStep.of_early (by decide) (by decide) rfl ?_
        intro g_ W_ hz hI hd K hK
        simp only [frameOf, Act.put, List.setIfInBounds_toArray, List.set_cons_zero, List.set_cons_succ]
        have h4 : g_ 4 = .slice (some ⟨b, o, none⟩) X.kids.len X.c := hd 4 (by kernel_rfl)
        have h5 : g_ 5 = .int .i64 j := hd 5 (by kernel_rfl)
        rw [h4, h5]
        go_simp
        refine hK.out (.pointer (some ⟨b, o + j * 4, none⟩)) _ W_ ?_ hI (Below.refl _ _) rfl
        simp only [frameOf, Act.put, List.setIfInBounds_toArray, List.set_cons_zero, List.set_cons_succ, Nat.zero_add, Nat.reduceAdd, h4, h5]
      · refine KStep.of_early (by decide) (by decide) rfl ?_
        intro g_ W_ hz hI hd K hK
        simp only [frameOf, Act.put, List.setIfInBounds_toArray, List.set_cons_zero, List.set_cons_succ]
        have h6 : g_ 6 = .pointer (some ⟨b, o + j * 4, none⟩) := hd 6 (by kernel_rfl)
        rw [h6]
        have EW := EL.out.below hI
        have c0 := EW.c0
        have c1 := EW.c1
        have c2 := EW.c2
        have c4 := EW.c3
        go_simp
        refine hK.out (.agg #[.int .u8 k, .string s, .int .i64 m, .slice p kids.len c]) _ W_ ?_ hI (Below.refl _ _) rfl
        simp only [frameOf, Act.put, List.setIfInBounds_toArray, List.set_cons_zero, List.set_cons_succ, Nat.zero_add, Nat.reduceAdd, h6]
      · refine KStep.of_early (by decide) (by decide) rfl ?_
        intro g_ W_ hz hI hd K hK
        simp only [frameOf, Act.put, List.setIfInBounds_toArray, List.set_cons_zero, List.set_cons_succ]
        have h2 : g_ 2 = .slice lp l.length lc := hd 2 (by kernel_rfl)
        have h7 : g_ 7 = .agg #[.int .u8 k, .string s, .int .i64 m, .slice p kids.len c] := hd 7 (by kernel_rfl)
        rw [h2, h7]
        go_simp
        refine (ih a (by omega) ⟨k, s, m, p, c, kids⟩ CA.out (by omega) OK1.out hks W_ lp lc (AT.out.below (AI.out.B.trans (hI.mono AI.out.B.size))) (EL.out.tat.below hI)).mono ?_
        rintro e w' ⟨v', rfl, hR, hB⟩
        refine hK.out v' _ w' ?_ (hI.trans (hB.mono hI.size)) hB (hR.mono hI.size)
        simp only [frameOf, Act.put, List.setIfInBounds_toArray, List.set_cons_zero, List.set_cons_succ, Nat.zero_add, Nat.reduceAdd, h2, h7]
      · refine KStep.of_early (by decide) (by decide) rfl ?_
        intro g_ W_ hz hI hd K hK
        simp only [frameOf, Act.put, List.setIfInBounds_toArray, List.set_cons_zero, List.set_cons_succ]
        obtain ⟨us, q, d, h8, hq8, ha8, hk8, hc8, hn8⟩ := hd 8 (by kernel_rfl)
        rw [h8]
        unfold tv at h8 ⊢
        go_simp
        refine hK.out (.slice (some ⟨W_.heap.size, 0, none⟩) 1 1) _ _ ?_ (hI.alloc hI.size _) ((Below.refl _ _).alloc (Nat.le_refl _) _) (One.new rfl rfl rfl (walked_lies (t := ⟨k, s, m, p, c, kids⟩) HE.out HSM.out (AT.out.below AI.out.B) OK1.out hks EL.out.tat).1 hq8 ha8 hk8 hc8 hn8)
        simp only [frameOf, Act.put, List.setIfInBounds_toArray, List.set_cons_zero, List.set_cons_succ, Nat.zero_add, Nat.reduceAdd, h8]
      · refine KStep.of_mid rfl (by decide) rfl ?_
        intro g_ W_ hz hI hd K hK
        simp only [frameOf, Act.put, List.setIfInBounds_toArray, List.set_cons_zero, List.set_cons_succ]
        have h1 : g_ 1 = rv := hd 1 (by decide) (by decide) rfl
        have h9 := hd 9 (by decide) (by decide) rfl
        replace h9 : One (look l) ⟨k, s, m, p, c, kids⟩ wr.heap.size (g_ 9) W_ := h9
        obtain ⟨R, U, e9, hU1, hUat, hUok, hUk, hUa⟩ := h9
        rw [h1, e9]
        refine if_wanted rfl ?_
        have hown := AI.out.own.below hI
        have hlt2 := hown.1.lt
        have hsI := hI.size
        have hal := AI.out.al
        refine wp_app_terms _ _ rfl (T + 1) rv acc.len (cellsL acc) rfl hown.1 (some ⟨R, 0, none⟩) U 1 rfl (fun h => by cases h) hUat (by omega) (by omega) ?_
        intro v' w' hown' hgr hob
        refine hK.out v' _ w' ?_ ⟨U, OwnL.push0 hown hown' hgr hob hUok hUk ho3 (fun q hq => (AI.out.own.1.lt q hq).2), hU1, hUa, (hI.mono ho3).grown hgr (by omega) (fun q hq => (hlt2 q hq).1)⟩
        simp only [frameOf, Act.put, List.setIfInBounds_toArray, List.set_cons_zero, List.set_cons_succ, Nat.zero_add, Nat.reduceAdd, h1, e9]
      · refine KStep.of_late (by decide) (by decide) rfl ?_
        intro g_ W_ hz K hK
        simp only [frameOf, Act.put, List.setIfInBounds_toArray, List.set_cons_zero, List.set_cons_succ]
        go_simp
        refine hK.out _ ?_
        simp only [frameOf, Act.put, List.setIfInBounds_toArray, List.set_cons_zero, List.set_cons_succ, Nat.zero_add, Nat.reduceAdd]
      · refine KStep.of_last (by decide) rfl rfl ?_
        intro g_ W_ hz hJ hd K hK
        simp only [frameOf, Act.put, List.setIfInBounds_toArray, List.set_cons_zero, List.set_cons_succ]
        obtain ⟨U, hO, hU1, hUa, hBT⟩ := hJ
        have h11 : g_ 11 = .pointer (some ⟨T, 3, none⟩) := hd 11 _ rfl
        obtain ⟨q2, d2, e10, -, -, -⟩ := hO.read
        rw [h11, e10]
        rw [e10] at hO
        have hout := AI.out.out.of_block (hBT.block T ho2)
        have c9 := hout.c3
        have f9 := hout.fr 3
        have HO := Lib.hid hO
        have OU := Lib.hid hout
        have BT := Lib.hid hBT
        have U1 := Lib.hid hU1
        have E10 := Lib.hid e10
        have H11 := Lib.hid h11
        clear hO hout hBT hU1 hd hz h11 e10
        go_simp
        refine hK.out undef _ _ ?_ ?_
        · simp only [frameOf, Act.put, List.setIfInBounds_toArray, List.set_cons_zero, List.set_cons_succ, Nat.zero_add, Nat.reduceAdd, H11.out, E10.out]
        · simp only [frameOf, Act.put, List.setIfInBounds_toArray, List.set_cons_zero, List.set_cons_succ, Nat.zero_add, Nat.reduceAdd, H11.out, E10.out]
          clear hK K
          go_wp2
          go_roundw
          case rel =>
            have hN : ∀ b, b < T + 1 → b ≠ T → (W_.setCell ⟨T, 3, none⟩ (.slice q2 (acc.app U).len d2)).heap[b]? = wr.heap[b]? := fun b hb hne => by
              rw [Below.heap_setCell _ _ _ _ (by simpa using hne)]; exact BT.out.block b hb
            have hBs := BT.out.size
            refine ⟨j + 1, nb, _, acc.app U, by go_num, by omega, Lib.hid ⟨hlt, by rw [app_len, AI.out.al, U1.out], AI.out.bx.of_block (hN _ (by omega) (by omega)), OU.out.put _, AI.out.res.of_block (hN _ (by omega) (by omega)), HO.out.far fun b hb => Below.heap_setCell _ _ _ _ (by simp; omega), fun rs hrs => ?_, by rw [DN.out]; exact CB.out, ⟨ho1, ho2, by simp; omega, AI.out.ord.2.2.2⟩, (AI.out.B.trans (BT.out.mono (by have := AI.out.ord.2.2.2; omega))).setCell (p := ⟨T, 3, none⟩) (by have := AI.out.ord.2.2.2; simp; omega) _⟩⟩
            rw [DN.out] at hrs
            rw [app_assoc]
            exact AP.out _ (hUa.one_app hrs)
          case measure => simp [intOf]; omega
    · obtain ⟨q, c, e1, hqa, hqc, hqn⟩ := AI.out.own.read
      have happ := AI.out.app .nil (by rw [Ts.drop_end hlt]; exact .nil)
      rw [app_nil] at happ
      have o0 := AI.out.out.c0
      have o1 := AI.out.out.c1
      have o2 := AI.out.out.c2
      have o3 := AI.out.out.c3
      rw [e1] at o3
      have c3 := AI.out.bx.c3
      have y0 := AI.out.res.c0
      have y1 := AI.out.res.c1
      have y2 := AI.out.res.c2
      have y3 := AI.out.res.c3
      have yf := AI.out.res.fr
      have QA := Lib.hid hqa
      have QC := Lib.hid (And.intro hqc hqn)
      have AP := Lib.hid happ
      clear e1 hqa hqc hqn happ
      go_wp2
      have P := AI.out.res.put (y := ⟨X.k, X.s, X.n, q, c, acc⟩)
      have p0 := P.c0
      have p1 := P.c1
      have p2 := P.c2
      have p3 := P.c3
      have ho4 := AI.out.ord.2.2.2
      exact bodyPost_ret (v := tv X.k X.s X.n q acc.len c) (by simp [results, Try.results24, go_sem, p0, p1, p2, p3, tv]) rfl ⟨_, rfl, ⟨acc, q, c, rfl, (AtP_imp (fun b _ hb => ⟨hb, by omega⟩) QA.out : Ts.AtP (fun b => T + 1 ≤ b ∧ w.heap.size ≤ b) wr q acc).stay (fun b hb _ => by
        rw [Below.heap_setCell _ _ _ _ (by simp; omega), Below.heap_setCell _ _ _ _ (by simp; omega), Below.heap_setCell _ _ _ _ (by simp; omega), Below.heap_setCell _ _ _ _ (by simp; omega)]) |> AtP_imp (fun b _ hb => hb.2), AP.out, AI.out.own.2.1, QC.out.1, QC.out.2⟩, below_put4 AI.out.B (by omega) _ _ _ _⟩

end Go.Proofs.Ytnmhnaanpjlniaa
