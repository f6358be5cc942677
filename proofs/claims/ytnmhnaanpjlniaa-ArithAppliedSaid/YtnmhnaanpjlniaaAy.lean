import Derived.Test.YtnmhnaanpjlniaaUa0
import Derived.Test.YtnmhnaanpjlniaaTq
import Derived.Test.YtnmhnaanpjlniaaAj
/-
  Layer 3: whether bindings and a term are too great.
-/
namespace Go.Proofs.Ytnmhnaanpjlniaa
open Go.RowKit

/-- the terms that are bound -/
def bsTs : List (Int × Nd) → Ts
  | [] => .nil
  | (_, x) :: l => .cons x.k x.s x.n x.p x.c x.kids (bsTs l)

theorem bsTs_len : ∀ l : List (Int × Nd), (bsTs l).len = l.length
  | [] => rfl
  | (_, _) :: l => by simp only [bsTs, Ts.len, List.length_cons, bsTs_len l]

theorem bsTs_app : ∀ l m : List (Int × Nd), bsTs (l ++ m) = (bsTs l).app (bsTs m)
  | [], _ => rfl
  | (_, x) :: l, m => by simp only [List.cons_append, bsTs, Ts.app, bsTs_app l m]

theorem BsLies.kids {w : World} : ∀ {l : List (Int × Nd)} {b o : Nat}, BsLies w b o l → KidsAt w (bsTs l)
  | [], _, _, _ => trivial
  | (_, _) :: _, _, _, ⟨_, _, _, _, _, h, h'⟩ => ⟨h, BsLies.kids h'⟩

theorem BsAt.kids {w : World} {p : Option Addr} {l : List (Int × Nd)} (h : BsAt w p l) : KidsAt w (bsTs l) := by
  obtain ⟨b, o, _, h⟩ := h
  exact h.kids

/-- more than forty bindings, or a thousand nodes -/
def bGreat (l : List (Int × Nd)) (t : Nd) : Bool := if 40 < l.length then true else decide (1000 < manyP (.cons t.k t.s t.n t.p t.c t.kids (bsTs l)) 0)

theorem bGreat_size {l : List (Int × Nd)} {t : Nd} (h : bGreat l t = false) : l.length ≤ 40 ∧ t.kids.size ≤ 5000 ∧ (bsTs l).size ≤ 5000 := by
  unfold bGreat at h
  by_cases h40 : 40 < l.length
  · rw [if_pos h40] at h; cases h
  · rw [if_neg h40] at h
    have := small_of_many (ts := .cons t.k t.s t.n t.p t.c t.kids (bsTs l)) (by simpa using h)
    simp only [Ts.size] at this
    omega

set_option maxRecDepth 100000 in
set_option maxHeartbeats 4000000 in
theorem bgreat_any (l : List (Int × Nd)) (t : Nd) (hl63 : l.length ≤ 9223372036854775807) (hbok : (bsTs l).ok) (w : World) (lp : Option Addr) (lc : Nat) (hat : BsAt w lp l) (hok : t.ok) (htat : Ts.At w t.p t.kids) :
    Calls Try.prog 10 #[.slice lp l.length lc, .agg #[.int .u8 t.k, .string t.s, .int .i64 t.n, .slice t.p t.kids.len t.c]] w fun e w' => e = .returned (.bool (bGreat l t)) ∧ Below w.heap.size w w' := by
  by_cases h40 : 40 < l.length
  · have R := Lib.hid (by unfold bGreat; rw [if_pos h40] : bGreat l t = true)
    clear hbok hat hok htat
    go_enter Try.func10, Try.ntmps10
    go_wp2
    go_ret
    exact ⟨by rw [R.out]; rfl, (Below.refl _ _).alloc (Nat.le_refl _) _⟩
  · obtain ⟨g, hg⟩ : ∃ g, g = decide (1000 < manyP (.cons t.k t.s t.n t.p t.c t.kids (bsTs l)) 0) := ⟨_, rfl⟩
    have R := Lib.hid (by unfold bGreat; rw [if_neg h40, hg] : bGreat l t = g)
    have HG := Lib.hid hg
    obtain ⟨b, o, hp, hlies⟩ := hat
    have HP := Lib.hid hp
    have LI := Lib.hid hlies
    have BOK := Lib.hid hbok
    have OK := Lib.hid hok
    have TAT := Lib.hid htat
    obtain ⟨i0, hi, hz0, hz1, hz2⟩ := info_parts infoTerm
    clear hg hp hlies hbok hok htat
    go_enter Try.func10, Try.ntmps10
    go_wp2_with fail
    obtain ⟨W0, hW0⟩ : ∃ W0, W0 = (w.alloc (.cells #[.int .u8 t.k, .string t.s, .int .i64 t.n, .slice t.p t.kids.len t.c] 25)).alloc (.cells #[.int .u8 t.k, .string t.s, .int .i64 t.n, .slice t.p t.kids.len t.c] 25) := ⟨_, rfl⟩
    rw [← hW0]
    have hB0 : Below w.heap.size w W0 := by rw [hW0]; exact below2 _ _ _
    have hrow0 : W0.ownsRow w.heap.size 25 4 (.slice (some ⟨w.heap.size + 1, 0, none⟩) 1 1) (0 + 1) (cellsL (.cons t.k t.s t.n t.p t.c t.kids (bsTs (l.take 0)))) := by
      refine ⟨rfl, .inr ⟨w.heap.size + 1, 1, #[.int .u8 t.k, .string t.s, .int .i64 t.n, .slice t.p t.kids.len t.c], rfl, by omega, ?_, by omega, by decide, rfl, rfl⟩⟩
      rw [hW0]
      have h := World.size_alloc w (.cells #[.int .u8 t.k, .string t.s, .int .i64 t.n, .slice t.p t.kids.len t.c] 25)
      rw [← h]
      exact heap_alloc_new _ _
    have BB0 := Lib.hid hB0
    clear hB0 hW0
    go_loopw [5, 6] (fun s5 s6 wr => ∃ j : Nat, j ≤ l.length ∧ s6 = .int .i64 j ∧ wr.ownsRow w.heap.size 25 4 s5 (j + 1) (cellsL (.cons t.k t.s t.n t.p t.c t.kids (bsTs (l.take j)))) ∧ Hid (Below w.heap.size w wr)) (fun _ i _ => l.length - (intOf i).toNat)
    case atStart => exact ⟨0, by omega, rfl, hrow0, BB0⟩
    case round =>
      obtain ⟨j, hj, rfl, hrow, BB⟩ := hrel
      have RW := Lib.hid hrow
      clear hrow hrow0
      by_cases hlt : j < l.length
      · have hpp : lp = some ⟨b, o, none⟩ := by
          rcases HP.out with h | h
          · rw [h] at hlt; simp at hlt
          · exact h
        subst hpp
        obtain ⟨⟨u, x⟩, hux⟩ : ∃ ux, l[j]? = some ux := ⟨_, List.getElem?_eq_getElem hlt⟩
        have EL := (LI.out.stay (stays BB.out).1).get hux
        have c1 := EL.c1
        have c2 := EL.c2
        have c3 := EL.c3
        have c4 := EL.c4
        obtain ⟨U, hU⟩ : ∃ U : Ts, U = .cons x.k x.s x.n x.p x.c x.kids .nil := ⟨_, rfl⟩
        have htk : (Ts.cons t.k t.s t.n t.p t.c t.kids (bsTs (l.take (j + 1)))) = (Ts.cons t.k t.s t.n t.p t.c t.kids (bsTs (l.take j))).app U := by
          have h := List.getElem?_eq_some_iff.1 hux
          rw [List.take_add_one, hux, Option.toList, bsTs_app, hU]
          rfl
        have HT := Lib.hid htk
        have hU1 : U.len = 1 := by rw [hU]; rfl
        have hcu : (cellsL U).length = 1 * 4 := by rw [cellsL_length, hU1]
        have hnews : ∀ i v, (cellsL U)[i]? = some v → (wr.alloc (.cells #[.int .u8 x.k, .string x.s, .int .i64 x.n, .slice x.p x.kids.len x.c] 25)).cell? ((⟨wr.heap.size, 0, none⟩ : Addr).add i) = some v := by
          obtain ⟨W6, hW6, hs6, hB6, hc6, -⟩ := alloc_new wr #[.int .u8 x.k, .string x.s, .int .i64 x.n, .slice x.p x.kids.len x.c] 25
          intro i v hiv
          rw [Go.WideShapes.add_plain, Nat.zero_add, ← hW6]
          refine hc6 i v ?_
          rw [hU] at hiv
          simpa [cellsL] using hiv
        have hBs := BB.out.size
        have hwl := BB.out
        have hown0 := RW.out.alloc (.cells #[.int .u8 x.k, .string x.s, .int .i64 x.n, .slice x.p x.kids.len x.c] 25)
        have O0 := Lib.hid hown0
        have N0 := Lib.hid hnews
        have U1 := Lib.hid hU1
        have CU := Lib.hid hcu
        clear EL hux htk hU hU1 hcu hnews hown0 hwl
        go_wp2_with (at_builtin; refine wpList_append_own_at _ rfl _ _ 23 rfl w.heap.size 25 i0 zeroTerm 4 56 Try.underlying23 hi hz0 hz1 hz2 rfl (by decide) _ _ _ rfl O0.out ⟨wr.heap.size, 0, none⟩ 1 1 (cellsL U) rfl CU.out N0.out (cellsL_one U) (by unfold maxLen; omega) (by omega) (by simp; omega) ?_; intro v5 W7 hown2 hgrow2 hnil hob; have X := Lib.hid (And.intro hown2 hgrow2); clear hown2 hgrow2 hnil hob)
        have BW7 := Lib.hid ((BB.out.alloc hBs (.cells #[.int .u8 x.k, .string x.s, .int .i64 x.n, .slice x.p x.kids.len x.c] 25)).grown X.out.2 (by simp; omega) (fun q' hq' => (RW.out.lt q' hq').1))
        go_roundw
        case rel =>
          refine ⟨j + 1, by omega, by go_num, ?_, BW7⟩
          rw [HT.out, cellsL_app]
          exact X.out.1
        case measure => simp [intOf]; omega
      · obtain rfl : j = l.length := by omega
        have hrow := RW.out
        rw [List.take_length] at hrow
        obtain ⟨q, cc, rfl, h2, h3, h4, _⟩ := row_terms hrow (by simp only [Ts.len, bsTs_len]) ⟨TAT.out.below BB.out, (BsAt.kids (p := some ⟨b, o, none⟩) ⟨b, o, .inr rfl, LI.out.stay (stays BB.out).1⟩)⟩
        have A2 := Lib.hid h2
        clear hrow h2 h3 h4 RW
        go_wp2_with fail
        refine (great_is (.cons t.k t.s t.n t.p t.c t.kids (bsTs l)) ⟨OK.out.1, OK.out.2.1, OK.out.2.2.1, OK.out.2.2.2.1, OK.out.2.2.2.2.1, OK.out.2.2.2.2.2.1, BOK.out⟩ g HG.out.symm wr q cc A2.out (by simp only [Ts.len, bsTs_len]; omega)).mono ?_
        rintro e w8 ⟨rfl, hB⟩
        have B8 := Lib.hid (BB.out.trans (hB.mono BB.out.size))
        clear hB
        go_wp2
        go_ret
        exact ⟨by rw [R.out]; rfl, B8.out⟩

end Go.Proofs.Ytnmhnaanpjlniaa
/-
  Layer 3: substitutions that are alike: what is walked, visited and bound is alike.
-/
namespace Go.Proofs.Ytnmhnaanpjlniaa
open Go.RowKit

theorem Nd.twin_refl (x : Nd) : x.twin x := ⟨rfl, rfl, rfl, Ts.twin_refl _⟩

/-- lists of terms that are alike -/
inductive TwL : List Nd → List Nd → Prop
  | nil : TwL [] []
  | cons {x y : Nd} {l m : List Nd} (h : x.twin y) (h' : TwL l m) : TwL (x :: l) (y :: m)

theorem TwL.app {a b : List Nd} (h : TwL a b) {c d : List Nd} (h' : TwL c d) : TwL (a ++ c) (b ++ d) := by
  induction h with
  | nil => exact h'
  | cons h1 _ ih => exact .cons h1 ih

theorem TwL.length {a b : List Nd} (h : TwL a b) : a.length = b.length := by
  induction h with
  | nil => rfl
  | cons _ _ ih => simp [ih]

theorem elems_tw : ∀ {u v : Ts}, Ts.twin u v → TwL (elems u) (elems v)
  | .nil, .nil, _ => .nil
  | .cons _ _ _ _ _ _ _, .cons _ _ _ _ _ _ _, h => .cons ⟨h.1, h.2.1, h.2.2.1, h.2.2.2.1⟩ (elems_tw h.2.2.2.2)
  | .nil, .cons .., h => h.elim
  | .cons .., .nil, h => h.elim

/-- substitutions that are alike -/
structure STw (σ ρ : Sb) : Prop where
  no : ∀ v, σ v = none → ρ v = none
  yes : ∀ v x, σ v = some x → ∃ y, ρ v = some y ∧ x.twin y

theorem STw.isSome {σ ρ : Sb} (h : STw σ ρ) (v : Int) : (σ v).isSome = (ρ v).isSome := by
  cases hv : σ v with
  | none => rw [h.no v hv]
  | some x => obtain ⟨y, hy, _⟩ := h.yes v x hv; rw [hy]; rfl

theorem Wk.tw {σ ρ : Sb} (h : STw σ ρ) {t r : Nd} {m : Nat} (hw : Wk σ t r m) : ∀ {t' : Nd}, t.twin t' → ∃ r', Wk ρ t' r' m ∧ r.twin r' := by
  induction hw with
  | @stop t hs =>
    intro t' ht
    refine ⟨t', .stop ?_, ht⟩
    rcases hs with hs | hs
    · exact .inl (by rw [← ht.1]; exact hs)
    · exact .inr (by rw [← ht.2.2.1]; exact h.no _ hs)
  | @go t b r m hk hb _ ih =>
    intro t' ht
    obtain ⟨y, hy, hty⟩ := h.yes _ _ hb
    obtain ⟨r', h1, h2⟩ := ih hty
    exact ⟨r', .go (by rw [← ht.1]; exact hk) (by rw [← ht.2.2.1]; exact hy) h1, h2⟩

theorem STw.ends {σ ρ : Sb} (h : STw σ ρ) (hE : Ends σ) : Ends ρ := fun t => by
  obtain ⟨r, m, hw⟩ := hE t
  obtain ⟨r', h1, _⟩ := hw.tw h (Nd.twin_refl t)
  exact ⟨r', m, h1⟩

theorem STw.wk {σ ρ : Sb} (h : STw σ ρ) (hE : Ends σ) {t t' : Nd} (ht : t.twin t') : (wk σ t).twin (Go.Proofs.Ytnmhnaanpjlniaa.wk ρ t') := by
  obtain ⟨r', h1, h2⟩ := (wk_spec hE t).tw h ht
  rw [wk_eq h1]
  exact h2

theorem STw.vis {σ ρ : Sb} (h : STw σ ρ) (hE : Ends σ) : ∀ (f : Nat) {l l' : List Nd}, TwL l l' → TwL (vis σ f l) (Go.Proofs.Ytnmhnaanpjlniaa.vis ρ f l')
  | 0, _, _, _ => by simp only [Go.Proofs.Ytnmhnaanpjlniaa.vis]; exact .nil
  | f + 1, _, _, .nil => by simp only [Go.Proofs.Ytnmhnaanpjlniaa.vis]; exact .nil
  | f + 1, _, _, .cons ht hl => by
    simp only [Go.Proofs.Ytnmhnaanpjlniaa.vis]
    have hw := h.wk hE ht
    exact .cons hw (h.vis hE f ((elems_tw hw.2.2.2).app hl))

theorem occ_tw (v : Int) {a b : List Nd} (h : TwL a b) : ∀ i, occ v (num i a) = occ v (num i b) := by
  induction h with
  | nil => intro i; rfl
  | cons h1 _ ih =>
    intro i
    simp only [num, occ]
    rw [h1.1, h1.2.2.1, ih]

theorem bindE_tw {σ ρ : Sb} (h : STw σ ρ) (hE : Ends σ) (v : Int) (t : Nd) : bindE σ v t = bindE ρ v t := by
  unfold bindE
  rw [h.isSome, occ_tw v (h.vis hE 4097 (.cons (Nd.twin_refl t) .nil)) 0]

theorem STw.none : STw Sb.none (look []) := ⟨fun _ _ => rfl, fun _ _ h => by cases h⟩

theorem look_snoc : ∀ (l : List (Int × Nd)) (v : Int) (x : Nd) (u : Int), look (l ++ [(v, x)]) u = (look l u).or (if (v == u) = true then some x else Option.none)
  | [], v, x, u => by simp only [List.nil_append, look]; split <;> rfl
  | (a, y) :: l, v, x, u => by
    simp only [List.cons_append, look]
    split
    · rfl
    · exact look_snoc l v x u

theorem STw.put {σ : Sb} {l : List (Int × Nd)} (h : STw σ (look l)) {v : Int} {x t : Nd} (hn : look l v = Option.none) (ht : x.twin t) : STw (σ.put v x) (look (l ++ [(v, t)])) := by
  refine ⟨fun u hu => ?_, fun u y hy => ?_⟩
  · by_cases e : u = v
    · subst e; rw [Sb.put_same] at hu; cases hu
    · rw [Sb.put_other e] at hu
      rw [look_snoc, h.no u hu, if_neg (by simpa using fun e' => e e'.symm)]
      rfl
  · by_cases e : u = v
    · subst e
      rw [Sb.put_same] at hy
      cases hy
      exact ⟨t, by rw [look_snoc, hn]; simp, ht⟩
    · rw [Sb.put_other e] at hy
      obtain ⟨z, hz, hyz⟩ := h.yes u y hy
      exact ⟨z, by rw [look_snoc, hz]; rfl, hyz⟩

/-- the cells of bindings, one behind the other -/
def cellsB : List (Int × Nd) → List Value
  | [] => []
  | (v, x) :: l => .int .i64 v :: .int .u8 x.k :: .string x.s :: .int .i64 x.n :: .slice x.p x.kids.len x.c :: cellsB l

theorem cellsB_length : ∀ l : List (Int × Nd), (cellsB l).length = l.length * 5
  | [] => rfl
  | (_, _) :: l => by simp only [cellsB, List.length_cons, cellsB_length l]; omega

theorem cellsB_app : ∀ l m : List (Int × Nd), cellsB (l ++ m) = cellsB l ++ cellsB m
  | [], _ => rfl
  | (_, _) :: l, m => by simp only [List.cons_append, cellsB, cellsB_app l m]

theorem cellsB_one : ∀ (l : List (Int × Nd)), ∀ u ∈ cellsB l, u.oneCell' = true
  | [], u, h => by cases h
  | (_, _) :: l, u, h => by
    simp only [cellsB, List.mem_cons] at h
    rcases h with rfl | rfl | rfl | rfl | rfl | h
    · rfl
    · rfl
    · rfl
    · rfl
    · rfl
    · exact cellsB_one l u h

theorem bsLies_cells {w : World} : ∀ {l : List (Int × Nd)} {b o : Nat}, (∀ (j : Nat) (u : Value), (cellsB l)[j]? = some u → w.cell? ⟨b, o + j, none⟩ = some u) → KidsAt w (bsTs l) → BsLies w b o l
  | [], _, _, _, _ => trivial
  | (v, x) :: l, b, o, h, hk => by
    refine ⟨h 0 _ rfl, h 1 _ rfl, h 2 _ rfl, h 3 _ rfl, h 4 _ rfl, hk.1, bsLies_cells (fun j u hj => ?_) hk.2⟩
    have := h (j + 5) u (by simpa [cellsB] using hj)
    rw [show o + 5 + j = o + (j + 5) from by omega]
    exact this

theorem bsRow_cells {w : World} {g n : Nat} {e : TypeId} {cur : Array Value} {xs : List Value} (hg : w.heap[g]? = some (.cells cur e (0, 0))) (ht : cur.toList.take (n * 5) = xs) (hl : xs.length = n * 5) : ∀ j u, xs[j]? = some u → w.cell? ⟨g, 0 + j, none⟩ = some u := by
  exact (row_cells (size := 5) hg ht hl).1

/-- a row of one's own, as bindings -/
theorem row_bs {w : World} {base : Nat} {v : Value} {l : List (Int × Nd)} (h : w.ownsRow base 62 5 v l.length (cellsB l)) (hk : KidsAt w (bsTs l)) : ∃ q c, v = .slice q l.length c ∧ BsAt w q l := by
  rcases h.2 with ⟨rfl, h0⟩ | ⟨g, cap, cur, rfl, hg1, hg2, hg3, hg4, hg5, hg6⟩
  · have : l = [] := List.eq_nil_of_length_eq_zero h0
    subst this
    exact ⟨none, 0, rfl, 0, 0, .inl rfl, trivial⟩
  · exact ⟨some ⟨g, 0, none⟩, cap, rfl, g, 0, .inr rfl, bsLies_cells (bsRow_cells hg2 hg6 (cellsB_length l)) hk⟩

/-- an element of bindings that are not great -/
theorem bsTs_get : ∀ {l : List (Int × Nd)} {j : Nat} {v : Int} {x : Nd}, (bsTs l).ok → l[j]? = some (v, x) → x.ok ∧ x.kids.size ≤ (bsTs l).size
  | [], _, _, _, _, h => by simp at h
  | (u, y) :: l, 0, v, x, hok, h => by
    simp at h
    obtain ⟨rfl, rfl⟩ := h
    obtain ⟨o1, o2, o3, o4, o5, o6, o7⟩ := hok
    exact ⟨⟨o1, o2, o3, o4, o5, o6, trivial⟩, by simp only [bsTs, Ts.size]; omega⟩
  | (u, y) :: l, j + 1, v, x, hok, h => by
    have := bsTs_get (l := l) hok.2.2.2.2.2.2 (j := j) (v := v) (x := x) (by simpa using h)
    exact ⟨this.1, by simp only [bsTs, Ts.size]; omega⟩

theorem small_of {l : List (Int × Nd)} (h : ∀ e ∈ l, e.2.ok ∧ e.2.kids.size ≤ 5000) : Small (look l) := fun _ _ hx => h _ (look_mem hx)

end Go.Proofs.Ytnmhnaanpjlniaa
