import Derived.Test.YtnmhnaanpjlniaaAg
import Derived.Test.YtnmhnaanpjlniaaTz
import Derived.Laws.AppendOwnNone
/-
  Layer 3: the document's bindings in a list: what a number is bound to, and a term walked.
-/
namespace Go.Proofs.Ytnmhnaanpjlniaa
open Go.RowKit

/-- bindings that lie in memory -/
def BsLies (w : World) : Nat → Nat → List (Int × Nd) → Prop
  | _, _, [] => True
  | b, o, (v, x) :: l => w.cell? ⟨b, o, none⟩ = some (.int .i64 v) ∧ w.cell? ⟨b, o + 1, none⟩ = some (.int .u8 x.k) ∧ w.cell? ⟨b, o + 2, none⟩ = some (.string x.s) ∧ w.cell? ⟨b, o + 3, none⟩ = some (.int .i64 x.n) ∧ w.cell? ⟨b, o + 4, none⟩ = some (.slice x.p x.kids.len x.c) ∧ Ts.At w x.p x.kids ∧ BsLies w b (o + 5) l

def BsAt (w : World) (p : Option Addr) (l : List (Int × Nd)) : Prop := ∃ b o, (l = [] ∨ p = some ⟨b, o, none⟩) ∧ BsLies w b o l

theorem BsLies.stay {w w' : World} (hc : ∀ b o, b < w.heap.size → w'.cell? ⟨b, o, none⟩ = w.cell? ⟨b, o, none⟩) : ∀ {l : List (Int × Nd)} {b o : Nat}, BsLies w b o l → BsLies w' b o l
  | [], _, _, _ => trivial
  | (v, x) :: l, b, o, ⟨h0, h1, h2, h3, h4, h5, h6⟩ => by
    have hlt : b < w.heap.size := World.block_lt_of_cell? _ _ h0
    exact ⟨(hc _ _ hlt).trans h0, (hc _ _ hlt).trans h1, (hc _ _ hlt).trans h2, (hc _ _ hlt).trans h3, (hc _ _ hlt).trans h4, h5.stay hc, BsLies.stay hc h6⟩

theorem BsAt.below {w w' : World} {p : Option Addr} {l : List (Int × Nd)} (h : BsAt w p l) (hB : Below w.heap.size w w') : BsAt w' p l := by
  obtain ⟨b, o, h1, h2⟩ := h
  exact ⟨b, o, h1, h2.stay (stays hB).1⟩

theorem BsAt.drewN {w : World} {p : Option Addr} {l : List (Int × Nd)} (h : BsAt w p l) (q : Nat) : BsAt (w.drewN q) p l := by
  obtain ⟨b, o, h1, h2⟩ := h
  exact ⟨b, o, h1, BsLies.stay (w := w) (w' := w.drewN q) (fun _ _ _ => rfl) h2⟩

/-- an element -/
structure Bel (b o : Nat) (v : Int) (x : Nd) (w : World) : Prop where
  lt : b < w.heap.size
  c0 : w.cell? ⟨b, o, none⟩ = some (.int .i64 v)
  c1 : w.cell? ⟨b, o + 1, none⟩ = some (.int .u8 x.k)
  c2 : w.cell? ⟨b, o + 2, none⟩ = some (.string x.s)
  c3 : w.cell? ⟨b, o + 3, none⟩ = some (.int .i64 x.n)
  c4 : w.cell? ⟨b, o + 4, none⟩ = some (.slice x.p x.kids.len x.c)
  at_ : Ts.At w x.p x.kids

theorem BsLies.get {w : World} : ∀ {l : List (Int × Nd)} {b o : Nat}, BsLies w b o l → ∀ {j : Nat} {v : Int} {x : Nd}, l[j]? = some (v, x) → Bel b (o + j * 5) v x w
  | [], _, _, _, _, _, _, h => by simp at h
  | (v', x') :: l, b, o, ⟨h0, h1, h2, h3, h4, h5, h6⟩, 0, v, x, h => by
    simp at h
    obtain ⟨rfl, rfl⟩ := h
    simp only [Nat.zero_mul, Nat.add_zero]
    exact ⟨World.block_lt_of_cell? _ _ h0, h0, h1, h2, h3, h4, h5⟩
  | _ :: l, b, o, ⟨_, _, _, _, _, _, h6⟩, j + 1, v, x, h => by
    have := BsLies.get h6 (j := j) (v := v) (x := x) (by simpa using h)
    rw [show o + (j + 1) * 5 = o + 5 + j * 5 from by omega]
    exact this

/-- what a number is bound to: the first in the list -/
def look : List (Int × Nd) → Sb
  | [], _ => none
  | (u, x) :: l, v => if (u == v) = true then some x else look l v

theorem look_drop {l : List (Int × Nd)} {v u : Int} {x : Nd} {j : Nat} (h : l[j]? = some (u, x)) : look (l.drop j) v = if (u == v) = true then some x else look (l.drop (j + 1)) v := by
  have hlt := (List.getElem?_eq_some_iff.1 h).1
  have hd : l.drop j = (u, x) :: l.drop (j + 1) := by
    rw [List.drop_eq_getElem_cons hlt, (List.getElem?_eq_some_iff.1 h).2]
  rw [hd]
  rfl

theorem look_mem : ∀ {l : List (Int × Nd)} {v : Int} {x : Nd}, look l v = some x → (v, x) ∈ l
  | [], _, _, h => by simp [look] at h
  | (u, y) :: l, v, x, h => by
    simp only [look] at h
    split at h
    · rename_i e
      have : u = v := by simpa using e
      cases h; subst this; exact List.mem_cons_self ..
    · exact List.mem_cons_of_mem _ (look_mem h)

theorem look_end (l : List (Int × Nd)) (v : Int) : look (l.drop l.length) v = none := by rw [List.drop_length]; rfl

set_option maxRecDepth 100000 in
set_option maxHeartbeats 4000000 in
theorem of_any (l : List (Int × Nd)) (hl : l.length ≤ 1000000) (w : World) (p : Option Addr) (c : Nat) (hat : BsAt w p l) (v : Int) :
    Calls Try.prog 51 #[.slice p l.length c, .int .i64 v] w fun e w' => e = .returned (.tuple #[valOf (look l v), .bool (look l v).isSome]) ∧ Below w.heap.size w w' := by
  obtain ⟨b, o, hp, hlies⟩ := hat
  have HP := Lib.hid hp
  have LI := Lib.hid hlies
  clear hp hlies
  go_enter Try.func51, Try.ntmps51
  go_wp2_with fail
  obtain ⟨W0, hW0⟩ : ∃ W0, W0 = w.alloc (.cells #[.int .u8 0, .string ⟨#[]⟩, .int .i64 0, .slice none 0 0] 25) := ⟨_, rfl⟩
  rw [← hW0]
  have Z0 := Lib.hid hW0
  have hB0 : Below w.heap.size w W0 := by rw [hW0]; exact (Below.refl _ _).alloc (Nat.le_refl _) _
  have Y0 : Hid (BoxIs w.heap.size ⟨0, ⟨#[]⟩, 0, none, 0, .nil⟩ W0) := Lib.hid (by rw [hW0]; exact BoxIs.new w ⟨0, ⟨#[]⟩, 0, none, 0, .nil⟩ _)
  have B0 := Lib.hid hB0
  have L0 : Hid (BsLies W0 b o l) := Lib.hid (LI.out.stay (stays hB0).1)
  clear hW0 hB0
  go_loop [6] (fun i => ∃ j : Nat, j ≤ l.length ∧ i = .int .i64 j ∧ Hid (look l v = look (l.drop j) v)) (fun i => l.length - (intOf i).toNat)
  case atStart => exact ⟨0, Nat.zero_le _, rfl, Lib.hid rfl⟩
  case round =>
    obtain ⟨j, hj, rfl, LK⟩ := hrel
    by_cases hlt : j < l.length
    · have hpp : p = some ⟨b, o, none⟩ := by
        rcases HP.out with h | h
        · rw [h] at hlt; simp at hlt
        · exact h
      subst hpp
      obtain ⟨⟨u, x⟩, hux⟩ : ∃ ux, l[j]? = some ux := ⟨_, List.getElem?_eq_getElem hlt⟩
      have EL := L0.out.get hux
      have hd := look_drop (v := v) hux
      have c0 := EL.c0
      have c1 := EL.c1
      have c2 := EL.c2
      have c3 := EL.c3
      have c4 := EL.c4
      have HD := Lib.hid hd
      clear EL hux hd
      by_cases hu : (u == v) = true
      · have y0 := Y0.out.c0
        have y1 := Y0.out.c1
        have y2 := Y0.out.c2
        have y3 := Y0.out.c3
        have yf := Y0.out.fr
        have HS : Hid (look l v = some x) := Lib.hid (by rw [LK.out, HD.out, if_pos hu])
        go_wp2
        have P := Y0.out.put (y := x)
        have p0 := P.c0
        have p1 := P.c1
        have p2 := P.c2
        have p3 := P.c3
        exact bodyPost_ret (v := .tuple #[x.val, .bool true]) (by simp [results, Try.results51, go_sem, p0, p1, p2, p3, Nd.val]) rfl ⟨by rw [HS.out]; rfl, below_put4 B0.out (Nat.le_refl _) _ _ _ _⟩
      · rw [Bool.not_eq_true] at hu
        go_wp2
        go_round
        case rel => exact ⟨j + 1, by omega, by go_num, Lib.hid (by rw [LK.out, HD.out, if_neg (by rw [hu]; simp)])⟩
        case measure => simp [intOf]; omega
    · have hjl : j = l.length := by omega
      have HS : Hid (look l v = none) := Lib.hid (by rw [LK.out, hjl, look_end])
      have y0 := Y0.out.c0
      have y1 := Y0.out.c1
      have y2 := Y0.out.c2
      have y3 := Y0.out.c3
      have yf := Y0.out.fr
      clear hjl
      go_wp2
      have P := Y0.out.put (y := ⟨0, ⟨#[]⟩, 0, none, 0, .nil⟩)
      have p0 := P.c0
      have p1 := P.c1
      have p2 := P.c2
      have p3 := P.c3
      simp only [Ts.len] at p0 p1 p2 p3
      exact bodyPost_ret (v := .tuple #[.agg #[.int .u8 0, .string ⟨#[]⟩, .int .i64 0, .slice none 0 0], .bool false]) (by simp [results, Try.results51, go_sem, p0, p1, p2, p3]) rfl ⟨by rw [HS.out]; rfl, below_put4 B0.out (Nat.le_refl _) _ _ _ _⟩

end Go.Proofs.Ytnmhnaanpjlniaa
/-
  Layer 3: the document's walked terms: as many steps as there are bindings are enough.
-/
namespace Go.Proofs.Ytnmhnaanpjlniaa
open Go.RowKit

theorem nodup_le : ∀ (a b : List Int), a.Nodup → (∀ x ∈ a, x ∈ b) → a.length ≤ b.length
  | [], _, _, _ => Nat.zero_le _
  | x :: a, b, hn, hs => by
    have hx := hs x (List.mem_cons_self ..)
    have hn' := List.nodup_cons.1 hn
    have h := nodup_le a (b.erase x) hn'.2 fun y hy => (List.mem_erase_of_ne (fun e => hn'.1 (by rw [← e]; exact hy))).2 (hs y (List.mem_cons_of_mem _ hy))
    rw [List.length_erase_of_mem hx] at h
    have : 0 < b.length := List.length_pos_of_mem hx
    simp only [List.length_cons]
    omega

/-- the numbers that are passed when a term is walked -/
theorem Wk.passed {σ : Sb} {t r : Nd} {m : Nat} (h : Wk σ t r m) : ∃ vs : List Int, vs.length = m ∧ vs.Nodup ∧ ∀ v ∈ vs, σ v ≠ none ∧ ∃ j, j ≤ m ∧ ∀ y : Nd, (y.k == 1) = true → y.n = v → Wk σ y r j := by
  induction h with
  | stop _ => exact ⟨[], rfl, List.nodup_nil, fun v hv => by cases hv⟩
  | @go t b r m hk hb h ih =>
    obtain ⟨vs, h1, h2, h3⟩ := ih
    have hown : ∀ y : Nd, (y.k == 1) = true → y.n = t.n → Wk σ y r (m + 1) := fun y hy hn => .go hy (by rw [hn]; exact hb) h
    refine ⟨t.n :: vs, by simp [h1], List.nodup_cons.2 ⟨fun hm => ?_, h2⟩, fun v hv => ?_⟩
    · obtain ⟨_, j, hj, hw⟩ := h3 _ hm
      have := ((hw t hk rfl).det (hown t hk rfl)).2
      omega
    · rcases List.mem_cons.1 hv with rfl | hv
      · exact ⟨by rw [hb]; simp, m + 1, Nat.le_refl _, hown⟩
      · obtain ⟨g1, j, g2, g3⟩ := h3 v hv
        exact ⟨g1, j, by omega, g3⟩

theorem look_key {l : List (Int × Nd)} {v : Int} (h : look l v ≠ none) : v ∈ l.map Prod.fst := by
  cases hx : look l v with
  | none => exact absurd hx h
  | some x => exact List.mem_map.2 ⟨(v, x), look_mem hx, rfl⟩

theorem wkn_le {l : List (Int × Nd)} (hE : Ends (look l)) (t : Nd) : wkn (look l) t ≤ l.length := by
  obtain ⟨vs, h1, h2, h3⟩ := (wk_spec hE t).passed
  rw [← h1, show l.length = (l.map Prod.fst).length from by simp]
  exact nodup_le _ _ h2 fun v hv => look_key (h3 v hv).1

set_option maxRecDepth 100000 in
set_option maxHeartbeats 4000000 in
theorem rwalk_any (l : List (Int × Nd)) (hl : l.length ≤ 1000000) (hE : Ends (look l)) (w : World) (p : Option Addr) (cl : Nat) (hat : BsAt w p l) (k : Int) (s : ByteArray) (n : Int) (q : Option Addr) (kids : Ts) (c : Nat) :
    Calls Try.prog 20 #[.slice p l.length cl, .agg #[.int .u8 k, .string s, .int .i64 n, .slice q kids.len c]] w fun e w' => e = .returned (wk (look l) ⟨k, s, n, q, c, kids⟩).val ∧ Below w.heap.size w w' := by
  have HE := Lib.hid hE
  have AT := Lib.hid hat
  have hN := wkn_le hE ⟨k, s, n, q, c, kids⟩
  clear hE hat
  go_enter Try.func20, Try.ntmps20
  go_wp2_with fail
  obtain ⟨W0, hW0⟩ : ∃ W0, W0 = (w.alloc (.cells #[.int .u8 k, .string s, .int .i64 n, .slice q kids.len c] 25)).alloc (.cells #[.int .u8 0, .string ⟨#[]⟩, .int .i64 0, .slice none 0 0] 25) := ⟨_, rfl⟩
  rw [← hW0]
  have hB0 : Below w.heap.size w W0 := by rw [hW0]; exact below2 _ _ _
  have hX0 : BoxIs w.heap.size ⟨k, s, n, q, c, kids⟩ W0 := by rw [hW0]; exact (BoxIs.new w ⟨k, s, n, q, c, kids⟩ _).below ((Below.refl _ _).alloc (Nat.le_refl _) _)
  have hY0 : BoxIs (w.heap.size + 1) ⟨0, ⟨#[]⟩, 0, none, 0, .nil⟩ W0 := by
    have := BoxIs.new (w.alloc (.cells #[.int .u8 k, .string s, .int .i64 n, .slice q kids.len c] 25)) ⟨0, ⟨#[]⟩, 0, none, 0, .nil⟩ 25
    rw [World.size_alloc] at this
    rw [hW0]; exact this
  have X0 := Lib.hid hX0
  have Y0 := Lib.hid hY0
  have B0 := Lib.hid hB0
  clear hW0 hX0 hY0 hB0
  go_loopw [5] (fun i wr => ∃ (j : Nat) (x : Nd), i = .int .i64 j ∧ Hid (BoxIs w.heap.size x wr) ∧ Hid (BoxIs (w.heap.size + 1) ⟨0, ⟨#[]⟩, 0, none, 0, .nil⟩ wr) ∧ Hid (Below w.heap.size w wr) ∧ Hid (wk (look l) x = wk (look l) ⟨k, s, n, q, c, kids⟩) ∧ wkn (look l) x + j ≤ l.length) (fun i _ => l.length + 1 - (intOf i).toNat)
  case atStart => exact ⟨0, ⟨k, s, n, q, c, kids⟩, rfl, X0, Y0, B0, Lib.hid rfl, by omega⟩
  case round =>
    obtain ⟨j, x, rfl, XX, YY, BB, WK, hj⟩ := hrel
    have hjl : j ≤ l.length := by omega
    have c0 := XX.out.c0
    have c1 := XX.out.c1
    have c2 := XX.out.c2
    have c3 := XX.out.c3
    have f0 := XX.out.fr
    have y0 := YY.out.c0
    have y1 := YY.out.c1
    have y2 := YY.out.c2
    have y3 := YY.out.c3
    have g0 := YY.out.fr
    by_cases hk : (x.k == 1) = true
    · go_wp2_with fail
      refine (of_any l hl wr p cl (AT.out.below BB.out) x.n).mono ?_
      rintro e w1 ⟨rfl, hB1⟩
      replace XX := Lib.hid (XX.out.below hB1)
      replace YY := Lib.hid (YY.out.below hB1)
      replace BB := Lib.hid (BB.out.trans (hB1.mono BB.out.size))
      clear hB1 c0 c1 c2 c3 f0 y0 y1 y2 y3 g0
      cases hb : look l x.n with
      | none =>
        have HW := Lib.hid (wk_stop (.inr hb) : wk (look l) x = x)
        rw [valOf_none]
        clear hb
        obtain ⟨W2, hW2⟩ : ∃ W2, W2 = w1.alloc (.cells #[.int .u8 0, .string ⟨#[]⟩, .int .i64 0, .slice none 0 0] 25) := ⟨_, rfl⟩
        have hB2 : Below w1.heap.size w1 W2 := by rw [hW2]; exact (Below.refl _ _).alloc (Nat.le_refl _) _
        replace XX := Lib.hid (XX.out.below hB2)
        replace YY := Lib.hid (YY.out.below hB2)
        replace BB := Lib.hid (BB.out.trans (hB2.mono BB.out.size))
        have c0 := XX.out.c0
        have c1 := XX.out.c1
        have c2 := XX.out.c2
        have c3 := XX.out.c3
        have y0 := YY.out.c0
        have y1 := YY.out.c1
        have y2 := YY.out.c2
        have y3 := YY.out.c3
        have g0 := YY.out.fr
        have Z2 := Lib.hid hW2
        clear hB2 hW2
        go_upto_region 5 with fail
        rw [← Z2.out]
        go_wp2
        have P := YY.out.put (y := x)
        have p0 := P.c0
        have p1 := P.c1
        have p2 := P.c2
        have p3 := P.c3
        exact bodyPost_ret (v := x.val) (by simp [results, Try.results20, go_sem, p0, p1, p2, p3, Nd.val]) rfl ⟨by rw [← WK.out, HW.out], below_put4 BB.out (Nat.le_succ _) _ _ _ _⟩
      | some b =>
        have HW := Lib.hid (wk_go HE.out hk hb : wk (look l) x = wk (look l) b)
        have hm := (wkn_go HE.out hk hb : wkn (look l) x = wkn (look l) b + 1)
        have hj2 : wkn (look l) b + (j + 1) ≤ l.length := by omega
        rw [valOf_some]
        clear hb hm
        obtain ⟨W2, hW2⟩ : ∃ W2, W2 = w1.alloc (.cells #[.int .u8 b.k, .string b.s, .int .i64 b.n, .slice b.p b.kids.len b.c] 25) := ⟨_, rfl⟩
        have hB2 : Below w1.heap.size w1 W2 := by rw [hW2]; exact (Below.refl _ _).alloc (Nat.le_refl _) _
        have NB := BoxIs.new w1 b 25
        rw [← hW2] at NB
        have hlt : w.heap.size + 1 < w1.heap.size := YY.out.lt
        replace XX := Lib.hid (XX.out.below hB2)
        replace YY := Lib.hid (YY.out.below hB2)
        replace BB := Lib.hid (BB.out.trans (hB2.mono BB.out.size))
        have c0 := XX.out.c0
        have c1 := XX.out.c1
        have c2 := XX.out.c2
        have c3 := XX.out.c3
        have g0 := XX.out.fr
        have y0 := NB.c0
        have y1 := NB.c1
        have y2 := NB.c2
        have y3 := NB.c3
        have Z2 := Lib.hid hW2
        clear hB2 hW2 NB
        go_upto_region 5 with fail
        rw [← Z2.out]
        go_wp2
        go_roundw
        case rel =>
          refine ⟨j + 1, b, by go_num, Lib.hid XX.out.put, Lib.hid (YY.out.of_block ?_), Lib.hid (below_put4 BB.out (Nat.le_refl _) _ _ _ _), Lib.hid (by rw [← HW.out]; exact WK.out), hj2⟩
          rw [Below.heap_setCell _ _ _ _ (by simp), Below.heap_setCell _ _ _ _ (by simp), Below.heap_setCell _ _ _ _ (by simp), Below.heap_setCell _ _ _ _ (by simp)]
        case measure => simp [intOf]; omega
    · rw [Bool.not_eq_true] at hk
      have HK := Lib.hid hk
      go_wp2
      have P := YY.out.put (y := x)
      have p0 := P.c0
      have p1 := P.c1
      have p2 := P.c2
      have p3 := P.c3
      exact bodyPost_ret (v := x.val) (by simp [results, Try.results20, go_sem, p0, p1, p2, p3, Nd.val]) rfl ⟨by rw [← WK.out, wk_stop (.inl HK.out)], below_put4 BB.out (Nat.le_succ _) _ _ _ _⟩

end Go.Proofs.Ytnmhnaanpjlniaa
/-
  The cells of a list of terms, one behind the other.
-/
namespace Go.Proofs.Ytnmhnaanpjlniaa
open Go.RowKit

/-- the cells of a list, one behind the other -/
def cellsL : Ts → List Value
  | .nil => []
  | .cons k s n p c kids rest => .int .u8 k :: .string s :: .int .i64 n :: .slice p kids.len c :: cellsL rest

theorem cellsL_length : ∀ ts : Ts, (cellsL ts).length = ts.len * 4
  | .nil => rfl
  | .cons _ _ _ _ _ _ r => by simp only [cellsL, List.length_cons, cellsL_length r, Ts.len]; omega

theorem cellsL_one : ∀ (ts : Ts), ∀ u ∈ cellsL ts, u.oneCell' = true
  | .nil, u, h => by cases h
  | .cons _ _ _ _ _ _ r, u, h => by
    simp only [cellsL, List.mem_cons] at h
    rcases h with rfl | rfl | rfl | rfl | h
    · rfl
    · rfl
    · rfl
    · rfl
    · exact cellsL_one r u h

theorem cellsL_of {w : World} : ∀ (ts : Ts) {b o : Nat}, ts.lies w b o → ∀ (j : Nat) (u : Value), (cellsL ts)[j]? = some u → w.cell? ⟨b, o + j, none⟩ = some u
  | .nil, _, _, _, j, u, h => by simp [cellsL] at h
  | .cons _ _ _ _ _ _ r, b, o, hl, j, u, h => by
    obtain ⟨h0, h1, h2, h3, _, h5⟩ := hl
    match j, h with
    | 0, h => simp [cellsL] at h; subst h; exact h0
    | 1, h => simp [cellsL] at h; subst h; exact h1
    | 2, h => simp [cellsL] at h; subst h; exact h2
    | 3, h => simp [cellsL] at h; subst h; exact h3
    | j + 4, h =>
      have := cellsL_of r h5 j u (by simpa [cellsL] using h)
      rw [show o + (j + 4) = o + 4 + j from by omega]
      exact this

theorem lies_copy {W W' : World} (hst : ∀ b o, b < W.heap.size → W'.cell? ⟨b, o, none⟩ = W.cell? ⟨b, o, none⟩) : ∀ (ts : Ts) {b o b' o' : Nat}, ts.lies W b o → (∀ (j : Nat) (u : Value), (cellsL ts)[j]? = some u → W'.cell? ⟨b', o' + j, none⟩ = some u) → ts.lies W' b' o'
  | .nil, _, _, _, _, _, _ => trivial
  | .cons _ _ _ _ _ kids r, b, o, b', o', hl, h => by
    obtain ⟨_, _, _, _, ⟨bb, oo, hk, hlk⟩, h5⟩ := hl
    refine ⟨h 0 _ rfl, h 1 _ rfl, h 2 _ rfl, h 3 _ rfl, ⟨bb, oo, hk, Ts.lies_stay hst kids hlk⟩, lies_copy hst r h5 fun j u hj => ?_⟩
    have := h (j + 4) u (by simpa [cellsL] using hj)
    rw [show o' + 4 + j = o' + (j + 4) from by omega]
    exact this

theorem row_cells {w : World} {g n size : Nat} {e : TypeId} {cur : Array Value} {xs : List Value} (hg : w.heap[g]? = some (.cells cur e (0, 0))) (ht : cur.toList.take (n * size) = xs) (hl : xs.length = n * size) :
    (∀ j u, xs[j]? = some u → w.cell? ⟨g, 0 + j, none⟩ = some u) ∧ ∀ y, w.frozen? ⟨g, y, none⟩ = false := by
  refine ⟨fun j u hj => ?_, fun y => ?_⟩
  · have hjl : j < n * size := by have := (List.getElem?_eq_some_iff.1 hj).1; omega
    rw [← ht, List.getElem?_take_of_lt hjl, Array.getElem?_toList] at hj
    simp only [World.cell?, hg, Nat.zero_add]
    exact hj
  · simp [World.frozen?, hg]

end Go.Proofs.Ytnmhnaanpjlniaa
/-
  Plain facts of lists of terms, one behind the other.
-/
namespace Go.Proofs.Ytnmhnaanpjlniaa
open Go.RowKit

/-- one list behind the other -/
def Ts.app : Ts → Ts → Ts
  | .nil, u => u
  | .cons k s n p c kids rest, u => .cons k s n p c kids (rest.app u)

theorem app_nil : ∀ t : Ts, t.app .nil = t
  | .nil => rfl
  | .cons k s n p c kids rest => by simp only [Ts.app, app_nil rest]

theorem app_assoc : ∀ t u v : Ts, (t.app u).app v = t.app (u.app v)
  | .nil, _, _ => rfl
  | .cons k s n p c kids rest, u, v => by simp only [Ts.app, app_assoc rest u v]

theorem app_len : ∀ t u : Ts, (t.app u).len = t.len + u.len
  | .nil, u => by simp [Ts.app, Ts.len]
  | .cons k s n p c kids rest, u => by simp only [Ts.app, Ts.len, app_len rest u]; omega

theorem cellsL_app : ∀ t u : Ts, cellsL (t.app u) = cellsL t ++ cellsL u
  | .nil, u => rfl
  | .cons k s n p c kids rest, u => by simp only [Ts.app, cellsL, cellsL_app rest u, List.cons_append]

theorem app_twin : ∀ {t u v : Ts}, Ts.twin u v → Ts.twin (t.app u) (t.app v)
  | .nil, _, _, h => h
  | .cons _k _s _n _p _c kids rest, _, _, h => ⟨rfl, rfl, rfl, Ts.twin_refl kids, app_twin (t := rest) h⟩

theorem twin_trans : ∀ {t u v : Ts}, Ts.twin t u → Ts.twin u v → Ts.twin t v
  | .nil, .nil, .nil, _, _ => trivial
  | .cons _ _ _ _ _ _ _, .cons _ _ _ _ _ _ _, .cons _ _ _ _ _ _ _, h, h' => ⟨h.1.trans h'.1, h.2.1.trans h'.2.1, h.2.2.1.trans h'.2.2.1, twin_trans h.2.2.2.1 h'.2.2.2.1, twin_trans h.2.2.2.2 h'.2.2.2.2⟩
  | .nil, .cons .., _, h, _ => h.elim
  | .cons .., .nil, _, h, _ => h.elim
  | .nil, .nil, .cons .., _, h => h.elim
  | .cons .., .cons .., .nil, _, h => h.elim

theorem app_ok : ∀ {t u : Ts}, t.ok → u.ok → (t.app u).ok
  | .nil, _, _, h => h
  | .cons _k _s _n _p _c _kids _rest, _, h, h' => ⟨h.1, h.2.1, h.2.2.1, h.2.2.2.1, h.2.2.2.2.1, h.2.2.2.2.2.1, app_ok h.2.2.2.2.2.2 h'⟩

/-- the parts of a list's elements lie where they say -/
def KidsAt (w : World) : Ts → Prop
  | .nil => True
  | .cons _ _ _ p _ kids rest => Ts.At w p kids ∧ KidsAt w rest

theorem KidsAt.below {w w' : World} (hB : Below w.heap.size w w') : ∀ {ts : Ts}, KidsAt w ts → KidsAt w' ts
  | .nil, _ => trivial
  | .cons _ _ _ _ _ _ _, h => ⟨h.1.below hB, KidsAt.below hB h.2⟩

theorem KidsAt.app {w : World} : ∀ {t u : Ts}, KidsAt w t → KidsAt w u → KidsAt w (t.app u)
  | .nil, _, _, h => h
  | .cons _ _ _ _ _ _ _, _, h, h' => ⟨h.1, KidsAt.app h.2 h'⟩

theorem lies_cells {w : World} : ∀ {ts : Ts} {b o : Nat}, (∀ (j : Nat) (u : Value), (cellsL ts)[j]? = some u → w.cell? ⟨b, o + j, none⟩ = some u) → KidsAt w ts → ts.lies w b o
  | .nil, _, _, _, _ => trivial
  | .cons k s n p c kids rest, b, o, h, hk => by
    refine ⟨h 0 _ rfl, h 1 _ rfl, h 2 _ rfl, h 3 _ rfl, hk.1, lies_cells (fun j u hj => ?_) hk.2⟩
    have := h (j + 4) u (by simpa [cellsL] using hj)
    rw [show o + 4 + j = o + (j + 4) from by omega]
    exact this

end Go.Proofs.Ytnmhnaanpjlniaa
