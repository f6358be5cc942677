import Derived.Test.YtflomdnjabgnaaaTz
/-
  Layer 5: how many nodes, and one more than the greatest number of a variable.
-/
namespace Go.Proofs.Ytflomdnjabgnaaa
open Go.RowKit

set_option maxRecDepth 100000 in
set_option maxHeartbeats 1000000 in
theorem rnodes_any : ∀ (sz : Nat) (ts : Ts), ts.size < sz → ts.size ≤ 1000000 → ts.ok → ∀ (w : World) (p : Option Addr) (c : Nat), Ts.At w p ts →
    Calls Try.prog 85 #[.slice p ts.len c] w fun e w' => e = .returned (.int .i64 (ts.size : Int)) ∧ Below w.heap.size w w' := by
  intro sz
  induction sz with
  | zero => intro ts h; omega
  | succ sz ih =>
    intro ts hsz hbig hok w p c hat
    have hls := Ts.len_size ts
    obtain ⟨b, o, hp, hlies⟩ := hat
    go_enter Try.func85, Try.ntmps85
    go_wp2_with fail
    go_loopw [3, 10] (fun m i wr => ∃ (j m' : Nat), j ≤ ts.len ∧ i = .int .i64 j ∧ m = .int .i64 m' ∧ Hid (m' + (ts.drop j).size = ts.size + (ts.drop j).len) ∧ Hid (Below w.heap.size w wr)) (fun _ i _ => ts.len - (intOf i).toNat)
    case atStart => exact ⟨0, ts.len, Nat.zero_le _, rfl, rfl, Lib.hid (by simp [Ts.drop]; omega), Lib.hid (Below.refl _ _)⟩
    case round =>
      rename_i wr _
      obtain ⟨j, m', hk, rfl, rfl, R, B⟩ := hrel
      by_cases hlt : j < ts.len
      · obtain rfl := Ts.some_of hp hlt
        obtain ⟨k, s, n, pp, cc, kids, rest, HD, EL, hsz1, hoke⟩ := Ts.elem hlies B.out hok hlt
        have OKE := Lib.hid hoke
        have hr := R.out
        rw [HD.out] at hr
        simp only [Ts.size, Ts.len] at hr
        have hlr := Ts.len_size rest
        have hlk := Ts.len_size kids
        clear hoke hp hlies
        have c0 := EL.c0
        have c1 := EL.c1
        have c2 := EL.c2
        have c3 := EL.c3
        obtain ⟨W2, hW2, hsz2, hB2, hc2⟩ := box1 wr #[.int .u8 k, .string s, .int .i64 n, .slice pp kids.len cc] 24
        have d3 := hc2 3 _ rfl
        have ATK := Lib.hid (EL.tat.below hB2)
        have BW := Lib.hid (B.out.trans (hB2.mono B.out.size))
        have SR := Lib.hid (Ts.drop_succ j ts HD.out)
        by_cases hk0 : (0 : Int) < (kids.len : Int)
        · go_wp2_with fail
          rw [← hW2]
          have Z2 := Lib.hid hW2
          clear hW2 hc2 hB2
          refine (ih kids (by omega) (by omega) OKE.out.2.2.2.2.2.1 W2 pp cc ATK.out).mono ?_
          rintro e w3 ⟨rfl, hB3⟩
          have B3 := Lib.hid (BW.out.trans (hB3.mono BW.out.size))
          clear hB3 c0 c1 c2 c3 d3
          go_wp2
          go_roundw
          case rel => exact ⟨j + 1, m' + kids.size, by omega, by go_num, by go_num, Lib.hid (by rw [SR.out]; omega), B3⟩
          case measure => simp [intOf]; omega
        · have hkn : kids = .nil := Ts.len_zero (by omega)
          have hks : kids.size = 0 := by rw [hkn]; rfl
          have HKS := Lib.hid hks
          clear hkn hks
          go_wp2
          rw [← hW2]
          go_roundw
          case rel => exact ⟨j + 1, m', by omega, by go_num, rfl, Lib.hid (by rw [SR.out]; have := HKS.out; omega), BW⟩
          case measure => simp [intOf]; omega
      · have hd := Ts.drop_end hlt
        have hr := R.out
        rw [hd] at hr
        simp only [Ts.size, Ts.len] at hr
        have HM : Hid (m' = ts.size) := Lib.hid (by omega)
        clear hd hr hp hlies
        go_wp2
        go_ret
        exact ⟨by rw [← HM.out]; rfl, B.out⟩

/-- one more than the greatest number of a variable, 0 of none -/
def cntL : Ts → Nat
  | .nil => 0
  | .cons k _ n _ _ kids rest => max (max (if (k == 1) = true then n.toNat + 1 else 0) (cntL kids)) (cntL rest)

/-- numbers of variables are such that one more is one -/
def numsFit : Ts → Prop
  | .nil => True
  | .cons k _ n _ _ kids rest => ((k == 1) = true → 0 ≤ n ∧ n < 4611686018427387904) ∧ numsFit kids ∧ numsFit rest

theorem numsFit_drop : ∀ (i : Nat) (ts : Ts), numsFit ts → numsFit (ts.drop i)
  | 0, _, h => h
  | _ + 1, .nil, h => h
  | i + 1, .cons _ _ _ _ _ _ r, h => numsFit_drop i r h.2.2

theorem cntL_le : ∀ ts : Ts, numsFit ts → cntL ts ≤ 4611686018427387904
  | .nil, _ => by simp [cntL]
  | .cons k _ n _ _ kids rest, h => by
    have h1 := cntL_le kids h.2.1
    have h2 := cntL_le rest h.2.2
    simp only [cntL]
    split
    · rename_i hk
      have := h.1 hk
      omega
    · omega

set_option maxRecDepth 100000 in
set_option maxHeartbeats 1000000 in
theorem rcount_any : ∀ (sz : Nat) (ts : Ts), ts.size < sz → ts.size ≤ 1000000 → ts.ok → numsFit ts → ∀ (w : World) (p : Option Addr) (c : Nat), Ts.At w p ts →
    Calls Try.prog 72 #[.slice p ts.len c] w fun e w' => e = .returned (.int .i64 (cntL ts : Int)) ∧ Below w.heap.size w w' := by
  intro sz
  induction sz with
  | zero => intro ts h; omega
  | succ sz ih =>
    intro ts hsz hbig hok hfit w p c hat
    have hls := Ts.len_size ts
    have hcl := cntL_le ts hfit
    obtain ⟨b, o, hp, hlies⟩ := hat
    have FIT := Lib.hid hfit
    clear hfit
    go_enter Try.func72, Try.ntmps72
    go_wp2_with fail
    go_loopw [3, 8] (fun m i wr => ∃ (j m' : Nat), j ≤ ts.len ∧ i = .int .i64 j ∧ m = .int .i64 m' ∧ Hid (max m' (cntL (ts.drop j)) = cntL ts) ∧ Hid (Below w.heap.size w wr)) (fun _ i _ => ts.len - (intOf i).toNat)
    case atStart => exact ⟨0, 0, Nat.zero_le _, rfl, rfl, Lib.hid (by simp [Ts.drop]), Lib.hid (Below.refl _ _)⟩
    case round =>
      rename_i wr _
      obtain ⟨j, m', hk, rfl, rfl, R, B⟩ := hrel
      by_cases hlt : j < ts.len
      · obtain rfl := Ts.some_of hp hlt
        obtain ⟨k, s, n, pp, cc, kids, rest, HD, EL, hsz1, hoke⟩ := Ts.elem hlies B.out hok hlt
        have OKE := Lib.hid hoke
        have hr := R.out
        have hft := numsFit_drop j ts FIT.out
        rw [HD.out] at hr hft
        simp only [cntL] at hr
        obtain ⟨hf1, hf2, hf3⟩ := hft
        have hlk := Ts.len_size kids
        have hck := cntL_le kids hf2
        have FK := Lib.hid hf2
        have SR := Lib.hid (Ts.drop_succ j ts HD.out)
        clear hoke hp hlies hf2 hf3
        have c0 := EL.c0
        have c1 := EL.c1
        have c2 := EL.c2
        have c3 := EL.c3
        obtain ⟨W2, hW2, hsz2, hB2, hc2⟩ := box1 wr #[.int .u8 k, .string s, .int .i64 n, .slice pp kids.len cc] 24
        have d0 := hc2 0 _ rfl
        have d2 := hc2 2 _ rfl
        have d3 := hc2 3 _ rfl
        have ATK := Lib.hid (EL.tat.below hB2)
        have BW := Lib.hid (B.out.trans (hB2.mono B.out.size))
        by_cases hk1 : (k == 1) = true
        · obtain ⟨hn0, hn1⟩ := hf1 hk1
          rw [if_pos hk1] at hr
          have hm : m' ≤ 4611686018427387904 := by omega
          have HR := Lib.hid hr
          clear hf1 hr
          have hn2 : decide (0 ≤ n) = true := decide_eq_true hn0
          by_cases hmx : (m' : Int) < n + 1
          · go_wp2_with fail
            rw [← hW2]
            have Z2 := Lib.hid hW2
            clear hW2 hc2 hB2
            refine (ih kids (by omega) (by omega) OKE.out.2.2.2.2.2.1 FK.out W2 pp cc ATK.out).mono ?_
            rintro e w3 ⟨rfl, hB3⟩
            have B3 := Lib.hid (BW.out.trans (hB3.mono BW.out.size))
            clear hB3 c0 c1 c2 c3 d0 d2 d3
            go_wp2
            go_roundw
            case rel =>
              refine ⟨j + 1, max (n.toNat + 1) (cntL kids), by omega, by go_num, ?_, Lib.hid (by rw [SR.out]; have := HR.out; omega), B3⟩
              congr 1
              split <;> omega
            case measure => simp [intOf]; omega
          · go_wp2_with fail
            rw [← hW2]
            have Z2 := Lib.hid hW2
            clear hW2 hc2 hB2
            refine (ih kids (by omega) (by omega) OKE.out.2.2.2.2.2.1 FK.out W2 pp cc ATK.out).mono ?_
            rintro e w3 ⟨rfl, hB3⟩
            have B3 := Lib.hid (BW.out.trans (hB3.mono BW.out.size))
            clear hB3 c0 c1 c2 c3 d0 d2 d3
            go_wp2
            go_roundw
            case rel =>
              refine ⟨j + 1, max (m') (cntL kids), by omega, by go_num, ?_, Lib.hid (by rw [SR.out]; have := HR.out; omega), B3⟩
              congr 1
              split <;> omega
            case measure => simp [intOf]; omega
        · rw [Bool.not_eq_true] at hk1
          rw [if_neg (by rw [hk1]; simp)] at hr
          have hm : m' ≤ 4611686018427387904 := by omega
          have HR := Lib.hid hr
          clear hf1 hr
          go_wp2_with fail
          rw [← hW2]
          have Z2 := Lib.hid hW2
          clear hW2 hc2 hB2
          refine (ih kids (by omega) (by omega) OKE.out.2.2.2.2.2.1 FK.out W2 pp cc ATK.out).mono ?_
          rintro e w3 ⟨rfl, hB3⟩
          have B3 := Lib.hid (BW.out.trans (hB3.mono BW.out.size))
          clear hB3 c0 c1 c2 c3 d0 d2 d3
          go_wp2
          go_roundw
          case rel =>
            refine ⟨j + 1, max (m') (cntL kids), by omega, by go_num, ?_, Lib.hid (by rw [SR.out]; have := HR.out; omega), B3⟩
            congr 1
            split <;> omega
          case measure => simp [intOf]; omega
      · have hd := Ts.drop_end hlt
        have hr := R.out
        rw [hd] at hr
        simp only [cntL] at hr
        have HM : Hid (m' = cntL ts) := Lib.hid (by omega)
        clear hd hr hp hlies
        go_wp2
        go_ret
        exact ⟨by rw [← HM.out]; rfl, B.out⟩
end Go.Proofs.Ytflomdnjabgnaaa
/-
  Layer 5: what a name gives.
-/
namespace Go.Proofs.Ytflomdnjabgnaaa
open Go.RowKit

theorem shift1_any (n m : Int) (NB : Nat) (w : World) (hc : w.cell? ⟨NB, 0, none⟩ = some (.int .i64 m)) :
    Calls Try.prog 75 #[.int .i64 n, .pointer (some ⟨NB, 0, none⟩)] w fun e w' => e = .returned (.int .i64 (wrap64 (n + m))) ∧ w' = w := by
  go_enter Try.func75, Try.ntmps75
  go_wp2
  go_ret
  exact ⟨rfl, rfl⟩
end Go.Proofs.Ytflomdnjabgnaaa
/-
  Layer 5: lists of terms with other numbers, taken out of a room: what lies where.
-/
namespace Go.Proofs.Ytflomdnjabgnaaa
open Go.RowKit

namespace Ts
/-- like lies, each element within places that are allowed -/
def liesQ (Q : Nat → Nat → Prop) (w : World) : Nat → Nat → Ts → Prop
  | _, _, .nil => True
  | b, o, .cons k s n p cap kids rest =>
    (∀ y, o ≤ y → y < o + 4 → Q b y) ∧ w.cell? ⟨b, o, none⟩ = some (.int .u8 k) ∧ w.cell? ⟨b, o + 1, none⟩ = some (.string s) ∧ w.cell? ⟨b, o + 2, none⟩ = some (.int .i64 n) ∧ w.cell? ⟨b, o + 3, none⟩ = some (.slice p kids.len cap) ∧
    (∃ b' o', (kids = .nil ∨ p = some ⟨b', o', none⟩) ∧ liesQ Q w b' o' kids) ∧ liesQ Q w b (o + 4) rest

def AtQ (Q : Nat → Nat → Prop) (w : World) (p : Option Addr) (ts : Ts) : Prop := ∃ b o, (ts = .nil ∨ p = some ⟨b, o, none⟩) ∧ ts.liesQ Q w b o

theorem liesQ_lies {Q : Nat → Nat → Prop} {w : World} : ∀ (ts : Ts) {b o : Nat}, ts.liesQ Q w b o → ts.lies w b o
  | .nil, _, _, _ => trivial
  | .cons _ _ _ _ _ kids rest, _, _, ⟨_, h0, h1, h2, h3, ⟨b', o', h4, h5⟩, h6⟩ => ⟨h0, h1, h2, h3, ⟨b', o', h4, liesQ_lies kids h5⟩, liesQ_lies rest h6⟩

theorem AtQ.at {Q : Nat → Nat → Prop} {w : World} {p : Option Addr} {ts : Ts} (h : AtQ Q w p ts) : At w p ts := by
  obtain ⟨b, o, h1, h2⟩ := h
  exact ⟨b, o, h1, liesQ_lies ts h2⟩

theorem liesQ_stay {Q Q' : Nat → Nat → Prop} {w w' : World} (hQ : ∀ b y, Q b y → Q' b y) (hc : ∀ b y, Q b y → w'.cell? ⟨b, y, none⟩ = w.cell? ⟨b, y, none⟩) : ∀ (ts : Ts) {b o : Nat}, ts.liesQ Q w b o → ts.liesQ Q' w' b o
  | .nil, _, _, _ => trivial
  | .cons k s n p cap kids rest, b, o, ⟨hq, h0, h1, h2, h3, ⟨b', o', h4, h5⟩, h6⟩ =>
    ⟨fun y hy hy' => hQ _ _ (hq y hy hy'), (hc _ _ (hq _ (by omega) (by omega))).trans h0, (hc _ _ (hq _ (by omega) (by omega))).trans h1, (hc _ _ (hq _ (by omega) (by omega))).trans h2, (hc _ _ (hq _ (by omega) (by omega))).trans h3, ⟨b', o', h4, liesQ_stay hQ hc kids h5⟩, liesQ_stay hQ hc rest h6⟩

theorem AtQ.stay {Q Q' : Nat → Nat → Prop} {w w' : World} {p : Option Addr} {ts : Ts} (h : AtQ Q w p ts) (hQ : ∀ b y, Q b y → Q' b y) (hc : ∀ b y, Q b y → w'.cell? ⟨b, y, none⟩ = w.cell? ⟨b, y, none⟩) : AtQ Q' w' p ts := by
  obtain ⟨b, o, h1, h2⟩ := h
  exact ⟨b, o, h1, liesQ_stay hQ hc ts h2⟩

theorem liesQ_liesB {Q : Nat → Nat → Prop} {B : Nat} {w : World} (hQ : ∀ b y, Q b y → B ≤ b) : ∀ (ts : Ts) {b o : Nat}, ts.liesQ Q w b o → ts.liesB B w b o
  | .nil, _, _, _ => trivial
  | .cons _ _ _ _ _ kids rest, _, _, ⟨hq, h0, h1, h2, h3, ⟨b', o', h4, h5⟩, h6⟩ => ⟨hQ _ _ (hq _ (Nat.le_refl _) (by omega)), h0, h1, h2, h3, ⟨b', o', h4, liesQ_liesB hQ kids h5⟩, liesQ_liesB hQ rest h6⟩

theorem AtQ.atB {Q : Nat → Nat → Prop} {B : Nat} {w : World} {p : Option Addr} {ts : Ts} (h : AtQ Q w p ts) (hQ : ∀ b y, Q b y → B ≤ b) : AtB B w p ts := by
  obtain ⟨b, o, h1, h2⟩ := h
  exact ⟨b, o, h1, liesQ_liesB hQ ts h2⟩

theorem drop_append_len : ∀ (i : Nat) (ts : Ts), (ts.drop i).size + i ≤ ts.size + i
  | i, ts => by have := drop_size i ts; omega
end Ts

/-- terms with other numbers of variables; what the names remember goes from node to node -/
def renT {σ : Type} (step : σ → Int → Int × σ) : Ts → σ → Ts × σ
  | .nil, st => (.nil, st)
  | .cons k s n _ _ kids rest, st =>
    (.cons k s (if (k == 1) = true then step st n else (n, st)).1 none 0 (renT step kids (if (k == 1) = true then step st n else (n, st)).2).1 (renT step rest (renT step kids (if (k == 1) = true then step st n else (n, st)).2).2).1,
      (renT step rest (renT step kids (if (k == 1) = true then step st n else (n, st)).2).2).2)

theorem renT_len {σ : Type} (step : σ → Int → Int × σ) : ∀ (ts : Ts) (st : σ), (renT step ts st).1.len = ts.len
  | .nil, _ => rfl
  | .cons _ _ _ _ _ _ rest, st => by simp only [renT, Ts.len, renT_len step rest]

theorem renT_size {σ : Type} (step : σ → Int → Int × σ) : ∀ (ts : Ts) (st : σ), (renT step ts st).1.size = ts.size
  | .nil, _ => rfl
  | .cons _ _ _ _ _ kids rest, st => by simp only [renT, Ts.size, renT_size step rest, renT_size step kids]

/-- how much the names remember grows by one a node at most -/
theorem renT_cnt {σ : Type} (step : σ → Int → Int × σ) (cnt : σ → Nat) (hcnt : ∀ st n, cnt (step st n).2 ≤ cnt st + 1) : ∀ (ts : Ts) (st : σ), cnt (renT step ts st).2 ≤ cnt st + ts.size
  | .nil, _ => by simp [renT, Ts.size]
  | .cons k s n _ _ kids rest, st => by
    have h0 : cnt (if (k == 1) = true then step st n else (n, st)).2 ≤ cnt st + 1 := by
      split
      · exact hcnt st n
      · simp
    have h1 := renT_cnt step cnt hcnt kids (if (k == 1) = true then step st n else (n, st)).2
    have h2 := renT_cnt step cnt hcnt rest (renT step kids (if (k == 1) = true then step st n else (n, st)).2).2
    simp only [renT, Ts.size]
    omega

/-- places of a row -/
def inR (RB lo hi : Nat) (b y : Nat) : Prop := b = RB ∧ lo ≤ y ∧ y < hi

/-- the room that is left -/
structure Room (RM RB o rem : Nat) (w : World) : Prop where
  rm : ∃ o', w.cell? ⟨RM, 0, none⟩ = some (.slice (some ⟨RB, o', none⟩) rem rem) ∧ (rem = 0 ∨ o' = o)
  rmf : w.frozen? ⟨RM, 0, none⟩ = false
  here : ∀ y, o ≤ y → y < o + rem * 4 → (w.cell? ⟨RB, y, none⟩).isSome
  free : ∀ y, o ≤ y → y < o + rem * 4 → w.frozen? ⟨RB, y, none⟩ = false

/-- the first elements have been put -/
def DoneR (RB o lo hi : Nat) (w : World) (R : Ts) (j : Nat) : Prop := ∀ m, m < j → ∀ k s n p c kids rest, R.drop m = .cons k s n p c kids rest →
  ∃ q kids', w.cell? ⟨RB, o + m * 4, none⟩ = some (.int .u8 k) ∧ w.cell? ⟨RB, o + m * 4 + 1, none⟩ = some (.string s) ∧ w.cell? ⟨RB, o + m * 4 + 2, none⟩ = some (.int .i64 n) ∧ w.cell? ⟨RB, o + m * 4 + 3, none⟩ = some (.slice q kids'.len kids'.len) ∧
    Ts.AtQ (inR RB lo hi) w q kids' ∧ Ts.twin kids' kids ∧ kids'.ok ∧ (q = none → kids'.len = 0) ∧ kids'.len ≤ 1000000 ∧ (0 ≤ k ∧ k ≤ 255) ∧ s.size ≤ 140737488351232 ∧ (-9223372036854775808 ≤ n ∧ n ≤ 9223372036854775807)

theorem DoneR.made {RB o lo hi : Nat} {w : World} {R : Ts} (h : DoneR RB o lo hi w R R.len) (hlo : o ≤ lo) (hhi : o + R.len * 4 ≤ hi) : ∃ us : Ts, us.liesQ (inR RB o hi) w RB o ∧ Ts.twin us R ∧ us.ok := by
  have build : ∀ i, i ≤ R.len → ∃ us : Ts, us.liesQ (inR RB o hi) w RB (o + (R.len - i) * 4) ∧ Ts.twin us (R.drop (R.len - i)) ∧ us.ok := by
    intro i
    induction i with
    | zero =>
      intro _
      refine ⟨.nil, trivial, ?_, trivial⟩
      rw [Ts.len_zero (ts := R.drop (R.len - 0)) (by rw [Ts.drop_len]; omega)]
      trivial
    | succ i ih =>
      intro hi'
      obtain ⟨us, h1, h2, h3⟩ := ih (by omega)
      have hlt : R.len - (i + 1) < R.len := by omega
      obtain ⟨k, s, n, p, c, kids, rest, hd⟩ := Ts.drop_cons hlt
      obtain ⟨q, kids', c0, c1, c2, c3, hat, ht, hok', hq, hl, hk, hs, hn⟩ := h _ hlt _ _ _ _ _ _ _ hd
      have hsd := Ts.drop_succ _ R hd
      rw [show R.len - (i + 1) + 1 = R.len - i from by omega] at hsd
      rw [hsd] at h2
      refine ⟨.cons k s n q kids'.len kids' us, ⟨fun y hy hy' => ⟨rfl, by omega, by omega⟩, c0, c1, c2, c3, hat.stay (fun b y hb => ⟨hb.1, by have := hb.2.1; omega, hb.2.2⟩) (fun _ _ _ => rfl), ?_⟩, ?_, ⟨hk, hs, hn, ⟨Nat.le_refl _, by omega⟩, hq, hok', h3⟩⟩
      · rw [show o + (R.len - (i + 1)) * 4 + 4 = o + (R.len - i) * 4 from by omega]; exact h1
      · rw [hd]; exact ⟨rfl, rfl, rfl, ht, h2⟩
  obtain ⟨us, h1, h2, h3⟩ := build R.len (Nat.le_refl _)
  rw [Nat.sub_self] at h1 h2
  exact ⟨us, by simpa using h1, h2, h3⟩
end Go.Proofs.Ytflomdnjabgnaaa
