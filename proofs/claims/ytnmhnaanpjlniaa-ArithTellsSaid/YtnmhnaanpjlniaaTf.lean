import Derived.Test.YtnmhnaanpjlniaaTd
/-
  How deep, how many nodes.
-/
namespace Go.Proofs.Ytnmhnaanpjlniaa
open Go.RowKit

def depthL : Ts → Nat
  | .nil => 0
  | .cons _ _ _ _ _ kids rest => max (depthL kids + 1) (depthL rest)

theorem depthL_size : ∀ ts : Ts, depthL ts ≤ ts.size
  | .nil => Nat.le_refl _
  | .cons _ _ _ _ _ kids rest => by
    have h1 := depthL_size kids
    have h2 := depthL_size rest
    simp only [depthL, Ts.size]; omega

theorem Ts.len_size : ∀ ts : Ts, ts.len ≤ ts.size
  | .nil => Nat.le_refl _
  | .cons _ _ _ _ _ _ r => by have := Ts.len_size r; simp only [Ts.len, Ts.size]; omega

theorem box1 (w : World) (A : Array Value) (t : TypeId) : ∃ W, W = w.alloc (.cells A t) ∧ W.heap.size = w.heap.size + 1 ∧ Below w.heap.size w W ∧ (∀ i v, A[i]? = some v → W.cell? ⟨w.heap.size, i, none⟩ = some v) := by
  refine ⟨_, rfl, by simp, (Below.refl _ _).alloc (Nat.le_refl _) _, fun i v h => ?_⟩
  rw [_root_.Go.Joins.cell_alloc_mark_at w A t _ _ i rfl]; exact h

/-- an element of a list, in a later world -/
theorem Ts.open_at {W wr : World} {ts : Ts} {b o j : Nat} (hl : ts.lies W b o) (hB : Below W.heap.size W wr) (hok : ts.ok) (h : j < ts.len) :
    ∃ (k : Int) (s : ByteArray) (n : Int) (p : Option Addr) (c : Nat) (kids rest : Ts), Hid (ts.drop j = .cons k s n p c kids rest) ∧
      wr.cell? ⟨b, o + j * 4, none⟩ = some (.int .u8 k) ∧ wr.cell? ⟨b, o + j * 4 + 1, none⟩ = some (.string s) ∧ wr.cell? ⟨b, o + j * 4 + 2, none⟩ = some (.int .i64 n) ∧ wr.cell? ⟨b, o + j * 4 + 3, none⟩ = some (.slice p kids.len c) ∧
      Hid (Ts.At wr p kids) ∧ Hid kids.ok ∧ (kids.len ≤ c ∧ c ≤ 9223372036854775807) ∧ kids.size + rest.size + 1 ≤ ts.size ∧ (0 ≤ k ∧ k ≤ 255) ∧ s.size ≤ 140737488351232 ∧ (-9223372036854775808 ≤ n ∧ n ≤ 9223372036854775807) := by
  obtain ⟨k, s, n, p, c, kids, rest, hd⟩ := Ts.drop_cons h
  have hl2 := Ts.lies_stay (stays hB).1 _ (Ts.lies_drop j ts hl)
  have hokd := Ts.ok_drop j ts hok
  have hsz := Ts.drop_size j ts
  rw [hd] at hl2 hokd hsz
  simp only [Ts.size] at hsz
  obtain ⟨l0, l1, l2, l3, ⟨bb, oo, hpp, hlk⟩, _⟩ := hl2
  rw [Nat.mul_comm 4 j] at l0 l1 l2 l3
  exact ⟨k, s, n, p, c, kids, rest, Lib.hid hd, l0, l1, l2, l3, Lib.hid ⟨bb, oo, hpp, hlk⟩, Lib.hid hokd.2.2.2.2.2.1, hokd.2.2.2.1, hsz, hokd.1, hokd.2.1, hokd.2.2.1⟩

/-- where a list that has elements lies -/
theorem Ts.some_of {ts : Ts} {p : Option Addr} {b o j : Nat} (h : ts = .nil ∨ p = some ⟨b, o, none⟩) (hj : j < ts.len) : p = some ⟨b, o, none⟩ := by
  rcases h with rfl | h
  · simp [Ts.len] at hj
  · exact h

theorem Ts.drop_end {ts : Ts} {j : Nat} (h : ¬ j < ts.len) : ts.drop j = .nil := Ts.len_zero (by rw [Ts.drop_len]; omega)

set_option maxRecDepth 100000 in
set_option maxHeartbeats 1000000 in
theorem rdepth_any : ∀ (sz : Nat) (ts : Ts), ts.size < sz → ts.size ≤ 1000000 → ts.ok → ∀ (k : Int) (s : ByteArray) (n : Int) (w : World) (p : Option Addr) (c : Nat), Ts.At w p ts →
    Calls Try.prog 39 #[.agg #[.int .u8 k, .string s, .int .i64 n, .slice p ts.len c]] w fun e w' =>
      e = .returned (.int .i64 ((depthL ts + 1 : Nat) : Int)) ∧ Below w.heap.size w w' := by
  intro sz
  induction sz with
  | zero => intro ts h; omega
  | succ sz ih =>
    intro ts hsz hbig hok k s n w p c hat
    have hds := depthL_size ts
    have hls := Ts.len_size ts
    obtain ⟨W2, hW2, hsz2, hB2, hc1⟩ := box1 w #[.int .u8 k, .string s, .int .i64 n, .slice p ts.len c] 25
    have a3 : W2.cell? ⟨w.heap.size, 3, none⟩ = some (.slice p ts.len c) := hc1 3 _ rfl
    obtain ⟨b, o, hp, hlies⟩ := hat.below hB2
    go_enter Try.func39, Try.ntmps39
    go_wp2
    rw [← hW2]
    have Z := Lib.hid hW2
    have BW := Lib.hid hB2
    clear hB2 hc1 hW2
    go_loopw [3, 4] (fun m i wr => ∃ (j m' : Nat), j ≤ ts.len ∧ i = .int .i64 j ∧ m = .int .i64 m' ∧ m' ≤ depthL ts ∧ max m' (depthL (ts.drop j)) = depthL ts ∧ Below W2.heap.size W2 wr) (fun _ i _ => ts.len - (intOf i).toNat)
    case atStart => exact ⟨0, 0, Nat.zero_le _, rfl, rfl, Nat.zero_le _, by simp [Ts.drop], Below.refl _ _⟩
    case round =>
      rename_i wr _
      obtain ⟨j, m', hk, rfl, rfl, hm', hrel, hB⟩ := hrel
      have R := Lib.hid hrel
      have B := Lib.hid hB
      clear hrel
      have a3' := (hB.cell (p := ⟨w.heap.size, 3, none⟩) (by rw [hsz2]; simp)).trans a3
      by_cases hlt : j < ts.len
      · obtain ⟨kk, s1, nn, pp, cc, kids, rest, D, l0, l1, l2, l3, A1, O1, hkl, hsz3, _, _, _⟩ := Ts.open_at hlies hB hok hlt
        obtain rfl := Ts.some_of hp hlt
        clear hB hp
        go_wp2_with fail
        refine (ih kids (by omega) (by omega) O1.out kk s1 nn wr pp cc A1.out).mono ?_
        rintro e w' ⟨rfl, hB3⟩
        have B3 := Lib.hid (B.out.trans (hB3.mono B.out.size))
        clear hB3 l0 l1 l2 l3 a3'
        have hdk := depthL_size kids
        go_wp2
        go_roundw
        case rel =>
          have h := R.out
          rw [D.out] at h
          simp only [depthL] at h
          have hd2 := Ts.drop_succ j ts D.out
          refine ⟨j + 1, max m' (depthL kids + 1), by omega, by go_num, ?_, by omega, by rw [hd2]; omega, B3.out⟩
          congr 1
          split <;> omega
        case measure => simp [intOf]; omega
      · have hd := Ts.drop_end hlt
        have h := R.out
        rw [hd] at h
        have H : Hid (m' = depthL ts) := Lib.hid (by simpa [depthL] using h)
        clear h hd hB
        go_wp2
        go_ret
        refine ⟨?_, BW.out.trans (B.out.mono BW.out.size)⟩
        rw [← H.out]
        go_num

set_option maxRecDepth 100000 in
set_option maxHeartbeats 1000000 in
theorem tdepth_any : ∀ (sz : Nat) (ts : Ts), ts.size < sz → ts.size ≤ 1000000 → ts.ok → ∀ (k : Int) (s : ByteArray) (n : Int) (w : World) (p : Option Addr) (c : Nat), Ts.At w p ts →
    Calls Try.prog 38 #[.agg #[.int .u8 k, .string s, .int .i64 n, .slice p ts.len c]] w fun e w' =>
      e = .returned (.int .i64 ((depthL ts + 1 : Nat) : Int)) ∧ Below w.heap.size w w' := by
  intro sz
  induction sz with
  | zero => intro ts h; omega
  | succ sz ih =>
    intro ts hsz hbig hok k s n w p c hat
    have hds := depthL_size ts
    have hls := Ts.len_size ts
    obtain ⟨W2, hW2, hsz2, hB2, hc1⟩ := box1 w #[.int .u8 k, .string s, .int .i64 n, .slice p ts.len c] 25
    have a3 : W2.cell? ⟨w.heap.size, 3, none⟩ = some (.slice p ts.len c) := hc1 3 _ rfl
    obtain ⟨b, o, hp, hlies⟩ := hat.below hB2
    go_enter Try.func38, Try.ntmps38
    go_wp2
    rw [← hW2]
    have Z := Lib.hid hW2
    have BW := Lib.hid hB2
    clear hB2 hc1 hW2
    go_loopw [3, 9] (fun m i wr => ∃ (j m' : Nat), j ≤ ts.len ∧ i = .int .i64 j ∧ m = .int .i64 m' ∧ m' ≤ depthL ts ∧ max m' (depthL (ts.drop j)) = depthL ts ∧ Below W2.heap.size W2 wr) (fun _ i _ => ts.len - (intOf i).toNat)
    case atStart => exact ⟨0, 0, Nat.zero_le _, rfl, rfl, Nat.zero_le _, by simp [Ts.drop], Below.refl _ _⟩
    case round =>
      rename_i wr _
      obtain ⟨j, m', hk, rfl, rfl, hm', hrel, hB⟩ := hrel
      have R := Lib.hid hrel
      have B := Lib.hid hB
      clear hrel
      by_cases hlt : j < ts.len
      · obtain ⟨kk, s1, nn, pp, cc, kids, rest, D, l0, l1, l2, l3, A1, O1, hkl, hsz3, _, _, _⟩ := Ts.open_at hlies hB hok hlt
        obtain rfl := Ts.some_of hp hlt
        clear hB hp
        go_wp2_with fail
        have hB0 : Below wr.heap.size wr (wr.alloc (.cells #[.int .u8 kk, .string s1, .int .i64 nn, .slice pp kids.len cc] 25)) := (Below.refl _ _).alloc (Nat.le_refl _) _
        refine (ih kids (by omega) (by omega) O1.out kk s1 nn _ pp cc (A1.out.below hB0)).mono ?_
        rintro e w' ⟨rfl, hB3⟩
        have B3 := Lib.hid (B.out.trans ((hB0.trans (hB3.mono hB0.size)).mono B.out.size))
        clear hB3 hB0 l0 l1 l2 l3
        have hdk := depthL_size kids
        go_wp2
        go_roundw
        case rel =>
          have h := R.out
          rw [D.out] at h
          simp only [depthL] at h
          have hd2 := Ts.drop_succ j ts D.out
          refine ⟨j + 1, max m' (depthL kids + 1), by omega, by go_num, ?_, by omega, by rw [hd2]; omega, B3.out⟩
          congr 1
          split <;> omega
        case measure => simp [intOf]; omega
      · have hd := Ts.drop_end hlt
        have h := R.out
        rw [hd] at h
        have H : Hid (m' = depthL ts) := Lib.hid (by simpa [depthL] using h)
        clear h hd hB
        go_wp2
        go_ret
        refine ⟨?_, BW.out.trans (B.out.mono BW.out.size)⟩
        rw [← H.out]
        go_num

set_option maxRecDepth 100000 in
set_option maxHeartbeats 1000000 in
theorem rsize_any : ∀ (sz : Nat) (ts : Ts), ts.size < sz → ts.size ≤ 1000000 → ts.ok → ∀ (k : Int) (s : ByteArray) (n : Int) (w : World) (p : Option Addr) (c : Nat), Ts.At w p ts →
    Calls Try.prog 37 #[.agg #[.int .u8 k, .string s, .int .i64 n, .slice p ts.len c]] w fun e w' =>
      e = .returned (.int .i64 ((ts.size + 1 : Nat) : Int)) ∧ Below w.heap.size w w' := by
  intro sz
  induction sz with
  | zero => intro ts h; omega
  | succ sz ih =>
    intro ts hsz hbig hok k s n w p c hat
    have hls := Ts.len_size ts
    obtain ⟨W2, hW2, hsz2, hB2, hc1⟩ := box1 w #[.int .u8 k, .string s, .int .i64 n, .slice p ts.len c] 25
    have a3 : W2.cell? ⟨w.heap.size, 3, none⟩ = some (.slice p ts.len c) := hc1 3 _ rfl
    obtain ⟨b, o, hp, hlies⟩ := hat.below hB2
    go_enter Try.func37, Try.ntmps37
    go_wp2
    rw [← hW2]
    have Z := Lib.hid hW2
    have BW := Lib.hid hB2
    clear hB2 hc1 hW2
    go_loopw [3, 4] (fun m i wr => ∃ (j m' : Nat), j ≤ ts.len ∧ i = .int .i64 j ∧ m = .int .i64 m' ∧ m' + (ts.drop j).size = ts.size + 1 ∧ Below W2.heap.size W2 wr) (fun _ i _ => ts.len - (intOf i).toNat)
    case atStart => exact ⟨0, 1, Nat.zero_le _, rfl, rfl, by simp [Ts.drop]; omega, Below.refl _ _⟩
    case round =>
      rename_i wr _
      obtain ⟨j, m', hk, rfl, rfl, hrel, hB⟩ := hrel
      have B := Lib.hid hB
      have a3' := (hB.cell (p := ⟨w.heap.size, 3, none⟩) (by rw [hsz2]; simp)).trans a3
      by_cases hlt : j < ts.len
      · obtain ⟨kk, s1, nn, pp, cc, kids, rest, D, l0, l1, l2, l3, A1, O1, hkl, hsz3, _, _, _⟩ := Ts.open_at hlies hB hok hlt
        obtain rfl := Ts.some_of hp hlt
        rw [D.out] at hrel
        simp only [Ts.size] at hrel
        clear hB hp
        go_wp2_with fail
        refine (ih kids (by omega) (by omega) O1.out kk s1 nn wr pp cc A1.out).mono ?_
        rintro e w' ⟨rfl, hB3⟩
        have B3 := Lib.hid (B.out.trans (hB3.mono B.out.size))
        clear hB3 l0 l1 l2 l3 a3'
        go_wp2
        go_roundw
        case rel =>
          have hd2 := Ts.drop_succ j ts D.out
          exact ⟨j + 1, m' + (kids.size + 1), by omega, by go_num, by go_num, by rw [hd2]; omega, B3.out⟩
        case measure => simp [intOf]; omega
      · have hd := Ts.drop_end hlt
        rw [hd] at hrel
        have H : Hid (m' = ts.size + 1) := Lib.hid (by simpa [Ts.size] using hrel)
        clear hrel hd hB
        go_wp2
        go_ret
        refine ⟨?_, BW.out.trans (B.out.mono BW.out.size)⟩
        rw [← H.out]
        rfl

end Go.Proofs.Ytnmhnaanpjlniaa
/-
  Whether a name may be one.
-/
namespace Go.Proofs.Ytnmhnaanpjlniaa
open Go.RowKit

/-- may a byte stand in a name? -/
def okB (x : Nat) : Prop := (32 ≤ x ∧ x ≤ 126) ∨ x = 9 ∨ x = 10
def nameOk (s : ByteArray) : Prop := s.size ≤ 32 ∧ ∀ (j : Nat) (h : j < s.size), okB s[j].toNat
open Classical in
noncomputable def nameB (s : ByteArray) : Bool := decide (nameOk s)

theorem nameB_true {s : ByteArray} (h : nameOk s) : nameB s = true := by simp [nameB, h]
theorem nameB_false {s : ByteArray} (h : ¬ nameOk s) : nameB s = false := by simp [nameB, h]

/-- the ways that a byte may be, as the walk asks -/
theorem byte_ways (x : Nat) :
    (okB x ∧ (((32 : Int) ≤ (x : Int) ∧ (x : Int) ≤ 126) ∨ ((x : Int) < 32 ∧ ((x : Int) != 9) = false) ∨ ((x : Int) < 32 ∧ ((x : Int) != 9) = true ∧ ((x : Int) != 10) = false))) ∨
    (¬ okB x ∧ (((x : Int) < 32 ∧ ((x : Int) != 9) = true ∧ ((x : Int) != 10) = true) ∨ (32 ≤ (x : Int) ∧ 126 < (x : Int) ∧ ((x : Int) != 9) = true ∧ ((x : Int) != 10) = true))) := by
  simp only [bne_iff_ne, bne_eq_false_iff_eq, ne_eq, okB]
  omega

set_option maxRecDepth 100000 in
set_option maxHeartbeats 1000000 in
theorem rname_any (s : ByteArray) (hs : s.size ≤ 140737488351232) (w : World) :
    Calls Try.prog 95 #[.string s] w fun e w' => e = .returned (.bool (nameB s)) ∧ w' = w := by
  go_enter Try.func95, Try.ntmps95
  go_wp2
  go_loop [3] (fun i => ∃ (j : Nat), j ≤ s.size ∧ i = .int .i64 j ∧ ∀ (m : Nat) (h : m < s.size), m < j → okB s[m].toNat) (fun i => s.size - (intOf i).toNat)
  case atStart => exact ⟨0, Nat.zero_le _, rfl, fun m h1 h2 => by omega⟩
  case round =>
    obtain ⟨j, hj, rfl, hr⟩ := hrel
    have R := Lib.hid hr
    clear hr
    by_cases hlt : j < s.size
    · rcases byte_ways s[j].toNat with ⟨hk, hw⟩ | ⟨hk, hw⟩
      · have RK : Hid (∀ (m : Nat) (h : m < s.size), m < j + 1 → okB s[m].toNat) := Lib.hid fun m h h1 => by
          by_cases e : m = j
          · subst e; exact hk
          · exact R.out m h (by omega)
        clear R hk
        rcases hw with ⟨h1, h2⟩ | ⟨h1, h2⟩ | ⟨h1, h2, h3⟩
        · go_wp2
          go_round
          case rel => exact ⟨j + 1, by omega, by go_num, RK.out⟩
          case measure => simp [intOf]; omega
        · go_wp2
          go_round
          case rel => exact ⟨j + 1, by omega, by go_num, RK.out⟩
          case measure => simp [intOf]; omega
        · go_wp2
          go_round
          case rel => exact ⟨j + 1, by omega, by go_num, RK.out⟩
          case measure => simp [intOf]; omega
      · have NB : Hid (nameB s = false) := Lib.hid (nameB_false fun h => hk (h.2 j hlt))
        clear R hk
        rcases hw with ⟨h1, h2, h3⟩ | ⟨h1, h2, h3, h4⟩
        · go_wp2
          go_ret
          exact ⟨by rw [NB.out]; rfl, rfl⟩
        · go_wp2
          go_ret
          exact ⟨by rw [NB.out]; rfl, rfl⟩
    · have hall : ∀ (m : Nat) (h : m < s.size), okB s[m].toNat := fun m h => R.out m h (by omega)
      have NB : Hid (nameB s = decide ((s.size : Int) ≤ 32)) := Lib.hid (by
        by_cases h : s.size ≤ 32
        · rw [nameB_true ⟨h, hall⟩]; simp; omega
        · rw [nameB_false (fun h' => h h'.1)]; simp; omega)
      clear R hall
      go_wp2
      go_ret
      exact ⟨by rw [NB.out]; rfl, rfl⟩

set_option maxRecDepth 100000 in
set_option maxHeartbeats 1000000 in
theorem tname_any (s : ByteArray) (hs : s.size ≤ 140737488351232) (w : World) :
    Calls Try.prog 105 #[.string s] w fun e w' => e = .returned (.bool (nameB s)) ∧ w' = w := by
  by_cases h : (32 : Int) < (s.size : Int)
  · have NB : Hid (nameB s = false) := Lib.hid (nameB_false fun h' => by have := h'.1; omega)
    go_enter Try.func105, Try.ntmps105
    go_wp2
    go_ret
    exact ⟨by rw [NB.out]; rfl, rfl⟩
  · go_enter Try.func105, Try.ntmps105
    go_wp2
    go_loop [10] (fun i => ∃ (j : Nat), j ≤ s.size ∧ i = .int .i64 j ∧ ∀ (m : Nat) (h : m < s.size), m < j → okB s[m].toNat) (fun i => s.size - (intOf i).toNat)
    case atStart => exact ⟨0, Nat.zero_le _, rfl, fun m h1 h2 => by omega⟩
    case round =>
      obtain ⟨j, hj, rfl, hr⟩ := hrel
      have R := Lib.hid hr
      clear hr
      by_cases hlt : j < s.size
      · rcases byte_ways s[j].toNat with ⟨hk, hw⟩ | ⟨hk, hw⟩
        · have RK : Hid (∀ (m : Nat) (h : m < s.size), m < j + 1 → okB s[m].toNat) := Lib.hid fun m h h1 => by
            by_cases e : m = j
            · subst e; exact hk
            · exact R.out m h (by omega)
          clear R hk
          rcases hw with ⟨h1, h2⟩ | ⟨h1, h2⟩ | ⟨h1, h2, h3⟩
          · go_wp2
            go_round
            case rel => exact ⟨j + 1, by omega, by go_num, RK.out⟩
            case measure => simp [intOf]; omega
          · go_wp2
            go_round
            case rel => exact ⟨j + 1, by omega, by go_num, RK.out⟩
            case measure => simp [intOf]; omega
          · go_wp2
            go_round
            case rel => exact ⟨j + 1, by omega, by go_num, RK.out⟩
            case measure => simp [intOf]; omega
        · have NB : Hid (nameB s = false) := Lib.hid (nameB_false fun h => hk (h.2 j hlt))
          clear R hk
          rcases hw with ⟨h1, h2, h3⟩ | ⟨h1, h2, h3, h4⟩
          · go_wp2
            go_ret
            exact ⟨by rw [NB.out]; rfl, rfl⟩
          · go_wp2
            go_ret
            exact ⟨by rw [NB.out]; rfl, rfl⟩
      · have NB : Hid (nameB s = true) := Lib.hid (nameB_true ⟨by omega, fun m h => R.out m h (by omega)⟩)
        clear R
        go_wp2
        go_ret
        exact ⟨by rw [NB.out]; rfl, rfl⟩
end Go.Proofs.Ytnmhnaanpjlniaa
