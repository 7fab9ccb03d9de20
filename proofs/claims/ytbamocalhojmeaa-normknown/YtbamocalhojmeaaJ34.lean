/- Joined texts of the proof. -/
import Derived.Test.YtbamocalhojmeaaJ33
import Derived.Test.YtbamocalhojmeaaJ24
import Derived.Test.YtbamocalhojmeaaJ26

/- What NormTells wants of norm; heavy; the given answer's Levels and where its rows lie. -/
namespace Go.Proofs.Ytbamocalhojmeaa
open Go.RowKit
set_option linter.unusedVariables false
attribute [local go_sem ↓] Go.wp_at_zero Go.wp_at_succ

def LeS (f : Nat) : Prop := ∀ (es : List Ev) (n : Int) (a : Option Addr) (c : Nat) (w : World), RowEv w a es → (∀ x ∈ es, x.ok) → es.length ≤ 4611686018427387904 → es.length ≤ c →
  Calls Try.prog f #[.slice a es.length c, .int .i64 n] w fun r w' => ∃ ap cp, r = .returned (.tuple #[.slice ap (leastZ es n).length cp, .int .i64 (wrongZ es n)]) ∧ (leastZ es n).length ≤ cp ∧ RowI w' ap (leastZ es n) ∧ WrZ (fun k => w.heap.size ≤ k) w' ap cp ∧ Below w.heap.size w w'
def LvS (f : Nat) : Prop := ∀ (es : List Ev) (n : Int) (a : Option Addr) (c : Nat) (w : World), RowEv w a es → (∀ x ∈ es, x.ok) → es.length ≤ 4611686018427387904 → es.length ≤ c →
  Calls Try.prog f #[.slice a es.length c, .int .i64 n] w fun r w' => ∃ ap cp b c, r = .returned (.tuple #[.slice ap (levelsZ es n).length cp, .int .i64 (wrongZ es n)]) ∧ (levelsZ es n).length ≤ cp ∧ LvR (fun k => w.heap.size ≤ k) 0 w' ap (levelsZ es n) b c ∧ Below w.heap.size w w'
def ScS (f : Nat) : Prop := ∀ (es : List Ev) (zs : List Int) (a b : Option Addr) (c d : Nat) (w : World), RowEv w a es → (∀ x ∈ es, x.ok) → RowI w b zs → (∀ z ∈ zs, i64 z) → es.length ≤ c → zs.length ≤ d → es.length ≤ 1048576 → zs.length ≤ 1048576 →
  Calls Try.prog f #[.slice a es.length c, .slice b zs.length d] w fun r w' => ∃ ap cp, r = .returned (.tuple #[.slice ap (schedZ es zs).length cp, .int .i64 (schedW es zs)]) ∧ (schedZ es zs).length ≤ cp ∧ RowI w' ap (schedZ es zs) ∧ WrZ (fun k => w.heap.size ≤ k) w' ap cp ∧ Below w.heap.size w w'
theorem LeS.less {f : Nat} (h : LeS f) : LeT f := fun es n a c w h1 h2 h3 h4 => (h es n a c w h1 h2 h3 h4).mono fun r w' ⟨ap, cp, d1, d2, d3, _, d5⟩ => ⟨ap, cp, d1, d2, d3, d5⟩
theorem LvS.less {f : Nat} (h : LvS f) : LvT f := fun es n a c w h1 h2 h3 h4 => (h es n a c w h1 h2 h3 h4).mono fun r w' ⟨ap, cp, b, k, d1, d2, d3, d5⟩ => ⟨ap, cp, d1, d2, d3.rows, d5⟩
theorem ScS.less {f : Nat} (h : ScS f) : ScT f := fun es zs a b c d w h1 h2 h3 h4 h5 h6 h7 h8 => (h es zs a b c d w h1 h2 h3 h4 h5 h6 h7 h8).mono fun r w' ⟨ap, cp, d1, d2, d3, _, d5⟩ => ⟨ap, cp, d1, d2, d3, d5⟩

def hvB (m : Nat) (n : Int) : Bool := decide ((100 < m ∧ m < 1024) ∨ 1029 < m ∨ (m = 1024 ∧ 1 ≤ n ∧ n ≤ 16))
set_option maxRecDepth 100000 in
set_option maxHeartbeats 1600000 in
theorem heavy_any (a : Option Addr) (m c : Nat) (n : Int) (w : World) : Calls Try.prog 7 #[.slice a m c, .int .i64 n] w fun r w' => r = .returned (.bool (hvB m n)) ∧ w' = w := by
  by_cases hout : (100 < m ∧ m < 1024) ∨ 1029 < m ∨ (m = 1024 ∧ 1 ≤ n ∧ n ≤ 16)
  · have hv : hvB m n = true := decide_eq_true hout
    rw [hv]
    clear hv
    rcases hout with ⟨h1, h2⟩ | h1 | ⟨h1, h2, h3⟩
    · have z1 : (100 : Int) < (m : Int) := by omega
      have z2 : (m : Int) < 1024 := by omega
      go_enter Try.func7, Try.ntmps7
      go_wp2_with fail
      go_ret
      exact ⟨rfl, rfl⟩
    · have z1 : (100 : Int) < (m : Int) := by omega
      have z2 : ¬ (m : Int) < 1024 := by omega
      have z3 : (1029 : Int) < (m : Int) := by omega
      go_enter Try.func7, Try.ntmps7
      go_wp2_with fail
      go_ret
      exact ⟨rfl, rfl⟩
    · subst h1
      go_enter Try.func7, Try.ntmps7
      go_wp2_with fail
      go_ret
      exact ⟨rfl, rfl⟩
  · have hv : hvB m n = false := decide_eq_false hout
    rw [hv]
    clear hv
    have hcase : (m ≤ 100) ∨ (m = 1024 ∧ n < 1) ∨ (m = 1024 ∧ 16 < n) ∨ (1024 < m ∧ m ≤ 1029) := by omega
    clear hout
    rcases hcase with h1 | ⟨h1, h2⟩ | ⟨h1, h2⟩ | ⟨h1, h2⟩
    · have z1 : ¬ (100 : Int) < (m : Int) := by omega
      have z2 : ¬ (1029 : Int) < (m : Int) := by omega
      have z4 : ((m : Int) == 1024) = false := by rw [beq_eq_false_iff_ne]; omega
      clear h1
      go_enter Try.func7, Try.ntmps7
      go_wp2_with fail
      go_ret
      exact ⟨rfl, rfl⟩
    · subst h1
      have z1 : ¬ (1 : Int) ≤ n := by omega
      go_enter Try.func7, Try.ntmps7
      go_wp2_with fail
      go_ret
      exact ⟨rfl, rfl⟩
    · subst h1
      have z1 : (1 : Int) ≤ n := by omega
      have z2 : ¬ n ≤ (16 : Int) := by omega
      go_enter Try.func7, Try.ntmps7
      go_wp2_with fail
      go_ret
      exact ⟨rfl, rfl⟩
    · have z1 : (100 : Int) < (m : Int) := by omega
      have z2 : ¬ (m : Int) < 1024 := by omega
      have z3 : ¬ (1029 : Int) < (m : Int) := by omega
      have z5 : ((m : Int) == 1024) = false := by rw [beq_eq_false_iff_ne]; omega
      clear h1 h2
      go_enter Try.func7, Try.ntmps7
      go_wp2_with fail
      go_ret
      exact ⟨rfl, rfl⟩

theorem rowID_of {base : Nat} {w : World} {v : Value} {vs : List Value} {rows : List (List Nat)} (hown : OwnL base w v vs) (hr : RowsV base w vs rows) (hb : ∀ r ∈ rows, r.length ≤ 4611686018427387904) : ∃ a c, v = .slice a rows.length c ∧ rows.length ≤ c ∧ RowID (fun k => base ≤ k) w a (rows.map natI) := by
  obtain ⟨hlen, hat⟩ := hr
  obtain ⟨h0, ⟨rfl, h2⟩ | ⟨g, cap, cur, rfl, hg, hh, hl, hm, hs, ht⟩⟩ := hown
  · have : rows = [] := List.length_eq_zero_iff.1 (by omega)
    subst this
    exact ⟨none, 0, rfl, Nat.le_refl _, .inl rfl⟩
  · rw [hlen] at hl ⊢
    refine ⟨_, cap, rfl, hl, .inr ⟨g, 0, rfl, hg, fun i zs hz => ?_⟩⟩
    rw [List.getElem?_map] at hz
    obtain ⟨r, hr1, rfl⟩ := Option.map_eq_some_iff.1 hz
    have hi : i < rows.length := (List.getElem?_eq_some_iff.1 hr1).1
    have hx := List.getElem?_eq_getElem (show i < vs.length by omega)
    have hO := hat i _ r hx hr1
    obtain ⟨b, c, h5, h6, h7⟩ := hO.row
    have ht2 : cur.toList.take (vs.length * 1) = vs := ht
    have e1 : (cur.toList.take (vs.length * 1))[i]? = some vs[i] := by rw [ht2]; exact hx
    rw [List.getElem?_take_of_lt (by omega)] at e1
    refine ⟨b, c, ?_, h7, h6, by rw [natI_length]; exact hb r (List.mem_of_getElem? hr1), fun _ k o he => ?_⟩
    · rw [← h5]
      simp only [World.cell?, hh, Nat.zero_add]
      simpa using e1
    · refine hO.block k ?_
      rw [h5, he]
      rfl
theorem RowID.lt {D : Nat → Prop} {w : World} {a : Option Addr} {zss : List (List Int)} (h : RowID D w a zss) : RowID (fun k => D k ∧ k < w.heap.size) w a zss := by
  obtain h0 | ⟨g, o, e, hg, hc⟩ := h
  · exact .inl h0
  · by_cases hz0 : zss = []
    · exact .inl hz0
    · obtain ⟨z0, t, rfl⟩ : ∃ z t, zss = z :: t := by
        cases zss with
        | nil => exact absurd rfl hz0
        | cons z t => exact ⟨z, t, rfl⟩
      obtain ⟨b, c, h1, _⟩ := hc 0 z0 rfl
      refine .inr ⟨g, o, e, ⟨hg, lt_of_cell h1⟩, fun i zs hz => ?_⟩
      obtain ⟨b, c, h1, h2, h3, h4, h5⟩ := hc i zs hz
      refine ⟨b, c, h1, h2, h3, h4, fun hne k o he => ⟨h5 hne k o he, ?_⟩⟩
      obtain h6 | ⟨g', o', e', h7⟩ := h2
      · exact absurd h6 hne
      · rw [e'] at he
        cases he
        cases zs with
        | nil => exact absurd rfl hne
        | cons z t => exact lt_of_cell (h7 0 z rfl)
theorem LvR.lt {D : Nat → Prop} {w : World} {a : Option Addr} {zss : List (List Int)} {b : Nat → Option Addr} {c : Nat → Nat} (h : LvR D 0 w a zss b c) : LvR (fun k => D k ∧ k < w.heap.size) 0 w a zss b c := by
  refine ⟨?_, fun i zs hi hz => ⟨(h.row i zs hi hz).1, fun hne k o he => ⟨(h.row i zs hi hz).2 hne k o he, ?_⟩⟩, h.len, fun i hi => (h.wr i hi).lt, h.apart⟩
  · obtain h0 | ⟨g, o, e, hg, hne, hc⟩ := h.out
    · exact .inl h0
    · by_cases hz0 : zss = []
      · exact .inl hz0
      · obtain ⟨z0, t, rfl⟩ : ∃ z t, zss = z :: t := by
          cases zss with
          | nil => exact absurd rfl hz0
          | cons z t => exact ⟨z, t, rfl⟩
        exact .inr ⟨g, o, e, ⟨hg, lt_of_cell (hc 0 z0 rfl)⟩, hne, hc⟩
  · obtain h6 | ⟨g', o', e', h7⟩ := (h.row i zs hi hz).1
    · exact absurd h6 hne
    · rw [e'] at he
      cases he
      cases zs with
      | nil => exact absurd rfl hne
      | cons z t => exact lt_of_cell (h7 0 z rfl)
theorem flatten_len : ∀ (rows : List (List Nat)) (r : List Nat), r ∈ rows → r.length ≤ rows.flatten.length := by
  intro rows
  induction rows with
  | nil => intro r hr; simp at hr
  | cons x rows ih =>
    intro r hr
    rw [List.flatten_cons, List.length_append]
    rcases List.mem_cons.1 hr with rfl | h
    · omega
    · have := ih r h
      omega
theorem levels_few {es : List Ev} {n m : Nat} (hF : Fit es n m) : (levelsE (evAt es) m n).length ≤ 1024 ∧ ∀ r ∈ levelsE (evAt es) m n, r.length ≤ 1024 := by
  have hl := (levels_lin hF).len
  have hm := hF.m2
  refine ⟨?_, fun r hr => ?_⟩
  · unfold levelsE levelsL
    rw [List.length_map, List.length_range]
    have := (mostTo_le (evAt es) m).2
    omega
  · have := flatten_len _ r hr
    omega
theorem levelsZ_few {es : List Ev} {n : Int} (hok : ∀ x ∈ es, x.ok) : (levelsZ es n).length ≤ 1024 := by
  unfold levelsZ
  split
  · rename_i hw
    have h1 := (wrongZ_ok hw).1
    rw [List.length_map]
    obtain ⟨k, rfl⟩ : ∃ k : Nat, n = (k : Int) := ⟨n.toNat, by omega⟩
    exact (levels_few ⟨hw, hok, rfl⟩).1
  · simp
theorem leastZ_few {es : List Ev} {n : Int} : (leastZ es n).length ≤ 1024 := by
  unfold leastZ
  split
  · rename_i hw
    rw [natI_length]
    have : (leastL (evAt es) es.length).length = es.length := leastN_length _ _ _
    rw [this]
    exact (wrongZ_ok hw).2.2.1
  · simp
theorem schedZ_few {es : List Ev} {zs : List Int} : (schedZ es zs).length ≤ zs.length := by
  unfold schedZ
  split
  · unfold thOf
    simp
  · simp
theorem refLevels_d (es : List Ev) (n : Int) (a : Option Addr) (c : Nat) (w : World) (hE : RowEv w a es) (hok : ∀ x ∈ es, x.ok) (hl : es.length ≤ 4611686018427387904) (hc : es.length ≤ c) :
    Calls Try.prog 13 #[.slice a es.length c, .int .i64 n] w fun r w' => ∃ ap cp, r = .returned (.tuple #[.slice ap (levelsZ es n).length cp, .int .i64 (wrongZ es n)]) ∧ (levelsZ es n).length ≤ cp ∧ RowID (fun k => w.heap.size ≤ k) w' ap (levelsZ es n) ∧ Below w.heap.size w w' := by
  unfold levelsZ
  by_cases hw : wrongZ es n = 0
  · rw [if_pos hw]
    have h1 := (wrongZ_ok hw).1
    obtain ⟨k, rfl⟩ : ∃ k : Nat, n = (k : Int) := ⟨n.toNat, by omega⟩
    refine (refLevels_ok es k a c w hE hc hw).mono fun r w' ⟨v, vs, d1, d2, d3, d4⟩ => ?_
    obtain ⟨ap, cp, rfl, f2, f3⟩ := rowID_of d2 d3 fun r hr => by have := (levels_few ⟨hw, hok, rfl⟩).2 r hr; omega
    rw [List.length_map]
    exact ⟨ap, cp, by rw [d1, hw]; rfl, f2, f3, d4⟩
  · rw [if_neg hw]
    exact (refLevels_bad es n a c w hE hl hc hw).mono fun r w' ⟨d1, d3⟩ => ⟨none, 0, d1, Nat.le_refl _, .inl rfl, d3⟩
end Go.Proofs.Ytbamocalhojmeaa

/- norm.Levels: what its loop keeps. -/
namespace Go.Proofs.Ytbamocalhojmeaa
open Go.RowKit
set_option linter.unusedVariables false

theorem lv_thread {ev : Nat → Ev} {x y : Nat} (h1 : lev ev x = lev ev y) (h2 : (ev x).th = (ev y).th) : x = y := by
  rcases Nat.lt_trichotomy x y with h | h | h
  · have := lev_lt (HB.same (ev := ev) h h2)
    omega
  · exact h
  · have := lev_lt (HB.same (ev := ev) h h2.symm)
    omega
theorem lvRow_sorted (ev : Nat → Ev) (m l : Nat) : ∀ t, (lvRows ev m l t).Pairwise fun a b => (ev a).th ≤ (ev b).th
  | 0 => by simp [lvRows]
  | t + 1 => by
    rw [lvRows_succ, List.pairwise_append]
    refine ⟨lvRow_sorted ev m l t, ?_, fun a ha b hb => ?_⟩
    · rw [List.pairwise_iff_forall_sublist]
      intro a b hab
      have ha := hab.subset (List.mem_cons_self ..)
      have hb := hab.subset (List.mem_cons_of_mem _ (List.mem_cons_self ..))
      simp [lvRow] at ha hb
      omega
    · obtain ⟨_, _, u, h1, h2⟩ := mem_lvRows.1 ha
      simp [lvRow] at hb
      omega
theorem lv_sorted {ev : Nat → Ev} {m l n : Nat} {N' : List Nat} (hth : ∀ x, x < m → 0 ≤ (ev x).th ∧ (ev x).th < (n : Int)) (hp : N'.Perm (gLv ev m l)) (hs : ∀ (i j x y : Nat), i < j → N'[i]? = some x → N'[j]? = some y → ¬ (ev y).th < (ev x).th) : N' = lvRows ev m l n := by
  have hg : (gLv ev m l).Nodup := List.Pairwise.filter _ List.nodup_range
  have hr : (lvRows ev m l n).Nodup := (pairs_lvRows ev m l n).imp fun h => h.1
  have hmem : ∀ x, x ∈ gLv ev m l ↔ x ∈ lvRows ev m l n := fun x => by
    rw [mem_lvRows]
    simp only [gLv, List.mem_filter, List.mem_range, decide_eq_true_eq]
    constructor
    · rintro ⟨h1, h2⟩
      have := hth x h1
      exact ⟨h1, h2, (ev x).th.toNat, by omega, by omega⟩
    · rintro ⟨h1, h2, _⟩
      exact ⟨h1, h2⟩
  have hpp : N'.Perm (lvRows ev m l n) := hp.trans ((List.perm_ext_iff_of_nodup hg hr).2 hmem)
  refine List.Perm.eq_of_pairwise (le := fun a b => (ev a).th ≤ (ev b).th) (fun a b ha hb h1 h2 => ?_) ?_ (lvRow_sorted ev m l n) hpp
  · have ha2 := (mem_lvRows.1 (hpp.mem_iff.1 ha)).2.1
    have hb2 := (mem_lvRows.1 hb).2.1
    exact lv_thread (ha2.trans hb2.symm) (Int.le_antisymm h1 h2)
  · rw [List.pairwise_iff_getElem]
    intro i j hi hj hij
    have := hs i j _ _ hij (List.getElem?_eq_getElem hi) (List.getElem?_eq_getElem hj)
    omega
/-- The rows, the first q being sorted. -/
def srtL (ev : Nat → Ev) (m n q : Nat) : List (List Int) := (List.range (kN ev m)).map fun l => if l < q then natI (lvRows ev m l n) else natI (gLv ev m l)
theorem srtL_length (ev : Nat → Ev) (m n q : Nat) : (srtL ev m n q).length = kN ev m := by simp [srtL]
theorem srtL_at (ev : Nat → Ev) {m n q l : Nat} (h : l < kN ev m) : (srtL ev m n q)[l]? = some (if l < q then natI (lvRows ev m l n) else natI (gLv ev m l)) := by simp [srtL, h]
theorem srtL_zero (ev : Nat → Ev) (m n : Nat) : srtL ev m n 0 = grpL ev m := by simp [srtL, grpL]
theorem srtL_set (ev : Nat → Ev) {m n q : Nat} (h : q < kN ev m) : (srtL ev m n q).set q (natI (lvRows ev m q n)) = srtL ev m n (q + 1) := by
  apply List.ext_getElem?
  intro i
  by_cases hi : i < kN ev m
  · rw [srtL_at ev hi]
    by_cases he : q = i
    · subst he
      rw [List.getElem?_set_self (by rw [srtL_length]; exact h), if_pos (by omega)]
    · rw [List.getElem?_set_ne he, srtL_at ev hi]
      by_cases h1 : i < q
      · rw [if_pos h1, if_pos (by omega)]
      · rw [if_neg h1, if_neg (by omega)]
  · rw [List.getElem?_eq_none (by rw [List.length_set, srtL_length]; omega), List.getElem?_eq_none (by rw [srtL_length]; omega)]
theorem srtL_end (ev : Nat → Ev) (m n : Nat) : srtL ev m n (kN ev m) = (levelsE ev m n).map natI := by
  unfold levelsE levelsL srtL
  rw [List.map_map]
  refine List.map_congr_left fun l hl => ?_
  rw [if_pos (List.mem_range.1 hl)]
  rfl
section
variable {B : Nat} {W W1 : World} {b k : Nat} {Ls : List (List Int)} {V : List Value} {v : Value} {zs' : List Int}
/-- A row is sorted in place. -/
theorem Grp.turn (h : Grp B W b Ls V) (hv : V[k]? = some v) (hg : W.grownBy W1 v.ownBlock) (hr : RwZ B W1 v zs') : Grp B W1 b (Ls.set k zs') V := by
  obtain ⟨es, clock, h1, h2, h3⟩ := h.map
  have hk : k < V.length := (List.getElem?_eq_some_iff.1 hv).1
  have hkz : k < Ls.length := by rw [← h.len]; exact hk
  have hvr := h.row k v _ hv (List.getElem?_eq_getElem hkz)
  obtain ⟨g0, hg0, hg0B, hg0l⟩ := rwz_block hvr
  have hlt := h.lt
  refine ⟨⟨es, clock, (hg.block b (Array.getElem?_eq_some_iff.1 h1).1 (by rw [hg0]; intro e; cases e; omega)).trans h1, h2, h3⟩, by simp [h.len], fun i u zs hu hz => ?_, h.ap, h.lt⟩
  by_cases hik : k = i
  · subst hik
    rw [List.getElem?_set_self hkz] at hz
    cases hz
    rw [hv] at hu
    cases hu
    exact hr
  · rw [List.getElem?_set_ne hik] at hz
    have hu0 := h.row i u zs hu hz
    obtain ⟨g2, h4, h5, h6⟩ := rwz_block hu0
    refine hu0.kept fun g hgb => ?_
    rw [h4] at hgb
    cases hgb
    exact hg.block g2 h6 (fun e => h.ap i k u v (fun q => hik q.symm) hu hv (by rw [h4, ← e]))
/-- Another row, of slices, is written. -/
theorem Grp.keep (h : Grp B W b Ls V) {o : Option Nat} (hg : W.grownBy W1 o) (ho : ∀ g, o = some g → ∃ cs, W.heap[g]? = some (.cells cs 23 (0, 0))) : Grp B W1 b Ls V := by
  obtain ⟨es, clock, h1, h2, h3⟩ := h.map
  have hkeep : ∀ (g : Nat) (x : Obj), W.heap[g]? = some x → (∀ cs, x ≠ .cells cs 23 (0, 0)) → W1.heap[g]? = some x := fun g x hx hn => (hg.block g (Array.getElem?_eq_some_iff.1 hx).1 (fun e => by
    obtain ⟨cs, hc⟩ := ho g e.symm
    rw [hx] at hc
    cases hc
    exact hn cs rfl)).trans hx
  refine ⟨⟨es, clock, hkeep b _ h1 (fun cs e => by cases e), h2, h3⟩, h.len, fun i u zs hu hz => ?_, h.ap, h.lt⟩
  obtain ⟨g, cs, rfl, q1, q2, q3⟩ := h.row i u zs hu hz
  exact ⟨g, cs, rfl, q1, hkeep g _ q2 (fun cs e => by cases e), q3⟩
theorem Grp.len_run (h : Grp B W b Ls V) (ty : TypeId) : (Builtin.len_ #[66] ty #[.map (some b)]).run Try.prog W = .ok (.int .i64 (Ls.length : Int)) W := by
  obtain ⟨es, clock, h1, h2, h3⟩ := h.map
  have := run_len_map W 66 ty b es clock (P := Try.prog) (by kernel_rfl) h1
  rw [this]
  have hl := congrArg List.length h3
  rw [List.length_map, h.len, Array.length_toList] at hl
  rw [hl]
  rfl
end
def slA : Value → Option Addr
  | .slice a _ _ => a
  | _ => none
def slC : Value → Nat
  | .slice _ _ c => c
  | _ => 0
/-- What is told in the end. -/
theorem levels_r {B b d : Nat} {W : World} {Ls : List (List Int)} {V : List Value} {vo : Value} (h : Grp B W b Ls V) (ho : OwnL B W vo V) (hd : d ≤ B) (hs : ∀ zs ∈ Ls, zs.length ≤ 1048576) : ∃ ap cp bb cc, vo = .slice ap Ls.length cp ∧ Ls.length ≤ cp ∧ LvR (fun k => d ≤ k) 0 W ap Ls bb cc := by
  have hbb : ∀ (i : Nat), i < Ls.length → ∃ g cs zs, V[i]? = some (.slice (some ⟨g, 0, none⟩) zs.length cs.length) ∧ Ls[i]? = some zs ∧ B ≤ g ∧ At 3 W g cs ∧ AllI cs ∧ zs.length ≤ cs.length ∧ cs.length ≤ maxLen ∧ cs.take zs.length = zs.map I64 := fun i hi => by
    have hV : i < V.length := by rw [h.len]; exact hi
    obtain ⟨g, cs, e, q⟩ := h.row i _ _ (List.getElem?_eq_getElem hV) (List.getElem?_eq_getElem hi)
    exact ⟨g, cs, Ls[i], by rw [List.getElem?_eq_getElem hV, e], List.getElem?_eq_getElem hi, q⟩
  have hget : ∀ (i : Nat) (v : Value), V[i]? = some v → V.getD i (.slice none 0 0) = v := fun i v hv => by simp [List.getD, hv]
  obtain ⟨hl, hcase⟩ := ho
  obtain ⟨ap, cp, hvo, hcp, hout⟩ : ∃ ap cp, vo = .slice ap Ls.length cp ∧ Ls.length ≤ cp ∧ (Ls = [] ∨ ∃ g, ap = some ⟨g, 0, none⟩ ∧ B ≤ g ∧ (∃ cur, W.heap[g]? = some (.cells cur 23 (0, 0))) ∧ ∀ i v, V[i]? = some v → W.cell? ⟨g, i, none⟩ = some v) := by
    rcases hcase with ⟨h1, h2⟩ | ⟨g, cap, cur, h1, h2, h3, h4, h5, h6, h7⟩
    · have : Ls.length = 0 := by rw [← h.len]; exact h2
      exact ⟨none, 0, by rw [h1, this], by omega, .inl (List.length_eq_zero_iff.1 this)⟩
    · refine ⟨some ⟨g, 0, none⟩, cap, by rw [h1, h.len], by rw [← h.len]; exact h4, .inr ⟨g, rfl, h2, ⟨cur, h3⟩, fun i v hv => ?_⟩⟩
      have hi := (List.getElem?_eq_some_iff.1 hv).1
      have e1 : (cur.toList.take (V.length * 1))[i]? = some v := by rw [h7]; exact hv
      rw [List.getElem?_take_of_lt (by omega)] at e1
      simp only [World.cell?, h3]
      simpa using e1
  refine ⟨ap, cp, fun i => slA (V.getD i (.slice none 0 0)), fun i => slC (V.getD i (.slice none 0 0)), hvo, hcp, ?_⟩
  refine ⟨?_, fun i zs _ hz => ?_, fun i zs hz => ?_, fun i hi => ?_, fun i j hi hj hij => ?_⟩
  · rcases hout with h0 | ⟨g, e, hB, ⟨cur, hcur⟩, hc⟩
    · exact .inl h0
    · refine .inr ⟨g, 0, e, by omega, fun i hi o' => ?_, fun i zs hz => ?_⟩
      · obtain ⟨g2, cs, zs, q1, _, _, q4, _⟩ := hbb i hi
        show slA (V.getD i (.slice none 0 0)) ≠ _
        rw [hget i _ q1]
        intro e2
        simp only [slA] at e2
        cases e2
        rw [show W.heap[g]? = _ from q4] at hcur
        cases hcur
      · have hi := (List.getElem?_eq_some_iff.1 hz).1
        obtain ⟨g2, cs, zs2, q1, q2, _⟩ := hbb i hi
        rw [hz] at q2
        cases q2
        rw [Nat.zero_add, hc i _ q1, hget i _ q1]
        rfl
  · have hi := (List.getElem?_eq_some_iff.1 hz).1
    obtain ⟨g2, cs, zs2, q1, q2, q3, q4, q5, q6, q7, q8⟩ := hbb i hi
    rw [hz] at q2
    cases q2
    show RowI W (slA (V.getD i (.slice none 0 0))) zs ∧ _
    rw [hget i _ q1]
    refine ⟨.inr ⟨g2, 0, rfl, fun t z ht => ?_⟩, fun _ g o e => ?_⟩
    · rw [Nat.zero_add, q4.cell]
      have e1 : (cs.take zs.length)[t]? = some (I64 z) := by rw [q8, List.getElem?_map, ht]; rfl
      rw [List.getElem?_take_of_lt (List.getElem?_eq_some_iff.1 ht).1] at e1
      exact e1
    · simp only [slA] at e
      cases e
      omega
  · have hi := (List.getElem?_eq_some_iff.1 hz).1
    obtain ⟨g2, cs, zs2, q1, q2, q3, q4, q5, q6, q7, q8⟩ := hbb i hi
    rw [hz] at q2
    cases q2
    show zs.length ≤ slC (V.getD i (.slice none 0 0)) ∧ _
    rw [hget i _ q1]
    have := hs zs (List.mem_of_getElem? hz)
    exact ⟨q6, by omega⟩
  · obtain ⟨g2, cs, zs2, q1, q2, q3, q4, q5, q6, q7, q8⟩ := hbb i hi
    show WrZ _ W (slA (V.getD i (.slice none 0 0))) (slC (V.getD i (.slice none 0 0)))
    rw [hget i _ q1]
    refine ⟨by simp only [slC]; unfold maxLen at q7; omega, .inr ⟨g2, 0, cs, rfl, by omega, q4, fun t ht => ?_⟩⟩
    simp only [slC] at ht
    obtain ⟨z, hz⟩ := q5 _ (List.getElem_mem ht)
    exact ⟨z, by rw [Nat.zero_add, List.getElem?_eq_getElem ht, hz]⟩
  · obtain ⟨g2, cs, zs2, q1, q2, q3, q4, q5, q6, q7, q8⟩ := hbb i hi
    obtain ⟨g3, cs3, zs3, r1, r2, r3, r4, r5, r6, r7, r8⟩ := hbb j hj
    show Apart (slA (V.getD i (.slice none 0 0))) _ (slA (V.getD j (.slice none 0 0))) _
    rw [hget i _ q1, hget j _ r1]
    refine .inr fun g o o2 e1 e2 => ?_
    simp only [slA] at e1 e2
    cases e1
    cases e2
    exact absurd (show Value.ownBlock (.slice (some ⟨g2, 0, none⟩) zs2.length cs.length) = Value.ownBlock (.slice (some ⟨g2, 0, none⟩) zs3.length cs3.length) from rfl) (h.ap i j _ _ hij q1 r1)
end Go.Proofs.Ytbamocalhojmeaa
