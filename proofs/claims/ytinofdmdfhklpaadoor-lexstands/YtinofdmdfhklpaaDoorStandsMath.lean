/- Tokens stand in their text, nothing but blanks and comments between them; joined by blanks they are the same. -/
import Derived.Test.YtinofdmdfhklpaaDoorSpec
namespace Go.Proofs.YtinofdmdfhklpaaDoor

/-- The law's own between: is a text blanks and comments? -/
def btw : Bool → List UInt8 → Bool
  | _, [] => true
  | b, c :: r =>
    if c.toNat = 35 then btw true r
    else if b && !decide (c.toNat = 10) then btw true r
    else if isBl c.toNat then btw false r else false

theorem btw_skip (b : Bool) (l : List UInt8) : btw b (l.take (skF b l)) = true := by
  induction l generalizing b with
  | nil => cases b <;> rfl
  | cons c r ih =>
    cases b with
    | true =>
      simp only [skF]
      by_cases h10 : c.toNat = 10
      · rw [if_pos h10, List.take_succ_cons, btw, if_neg (by omega)]
        simp [h10, isBl, ih]
      · rw [if_neg h10, List.take_succ_cons, btw]
        by_cases h35 : c.toNat = 35
        · rw [if_pos h35]; exact ih true
        · rw [if_neg h35, if_pos (by simp [h10])]; exact ih true
    | false =>
      simp only [skF]
      by_cases hb : isBl c.toNat = true
      · have h35 : ¬ c.toNat = 35 := by intro h; rw [h] at hb; exact absurd hb (by decide)
        rw [if_pos hb, List.take_succ_cons, btw, if_neg h35, if_neg (by simp), if_pos hb]
        exact ih false
      · rw [if_neg hb]
        by_cases h35 : c.toNat = 35
        · rw [if_pos h35, List.take_succ_cons, btw, if_pos h35]; exact ih true
        · rw [if_neg h35]; rfl

/-- Tokens stand in a text, from a place on. -/
def Stands (l : List UInt8) : Nat → List Tk → Prop
  | p, [] => btw false (l.drop p) = true
  | p, t :: r => p ≤ t.place ∧ t.place + t.text.length ≤ l.length ∧ 0 < t.text.length ∧ (l.drop t.place).take t.text.length = t.text ∧ btw false ((l.drop p).take (t.place - p)) = true ∧ Stands l (t.place + t.text.length) r

theorem skN_le (l : List UInt8) : skN l ≤ l.length := skF_le false l

theorem btw_all (l : List UInt8) (h : skN l = l.length) : btw false l = true := by
  have := btw_skip false l
  rwa [show skF false l = l.length from h, List.take_length] at this

theorem stands_lexA (l : List UInt8) (f : Nat) : ∀ a, a ≤ l.length → l.length < f + (a + skN (l.drop a)) → (lexA l f (a + skN (l.drop a))).err = 0 → Stands l a (lexA l f (a + skN (l.drop a))).toks := by
  induction f with
  | zero =>
    intro a ha hf h
    have := skN_le (l.drop a)
    rw [List.length_drop] at this
    omega
  | succ f ih =>
    intro a ha hf h
    have hle := skN_le (l.drop a)
    rw [List.length_drop] at hle
    obtain ⟨p, hp⟩ : ∃ p, p = a + skN (l.drop a) := ⟨_, rfl⟩
    rw [← hp] at h hf ⊢
    by_cases hpl : l.length ≤ p
    · rw [lexA_end l _ p hpl]
      exact btw_all _ (by rw [List.length_drop]; omega)
    · have hlt : p < l.length := by omega
      by_cases he : errOf (endOf (l.drop p)).1 ((l.drop p).take (endOf (l.drop p)).2) = 0
      · by_cases hc : clB (endOf (l.drop p)).1 (l.drop (p + (endOf (l.drop p)).2)) = true
        · rw [lexA_clings l f p hlt he hc] at h; simp at h
        · have hc' : clB (endOf (l.drop p)).1 (l.drop (p + (endOf (l.drop p)).2)) = false := by simpa using hc
          have hbd := endOf_bounds (l.drop p) (by rw [List.length_drop]; omega)
          rw [List.length_drop] at hbd
          obtain ⟨n, hn⟩ : ∃ n, n = (endOf (l.drop p)).2 := ⟨_, rfl⟩
          rw [lexA_step l f p hlt he hc'] at h ⊢
          rw [← hn] at h hbd ⊢
          have hsk2 := skN_le (l.drop (p + n))
          rw [List.length_drop] at hsk2
          have herr : (lexA l f (p + n + skN (l.drop (p + n)))).err = 0 := by
            by_cases h0 : (lexA l f (p + n + skN (l.drop (p + n)))).err = 0
            · exact h0
            · rw [Out.ahead, if_neg h0] at h; exact absurd h h0
          have hst := ih (p + n) (by omega) (by omega) herr
          have ht : ((lexA l f (p + n + skN (l.drop (p + n)))).ahead [tkOf (endOf (l.drop p)).1 ((l.drop p).take n) p]).toks = tkOf (endOf (l.drop p)).1 ((l.drop p).take n) p :: (lexA l f (p + n + skN (l.drop (p + n)))).toks := by
            rw [Out.ahead, if_pos herr]; rfl
          rw [ht]
          have hlen : ((l.drop p).take n).length = n := by rw [List.length_take, List.length_drop]; omega
          refine ⟨by show a ≤ p; omega, ?_, ?_, ?_, ?_, ?_⟩
          · show p + ((l.drop p).take n).length ≤ l.length
            rw [hlen]; omega
          · show 0 < ((l.drop p).take n).length
            rw [hlen]; omega
          · show (l.drop p).take ((l.drop p).take n).length = (l.drop p).take n
            rw [hlen]
          · show btw false ((l.drop a).take (p - a)) = true
            rw [show p - a = skF false (l.drop a) by rw [hp, Nat.add_sub_cancel_left]; rfl]
            exact btw_skip false (l.drop a)
          · show Stands l (p + ((l.drop p).take n).length) _
            rw [hlen]; exact hst
      · rw [lexA_err l f p hlt he] at h; exact absurd h he

/-- Where a fault is. -/
theorem lexA_fault (l : List UInt8) (f p : Nat) (hp : p ≤ l.length) (h : (lexA l f p).err ≠ 0) : (lexA l f p).toks = [] ∧ (lexA l f p).place ≤ l.length := by
  induction f generalizing p with
  | zero => simp [lexA] at h
  | succ f ih =>
    by_cases hpl : l.length ≤ p
    · rw [lexA_end l _ p hpl] at h; simp at h
    · have hlt : p < l.length := by omega
      have hbd := endOf_bounds (l.drop p) (by rw [List.length_drop]; omega)
      rw [List.length_drop] at hbd
      by_cases he : errOf (endOf (l.drop p)).1 ((l.drop p).take (endOf (l.drop p)).2) = 0
      · by_cases hc : clB (endOf (l.drop p)).1 (l.drop (p + (endOf (l.drop p)).2)) = true
        · rw [lexA_clings l f p hlt he hc]; exact ⟨rfl, by show p + _ ≤ _; omega⟩
        · have hc' : clB (endOf (l.drop p)).1 (l.drop (p + (endOf (l.drop p)).2)) = false := by simpa using hc
          have hsk2 := skN_le (l.drop (p + (endOf (l.drop p)).2))
          rw [List.length_drop] at hsk2
          rw [lexA_step l f p hlt he hc'] at h ⊢
          by_cases h0 : (lexA l f (p + (endOf (l.drop p)).2 + skN (l.drop (p + (endOf (l.drop p)).2)))).err = 0
          · rw [Out.ahead, if_pos h0] at h; simp at h
          · rw [Out.ahead, if_neg h0]
            exact ih _ (by omega) h0
      · rw [lexA_err l f p hlt he]; exact ⟨rfl, by show p ≤ _; omega⟩

/-! What a token is cut out of does not matter. -/
theorem alN_cut (r R : List UInt8) : alN (r.take (alN r) ++ 32 :: R) = alN r := by
  induction r with
  | nil => simp [alN, show isLet 32 = false from rfl, show isDig 32 = false from rfl]
  | cons c q ih =>
    by_cases h : (isLet c.toNat || isDig c.toNat) = true
    · have e : alN (c :: q) = alN q + 1 := by simp only [alN, h, if_true]
      rw [e, List.take_succ_cons, List.cons_append]
      simp only [alN, h, if_true, ih]
    · have e : alN (c :: q) = 0 := by simp only [alN, h]; rfl
      rw [e, List.take_zero, List.nil_append]
      simp [alN, show isLet 32 = false from rfl, show isDig 32 = false from rfl]

theorem dgN_cut (r R : List UInt8) : dgN (r.take (dgN r) ++ 32 :: R) = dgN r := by
  induction r with
  | nil => simp [dgN, show isDig 32 = false from rfl]
  | cons c q ih =>
    by_cases h : isDig c.toNat = true
    · have e : dgN (c :: q) = dgN q + 1 := by simp only [dgN, h, if_true]
      rw [e, List.take_succ_cons, List.cons_append]
      simp only [dgN, h, if_true, ih]
    · have e : dgN (c :: q) = 0 := by simp only [dgN, h]; rfl
      rw [e, List.take_zero, List.nil_append]
      simp [dgN, show isDig 32 = false from rfl]

theorem isPt_blank (R : List UInt8) : isPt (32 :: R) = false := by
  cases R <;> rfl

theorem isPt_digit (c : UInt8) (q : List UInt8) (h : isDig c.toNat = true) : isPt (c :: q) = false := by
  cases q with
  | nil => rfl
  | cons d p =>
    have : ¬ c = 46 := by
      rintro rfl
      exact absurd h (by decide)
    simp [isPt, this]

theorem nmN_blank (R : List UInt8) : nmN (32 :: R) = (2, 0) := by
  simp [nmN, isPt_blank, show isDig 32 = false from rfl]

theorem nmN_cut (r R : List UInt8) : nmN (r.take (nmN r).2 ++ 32 :: R) = nmN r := by
  induction r with
  | nil => exact nmN_blank R
  | cons c q ih =>
    by_cases hp : isPt (c :: q) = true
    · have e : nmN (c :: q) = (3, dgN q + 1) := by simp only [nmN, hp, if_true]
      rw [e]
      simp only [List.take_succ_cons, List.cons_append]
      cases q with
      | nil => simp [isPt] at hp
      | cons d s =>
        have hd : isDig d.toNat = true := by
          simp only [isPt, Bool.and_eq_true] at hp; exact hp.2
        have e2 : dgN (d :: s) = dgN s + 1 := by simp only [dgN, hd, if_true]
        have hcut := dgN_cut (d :: s) R
        rw [e2] at hcut ⊢
        rw [List.take_succ_cons, List.cons_append] at hcut ⊢
        have hp' : isPt (c :: d :: (s.take (dgN s) ++ 32 :: R)) = true := by
          simp only [isPt] at hp ⊢; exact hp
        simp only [nmN, hp', if_true, hcut]
    · by_cases hd : isDig c.toNat = true
      · have e : nmN (c :: q) = ((nmN q).1, (nmN q).2 + 1) := by simp only [nmN, hp, hd, if_true]; rfl
        rw [e]
        simp only [List.take_succ_cons, List.cons_append]
        simp only [nmN, isPt_digit c _ hd, hd, if_true, ih]
        rfl
      · have e : nmN (c :: q) = (2, 0) := by simp only [nmN, hp, hd]; rfl
        rw [e, List.take_zero, List.nil_append]
        exact nmN_blank R

theorem sg_blank (c : UInt8) : isSg [c, 32] = false := by
  simp only [isSg, decide_eq_false_iff_not]
  intro hm
  simp [signs] at hm

theorem sgN_blank (c : UInt8) (R : List UInt8) : sgN c (32 :: R) = 0 := by simp [sgN, sg_blank]

theorem end_cut (d R : List UInt8) (hd : 0 < d.length) (he : errOf (endOf d).1 (d.take (endOf d).2) = 0) : endOf (d.take (endOf d).2 ++ 32 :: R) = endOf d := by
  match d, hd with
  | c :: r, _ =>
    by_cases hl : isLet c.toNat = true
    · have e : endOf (c :: r) = (1, alN r + 1) := by simp only [endOf, hl, if_true]
      rw [e]
      simp only [List.take_succ_cons, List.cons_append]
      simp only [endOf, hl, if_true, alN_cut]
    · by_cases hg : isDig c.toNat = true
      · have e : endOf (c :: r) = ((nmN r).1, (nmN r).2 + 1) := by simp only [endOf, hl, hg, if_true]; rfl
        rw [e]
        simp only [List.take_succ_cons, List.cons_append]
        simp only [endOf, hl, hg, if_true, nmN_cut]
        rfl
      · have e : endOf (c :: r) = (4, sgN c r + 1) := by simp only [endOf, hl, hg]; rfl
        rw [e]
        cases r with
        | nil =>
          show endOf (c :: 32 :: R) = (4, 0 + 1)
          simp only [endOf, hl, hg, sgN_blank]; rfl
        | cons x q =>
          by_cases hs : isSg [c, x] = true
          · have e2 : sgN c (x :: q) = 1 := by simp only [sgN, hs, if_true]
            rw [e2]
            show endOf (c :: x :: 32 :: R) = (4, 1 + 1)
            simp only [endOf, hl, hg, sgN, hs, if_true]; rfl
          · have e2 : sgN c (x :: q) = 0 := by simp only [sgN, hs]; rfl
            rw [e2]
            show endOf (c :: 32 :: R) = (4, 0 + 1)
            simp only [endOf, hl, hg, sgN_blank]; rfl

theorem sg_head (c : UInt8) (x : List UInt8) (h : isSg (c :: x) = true) : isBl c.toNat = false ∧ ¬ c.toNat = 35 := by
  simp only [isSg, decide_eq_true_eq, signs, List.mem_cons, List.cons.injEq, List.not_mem_nil, or_false] at h
  rcases h with ⟨rfl, _⟩ | ⟨rfl, _⟩ | ⟨rfl, _⟩ | ⟨rfl, _⟩ | ⟨rfl, _⟩ | ⟨rfl, _⟩ | ⟨rfl, _⟩ | ⟨rfl, _⟩ | ⟨rfl, _⟩ | ⟨rfl, _⟩ | ⟨rfl, _⟩ | ⟨rfl, _⟩ | ⟨rfl, _⟩ | ⟨rfl, _⟩ | ⟨rfl, _⟩ | ⟨rfl, _⟩ | ⟨rfl, _⟩ | ⟨rfl, _⟩ | ⟨rfl, _⟩ | ⟨rfl, _⟩ <;> decide

/-- What a token is, by itself. -/
structure Good (t : Tk) : Prop where
  some : 0 < t.text.length
  ok : errOf t.kind t.text = 0
  bits : t.bits = valB t.kind t.text
  cut : ∀ R, endOf (t.text ++ 32 :: R) = (t.kind, t.text.length)
  head : ∀ R, skN (t.text ++ 32 :: R) = 0

theorem good_tk (d : List UInt8) (p : Nat) (hd : 0 < d.length) (he : errOf (endOf d).1 (d.take (endOf d).2) = 0) : Good (tkOf (endOf d).1 (d.take (endOf d).2) p) := by
  have hbd := endOf_bounds d hd
  have hlen : (d.take (endOf d).2).length = (endOf d).2 := by rw [List.length_take]; omega
  refine ⟨?_, he, rfl, ?_, ?_⟩
  · show 0 < (d.take (endOf d).2).length
    rw [hlen]; omega
  · intro R
    show endOf (d.take (endOf d).2 ++ 32 :: R) = ((endOf d).1, (d.take (endOf d).2).length)
    rw [hlen, end_cut d R hd he]
  · intro R
    show skN (d.take (endOf d).2 ++ 32 :: R) = 0
    match d, hd with
    | c :: r, _ =>
      obtain ⟨n, hn⟩ : ∃ n, (endOf (c :: r)).2 = n + 1 := ⟨(endOf (c :: r)).2 - 1, by omega⟩
      have hh : isBl c.toNat = false ∧ ¬ c.toNat = 35 := by
        by_cases hl : isLet c.toNat = true
        · simp only [isLet, Bool.or_eq_true, Bool.and_eq_true, decide_eq_true_eq] at hl
          refine ⟨?_, by omega⟩
          simp only [isBl, Bool.or_eq_false_iff, decide_eq_false_iff_not]; omega
        · by_cases hg : isDig c.toNat = true
          · simp only [isDig, Bool.and_eq_true, decide_eq_true_eq] at hg
            refine ⟨?_, by omega⟩
            simp only [isBl, Bool.or_eq_false_iff, decide_eq_false_iff_not]; omega
          · have e : (endOf (c :: r)).1 = 4 := by simp only [endOf, hl, hg]; rfl
            rw [e, hn, List.take_succ_cons] at he
            have hsg : isSg (c :: r.take n) = true := by
              simp only [errOf] at he
              by_cases h : isSg (c :: r.take n) = true
              · exact h
              · simp [h] at he
            exact sg_head c _ hsg
      rw [hn, List.take_succ_cons, List.cons_append]
      simp [skN, skF, hh.1, hh.2]

theorem good_lexA (l : List UInt8) (f p : Nat) : ∀ t ∈ (lexA l f p).toks, Good t := by
  induction f generalizing p with
  | zero => intro t ht; simp [lexA] at ht
  | succ f ih =>
    by_cases hpl : l.length ≤ p
    · rw [lexA_end l _ p hpl]; intro t ht; simp at ht
    · have hlt : p < l.length := by omega
      by_cases he : errOf (endOf (l.drop p)).1 ((l.drop p).take (endOf (l.drop p)).2) = 0
      · by_cases hc : clB (endOf (l.drop p)).1 (l.drop (p + (endOf (l.drop p)).2)) = true
        · rw [lexA_clings l f p hlt he hc]; intro t ht; simp at ht
        · have hc' : clB (endOf (l.drop p)).1 (l.drop (p + (endOf (l.drop p)).2)) = false := by simpa using hc
          rw [lexA_step l f p hlt he hc']
          intro t ht
          have hi := ih (p + (endOf (l.drop p)).2 + skN (l.drop (p + (endOf (l.drop p)).2)))
          rw [Out.ahead] at ht
          split at ht
          · rcases List.mem_append.1 ht with h | h
            · rw [List.mem_singleton] at h
              subst h
              exact good_tk (l.drop p) p (by rw [List.length_drop]; omega) he
            · exact hi t h
          · exact hi t ht
      · rw [lexA_err l f p hlt he]; intro t ht; simp at ht

/-- Tokens, joined by blanks. -/
def jn : List Tk → List UInt8
  | [] => []
  | t :: r => t.text ++ 32 :: jn r

/-- The same but for the places. -/
def Alike : List Tk → List Tk → Prop
  | [], [] => True
  | a :: r, b :: q => a.kind = b.kind ∧ a.text = b.text ∧ a.bits = b.bits ∧ Alike r q
  | _, _ => False

theorem skN_jn (ts : List Tk) (h : ∀ t ∈ ts, Good t) : skN (jn ts) = 0 := by
  cases ts with
  | nil => rfl
  | cons t r => exact (h t List.mem_cons_self).head _

theorem clB_blank (K : Nat) (R : List UInt8) : clB K (32 :: R) = false := by
  simp [clB, show isLet 32 = false from rfl]

theorem lex_jn (J : List UInt8) (ts : List Tk) (h : ∀ t ∈ ts, Good t) : ∀ f p, J.drop p = jn ts → p ≤ J.length → J.length < f + p → ∃ us, lexA J f p = ⟨us, 0, 0⟩ ∧ Alike us ts := by
  induction ts with
  | nil =>
    intro f p hd hp hf
    have : J.length ≤ p := by
      have := congrArg List.length hd
      rw [List.length_drop] at this
      simp [jn] at this
      omega
    exact ⟨[], lexA_end J f p this, trivial⟩
  | cons t r ih =>
    intro f p hd hp hf
    have hg := h t List.mem_cons_self
    have hr : ∀ u ∈ r, Good u := fun u hu => h u (List.mem_cons_of_mem _ hu)
    have hlen := congrArg List.length hd
    rw [List.length_drop] at hlen
    simp only [jn, List.length_append, List.length_cons] at hlen
    have hpos := hg.some
    obtain ⟨f', rfl⟩ : ∃ f', f = f' + 1 := ⟨f - 1, by omega⟩
    have hend : endOf (J.drop p) = (t.kind, t.text.length) := by rw [hd]; exact hg.cut _
    have htake : (J.drop p).take t.text.length = t.text := by rw [hd]; simp [jn]
    have hrest : J.drop (p + t.text.length) = 32 :: jn r := by rw [← List.drop_drop, hd]; simp [jn]
    have hrest2 : J.drop (p + t.text.length + 1) = jn r := by rw [← List.drop_drop, hrest]; rfl
    have hsk : skN (J.drop (p + t.text.length)) = 1 := by
      rw [hrest]
      have := skN_jn r hr
      simp only [skN] at this ⊢
      simp [skF, show isBl 32 = true from rfl, this]
    have hstep := lexA_step J f' p (by omega)
    rw [hend] at hstep
    simp only [htake] at hstep
    have hs2 := hstep hg.ok (by rw [hrest]; exact clB_blank _ _)
    rw [hsk] at hs2
    obtain ⟨us, hu, ha⟩ := ih hr f' (p + t.text.length + 1) hrest2 (by omega) (by omega)
    refine ⟨tkOf t.kind t.text p :: us, ?_, rfl, rfl, hg.bits.symm, ha⟩
    rw [hs2, hu]
    rfl

theorem lexS_jn (ts : List Tk) (h : ∀ t ∈ ts, Good t) (hl : (jn ts).length ≤ 16384) : ∃ us, lexS (jn ts) = ⟨us, 0, 0⟩ ∧ Alike us ts := by
  unfold lexS
  rw [if_neg (by omega), skN_jn ts h]
  exact lex_jn (jn ts) ts h _ 0 rfl (by omega) (by omega)

theorem alike_length {us ts : List Tk} (h : Alike us ts) : us.length = ts.length := by
  induction us generalizing ts with
  | nil => cases ts with
    | nil => rfl
    | cons b q => simp [Alike] at h
  | cons a r ih => cases ts with
    | nil => simp [Alike] at h
    | cons b q => simp only [Alike] at h; simp [ih h.2.2.2]

theorem alike_at {us ts : List Tk} (h : Alike us ts) (i : Nat) (a b : Tk) (ha : us[i]? = some a) (hb : ts[i]? = some b) : a.kind = b.kind ∧ a.text = b.text ∧ a.bits = b.bits := by
  induction us generalizing ts i with
  | nil => simp at ha
  | cons x r ih => cases ts with
    | nil => simp at hb
    | cons y q =>
      simp only [Alike] at h
      cases i with
      | zero => simp at ha hb; subst ha hb; exact ⟨h.1, h.2.1, h.2.2.1⟩
      | succ j => exact ih h.2.2.2 j (by simpa using ha) (by simpa using hb)

/-- All of it, of a whole text. -/
theorem lexS_stands (l : List UInt8) (ts : List Tk) (h : lexS l = ⟨ts, 0, 0⟩) : l.length ≤ 16384 ∧ Stands l 0 ts ∧ (∀ t ∈ ts, Good t) := by
  unfold lexS at h
  split at h
  · simp at h
  · next hl =>
    have hle := skN_le l
    have he : (lexA l (l.length + 1) (skN l)).err = 0 := by rw [h]
    have ht : (lexA l (l.length + 1) (skN l)).toks = ts := by rw [h]
    refine ⟨by omega, ?_, ?_⟩
    · have := stands_lexA l (l.length + 1) 0 (by omega)
      simp only [List.drop_zero, Nat.zero_add] at this
      have h2 := this (by omega) he
      rwa [ht] at h2
    · rw [← ht]; exact good_lexA l _ _

theorem lexS_fault (l : List UInt8) (ts : List Tk) (E p : Nat) (h : lexS l = ⟨ts, E, p⟩) (hE : E ≠ 0) : ts = [] ∧ p ≤ l.length := by
  unfold lexS at h
  split at h
  · simp at h
    obtain ⟨rfl, rfl, rfl⟩ := h
    exact ⟨rfl, by omega⟩
  · have hle := skN_le l
    have := lexA_fault l (l.length + 1) (skN l) hle (by rw [h]; exact hE)
    rw [h] at this
    exact this

end Go.Proofs.YtinofdmdfhklpaaDoor
