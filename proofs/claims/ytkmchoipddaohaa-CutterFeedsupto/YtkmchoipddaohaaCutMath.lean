/- Cutters, plain: a byte that comes, bytes that come, messages. -/
import Derived.KernelRfl
set_option linter.unusedVariables false
namespace Go.Proofs.Ytkmchoipddaohaa.Cut

/-- a cutter, plain -/
structure Ct where
  rest : List UInt8
  bad : Bool
  skip : Int
/-- a piece: its kind, its body -/
abbrev PcT : Type := Nat × List UInt8
def toldN (l : List UInt8) : Nat := 256 * (l.getD 1 0).toNat + (l.getD 2 0).toNat
def fitN (n : Nat) : Bool := decide (1 ≤ n ∧ n ≤ 64)
def mayR (l : List UInt8) : Bool := l.isEmpty || (decide (l.getD 0 0 = 245) && (decide (l.length < 3) || (fitN (toldN l) && decide (l.length < 3 + toldN l))))
def statesC (c : Ct) : Nat := (if c.rest.isEmpty then 0 else 1) + (if c.bad then 1 else 0) + (if 0 < c.skip then 1 else 0)
def okC (c : Ct) : Bool := mayR c.rest && decide (0 ≤ c.skip ∧ c.skip ≤ 65535) && decide (statesC c ≤ 1)
def checkC (c : Ct) : Int := if okC c then 0 else 2
def stepC (c : Ct) (b : UInt8) : Ct × List PcT :=
  if 0 < c.skip then (⟨c.rest, c.bad, c.skip - 1⟩, [])
  else if c.rest.isEmpty then
    if b = 245 then (⟨[b], false, c.skip⟩, [])
    else if c.bad then (c, []) else (⟨c.rest, true, c.skip⟩, [(2, [])])
  else if c.rest.length + 1 < 3 then (⟨c.rest ++ [b], false, c.skip⟩, [])
  else if fitN (toldN (c.rest ++ [b])) = false then (⟨[], false, toldN (c.rest ++ [b])⟩, [(3, [])])
  else if c.rest.length + 1 = 3 + toldN (c.rest ++ [b]) then (⟨[], false, c.skip⟩, [(1, (c.rest ++ [b]).drop 3)])
  else (⟨c.rest ++ [b], false, c.skip⟩, [])
def feedC (c : Ct) : List UInt8 → Ct × List PcT
  | [] => (c, [])
  | b :: t => ((feedC (stepC c b).1 t).1, (stepC c b).2 ++ (feedC (stepC c b).1 t).2)
def wrapL (l : List UInt8) : List UInt8 := [245, 0, UInt8.ofNat l.length] ++ l
def zeroC : Ct := ⟨[], false, 0⟩

theorem feed_app (a b : List UInt8) : ∀ c, feedC c (a ++ b) = ((feedC (feedC c a).1 b).1, (feedC c a).2 ++ (feedC (feedC c a).1 b).2) := by
  induction a with
  | nil => intro c; rfl
  | cons x t ih => intro c; simp only [List.cons_append, feedC]; rw [ih]; simp
theorem feed_one (c : Ct) (b : UInt8) : feedC c [b] = stepC c b := by simp [feedC]
theorem feed_snoc (c : Ct) (l : List UInt8) (b : UInt8) : feedC c (l ++ [b]) = ((stepC (feedC c l).1 b).1, (feedC c l).2 ++ (stepC (feedC c l).1 b).2) := by rw [feed_app, feed_one]
theorem toldN_lt (l : List UInt8) : toldN l ≤ 65535 := by
  unfold toldN
  have h1 := (l.getD 1 0).toNat_lt
  have h2 := (l.getD 2 0).toNat_lt
  omega
theorem mayR_iff (l : List UInt8) : mayR l = true ↔ l = [] ∨ (l.getD 0 0 = 245 ∧ (l.length < 3 ∨ (1 ≤ toldN l ∧ toldN l ≤ 64 ∧ l.length < 3 + toldN l))) := by
  unfold mayR fitN
  simp only [Bool.or_eq_true, Bool.and_eq_true, decide_eq_true_eq, List.isEmpty_iff, and_assoc]
theorem okC_iff (c : Ct) : okC c = true ↔ mayR c.rest = true ∧ (0 ≤ c.skip ∧ c.skip ≤ 65535) ∧ (c.rest ≠ [] → c.bad = false ∧ c.skip = 0) ∧ (c.bad = true → c.skip = 0) := by
  unfold okC statesC
  obtain ⟨r, b, s⟩ := c
  simp only [Bool.and_eq_true, decide_eq_true_eq, List.isEmpty_iff, and_assoc]
  by_cases h : r = [] <;> cases b <;> by_cases hs : 0 < s <;> simp [h, hs] <;> omega
theorem rest_le {c : Ct} (h : okC c = true) : c.rest.length ≤ 66 := by
  have := ((okC_iff c).1 h).1
  rcases (mayR_iff _).1 this with h | ⟨_, h | ⟨_, h1, h2⟩⟩
  · rw [h]; simp
  · omega
  · omega
theorem getD_app (l m : List UInt8) (k : Nat) (h : k < l.length) : (l ++ m).getD k 0 = l.getD k 0 := by
  simp only [List.getD_eq_getElem?_getD, List.getElem?_append_left h]
theorem told_app (l m : List UInt8) (h : 3 ≤ l.length) : toldN (l ++ m) = toldN l := by
  unfold toldN
  rw [getD_app _ _ _ (by omega), getD_app _ _ _ (by omega)]
theorem step_ok {c : Ct} (b : UInt8) (h : okC c = true) : okC (stepC c b).1 = true := by
  obtain ⟨h1, h2, h3, h4⟩ := (okC_iff c).1 h
  have ht := toldN_lt (c.rest ++ [b])
  rw [okC_iff]
  unfold stepC
  split
  · rename_i hs
    refine ⟨h1, ?_, fun hr => ?_, fun hb => ?_⟩
    · simp only; omega
    · have := h3 hr; exact ⟨this.1, by simp only; omega⟩
    · have := h4 hb; simp only; omega
  · rename_i hs
    split
    · rename_i hr
      rw [List.isEmpty_iff] at hr
      split
      · rename_i hb
        subst hb
        exact ⟨(mayR_iff _).2 (.inr ⟨rfl, .inl (by show 1 < 3; omega)⟩), h2, fun _ => ⟨rfl, by simp only; omega⟩, fun hc => by simp at hc⟩
      · split
        · exact ⟨h1, h2, h3, h4⟩
        · exact ⟨h1, h2, fun hc => absurd hr hc, fun _ => by simp only; omega⟩
    · rename_i hr
      rw [List.isEmpty_iff] at hr
      obtain ⟨hb0, hs0⟩ := h3 hr
      have hg : (c.rest ++ [b]).getD 0 0 = 245 := by
        rw [getD_app _ _ _ (by cases hc : c.rest; exact absurd hc hr; simp)]
        rcases (mayR_iff _).1 h1 with h | ⟨h, _⟩
        · exact absurd h hr
        · exact h
      split
      · rename_i hl
        exact ⟨(mayR_iff _).2 (.inr ⟨hg, .inl (by simp; omega)⟩), h2, fun _ => ⟨rfl, hs0⟩, fun hc => by simp at hc⟩
      · rename_i hl
        split
        · exact ⟨(mayR_iff _).2 (.inl rfl), by simp only; omega, fun hc => absurd rfl hc, fun hc => by simp at hc⟩
        · rename_i hf
          have hf' : 1 ≤ toldN (c.rest ++ [b]) ∧ toldN (c.rest ++ [b]) ≤ 64 := by unfold fitN at hf; simpa using hf
          split
          · exact ⟨(mayR_iff _).2 (.inl rfl), h2, fun hc => absurd rfl hc, fun hc => by simp at hc⟩
          · rename_i hne
            refine ⟨(mayR_iff _).2 (.inr ⟨hg, .inr ⟨hf'.1, hf'.2, ?_⟩⟩), h2, fun _ => ⟨rfl, hs0⟩, fun hc => by simp at hc⟩
            show (c.rest ++ [b]).length < 3 + toldN (c.rest ++ [b])
            rw [List.length_append, List.length_singleton]
            by_cases h3l : 3 ≤ c.rest.length
            · rw [told_app _ _ h3l] at hne ⊢
              rcases (mayR_iff _).1 h1 with h | ⟨_, h | ⟨_, _, h⟩⟩
              · exact absurd h hr
              · omega
              · omega
            · omega
theorem feed_ok (l : List UInt8) : ∀ {c : Ct}, okC c = true → okC (feedC c l).1 = true := by
  induction l with
  | nil => intro c h; exact h
  | cons b t ih => intro c h; exact ih (step_ok b h)
theorem step_len (c : Ct) (b : UInt8) : (stepC c b).2.length ≤ 1 := by
  unfold stepC
  repeat' split
  all_goals simp
theorem feed_len (l : List UInt8) : ∀ c, (feedC c l).2.length ≤ l.length := by
  induction l with
  | nil => intro c; simp [feedC]
  | cons b t ih => intro c; have h1 := step_len c b; have h2 := ih (stepC c b).1; simp only [feedC, List.length_append, List.length_cons]; omega
/-- what a piece may be -/
def PcOk (p : PcT) : Prop := (p.1 = 1 ∧ 1 ≤ p.2.length ∧ p.2.length ≤ 64) ∨ ((p.1 = 2 ∨ p.1 = 3) ∧ p.2 = [])
theorem step_pcs (c : Ct) (b : UInt8) : ∀ p ∈ (stepC c b).2, PcOk p := by
  unfold stepC
  split
  · simp
  · split
    · split
      · simp
      · split
        · simp
        · simp [PcOk]
    · split
      · simp
      · split
        · simp [PcOk]
        · rename_i hf
          have hf' : 1 ≤ toldN (c.rest ++ [b]) ∧ toldN (c.rest ++ [b]) ≤ 64 := by unfold fitN at hf; simpa using hf
          split
          · rename_i he
            intro p hp
            simp only [List.mem_singleton] at hp
            subst hp
            refine .inl ⟨rfl, ?_, ?_⟩ <;> simp only [List.length_drop, List.length_append, List.length_singleton] <;> omega
          · simp
theorem feed_pcs (l : List UInt8) : ∀ c, ∀ p ∈ (feedC c l).2, PcOk p := by
  induction l with
  | nil => intro c p hp; simp [feedC] at hp
  | cons b t ih =>
    intro c p hp
    simp only [feedC, List.mem_append] at hp
    rcases hp with hp | hp
    · exact step_pcs c b p hp
    · exact ih _ p hp
theorem wrap_len (l : List UInt8) : (wrapL l).length = 3 + l.length := by simp [wrapL]; omega
theorem told_head (n : Nat) (hn : n < 256) (l : List UInt8) : toldN ([245, 0, UInt8.ofNat n] ++ l) = n := by
  show 256 * 0 + (UInt8.ofNat n).toNat = n
  rw [UInt8.toNat_ofNat_of_lt' hn]; omega
/-- a message that is begun goes on, up to its last byte -/
theorem feed_body (n : Nat) (h1 : 1 ≤ n) (h2 : n ≤ 64) : ∀ (t s : List UInt8), s.length + t.length = n → t ≠ [] → feedC ⟨[245, 0, UInt8.ofNat n] ++ s, false, 0⟩ t = (zeroC, [(1, s ++ t)]) := by
  intro t
  induction t with
  | nil => intro s _ h; exact absurd rfl h
  | cons b u ih =>
    intro s hl _
    have ht := told_head n (by omega) (s ++ [b])
    rw [← List.append_assoc] at ht
    have hstep : stepC ⟨[245, 0, UInt8.ofNat n] ++ s, false, 0⟩ b = if u = [] then (zeroC, [(1, s ++ [b])]) else (⟨[245, 0, UInt8.ofNat n] ++ (s ++ [b]), false, 0⟩, []) := by
      unfold stepC
      simp only [Int.lt_irrefl, if_false]
      rw [if_neg (by simp), if_neg (by simp), ht, if_neg (by unfold fitN; simp; omega)]
      simp only [List.length_cons] at hl
      by_cases hu : u = []
      · subst hu
        rw [if_pos (by simp at hl ⊢; omega), if_pos rfl]
        rfl
      · have : 0 < u.length := List.length_pos_iff.2 hu
        rw [if_neg (by simp at hl ⊢; omega), if_neg hu, List.append_assoc]
    simp only [feedC]
    rw [hstep]
    by_cases hu : u = []
    · subst hu
      rfl
    · rw [if_neg hu]
      simp only [List.nil_append]
      rw [ih (s ++ [b]) (by simp at hl ⊢; omega) hu]
      simp
theorem feed_wrap (l : List UInt8) (h1 : 1 ≤ l.length) (h2 : l.length ≤ 64) (c : Ct) (hr : c.rest = []) (hs : c.skip = 0) : feedC c (wrapL l) = (zeroC, [(1, l)]) := by
  obtain ⟨r, bd, sk⟩ := c
  simp only at hr hs
  subst hr hs
  have hne : l ≠ [] := by intro h; rw [h] at h1; simp at h1
  have hb := feed_body l.length h1 h2 l [] (by simp) hne
  rw [List.append_nil, List.nil_append] at hb
  have e3 : toldN ([245, 0] ++ [UInt8.ofNat l.length]) = l.length := told_head l.length (by omega) []
  have s1 : stepC ⟨[], bd, 0⟩ 245 = (⟨[245], false, 0⟩, []) := rfl
  have s2 : stepC ⟨[245], false, 0⟩ 0 = (⟨[245, 0], false, 0⟩, []) := rfl
  have s3 : stepC ⟨[245, 0], false, 0⟩ (UInt8.ofNat l.length) = (⟨[245, 0, UInt8.ofNat l.length], false, 0⟩, []) := by
    unfold stepC
    simp only [Int.lt_irrefl, if_false]
    rw [if_neg (by simp), if_neg (by simp), e3, if_neg (by unfold fitN; simp; omega), if_neg (by simp; omega)]
    rfl
  show feedC _ (245 :: 0 :: UInt8.ofNat l.length :: l) = _
  simp only [feedC, s1, s2, s3, hb, List.nil_append]
def wrapsL (zs : List (List UInt8)) : List UInt8 := zs.flatMap wrapL
theorem feed_wraps (zs : List (List UInt8)) (hz : ∀ z ∈ zs, 1 ≤ z.length ∧ z.length ≤ 64) : ∀ (c : Ct), c.rest = [] → c.skip = 0 → (feedC c (wrapsL zs)).2 = zs.map (fun z => (1, z)) ∧ (feedC c (wrapsL zs)).1 = if zs = [] then c else zeroC := by
  induction zs with
  | nil => intro c _ _; exact ⟨rfl, rfl⟩
  | cons z zs ih =>
    intro c hr hs
    have hz1 := hz z (by simp)
    have hw := feed_wrap z hz1.1 hz1.2 c hr hs
    have := ih (fun y hy => hz y (by simp [hy])) zeroC rfl rfl
    have e : wrapsL (z :: zs) = wrapL z ++ wrapsL zs := rfl
    rw [e, feed_app, hw]
    refine ⟨by simp [this.1], ?_⟩
    rw [if_neg (by simp)]
    show (feedC zeroC (wrapsL zs)).1 = _
    rw [this.2]
    split <;> rfl
end Go.Proofs.Ytkmchoipddaohaa.Cut
