/-
  A part of the proofs over this seat.
  (The texts Ae2, one behind the other.)
-/
import Derived.Test.YtnkdfekbifcglaaA3
import Derived.Test.YtnkdfekbifcglaaA0
set_option linter.unusedSimpArgs false
set_option linter.unusedVariables false
set_option linter.unusedSectionVars false
section
/-
  Evaluation: a machine whose states can be compared, so that the kernel can run it through ranges over maps, too.
-/
namespace Go.Ab
/-! ### Values that are compared -/
def beqTk : Tk → Tk → Bool
  | .unk, .unk => true
  | .tight, .tight => true
  | .at a, .at b => a == b
  | _, _ => false
theorem beqTk_eq {a b : Tk} (h : beqTk a b = true) : a = b := by
  cases a <;> cases b <;> simp_all [beqTk]
def beqL {α : Type} (f : α → α → Bool) : List α → List α → Bool
  | [], [] => true
  | a :: r, b :: q => f a b && beqL f r q
  | _, _ => false
theorem beqL_eq {α : Type} {f : α → α → Bool} (hf : ∀ a b, f a b = true → a = b) : ∀ {l k : List α}, beqL f l k = true → l = k
  | [], [], _ => rfl
  | [], _ :: _, h => by cases h
  | _ :: _, [], h => by cases h
  | a :: r, b :: q, h => by
    simp only [beqL, Bool.and_eq_true] at h
    rw [hf a b h.1, beqL_eq hf h.2]
def beqD : Nat → AV → AV → Bool
  | 0, _, _ => false
  | k + 1, a, b => match a, b with
    | .undef, .undef => true
    | .bool x, .bool y => x == y
    | .int q x, .int p y => decide (q = p) && x == y
    | .str x, .str y => decide (x.data = y.data)
    | .agg x, .agg y => beqL (beqD k) x y
    | .tup x, .tup y => beqL (beqD k) x y
    | .sl x t, .sl y u => beqL (beqD k) x y && beqTk t u
    | .ref x y z, .ref u v w => x == u && (y == v && z == w)
    | .ptr x y z, .ptr u v w => x == u && (y == v && z == w)
    | .pv x i, .pv y j => beqD k x y && i == j
    | .fn f x y, .fn g u v => decide (f = g) && (beqL (beqD k) x u && beqL (beqD k) y v)
    | .yld x, .yld y => x == y
    | .nilf, .nilf => true
    | .nilp, .nilp => true
    | .mp x, .mp y => x == y
    | .nilm, .nilm => true
    | .itr x, .itr y => x == y
    | .aps x y z t, .aps u v w r => x == u && (y == v && (z == w && t == r))
    | _, _ => false
theorem beqD_eq : ∀ (k : Nat) (a b : AV), beqD k a b = true → a = b
  | 0, _, _, h => by cases h
  | k + 1, a, b, h => by
    have ih := beqD_eq k
    have il := fun (l q : List AV) (h : beqL (beqD k) l q = true) => beqL_eq ih h
    cases a <;> cases b <;> simp only [beqD, Bool.and_eq_true, beq_iff_eq, decide_eq_true_eq, Bool.false_eq_true] at h <;> first
      | rfl
      | (obtain ⟨rfl, rfl⟩ := h; rfl)
      | (obtain ⟨rfl, rfl, rfl⟩ := h; rfl)
      | (obtain ⟨rfl, rfl, rfl, rfl⟩ := h; rfl)
      | (subst h; rfl)
      | (rw [il _ _ h])
      | (obtain ⟨h1, h2⟩ := h; rw [il _ _ h1, beqTk_eq h2])
      | (obtain ⟨h1, rfl⟩ := h; rw [ih _ _ h1])
      | (obtain ⟨rfl, h1, h2⟩ := h; rw [il _ _ h1, il _ _ h2])
      | (congr 1; exact ByteArray.ext h)
def beqEK : EK → EK → Bool
  | .b, .b => true
  | .i, .i => true
  | .s, .s => true
  | .n p, .n q => p == q
  | _, _ => false
theorem beqEK_eq {x y : EK} (h : beqEK x y = true) : x = y := by
  cases x <;> cases y <;> simp_all [beqEK]
def beqB : Blk → Blk → Bool
  | .live x n, .live y k => beqL (beqD 20) x y && n == k
  | .dead, .dead => true
  | .mp x e, .mp y f => beqL (fun p q => beqD 20 p.1 q.1 && beqD 20 p.2 q.2) x y && beqEK e f
  | _, _ => false
theorem beqB_eq {a b : Blk} (h : beqB a b = true) : a = b := by
  cases a <;> cases b <;> simp only [beqB, Bool.and_eq_true, beq_iff_eq, Bool.false_eq_true] at h <;> first
    | rfl
    | (obtain ⟨h1, rfl⟩ := h; rw [beqL_eq (beqD_eq 20) h1])
    | (obtain ⟨h1, h2⟩ := h
       rw [beqL_eq (fun p q hp => by
        rw [Bool.and_eq_true] at hp
        exact Prod.ext (beqD_eq 20 _ _ hp.1) (beqD_eq 20 _ _ hp.2)) h1, beqEK_eq h2])
def beqM (a b : Mem) : Bool := beqL beqB a.blks b.blks && decide (a.toks = b.toks)
theorem beqM_eq {a b : Mem} (h : beqM a b = true) : a = b := by
  obtain ⟨x, y⟩ := a
  obtain ⟨u, v⟩ := b
  simp only [beqM, Bool.and_eq_true, decide_eq_true_eq] at h
  rw [beqL_eq (fun _ _ => beqB_eq) h.1, h.2]
def beqX : Ex → Ex → Bool
  | .nxt, .nxt => true
  | .out a, .out b => a == b
  | .ret, .ret => true
  | _, _ => false
theorem beqX_eq {a b : Ex} (h : beqX a b = true) : a = b := by
  cases a <;> cases b <;> simp_all [beqX]
/-! ### States as lists over what was there before -/
abbrev EL := List (Option AV)
abbrev ES := EL × Mem
def lookO (b : Nat → AV) (l : EL) (n : Nat) : AV := (l[n]?.bind id).getD (b n)
def setO : EL → Nat → AV → EL
  | [], 0, v => [some v]
  | [], n + 1, v => none :: setO [] n v
  | _ :: r, 0, v => some v :: r
  | a :: r, n + 1, v => a :: setO r n v
theorem setO_get : ∀ (l : EL) (t : Nat) (v : AV) (n : Nat), (setO l t v)[n]?.bind id = if n = t then some v else l[n]?.bind id
  | [], 0, v, 0 => rfl
  | [], 0, v, n + 1 => by simp [setO]
  | [], t + 1, v, 0 => by simp [setO]
  | [], t + 1, v, n + 1 => by
    have := setO_get [] t v n
    simp only [setO, List.getElem?_cons_succ, this]
    simp
  | a :: r, 0, v, 0 => by simp [setO]
  | a :: r, 0, v, n + 1 => by simp [setO]
  | a :: r, t + 1, v, 0 => by simp [setO]
  | a :: r, t + 1, v, n + 1 => by
    have := setO_get r t v n
    simp only [setO, List.getElem?_cons_succ, this]
    simp
theorem look_set (b : Nat → AV) (l : EL) (t : Nat) (v : AV) : lookO b (setO l t v) = upd (lookO b l) t v := by
  funext n
  simp only [lookO, setO_get, upd]
  split <;> rfl
theorem look_nil (b : Nat → AV) : lookO b [] = b := by
  funext n; simp [lookO]
def forgetO (fg : List Nat) (l : EL) : EL := fg.foldl (fun l t => setO l t .undef) l
theorem look_forget (b : Nat → AV) : ∀ (fg : List Nat) (l : EL), lookO b (forgetO fg l) = fun t => if fg.contains t = true then .undef else lookO b l t
  | [], l => by funext t; simp [forgetO]
  | a :: r, l => by
    show lookO b (forgetO r (setO l a .undef)) = _
    rw [look_forget b r, look_set]
    funext t
    simp only [upd, List.contains_cons]
    by_cases h : t = a
    · subst h; simp
    · have : (t == a) = false := by simpa using h
      rw [this, Bool.false_or]; simp [h]
def putO (l : EL) : Option Nat → AV → EL
  | some t, v => setO l t v
  | none, _ => l
def cv (b : Nat → AV) (p : ES) : St := ⟨lookO b p.1, p.2⟩
theorem cv_put (b : Nat → AV) (l : EL) (m : Mem) (d : Option Nat) (v : AV) : (cv b (l, m)).put d v = cv b (putO l d v, m) := by
  cases d with
  | none => rfl
  | some t => simp only [cv, St.put, putO, look_set]
def beqO : Option AV → Option AV → Bool
  | some a, some b => beqD 20 a b
  | none, none => true
  | _, _ => false
theorem beqO_eq {a b : Option AV} (h : beqO a b = true) : a = b := by
  cases a <;> cases b <;> simp only [beqO, Bool.false_eq_true] at h <;> first | rfl | rw [beqD_eq 20 _ _ h]
def beqR (a b : Ex × ES) : Bool := beqX a.1 b.1 && (beqL beqO a.2.1 b.2.1 && beqM a.2.2 b.2.2)
theorem beqR_eq {a b : Ex × ES} (h : beqR a b = true) : a = b := by
  simp only [beqR, Bool.and_eq_true] at h
  exact Prod.ext (beqX_eq h.1) (Prod.ext (beqL_eq (fun _ _ => beqO_eq) h.2.1) (beqM_eq h.2.2))
/-! ### All orders of some entries -/
def insA {α : Type} (a : α) : List α → List (List α)
  | [] => [[a]]
  | x :: r => (a :: x :: r) :: (insA a r).map (x :: ·)
def permsL {α : Type} : List α → List (List α)
  | [] => [[]]
  | a :: r => (permsL r).flatMap (insA a)
theorem mem_insA {α : Type} (a : α) : ∀ (s t : List α), s ++ a :: t ∈ insA a (s ++ t)
  | [], [] => by simp [insA]
  | [], x :: t => by simp [insA]
  | x :: s, t => by
    show x :: (s ++ a :: t) ∈ (a :: x :: (s ++ t)) :: (insA a (s ++ t)).map (x :: ·)
    exact List.mem_cons_of_mem _ (List.mem_map.2 ⟨_, mem_insA a s t, rfl⟩)
theorem mem_permsL {α : Type} : ∀ (l π : List α), π.Perm l → π ∈ permsL l
  | [], π, h => by rw [h.eq_nil]; simp [permsL]
  | a :: r, π, h => by
    have ha : a ∈ π := h.symm.subset (by simp)
    obtain ⟨s, t, rfl⟩ := List.append_of_mem ha
    have h2 : (s ++ t).Perm r := (List.perm_middle.symm.trans h).cons_inv
    exact List.mem_flatMap.2 ⟨s ++ t, mem_permsL r _ h2, mem_insA a s t⟩
/-! ### The runs -/
variable (ft : FuncId → Option AFn) (R : Run) (b : Nat → AV)
def execI2 (i : AI) (p : ES) : Option ES :=
  match i.gd with
  | none => (exec1 ft R (cv b p) i.op).map fun q => (putO p.1 i.dst q.1, q.2.mem)
  | some (t, g) => match lookO b p.1 t with
    | .bool b' => if b' = g then (exec1 ft R (cv b p) i.op).map fun q => (putO p.1 i.dst q.1, q.2.mem) else some (putO p.1 i.dst (.tup []), p.2)
    | .tup [] => some (putO p.1 i.dst (.tup []), p.2)
    | _ => none
def execOps2 : List AI → ES → Option ES
  | [], p => some p
  | i :: r, p => (execI2 ft R b i p).bind (execOps2 r)
def loopN2 (f : ES → Option (Ex × ES)) : Nat → ES → Option (Ex × ES)
  | 0, _ => none
  | n + 1, p => match f p with
    | some (.nxt, p') => loopN2 f n p'
    | r => r
def rounds2 (post : ES → Option ES) (tail : ES → Option (Ex × ES)) (it nx ok i0 en B Cc : Nat) : List (AV × AV) → ES → Option (Ex × ES)
  | [], p => if isItr i0 (lookO b p.1 it) = true then some (.nxt, p) else none
  | q :: r, p => if isItr i0 (lookO b p.1 it) = true then
      (post (setO (setO (setO p.1 nx .undef) ok .undef) en (.tup [q.1, q.2]), p.2)).bind fun p1 => (tail p1).bind fun z => match z with
        | (.nxt, p2) => rounds2 post tail it nx ok i0 en B Cc r p2
        | (.out j, p2) => if j = Cc then rounds2 post tail it nx ok i0 en B Cc r p2 else some (if j = B then .nxt else .out j, p2)
        | (.ret, p2) => some (.ret, p2)
    else none
def rngIn2 (p : ES) (mid it nx ok en : Nat) : ES := (setO (forgetO [nx, ok, en] p.1) it (.itr p.2.blks.length), ⟨p.2.blks.set mid .dead ++ [.dead], p.2.toks⟩)
def clean2 (p : ES) (n0 mid : Nat) (k : Blk) (fg : List Nat) : ES := (forgetO fg p.1, ⟨(p.2.blks.take n0).set mid k ++ (p.2.blks.drop n0).map fun _ => .dead, p.2.toks⟩)
def allSame2 (f : List (AV × AV) → Option (Ex × ES)) (kvs : List (AV × AV)) : Option (Ex × ES) :=
  match f kvs with
  | some r => if ((permsL kvs).all fun π => match f π with | some q => beqR q r | none => false) = true then some r else none
  | none => none
def both2 (x y : Option (Ex × ES)) : Option (Ex × ES) :=
  match x, y with
  | some p, some q => if beqR p q = true then some p else none
  | _, _ => none
def exec2 (n : Nat) : ACode → ES → Option (Ex × ES)
  | .skip, p => some (.nxt, p)
  | .region ops, p => (execOps2 ft R b ops p).map (.nxt, ·)
  | .regionD ops chks, p => (execOps2 ft R b ops p).bind fun q => if chkAll chks (lookO b q.1) = true then some (.nxt, q) else none
  | .seq x y, p => match exec2 n x p with
    | some (.nxt, q) => exec2 n y q
    | r => r
  | .cond c x y, p => match (cv b p).ev c with
    | .bool true => exec2 n x p
    | .bool false => exec2 n y p
    | _ => none
  | .block id x, p => match exec2 n x p with
    | some (.out j, q) => if j = id then some (.nxt, q) else some (.out j, q)
    | r => r
  | .loop x, p => loopN2 (exec2 n x) n p
  | .exit id, p => some (.out id, p)
  | .ret, p => some (.ret, p)
  | .frz, _ => none
  | .frzs t, p => (frzsAt p.2 (lookO b p.1 t)).map fun q => (.nxt, setO p.1 t q.1, q.2)
  | .rngm x it nx ok en pre post B Cc tail fg, p => (execOps2 ft R b pre p).bind fun p0 => match (cv b p0).ev x with
    | .mp mid => match p0.2.blks[mid]? with
      | some (.mp kvs ek) => allSame2 (fun π => (rounds2 b (execOps2 ft R b post) (exec2 n tail) it nx ok p0.2.blks.length en B Cc π (rngIn2 p0 mid it nx ok en)).map fun q => (q.1, clean2 q.2 p0.2.blks.length mid (.mp kvs ek) (it :: nx :: ok :: en :: fg))) kvs
      | _ => none
    | .nilm => some (.nxt, forgetO [it, nx, ok, en] p0.1, p0.2)
    | _ => none
  | .nilq pre x t c fg, p => (execOps2 ft R b pre p).bind fun p0 => match (cv b p0).ev x with
    | .sl [] _ => both2 ((exec2 n c (setO p0.1 t (.bool true), p0.2)).map fun q => (q.1, forgetO fg q.2.1, q.2.2)) ((exec2 n c (setO p0.1 t (.bool false), p0.2)).map fun q => (q.1, forgetO fg q.2.1, q.2.2))
    | .sl (_ :: _) _ => (exec2 n c (setO p0.1 t (.bool false), p0.2)).map fun q => (q.1, forgetO fg q.2.1, q.2.2)
    | .ref id _ _ => if (lsz p0.2 id).isSome = true then (exec2 n c (setO p0.1 t (.bool false), p0.2)).map fun q => (q.1, forgetO fg q.2.1, q.2.2) else none
    | _ => none
  | .range f ps asg body, p => match (cv b p).ev f with
    | .fn g first cap =>
      match R (.f g) (first ++ [.yld p.2.blks.length] ++ cap) { p.2 with blks := p.2.blks ++ [.lp (lookO b p.1) ps asg body true none] } with
      | some (_, m) => match m.blks[p.2.blks.length]? with
        | some (.lp _ _ _ _ rdy pend) => if (rdy || pend.isSome) = true then some (pend.getD .nxt, p.1, { m with blks := m.blks.set p.2.blks.length .dead }) else none
        | _ => none
      | none => none
    | _ => none
variable {ft R b}
theorem execI2_sound {i : AI} {p q : ES} (h : execI2 ft R b i p = some q) : execI ft R i (cv b p) = some (cv b q) := by
  have key : ∀ {z : AV × St}, exec1 ft R (cv b p) i.op = some z → z.2.put i.dst z.1 = cv b (putO p.1 i.dst z.1, z.2.mem) := fun {z} hz => by
    obtain ⟨v, s2⟩ := z
    have := exec1_env hz
    dsimp only
    rw [this]
    exact cv_put b p.1 s2.mem i.dst v
  unfold execI2 at h
  unfold execI
  split at h
  · rename_i hg
    rw [hg]
    obtain ⟨z, hz, rfl⟩ := Option.map_eq_some_iff.1 h
    simp only [hz, Option.map_some, key hz]
  · rename_i t g hg
    rw [hg]
    have hl : (cv b p).env t = lookO b p.1 t := rfl
    dsimp only
    rw [hl]
    split at h
    · rename_i b' hb
      rw [hb]
      dsimp only
      split at h
      · rename_i hbg
        rw [if_pos hbg]
        obtain ⟨z, hz, rfl⟩ := Option.map_eq_some_iff.1 h
        simp only [hz, Option.map_some, key hz]
      · rename_i hbg
        rw [if_neg hbg]
        cases h
        rw [← cv_put]
    · rename_i hb
      rw [hb]
      cases h
      dsimp only
      rw [← cv_put]
    · cases h
theorem execOps2_sound : ∀ {ops : List AI} {p q : ES}, execOps2 ft R b ops p = some q → execOps ft R ops (cv b p) = some (cv b q)
  | [], p, q, h => by cases h; rfl
  | i :: r, p, q, h => by
    simp only [execOps2] at h
    obtain ⟨p1, h1, h2⟩ := Option.bind_eq_some_iff.1 h
    simp only [execOps, execI2_sound h1, Option.bind_some]
    exact execOps2_sound h2
theorem loopN2_sound {f : ES → Option (Ex × ES)} {g : St → Option (Ex × St)} (hf : ∀ p r, f p = some r → g (cv b p) = some (r.1, cv b r.2)) : ∀ {n : Nat} {p : ES} {r : Ex × ES}, loopN2 f n p = some r → loopN g n (cv b p) = some (r.1, cv b r.2)
  | 0, _, _, h => by cases h
  | n + 1, p, r, h => by
    simp only [loopN2] at h
    simp only [loopN]
    cases hp : f p with
    | none => rw [hp] at h; cases h
    | some z =>
      rw [hp] at h
      rw [hf p z hp]
      obtain ⟨x, q⟩ := z
      cases x with
      | nxt => exact loopN2_sound hf h
      | out j => cases h; rfl
      | ret => cases h; rfl
theorem rounds2_sound {post : ES → Option ES} {tail : ES → Option (Ex × ES)} {postS : St → Option St} {tailS : St → Option (Ex × St)} (hp : ∀ p q, post p = some q → postS (cv b p) = some (cv b q)) (ht : ∀ p r, tail p = some r → tailS (cv b p) = some (r.1, cv b r.2)) {it nx ok i0 en B Cc : Nat} :
    ∀ (π : List (AV × AV)) (p : ES) (r : Ex × ES), rounds2 b post tail it nx ok i0 en B Cc π p = some r → rounds postS tailS it nx ok i0 en B Cc π (cv b p) = some (r.1, cv b r.2)
  | [], p, r, h => by
    simp only [rounds2] at h
    simp only [rounds]
    split at h
    · rename_i hi
      rw [if_pos (show isItr i0 ((cv b p).env it) = true from hi)]
      cases h; rfl
    · cases h
  | q :: π, p, r, h => by
    simp only [rounds2] at h
    simp only [rounds]
    split at h
    · rename_i hi
      rw [if_pos (show isItr i0 ((cv b p).env it) = true from hi)]
      obtain ⟨p1, h1, h2⟩ := Option.bind_eq_some_iff.1 h
      obtain ⟨z, h3, h4⟩ := Option.bind_eq_some_iff.1 h2
      have e1 : (((cv b p).put (some nx) .undef).put (some ok) .undef).put (some en) (.tup [q.1, q.2]) = cv b (setO (setO (setO p.1 nx .undef) ok .undef) en (.tup [q.1, q.2]), p.2) := by
        rw [show cv b p = cv b (p.1, p.2) from rfl, cv_put, cv_put, cv_put]; rfl
      rw [e1, hp _ _ h1, Option.bind_some, ht _ _ h3, Option.bind_some]
      obtain ⟨x, p2⟩ := z
      cases x with
      | nxt => exact rounds2_sound hp ht π p2 r h4
      | out j =>
        dsimp only at h4 ⊢
        split at h4
        · rename_i hj
          rw [if_pos hj]; exact rounds2_sound hp ht π p2 r h4
        · rename_i hj
          rw [if_neg hj]; cases h4; rfl
      | ret => cases h4; rfl
    · cases h
theorem cv_rngIn (p : ES) (mid it nx ok en : Nat) : cv b (rngIn2 p mid it nx ok en) = (cv b p).rngIn mid it nx ok en := by
  unfold cv rngIn2 St.rngIn
  dsimp only
  rw [look_set, look_forget]; rfl
theorem cv_clean (p : ES) (n0 mid : Nat) (k : Blk) (fg : List Nat) : cv b (clean2 p n0 mid k fg) = (cv b p).clean n0 mid k fg := by
  unfold cv clean2 St.clean
  dsimp only
  rw [look_forget]
theorem cv_forget (p : ES) (fg : List Nat) : cv b (forgetO fg p.1, p.2) = (cv b p).forget fg := by
  unfold cv St.forget
  dsimp only
  rw [look_forget]
theorem allSame2_sound {f : List (AV × AV) → Option (Ex × ES)} {g : List (AV × AV) → Option (Ex × St)} (hf : ∀ π r, f π = some r → g π = some (r.1, cv b r.2)) {kvs : List (AV × AV)} {r : Ex × ES} (h : allSame2 f kvs = some r) : allSame g kvs = some (r.1, cv b r.2) := by
  unfold allSame2 at h
  split at h
  · rename_i r0 h0
    split at h
    · rename_i hall
      cases h
      unfold allSame
      have h1 := hf _ _ h0
      rw [if_pos, h1]
      intro π hπ
      have h2 := List.all_eq_true.1 hall π (mem_permsL kvs π hπ)
      split at h2
      · rename_i q hq
        rw [hf _ _ hq, h1, beqR_eq h2]
      · cases h2
    · cases h
  · cases h
theorem both2_sound {x y : Option (Ex × ES)} {u v : Option (Ex × St)} (hx : ∀ r, x = some r → u = some (r.1, cv b r.2)) (hy : ∀ r, y = some r → v = some (r.1, cv b r.2)) {r : Ex × ES} (h : both2 x y = some r) : both u v = some (r.1, cv b r.2) := by
  unfold both2 at h
  split at h
  · rename_i p q
    split at h
    · rename_i hb
      cases h
      unfold both
      rw [hx _ rfl, hy _ rfl, beqR_eq hb, if_pos rfl]
    · cases h
  · cases h
theorem exec2_sound {n : Nat} : ∀ {c : ACode} {p : ES} {r : Ex × ES}, exec2 ft R b n c p = some r → exec ft R n c (cv b p) = some (r.1, cv b r.2)
  | .skip, p, r, h => by cases h; rfl
  | .region ops, p, r, h => by
    simp only [exec2] at h
    obtain ⟨q, h1, rfl⟩ := Option.map_eq_some_iff.1 h
    simp only [exec, execOps2_sound h1]; rfl
  | .regionD ops chks, p, r, h => by
    simp only [exec2] at h
    obtain ⟨q, h1, h2⟩ := Option.bind_eq_some_iff.1 h
    simp only [exec, execOps2_sound h1, Option.bind_some]
    split at h2
    · rename_i hc
      cases h2
      rw [if_pos (show chkAll chks (cv b q).env = true from hc)]
    · cases h2
  | .seq x y, p, r, h => by
    simp only [exec2] at h
    simp only [exec]
    cases hx : exec2 ft R b n x p with
    | none => rw [hx] at h; cases h
    | some z =>
      rw [hx] at h
      rw [exec2_sound hx]
      obtain ⟨e, q⟩ := z
      cases e with
      | nxt => exact exec2_sound h
      | out j => cases h; rfl
      | ret => cases h; rfl
  | .cond c x y, p, r, h => by
    simp only [exec2] at h
    simp only [exec]
    split at h
    · rename_i hc; rw [hc]; exact exec2_sound h
    · rename_i hc; rw [hc]; exact exec2_sound h
    · cases h
  | .block id x, p, r, h => by
    simp only [exec2] at h
    simp only [exec]
    cases hx : exec2 ft R b n x p with
    | none => rw [hx] at h; cases h
    | some z =>
      rw [hx] at h
      rw [exec2_sound hx]
      obtain ⟨e, q⟩ := z
      cases e with
      | nxt => cases h; rfl
      | out j =>
        dsimp only at h ⊢
        split at h
        · rename_i hj; rw [if_pos hj]; cases h; rfl
        · rename_i hj; rw [if_neg hj]; cases h; rfl
      | ret => cases h; rfl
  | .loop x, p, r, h => by
    simp only [exec2] at h
    simp only [exec]
    exact loopN2_sound (fun p r h => exec2_sound h) h
  | .exit id, p, r, h => by cases h; rfl
  | .ret, p, r, h => by cases h; rfl
  | .frz, p, r, h => by cases h
  | .frzs t, p, r, h => by
    simp only [exec2] at h
    obtain ⟨q, h1, rfl⟩ := Option.map_eq_some_iff.1 h
    simp only [exec]
    rw [show frzsAt (cv b p).mem ((cv b p).env t) = some q from h1]
    show some (Ex.nxt, (⟨upd (lookO b p.1) t q.1, q.2⟩ : St)) = _
    rw [← look_set]; rfl
  | .rngm x it nx ok en pre post B Cc tail fg, p, r, h => by
    simp only [exec2] at h
    obtain ⟨p0, h1, h2⟩ := Option.bind_eq_some_iff.1 h
    simp only [exec, execOps2_sound h1, Option.bind_some]
    split at h2
    · rename_i mid hm
      rw [hm]
      dsimp only
      split at h2
      · rename_i kvs ek hk
        rw [show (cv b p0).mem.blks[mid]? = some (.mp kvs ek) from hk]
        dsimp only
        refine allSame2_sound (fun π q hq => ?_) h2
        obtain ⟨z, h3, rfl⟩ := Option.map_eq_some_iff.1 hq
        rw [← cv_rngIn]
        have h4 := rounds2_sound (b := b) (postS := execOps ft R post) (tailS := exec ft R n tail) (fun _ _ h => execOps2_sound h) (fun _ _ h => exec2_sound h) π _ z h3
        show Option.map (fun p => (p.1, p.2.clean p0.2.blks.length mid (.mp kvs ek) (it :: nx :: ok :: en :: fg))) (rounds (execOps ft R post) (exec ft R n tail) it nx ok p0.2.blks.length en B Cc π (cv b (rngIn2 p0 mid it nx ok en))) = _
        rw [h4, Option.map_some, cv_clean]
      · cases h2
    · rename_i hm
      rw [hm]
      cases h2
      dsimp only
      show some (Ex.nxt, (⟨_, p0.2⟩ : St)) = _
      unfold cv
      dsimp only
      rw [look_forget]
    · cases h2
  | .nilq pre x t c fg, p, r, h => by
    simp only [exec2] at h
    obtain ⟨p0, h1, h2⟩ := Option.bind_eq_some_iff.1 h
    simp only [exec, execOps2_sound h1, Option.bind_some]
    have key : ∀ (v : AV) (q : Ex × ES), (exec2 ft R b n c (setO p0.1 t v, p0.2)).map (fun q => (q.1, forgetO fg q.2.1, q.2.2)) = some q → (exec ft R n c ((cv b p0).put (some t) v)).map (fun p => (p.1, p.2.forget fg)) = some (q.1, cv b q.2) := fun v q hq => by
      obtain ⟨z, h3, rfl⟩ := Option.map_eq_some_iff.1 hq
      rw [show (cv b p0).put (some t) v = cv b (setO p0.1 t v, p0.2) from cv_put b p0.1 p0.2 (some t) v, exec2_sound h3, Option.map_some, ← cv_forget]
    split at h2
    · rename_i hm
      rw [hm]
      exact both2_sound (fun r hr => key _ r hr) (fun r hr => key _ r hr) h2
    · rename_i hm
      rw [hm]
      exact key _ _ h2
    · rename_i id _ _ hm
      rw [hm]
      dsimp only
      split at h2
      · rename_i hz
        rw [if_pos (show (lsz (cv b p0).mem id).isSome = true from hz)]
        exact key _ _ h2
      · cases h2
    · cases h2
  | .range f ps asg body, p, r, h => by
    simp only [exec2] at h
    simp only [exec]
    split at h
    · rename_i g first cap hf
      rw [hf]
      dsimp only
      split at h
      · rename_i v m hr
        rw [show R (.f g) (first ++ [.yld (cv b p).mem.blks.length] ++ cap) { (cv b p).mem with blks := (cv b p).mem.blks ++ [.lp (cv b p).env ps asg body true none] } = some (v, m) from hr]
        dsimp only
        split at h
        · rename_i e0 a0 g0 d0 rdy pend hb
          rw [show m.blks[(cv b p).mem.blks.length]? = some (.lp e0 a0 g0 d0 rdy pend) from hb]
          dsimp only
          split at h
          · rename_i hrd
            rw [if_pos hrd]
            cases h; rfl
          · cases h
        · cases h
      · cases h
    · cases h
def run2 (ft : FuncId → Option AFn) : Nat → Run
  | 0, _, _, _ => none
  | n + 1, .f f, args, m => match ft f with
    | some fn => if args.length = fn.params then (exec2 ft (run2 ft n) (entry args) n fn.body ([], m)).bind fun p => fin fn (p.1, cv (entry args) p.2) else none
    | none => none
  | n + 1, .y id, args, m => match m.blks[id]? with
    | some (.lp env ps asg body true none) => if args.length = ps.length then
        match exec2 ft (run2 ft n) (puts env ps args) n asg ([], m) with
        | some (.nxt, p) => (busy id (cv (puts env ps args) p)).bind fun s => (exec2 ft (run2 ft n) (puts env ps args) n body (p.1, s.mem)).bind fun q => yfin id q.1 (cv (puts env ps args) q.2)
        | _ => none
      else none
    | _ => none
theorem run2_le (ft : FuncId → Option AFn) : ∀ n, Run.le (run2 ft n) (run ft n)
  | 0 => fun _ _ _ _ h => by cases h
  | n + 1 => fun t as m r h => by
    have ih := run2_le ft n
    cases t with
    | f f =>
      simp only [run2] at h
      simp only [run]
      split at h
      · rename_i fn hf
        rw [hf]
        dsimp only
        split at h
        · rename_i hl
          rw [if_pos hl]
          obtain ⟨p, h1, h2⟩ := Option.bind_eq_some_iff.1 h
          have h3 := exec_mono ih (Nat.le_refl n) (exec2_sound h1)
          rw [show cv (entry as) ([], m) = ⟨entry as, m⟩ from by unfold cv; rw [look_nil]] at h3
          rw [h3, Option.bind_some]; exact h2
        · cases h
      · cases h
    | y id =>
      simp only [run2] at h
      simp only [run]
      split at h
      · rename_i env ps asg body hb
        rw [hb]
        dsimp only
        split at h
        · rename_i hl
          rw [if_pos hl]
          split at h
          · rename_i p h1
            have h3 := exec_mono ih (Nat.le_refl n) (exec2_sound h1)
            rw [show cv (puts env ps as) ([], m) = ⟨puts env ps as, m⟩ from by unfold cv; rw [look_nil]] at h3
            dsimp only at h3
            rw [h3]
            dsimp only
            obtain ⟨s, h4, h5⟩ := Option.bind_eq_some_iff.1 h
            obtain ⟨q, h6, h7⟩ := Option.bind_eq_some_iff.1 h5
            rw [h4, Option.bind_some]
            have hs : s = cv (puts env ps as) (p.1, s.mem) := by
              unfold busy at h4
              split at h4
              · cases h4; rfl
              · cases h4
            have h8 := exec_mono ih (Nat.le_refl n) (exec2_sound h6)
            rw [← hs] at h8
            rw [h8, Option.bind_some]; exact h7
          · cases h
        · cases h
      · cases h
/-- What the kernel has evaluated. -/
theorem RV_of_run2 {f : FuncId} {as : List AV} {v : AV} (n : Nat) (h : callV (run2 ft n) f as = some v) : RV ft f as v := ⟨n, callV_mono (run2_le ft n) h⟩
end Go.Ab
end
