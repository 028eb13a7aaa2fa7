/- Plain facts on manifests: what a text is, line by line, or where it is wrong. -/
import Derived.Test.YtemliglhippdcaaLineMath
import Derived.Test.YtemliglhippdcaaNameMath
import Derived.Test.YtemliglhippdcaaActMath
namespace Go.Proofs.Ytemliglhippdcaa.Mn
set_option maxRecDepth 100000

structure Rule where
  outs : List (List Nat)
  ins : List (List Nat)
  order : List (List Nat)
  acts : List (List Ac.D)
  phony : Bool
deriving DecidableEq
structure M where
  rules : List Rule
  dflt : List (List Nat)
deriving DecidableEq
/-- What is wrong, and where. -/
structure F where
  k : Nat
  line : Nat
  col : Nat
deriving DecidableEq
def fw (k : Nat) (w : Ln.W) : F := ⟨k, w.line, w.col⟩
inductive R (α : Type) where
  | ok (x : α)
  | bad (e : F)
def R.bind {α β : Type} (x : R α) (f : α → R β) : R β := match x with
  | .ok a => f a
  | .bad e => .bad e
def isW (s : List Nat) (w : Ln.W) : Bool := decide (w.text = s) && !w.q
def aSign (w : Ln.W) : Bool := !w.q && decide (w.text.length = 1) && Ln.sign (w.text.headD 0)
def manifest : List Nat := [109, 97, 110, 105, 102, 101, 115, 116]
def trace : List Nat := [116, 114, 97, 99, 101]
/-- A word that is no name: which fault it is. -/
def chk (rule : Bool) (w : Ln.W) : Option Nat :=
  if aSign w then some 4
  else if w.q || !Nm.ok w.text || (rule && (decide (w.text = manifest) || decide (w.text = trace))) then some 5
  else none
def names (most : Nat) (rule : Bool) (stop : Ln.W → Bool) : List Ln.W → List (List Nat) → R (List (List Nat) × List Ln.W)
  | [], out => .ok (out, [])
  | w :: r, out => if stop w then .ok (out, w :: r)
    else match chk rule w with
      | some k => .bad (fw k w)
      | none => if most ≤ out.length then .bad (fw 7 w) else names most rule stop r (out ++ [w.text])
def taken (rules : List Rule) (t : List Nat) : Bool := rules.any fun r => decide (t ∈ r.outs)
def outs (rules : List Rule) (most : Nat) (first : Ln.W) : List Ln.W → List (List Nat) → R (List (List Nat) × List Ln.W)
  | [], _ => .bad (fw 4 first)
  | w :: r, out => if isW [58] w then (if out = [] then .bad (fw 4 w) else .ok (out, r))
    else match chk true w with
      | some k => .bad (fw k w)
      | none => if most ≤ out.length then .bad (fw 7 w)
        else if taken rules w.text || decide (w.text ∈ out) then .bad (fw 8 w)
        else outs rules most first r (out ++ [w.text])
/-- An action's words are over. -/
def fin (first : Ln.W) (n : Nat) (cur : List Ln.W) (out : List (List Ac.D)) : R (List (List Ac.D)) :=
  if n ≤ out.length then .bad (fw 7 (cur.headD first))
  else match Ac.parse cur with
    | none => .bad (fw 9 (cur.headD first))
    | some a => .ok (out ++ [a])
def acts (first : Ln.W) (n : Nat) : List Ln.W → List Ln.W → List (List Ac.D) → R (List (List Ac.D))
  | [], cur, out => (fin first n cur out).bind fun o => if o.length < n then .bad (fw 4 first) else .ok o
  | w :: r, cur, out => if isW [44] w then (fin first n cur out).bind fun o => acts first n r [] o
    else acts first n r (cur ++ [w]) out
/-- A sign that must stand. -/
def need (s : List Nat) (first : Ln.W) : List Ln.W → R (List Ln.W)
  | [] => .bad (fw 4 first)
  | w :: r => if isW s w then .ok r else .bad (fw 4 w)
def ordered (l : List Ln.W) : R (List (List Nat) × List Ln.W) := match l with
  | [] => .ok ([], [])
  | w :: r => if isW [124] w then names 8 true (isW [61]) r [] else .ok ([], w :: r)
def rule (rules : List Rule) (phony : Bool) (first : Ln.W) (l : List Ln.W) : R Rule :=
  if 64 ≤ rules.length then .bad (fw 11 first)
  else (outs rules (if phony then 1 else 4) first l []).bind fun (o, r1) =>
    if phony then (names 8 true (fun _ => false) r1 []).bind fun (i, _) => .ok ⟨o, i, [], [], true⟩
    else (names 8 true (fun w => isW [124] w || isW [61] w) r1 []).bind fun (i, r2) =>
      (ordered r2).bind fun (d, r3) => (need [61] first r3).bind fun r4 =>
        (acts first o.length r4 [] []).bind fun a => .ok ⟨o, i, d, a, false⟩
abbrev Lets := List (List Nat × List Ln.W)
def find (t : List Nat) : Lets → Option (List Ln.W)
  | [] => none
  | (s, l) :: r => match find t r with
    | some x => some x
    | none => if s = t then some l else none
/-- What stands for names is put in. -/
def put (lets : Lets) : List Ln.W → R (List Ln.W)
  | [] => .ok []
  | w :: r => if w.q || decide (w.text.headD 0 ≠ 36) then (put lets r).bind fun x => .ok (w :: x)
    else match find w.text.tail lets with
      | none => .bad (fw 6 w)
      | some l => (put lets r).bind fun x => .ok (l.map (fun y => { y with line := w.line, col := w.col }) ++ x)
def lett (first : Ln.W) (l : List Ln.W) : R (List Nat × List Ln.W) := match l with
  | [] => .bad (fw 4 first)
  | w :: r => match chk false w with
    | some k => .bad (fw k w)
    | none => match r with
      | [] => .bad (fw 4 first)
      | x :: s => if isW [61] x then (if 16 < s.length then .bad (fw 7 (s.getD 16 first)) else .ok (w.text, s))
        else match chk false x with
          | some k => .bad (fw k x)
          | none => .bad (fw 7 x)
structure St where
  rules : List Rule
  lets : Lets
  dflt : List (List Nat)
  dw : List Ln.W
def line (s : St) (l : List Ln.W) : R St := match l with
  | [] => .ok s
  | f :: r0 => (put s.lets r0).bind fun r =>
    if isW [108, 101, 116] f then (lett f r).bind fun x => .ok { s with lets := s.lets ++ [x] }
    else if isW [114, 117, 108, 101] f then (rule s.rules false f r).bind fun x => .ok { s with rules := s.rules ++ [x] }
    else if isW [112, 104, 111, 110, 121] f then (rule s.rules true f r).bind fun x => .ok { s with rules := s.rules ++ [x] }
    else if isW [100, 101, 102, 97, 117, 108, 116] f then
      if s.dflt ≠ [] then .bad (fw 7 f)
      else (names 8 false (fun _ => false) r []).bind fun (o, _) => if r = [] then .bad (fw 4 f) else .ok { s with dflt := o, dw := r }
    else .bad (fw 4 f)
def lines : St → List (List Ln.W) → R St
  | s, [] => .ok s
  | s, l :: r => (line s l).bind fun s' => lines s' r
def dangling (rules : List Rule) : List Ln.W → Option F
  | [] => none
  | w :: r => if taken rules w.text then dangling rules r else some (fw 10 w)
/-- Whether a rule needs another one. -/
def needs (a b : Rule) : Bool := b.outs.any fun s => decide (s ∈ a.ins) || decide (s ∈ a.order)
/-- The rules that are left, one that needs none of these taken out: the first. -/
def pick (all : List Rule) : List Rule → List Rule → Option (List Rule)
  | _, [] => none
  | pre, r :: rest => if (all.any fun b => needs r b) then pick all (pre ++ [r]) rest else some (pre ++ rest)
def level : Nat → List Rule → Bool
  | _, [] => true
  | 0, _ :: _ => false
  | f + 1, l => match pick l [] l with
    | none => false
    | some x => level f x
def parse (b : List Nat) : R M := match Ln.split b with
  | .bad k ln col => .bad ⟨k, ln, col⟩
  | .ok L => (lines ⟨[], [], [], []⟩ L).bind fun s => match dangling s.rules s.dw with
    | some e => .bad e
    | none => if level s.rules.length s.rules then .ok ⟨s.rules, s.dflt⟩ else .bad ⟨12, 0, 0⟩
def row (l : List (List Nat)) : List Nat := l.flatMap fun t => 32 :: t
def wordB (w : Ln.W) : List Nat := if w.q then 34 :: (w.text ++ [34]) else w.text
def action (a : List Ac.D) : List Nat := (Ac.wordsOf a).flatMap fun w => 32 :: wordB w
def actions : List (List Ac.D) → List Nat
  | [] => []
  | [a] => action a
  | a :: b :: r => action a ++ [32, 44] ++ actions (b :: r)
def printR (r : Rule) : List Nat :=
  if r.phony then [112, 104, 111, 110, 121] ++ row r.outs ++ [32, 58] ++ row r.ins ++ [10]
  else [114, 117, 108, 101] ++ row r.outs ++ [32, 58] ++ row r.ins ++ (if r.order = [] then [] else [32, 124] ++ row r.order) ++ [32, 61] ++ actions r.acts ++ [10]
def print (m : M) : List Nat := m.rules.flatMap printR ++ (if m.dflt = [] then [] else [100, 101, 102, 97, 117, 108, 116] ++ row m.dflt ++ [10])
end Go.Proofs.Ytemliglhippdcaa.Mn
