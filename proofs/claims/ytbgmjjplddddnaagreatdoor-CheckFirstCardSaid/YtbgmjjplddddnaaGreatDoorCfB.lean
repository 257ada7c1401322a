import Derived.Test.YtbgmjjplddddnaaGreatDoorCfA
set_option linter.unusedVariables false
set_option maxRecDepth 100000
namespace Go.Proofs.YtbgmjjplddddnaaGreatDoor
open Go.Lift
def Tz0:LT:={ live:=[(4,[0,3]),(9,[0,3,4])],keep:=[] }
noncomputable def Ez0:Aj:={ tab:=tab,fs:=[],inl:=[] }
noncomputable def QId (v:Y69):St:={ s:=[(0,(.val ⟨sV,v.1⟩)),(3,(.val ⟨Z2,v.2.1⟩)),(4,(.val ⟨Z2,v.2.2⟩))],l:=[],k:=[],b:=4096 }
noncomputable def QEJ (v:vo):St:={ s:=[(0,(.val ⟨sV,v.1⟩)),(3,(.val ⟨Z2,v.2⟩))],l:=[],k:=[],b:=4096 }
def jo (ZG:vo->Option (Bool)) (ZH:Y69->Option (Bool)) (v:Y69):Option (Bool):=
 ((Mh v.1 v.2.1).bind fun x2=>(bif (decide (v.2.2 < (List.length x2.2.2.2.1:Int))) then ((Mh v.1 v.2.1).bind fun x3=>((Mh x3.2.2.2.1 v.2.2).bind fun x4=>(bif (decide ((List.length x4.1:Int) > (100:Int))) then (some true) else (let x5:Int:=(IntKind.i64.wrap (v.2.2+(1:Int)));(ZH (v.1,v.2.1,x5)))))) else (let x6:Int:=(IntKind.i64.wrap (v.2.1+(1:Int)));(ZG (v.1,x6)))))
def dI (N:Nat) (ZG:vo->Option (Bool)) (ZH:Y69->Option (Bool)) (v:Y69):Option (Bool):=jo ZG ZH v
theorem QVF (N:Nat) (s0:St->Option (Bool)) (s1:St->Option (Bool)) (v):(Yg (Ez0) Tz0 6 N Tryz.f55 [.bool] [false] [] 1 (YC s0 Wx)) s1 (QId v)=dI N (fun v=>s0 (QEJ v)) (fun v=>s1 (QId v)) v:=by kernel_rfl
def bF (Zv:Y69->Option (Bool)) (ZG:vo->Option (Bool)) (v:vo):Option (Bool):=
 (bif (decide (v.2 < (List.length v.1:Int))) then ((Mh v.1 v.2).bind fun x1=>(bif (decide ((List.length x1.2.2.2.1:Int) > (20:Int))) then (some true) else (Zv (v.1,v.2,(0:Int))))) else (some false))
def jZ (N:Nat) (ZG:vo->Option (Bool)) (v:vo):Option (Bool):=bF (FU (dI N ZG) N) ZG v
theorem QVE (N:Nat) (s0:St->Option (Bool)) (v):(Yg (Ez0) Tz0 6 N Tryz.f55 [.bool] [false] [] 0 Wx) s0 (QEJ v)=jZ N (fun v=>s0 (QEJ v)) v:=Eq.trans (b:=bF (fun v=>Ns (Yg (Ez0) Tz0 6 N Tryz.f55 [.bool] [false] [] 1 (YC s0 Wx)) N (QId v)) (fun v=>s0 (QEJ v)) v) (by kernel_rfl) (by rw [funext (SN QId (QVF N s0) N)];rfl)
def r9 (ZJ:vo->Option (Bool)) (x:Y9):Option (Bool):=
 (bif (decide ((List.length x:Int) > (40:Int))) then (some true) else (ZJ (x,(0:Int))))
def QAo (N:Nat) (x:Y9):Option (Bool):=r9 (FU (jZ N) N) x
theorem lz0 (N:Nat) (x:Y9):rise (Ez0) Tz0 6 N Tryz.f55 [sV] [.bool] [false] x=QAo N x:=Eq.trans (b:=r9 (fun v=>Ns (Yg (Ez0) Tz0 6 N Tryz.f55 [.bool] [false] [] 0 Wx) N (QEJ v)) x) (by kernel_rfl) (by rw [funext (SN QEJ (QVE N) N)];rfl)
def wX (x:Y9):Option (Bool):=QAo big x
def Gz0:UA:=⟨[sV],[.bool],[false],fun x=>wX x⟩
theorem Lz0:GV Tryz.prog 55 Gz0:=rz (E:=Ez0) ⟨ZK,Xq,fun _ _ _=>rfl,mixed,X8,YF,YE⟩ Tryz.func55 fun _ _ h=>(lz0 big _).trans h
def Tz1:LT:={ live:=[(4,[1,3]),(10,[1,4,5]),(17,[1,4,5,6,7])],keep:=[] }
noncomputable def Ez1:Aj:={ tab:=tab,fs:=[(55,Gz0)],inl:=[] }
noncomputable def QIf (v:Y44):St:={ s:=[(1,(.loc 0 [])),(4,(.val ⟨Z2,v.1⟩)),(5,(.val ⟨Z2,v.2.1⟩)),(6,(.loc 1 [])),(7,(.val ⟨Z2,v.2.2.1⟩))],l:=[(0,.var Z1 (.val ⟨Z1,v.2.2.2.1⟩)),(1,.var Z0 (.val ⟨Z0,v.2.2.2.2⟩))],k:=[],b:=4096 }
noncomputable def QEK (v:Y70):St:={ s:=[(1,(.loc 0 [])),(4,(.val ⟨Z2,v.1⟩)),(5,(.val ⟨Z2,v.2.1⟩))],l:=[(0,.var Z1 (.val ⟨Z1,v.2.2⟩))],k:=[],b:=4096 }
noncomputable def QBq (v:Y78):St:={ s:=[(1,(.loc 0 [])),(3,(.val ⟨Z2,v.1⟩))],l:=[(0,.var Z1 (.val ⟨Z1,v.2⟩))],k:=[],b:=4096 }
def tX (ZG:Y78->Option (Bool)) (ZH:Y70->Option (Bool)) (Zo:Y44->Option (Bool)) (v:Y44):Option (Bool):=
 (bif (decide (v.2.2.1 < (List.length v.2.2.2.2.2.2.2.1:Int))) then ((Mh v.2.2.2.2.2.2.2.1 v.2.2.1).bind fun x6=>(bif (decide ((List.length x6.1:Int) > (100:Int))) then (some true) else (let x7:Int:=(IntKind.i64.wrap (v.2.2.1+(1:Int)));(Zo (v.1,v.2.1,x7,v.2.2.2.1,v.2.2.2.2))))) else (let x8:Int:=(IntKind.i64.wrap (v.2.1+(1:Int)));(ZH (v.1,x8,v.2.2.2.1))))
def gG (N:Nat) (ZG:Y78->Option (Bool)) (ZH:Y70->Option (Bool)) (Zo:Y44->Option (Bool)) (v:Y44):Option (Bool):=tX ZG ZH Zo v
theorem QVJ (N:Nat) (s0:St->Option (Bool)) (s1:St->Option (Bool)) (s2:St->Option (Bool)) (v):(Yg (Ez1) Tz1 6 N Tryz.f18 [.bool] [false] [] 2 (YC s1 Wx)) s2 (QIf v)=gG N (fun v=>s0 (QBq v)) (fun v=>s1 (QEK v)) (fun v=>s2 (QIf v)) v:=by kernel_rfl
def oH (yO:Y44->Option (Bool)) (ZG:Y78->Option (Bool)) (ZH:Y70->Option (Bool)) (v:Y70):Option (Bool):=
 (bif (decide (v.2.1 < (List.length v.2.2.2.2.1:Int))) then ((Mh v.2.2.2.2.1 v.2.1).bind fun x4=>(let x5:Int:=(IntKind.i64.wrap (v.1+(List.length x4.2.2.2.2.1:Int)));(bif (decide ((List.length x4.1:Int) > (100:Int))) then (some true) else (bif (decide ((List.length x4.2.2.2.1:Int) > (20:Int))) then (some true) else (bif (decide ((List.length x4.2.2.2.2.1:Int) > (210:Int))) then (some true) else (bif (decide ((List.length x4.2.2.2.2.2.1:Int) > (210:Int))) then (some true) else (bif (decide ((List.length x4.2.2.2.2.2.2.1:Int) > (210:Int))) then (some true) else (bif (decide (x5 > (1000:Int))) then (some true) else (yO (x5,v.2.1,(0:Int),v.2.2,x4)))))))))) else (some false))
def gF (N:Nat) (ZG:Y78->Option (Bool)) (ZH:Y70->Option (Bool)) (v:Y70):Option (Bool):=oH (FU (gG N ZG ZH) N) ZG ZH v
theorem QVI (N:Nat) (s0:St->Option (Bool)) (s1:St->Option (Bool)) (v):(Yg (Ez1) Tz1 6 N Tryz.f18 [.bool] [false] [] 1 Wx) s1 (QEK v)=gF N (fun v=>s0 (QBq v)) (fun v=>s1 (QEK v)) v:=Eq.trans (b:=oH (fun v=>Ns (Yg (Ez1) Tz1 6 N Tryz.f18 [.bool] [false] [] 2 (YC s1 Wx)) N (QIf v)) (fun v=>s0 (QBq v)) (fun v=>s1 (QEK v)) v) (by kernel_rfl) (by rw [funext (SN QIf (QVJ N s0 s1) N)];rfl)
def oG (Zv:Y70->Option (Bool)) (ZG:Y78->Option (Bool)) (v:Y78):Option (Bool):=
 (bif (decide (v.1 < (List.length v.2.2.1:Int))) then ((Mh v.2.2.1 v.1).bind fun x2=>(bif (decide ((List.length x2:Int) > (100:Int))) then (some true) else (let x3:Int:=(IntKind.i64.wrap (v.1+(1:Int)));(ZG (x3,v.2))))) else (Zv ((0:Int),(0:Int),v.2)))
def gD (N:Nat) (ZG:Y78->Option (Bool)) (v:Y78):Option (Bool):=oG (FU (gF N ZG) N) ZG v
theorem QVH (N:Nat) (s0:St->Option (Bool)) (v):(Yg (Ez1) Tz1 6 N Tryz.f18 [.bool] [false] [] 0 Wx) s0 (QBq v)=gD N (fun v=>s0 (QBq v)) v:=Eq.trans (b:=oG (fun v=>Ns (Yg (Ez1) Tz1 6 N Tryz.f18 [.bool] [false] [] 1 Wx) N (QEK v)) (fun v=>s0 (QBq v)) v) (by kernel_rfl) (by rw [funext (SN QEK (QVI N s0) N)];rfl)
def sN (ZJ:Y78->Option (Bool)) (x:ZA):Option (Bool):=
 ((wX x.1).bind fun x1=>(bif x1 then (some true) else (bif (decide ((List.length x.2.1:Int) > (40:Int))) then (some true) else (bif (decide ((List.length x.2.2.1:Int) > (40:Int))) then (some true) else (ZJ ((0:Int),x))))))
def QAw (N:Nat) (x:ZA):Option (Bool):=sN (FU (gD N) N) x
theorem lz1 (N:Nat) (x:ZA):rise (Ez1) Tz1 6 N Tryz.f18 [Z1] [.bool] [false] x=QAw N x:=Eq.trans (b:=sN (fun v=>Ns (Yg (Ez1) Tz1 6 N Tryz.f18 [.bool] [false] [] 0 Wx) N (QBq v)) x) (by kernel_rfl) (by rw [funext (SN QBq (QVH N) N)];rfl)
def w9 (x:ZA):Option (Bool):=QAw big x
def Gz1:UA:=⟨[Z1],[.bool],[false],fun x=>w9 x⟩
theorem Lz1:GV Tryz.prog 18 Gz1:=rz (E:=Ez1) ⟨ZK,(XT Lz0 Xq),fun _ _ _=>rfl,mixed,X8,YF,YE⟩ Tryz.func18 fun _ _ h=>(lz1 big _).trans h
def Tz2:LT:={ live:=[],keep:=[] }
noncomputable def Ez2:Aj:={ tab:=tab,fs:=[],inl:=[] }
def qM (x:Int):Option (Bool):=
 (bif (decide (x≥(97:Int))) then (bif (decide (x<=(122:Int))) then (some true) else (bif (decide (x≥(65:Int))) then (some (decide (x<=(90:Int)))) else (some false))) else (bif (decide (x≥(65:Int))) then (some (decide (x<=(90:Int)))) else (some false)))
def QE0 (N:Nat) (x:Int):Option (Bool):=qM x
theorem lz2 (N:Nat) (x:Int):rise (Ez2) Tz2 6 N Tryz.f176 [fI] [.bool] [false] x=qM x:=by kernel_rfl
def pX (x:Int):Option (Bool):=QE0 big x
def Gz2:UA:=⟨[fI],[.bool],[false],fun x=>pX x⟩
theorem Lz2:GV Tryz.prog 176 Gz2:=rz (E:=Ez2) ⟨ZK,Xq,fun _ _ _=>rfl,mixed,X8,YF,YE⟩ Tryz.func176 fun _ _ h=>(lz2 big _).trans h
def Tz3:LT:={ live:=[(4,[0,3])],keep:=[] }
noncomputable def Ez3:Aj:={ tab:=tab,fs:=[(176,Gz2)],inl:=[] }
noncomputable def QIg (v:Y79):St:={ s:=[(0,(.val ⟨.str,v.1⟩)),(3,(.val ⟨Z2,v.2⟩))],l:=[],k:=[],b:=4096 }
def jq (ZG:Y79->Option (Bool)) (v:Y79):Option (Bool):=
 (bif (decide (v.2 < (List.length v.1:Int))) then ((Mh v.1 v.2).bind fun x3=>((pX x3).bind fun x4=>(bif (!x4) then ((Mh v.1 v.2).bind fun x5=>(bif (decide (x5 < (48:Int))) then (some false) else ((Mh v.1 v.2).bind fun x6=>(bif (decide (x6 > (57:Int))) then (some false) else (let x7:Int:=(IntKind.i64.wrap (v.2+(1:Int)));(ZG (v.1,x7))))))) else (let x8:Int:=(IntKind.i64.wrap (v.2+(1:Int)));(ZG (v.1,x8)))))) else (some true))
def nU (N:Nat) (ZG:Y79->Option (Bool)) (v:Y79):Option (Bool):=jq ZG v
theorem QVK (N:Nat) (s0:St->Option (Bool)) (v):(Yg (Ez3) Tz3 6 N Tryz.f145 [.bool] [false] [] 0 Wx) s0 (QIg v)=nU N (fun v=>s0 (QIg v)) v:=by kernel_rfl
def sD (ZJ:Y79->Option (Bool)) (x:ZB):Option (Bool):=
 (bif (decide ((List.length x:Int) < (1:Int))) then (some false) else (bif (decide ((List.length x:Int) > (16:Int))) then (some false) else ((Mh x (0:Int)).bind fun x1=>((pX x1).bind fun x2=>(bif (!x2) then (some false) else (ZJ (x,(0:Int))))))))
def QAp (N:Nat) (x:ZB):Option (Bool):=sD (FU (nU N) N) x
theorem lz3 (N:Nat) (x:ZB):rise (Ez3) Tz3 6 N Tryz.f145 [.str] [.bool] [false] x=QAp N x:=Eq.trans (b:=sD (fun v=>Ns (Yg (Ez3) Tz3 6 N Tryz.f145 [.bool] [false] [] 0 Wx) N (QIg v)) x) (by kernel_rfl) (by rw [funext (SN QIg (QVK N) N)];rfl)
def rE (x:ZB):Option (Bool):=QAp big x
def Gz3:UA:=⟨[.str],[.bool],[false],fun x=>rE x⟩
theorem Lz3:GV Tryz.prog 145 Gz3:=rz (E:=Ez3) ⟨ZK,(XT Lz2 Xq),fun _ _ _=>rfl,mixed,X8,YF,YE⟩ Tryz.func145 fun _ _ h=>(lz3 big _).trans h
def Tz4:LT:={ live:=[(4,[0,5]),(9,[0,5,6])],keep:=[] }
noncomputable def Ez4:Aj:={ tab:=tab,fs:=[(145,Gz3)],inl:=[] }
noncomputable def QIh (v:Y6×Int×Int):St:={ s:=[(0,(.val ⟨Z7,v.1⟩)),(5,(.val ⟨Z2,v.2.1⟩)),(6,(.val ⟨Z2,v.2.2⟩))],l:=[],k:=[],b:=4096 }
noncomputable def QEL (v:Y6×Int):St:={ s:=[(0,(.val ⟨Z7,v.1⟩)),(5,(.val ⟨Z2,v.2⟩))],l:=[],k:=[],b:=4096 }
def bV (ZG:Y6×Int->Option (Bool)) (ZH:Y6×Int×Int->Option (Bool)) (v:Y6×Int×Int):Option (Bool):=
 (bif (decide (v.2.2 < v.2.1)) then ((Mh v.1 v.2.2).bind fun x3=>((Mh v.1 v.2.1).bind fun x4=>(bif (Ib .str x3.1 x4.1) then (some false) else (let x5:Int:=(IntKind.i64.wrap (v.2.2+(1:Int)));(ZH (v.1,v.2.1,x5)))))) else (let x6:Int:=(IntKind.i64.wrap (v.2.1+(1:Int)));(ZG (v.1,x6))))
def aB (N:Nat) (ZG:Y6×Int->Option (Bool)) (ZH:Y6×Int×Int->Option (Bool)) (v:Y6×Int×Int):Option (Bool):=bV ZG ZH v
theorem QVM (N:Nat) (s0:St->Option (Bool)) (s1:St->Option (Bool)) (v):(Yg (Ez4) Tz4 6 N Tryz.f146 [.bool] [false] [] 1 (YC s0 Wx)) s1 (QIh v)=aB N (fun v=>s0 (QEL v)) (fun v=>s1 (QIh v)) v:=by kernel_rfl
def Zm (Zv:Y6×Int×Int->Option (Bool)) (ZG:Y6×Int->Option (Bool)) (v:Y6×Int):Option (Bool):=
 (bif (decide (v.2 < (List.length v.1:Int))) then ((Mh v.1 v.2).bind fun x1=>((rE x1.1).bind fun x2=>(bif (!x2) then (some false) else (Zv (v.1,v.2,(0:Int)))))) else (some true))
def aA (N:Nat) (ZG:Y6×Int->Option (Bool)) (v:Y6×Int):Option (Bool):=Zm (FU (aB N ZG) N) ZG v
theorem QVL (N:Nat) (s0:St->Option (Bool)) (v):(Yg (Ez4) Tz4 6 N Tryz.f146 [.bool] [false] [] 0 Wx) s0 (QEL v)=aA N (fun v=>s0 (QEL v)) v:=Eq.trans (b:=Zm (fun v=>Ns (Yg (Ez4) Tz4 6 N Tryz.f146 [.bool] [false] [] 1 (YC s0 Wx)) N (QIh v)) (fun v=>s0 (QEL v)) v) (by kernel_rfl) (by rw [funext (SN QIh (QVM N s0) N)];rfl)
def ig (ZJ:Y6×Int->Option (Bool)) (x:Y6×Int):Option (Bool):=
 (bif (decide ((List.length x.1:Int) > x.2)) then (some false) else (ZJ (x.1,(0:Int))))
def zk (N:Nat) (x:Y6×Int):Option (Bool):=ig (FU (aA N) N) x
theorem lz4 (N:Nat) (x:Y6×Int):rise (Ez4) Tz4 6 N Tryz.f146 [Z7,Z2] [.bool] [false] x=zk N x:=Eq.trans (b:=ig (fun v=>Ns (Yg (Ez4) Tz4 6 N Tryz.f146 [.bool] [false] [] 0 Wx) N (QEL v)) x) (by kernel_rfl) (by rw [funext (SN QEL (QVL N) N)];rfl)
def lH (x:Y6×Int):Option (Bool):=zk big x
def Gz4:UA:=⟨[Z7,Z2],[.bool],[false],fun x=>lH x⟩
theorem Lz4:GV Tryz.prog 146 Gz4:=rz (E:=Ez4) ⟨ZK,(XT Lz3 Xq),fun _ _ _=>rfl,mixed,X8,YF,YE⟩ Tryz.func146 fun _ _ h=>(lz4 big _).trans h
def Tz5:LT:={ live:=[(14,[1,5,6])],keep:=[] }
noncomputable def Ez5:Aj:={ tab:=tab,fs:=[(146,Gz4)],inl:=[] }
noncomputable def QIi (v:Int×Int×ZC):St:={ s:=[(1,(.val ⟨Z2,v.1⟩)),(5,(.loc 0 [])),(6,(.val ⟨Z2,v.2.1⟩))],l:=[(0,.var Z4 (.val ⟨Z4,v.2.2⟩))],k:=[],b:=4096 }
def lM (ZG:Int×Int×ZC->Option (Bool)) (v:Int×Int×ZC):Option (Bool):=
 (bif (decide (v.2.1 < (List.length v.2.2.2.2.2.1:Int))) then ((Mh v.2.2.2.2.2.1 v.2.1).bind fun x2=>(bif (decide (x2.2.1 < (0:Int))) then (some false) else ((Mh v.2.2.2.2.2.1 v.2.1).bind fun x3=>(bif (decide (x3.2.1≥v.1)) then (some false) else (let x4:Int:=(IntKind.i64.wrap (v.2.1+(1:Int)));(ZG (v.1,x4,v.2.2))))))) else (bif (v.2.2.2.1==(0:Int)) then (bif (v.2.2.2.2.1==(0:Int)) then (bif (decide ((List.length v.2.2.2.2.2.1:Int) > (0:Int))) then ((lH (v.2.2.2.2.2.1,(8:Int))).bind fun x5=>(some x5)) else (some false)) else (some false)) else (some false)))
def iQ (N:Nat) (ZG:Int×Int×ZC->Option (Bool)) (v:Int×Int×ZC):Option (Bool):=lM ZG v
theorem QVN (N:Nat) (s0:St->Option (Bool)) (v):(Yg (Ez5) Tz5 6 N Tryz.f143 [.bool] [false] [] 0 Wx) s0 (QIi v)=iQ N (fun v=>s0 (QIi v)) v:=by kernel_rfl
def uw (ZJ:Int×Int×ZC->Option (Bool)) (x:vo):Option (Bool):=
 ((Mh x.1 x.2).bind fun x1=>(bif (x1.1==(1:Int)) then (bif (x1.1==(1:Int)) then (bif (x1.2.1==(0:Int)) then (bif (x1.2.2.1==(0:Int)) then (some ((List.length x1.2.2.2.1:Int)==(0:Int))) else (some false)) else (some false)) else (bif (x1.1==(4:Int)) then (bif (x1.1==(4:Int)) then (bif (decide (x1.2.1≥(0:Int))) then (bif (decide (x1.2.1 < (List.length x.1:Int))) then (bif (x1.2.2.1==(0:Int)) then (some ((List.length x1.2.2.2.1:Int)==(0:Int))) else (some false)) else (some false)) else (some false)) else (bif (x1.1==(6:Int)) then (bif (decide (x1.2.1≥(0:Int))) then (bif (decide (x1.2.1 < x.2)) then (bif (decide (x1.2.2.1≥(1:Int))) then (bif (decide (x1.2.2.1<=(16:Int))) then (some ((List.length x1.2.2.2.1:Int)==(0:Int))) else (some false)) else (some false)) else (some false)) else (some false)) else (bif (x1.1==(5:Int)) then (ZJ (x.2,(0:Int),x1)) else (some false)))) else (bif (x1.1==(7:Int)) then (bif (decide (x1.2.1≥(0:Int))) then (bif (decide (x1.2.1 < (List.length x.1:Int))) then (bif (x1.2.2.1==(0:Int)) then (some ((List.length x1.2.2.2.1:Int)==(0:Int))) else (some false)) else (some false)) else (some false)) else (bif (x1.1==(6:Int)) then (bif (decide (x1.2.1≥(0:Int))) then (bif (decide (x1.2.1 < x.2)) then (bif (decide (x1.2.2.1≥(1:Int))) then (bif (decide (x1.2.2.1<=(16:Int))) then (some ((List.length x1.2.2.2.1:Int)==(0:Int))) else (some false)) else (some false)) else (some false)) else (some false)) else (bif (x1.1==(5:Int)) then (ZJ (x.2,(0:Int),x1)) else (some false)))))) else (bif (x1.1==(2:Int)) then (bif (x1.1==(2:Int)) then (bif (x1.2.1==(0:Int)) then (bif (x1.2.2.1==(0:Int)) then (some ((List.length x1.2.2.2.1:Int)==(0:Int))) else (some false)) else (some false)) else (bif (x1.1==(4:Int)) then (bif (x1.1==(4:Int)) then (bif (decide (x1.2.1≥(0:Int))) then (bif (decide (x1.2.1 < (List.length x.1:Int))) then (bif (x1.2.2.1==(0:Int)) then (some ((List.length x1.2.2.2.1:Int)==(0:Int))) else (some false)) else (some false)) else (some false)) else (bif (x1.1==(6:Int)) then (bif (decide (x1.2.1≥(0:Int))) then (bif (decide (x1.2.1 < x.2)) then (bif (decide (x1.2.2.1≥(1:Int))) then (bif (decide (x1.2.2.1<=(16:Int))) then (some ((List.length x1.2.2.2.1:Int)==(0:Int))) else (some false)) else (some false)) else (some false)) else (some false)) else (bif (x1.1==(5:Int)) then (ZJ (x.2,(0:Int),x1)) else (some false)))) else (bif (x1.1==(7:Int)) then (bif (decide (x1.2.1≥(0:Int))) then (bif (decide (x1.2.1 < (List.length x.1:Int))) then (bif (x1.2.2.1==(0:Int)) then (some ((List.length x1.2.2.2.1:Int)==(0:Int))) else (some false)) else (some false)) else (some false)) else (bif (x1.1==(6:Int)) then (bif (decide (x1.2.1≥(0:Int))) then (bif (decide (x1.2.1 < x.2)) then (bif (decide (x1.2.2.1≥(1:Int))) then (bif (decide (x1.2.2.1<=(16:Int))) then (some ((List.length x1.2.2.2.1:Int)==(0:Int))) else (some false)) else (some false)) else (some false)) else (some false)) else (bif (x1.1==(5:Int)) then (ZJ (x.2,(0:Int),x1)) else (some false)))))) else (bif (x1.1==(3:Int)) then (bif (x1.2.1==(0:Int)) then (bif (x1.2.2.1==(0:Int)) then (some ((List.length x1.2.2.2.1:Int)==(0:Int))) else (some false)) else (some false)) else (bif (x1.1==(4:Int)) then (bif (x1.1==(4:Int)) then (bif (decide (x1.2.1≥(0:Int))) then (bif (decide (x1.2.1 < (List.length x.1:Int))) then (bif (x1.2.2.1==(0:Int)) then (some ((List.length x1.2.2.2.1:Int)==(0:Int))) else (some false)) else (some false)) else (some false)) else (bif (x1.1==(6:Int)) then (bif (decide (x1.2.1≥(0:Int))) then (bif (decide (x1.2.1 < x.2)) then (bif (decide (x1.2.2.1≥(1:Int))) then (bif (decide (x1.2.2.1<=(16:Int))) then (some ((List.length x1.2.2.2.1:Int)==(0:Int))) else (some false)) else (some false)) else (some false)) else (some false)) else (bif (x1.1==(5:Int)) then (ZJ (x.2,(0:Int),x1)) else (some false)))) else (bif (x1.1==(7:Int)) then (bif (decide (x1.2.1≥(0:Int))) then (bif (decide (x1.2.1 < (List.length x.1:Int))) then (bif (x1.2.2.1==(0:Int)) then (some ((List.length x1.2.2.2.1:Int)==(0:Int))) else (some false)) else (some false)) else (some false)) else (bif (x1.1==(6:Int)) then (bif (decide (x1.2.1≥(0:Int))) then (bif (decide (x1.2.1 < x.2)) then (bif (decide (x1.2.2.1≥(1:Int))) then (bif (decide (x1.2.2.1<=(16:Int))) then (some ((List.length x1.2.2.2.1:Int)==(0:Int))) else (some false)) else (some false)) else (some false)) else (some false)) else (bif (x1.1==(5:Int)) then (ZJ (x.2,(0:Int),x1)) else (some false)))))))))
def QBy (N:Nat) (x:vo):Option (Bool):=uw (FU (iQ N) N) x
theorem lz5 (N:Nat) (x:vo):rise (Ez5) Tz5 6 N Tryz.f143 [sV,Z2] [.bool] [false] x=QBy N x:=Eq.trans (b:=uw (fun v=>Ns (Yg (Ez5) Tz5 6 N Tryz.f143 [.bool] [false] [] 0 Wx) N (QIi v)) x) (by kernel_rfl) (by rw [funext (SN QIi (QVN N) N)];rfl)
def yI (x:vo):Option (Bool):=QBy big x
def Gz5:UA:=⟨[sV,Z2],[.bool],[false],fun x=>yI x⟩
theorem Lz5:GV Tryz.prog 143 Gz5:=rz (E:=Ez5) ⟨ZK,(XT Lz4 Xq),fun _ _ _=>rfl,mixed,X8,YF,YE⟩ Tryz.func143 fun _ _ h=>(lz5 big _).trans h
def Tz6:LT:={ live:=[(5,[1,3,4])],keep:=[] }
noncomputable def Ez6:Aj:={ tab:=tab,fs:=[],inl:=[] }
noncomputable def QIj (v:Int×ZC×ZB):St:={ s:=[(1,(.loc 0 [])),(3,(.row 1)),(4,(.val ⟨Z2,v.1⟩))],l:=[(0,.var Z4 (.val ⟨Z4,v.2.1⟩)),(1,.row Z2 v.2.2)],k:=[],b:=4096 }
def jr (ZG:Int×ZC×ZB->Option (ZB)) (v:Int×ZC×ZB):Option (ZB):=
 (bif (decide (v.1 < (List.length v.2.1.2.2.2.1:Int))) then ((Mh v.2.1.2.2.2.1 v.1).bind fun x2=>(bif (Nat.ble 1 1&&Nat.ble (List.length v.2.2+List.length ([x2.2.1]:ZB)) lim) then (let x3:ZB:=(List.append v.2.2 ([x2.2.1]:ZB));(let x4:Int:=(IntKind.i64.wrap (v.1+(1:Int)));(ZG (x4,v.2.1,x3)))) else none)) else (some v.2.2))
def jc (N:Nat) (ZG:Int×ZC×ZB->Option (ZB)) (v:Int×ZC×ZB):Option (ZB):=jr ZG v
theorem QVO (N:Nat) (s0:St->Option (ZB)) (v):(Yg (Ez6) Tz6 6 N Tryz.f175 [Z6] [true] [] 0 Wx) s0 (QIj v)=jc N (fun v=>s0 (QIj v)) v:=by kernel_rfl
def sF (ZJ:Int×ZC×ZB->Option (ZB)) (x:ZC):Option (ZB):=
 (bif (x.1==(6:Int)) then (bif (Nat.ble 1 1&&Nat.ble (List.length ([]:List Int)+List.length ([x.2.1]:ZB)) lim) then (let x1:ZB:=(List.append ([]:List Int) ([x.2.1]:ZB));(ZJ ((0:Int),x,x1))) else none) else (ZJ ((0:Int),x,([]:List Int))))
def QAq (N:Nat) (x:ZC):Option (ZB):=sF (FU (jc N) N) x
theorem lz6 (N:Nat) (x:ZC):rise (Ez6) Tz6 6 N Tryz.f175 [Z4] [Z6] [true] x=QAq N x:=Eq.trans (b:=sF (fun v=>Ns (Yg (Ez6) Tz6 6 N Tryz.f175 [Z6] [true] [] 0 Wx) N (QIj v)) x) (by kernel_rfl) (by rw [funext (SN QIj (QVO N) N)];rfl)
def rF (x:ZC):Option (ZB):=QAq big x
def Gz6:UA:=⟨[Z4],[Z6],[true],fun x=>rF x⟩
theorem Lz6:GV Tryz.prog 175 Gz6:=rz (E:=Ez6) ⟨ZK,Xq,fun _ _ _=>rfl,mixed,X8,YF,YE⟩ Tryz.func175 fun _ _ h=>(lz6 big _).trans h
def Tz7:LT:={ live:=[(6,[0,1,5,6,7]),(10,[0,1,5,6,7,8,9,10])],keep:=[] }
noncomputable def Ez7 (me:vo->Option (ZB)):Aj:={ tab:=tab,fs:=[(175,Gz6),(144,⟨[sV,Z2],[Z6],[true],fun x=>me x⟩)],inl:=[] }
noncomputable def QIk (v:Y32):St:={ s:=[(0,(.val ⟨sV,v.1⟩)),(1,(.val ⟨Z2,v.2.1⟩)),(5,(.row 0)),(6,(.row 1)),(7,(.val ⟨Z2,v.2.2.1⟩)),(8,(.val ⟨Z2,v.2.2.2.1⟩)),(9,(.row 2)),(10,(.val ⟨Z2,v.2.2.2.2.1⟩))],l:=[(0,.row Z2 v.2.2.2.2.2.1),(1,.row Z2 v.2.2.2.2.2.2.1),(2,.row Z2 v.2.2.2.2.2.2.2)],k:=[],b:=4096 }
noncomputable def QEM (v:Y53):St:={ s:=[(0,(.val ⟨sV,v.1⟩)),(1,(.val ⟨Z2,v.2.1⟩)),(5,(.row 0)),(6,(.row 1)),(7,(.val ⟨Z2,v.2.2.1⟩))],l:=[(0,.row Z2 v.2.2.2.1),(1,.row Z2 v.2.2.2.2)],k:=[],b:=4096 }
def iL (me:vo->Option (ZB)) (ZG:Y53->Option (ZB)) (ZH:Y32->Option (ZB)) (v:Y32):Option (ZB):=
 (bif (decide (v.2.2.2.2.1 < (List.length v.2.2.2.2.2.2.2:Int))) then ((Mh v.1 v.2.2.1).bind fun x5=>(bif (x5.1==(6:Int)) then ((Mh v.1 v.2.2.1).bind fun x6=>(bif (decide (0<=v.2.2.2.2.1)&&decide (v.2.2.2.2.1 < (List.length v.2.2.2.2.2.2.2:Int))) then ((nth v.2.2.2.2.2.2.2 (Int.toNat v.2.2.2.2.1)).bind fun x7=>(bif (decide (0<=x7)&&decide (x7 < (List.length v.2.2.2.2.2.2.1:Int))) then ((nth v.2.2.2.2.2.2.1 (Int.toNat x7)).bind fun x8=>(let x9:Int:=(IntKind.i64.wrap (x6.2.2.1 * x8));(let fH:Int:=(IntKind.i64.wrap (v.2.2.2.1+x9));(let mX:Int:=(if (5001:Int) < fH then (5001:Int) else fH);(let mh:Int:=(IntKind.i64.wrap (v.2.2.2.2.1+(1:Int)));(ZH (v.1,v.2.1,v.2.2.1,mX,mh,v.2.2.2.2.2.1,v.2.2.2.2.2.2.1,v.2.2.2.2.2.2.2))))))) else none)) else none)) else (bif (decide (0<=v.2.2.2.2.1)&&decide (v.2.2.2.2.1 < (List.length v.2.2.2.2.2.2.2:Int))) then ((nth v.2.2.2.2.2.2.2 (Int.toNat v.2.2.2.2.1)).bind fun qV=>(bif (decide (0<=qV)&&decide (qV < (List.length v.2.2.2.2.2.2.1:Int))) then ((nth v.2.2.2.2.2.2.1 (Int.toNat qV)).bind fun jU=>(let jV:Int:=(IntKind.i64.wrap ((1:Int) * jU));(let wK:Int:=(IntKind.i64.wrap (v.2.2.2.1+jV));(let xu:Int:=(if (5001:Int) < wK then (5001:Int) else wK);(let x18:Int:=(IntKind.i64.wrap (v.2.2.2.2.1+(1:Int)));(ZH (v.1,v.2.1,v.2.2.1,xu,x18,v.2.2.2.2.2.1,v.2.2.2.2.2.2.1,v.2.2.2.2.2.2.2))))))) else none)) else none))) else (bif (decide (v.2.1 > (0:Int))) then ((Mh v.1 v.2.2.1).bind fun zW=>(bif (zW.1==(4:Int)) then ((Mh v.1 v.2.2.1).bind fun zO=>(bif (decide (0<=zO.2.1)&&decide (zO.2.1 < (List.length v.2.2.2.2.2.1:Int))) then ((nth v.2.2.2.2.2.1 (Int.toNat zO.2.1)).bind fun x21=>(let x22:Int:=(IntKind.i64.wrap (v.2.2.2.1+x21));(let x23:Int:=(if (5001:Int) < x22 then (5001:Int) else x22);(bif (decide (v.2.1 > (0:Int))) then ((Mh v.1 v.2.2.1).bind fun x24=>(bif (x24.1==(7:Int)) then ((Mh v.1 v.2.2.1).bind fun x25=>(bif (decide (0<=x25.2.1)&&decide (x25.2.1 < (List.length v.2.2.2.2.2.1:Int))) then ((nth v.2.2.2.2.2.1 (Int.toNat x25.2.1)).bind fun x26=>(let x27:Int:=(IntKind.i64.wrap ((16:Int) * x26));(let x28:Int:=(IntKind.i64.wrap (x23+x27));(let x29:Int:=(if (5001:Int) < x28 then (5001:Int) else x28);(bif (Nat.ble 1 1&&Nat.ble (List.length v.2.2.2.2.2.2.1+List.length ([x29]:ZB)) lim) then (let x30:ZB:=(List.append v.2.2.2.2.2.2.1 ([x29]:ZB));(let x31:Int:=(IntKind.i64.wrap (v.2.2.1+(1:Int)));(ZG (v.1,v.2.1,x31,v.2.2.2.2.2.1,x30)))) else none))))) else none)) else (bif (Nat.ble 1 1&&Nat.ble (List.length v.2.2.2.2.2.2.1+List.length ([x23]:ZB)) lim) then (let x32:ZB:=(List.append v.2.2.2.2.2.2.1 ([x23]:ZB));(let x33:Int:=(IntKind.i64.wrap (v.2.2.1+(1:Int)));(ZG (v.1,v.2.1,x33,v.2.2.2.2.2.1,x32)))) else none))) else (bif (Nat.ble 1 1&&Nat.ble (List.length v.2.2.2.2.2.2.1+List.length ([x23]:ZB)) lim) then (let x34:ZB:=(List.append v.2.2.2.2.2.2.1 ([x23]:ZB));(let x35:Int:=(IntKind.i64.wrap (v.2.2.1+(1:Int)));(ZG (v.1,v.2.1,x35,v.2.2.2.2.2.1,x34)))) else none))))) else none)) else (bif (decide (v.2.1 > (0:Int))) then ((Mh v.1 v.2.2.1).bind fun x36=>(bif (x36.1==(7:Int)) then ((Mh v.1 v.2.2.1).bind fun x37=>(bif (decide (0<=x37.2.1)&&decide (x37.2.1 < (List.length v.2.2.2.2.2.1:Int))) then ((nth v.2.2.2.2.2.1 (Int.toNat x37.2.1)).bind fun x38=>(let x39:Int:=(IntKind.i64.wrap ((16:Int) * x38));(let x40:Int:=(IntKind.i64.wrap (v.2.2.2.1+x39));(let x41:Int:=(if (5001:Int) < x40 then (5001:Int) else x40);(bif (Nat.ble 1 1&&Nat.ble (List.length v.2.2.2.2.2.2.1+List.length ([x41]:ZB)) lim) then (let x42:ZB:=(List.append v.2.2.2.2.2.2.1 ([x41]:ZB));(let x43:Int:=(IntKind.i64.wrap (v.2.2.1+(1:Int)));(ZG (v.1,v.2.1,x43,v.2.2.2.2.2.1,x42)))) else none))))) else none)) else (let x44:ZB:=([v.2.2.2.1]:ZB);(bif (Nat.ble 1 1&&Nat.ble (List.length v.2.2.2.2.2.2.1+List.length x44) lim) then (let x45:ZB:=(List.append v.2.2.2.2.2.2.1 x44);(let x46:Int:=(IntKind.i64.wrap (v.2.2.1+(1:Int)));(ZG (v.1,v.2.1,x46,v.2.2.2.2.2.1,x45)))) else none)))) else (let x47:ZB:=([v.2.2.2.1]:ZB);(bif (Nat.ble 1 1&&Nat.ble (List.length v.2.2.2.2.2.2.1+List.length x47) lim) then (let x48:ZB:=(List.append v.2.2.2.2.2.2.1 x47);(let x49:Int:=(IntKind.i64.wrap (v.2.2.1+(1:Int)));(ZG (v.1,v.2.1,x49,v.2.2.2.2.2.1,x48)))) else none))))) else (bif (decide (v.2.1 > (0:Int))) then ((Mh v.1 v.2.2.1).bind fun x50=>(bif (x50.1==(7:Int)) then ((Mh v.1 v.2.2.1).bind fun x51=>(bif (decide (0<=x51.2.1)&&decide (x51.2.1 < (List.length v.2.2.2.2.2.1:Int))) then ((nth v.2.2.2.2.2.1 (Int.toNat x51.2.1)).bind fun x52=>(let x53:Int:=(IntKind.i64.wrap ((16:Int) * x52));(let x54:Int:=(IntKind.i64.wrap (v.2.2.2.1+x53));(let x55:Int:=(if (5001:Int) < x54 then (5001:Int) else x54);(bif (Nat.ble 1 1&&Nat.ble (List.length v.2.2.2.2.2.2.1+List.length ([x55]:ZB)) lim) then (let x56:ZB:=(List.append v.2.2.2.2.2.2.1 ([x55]:ZB));(let x57:Int:=(IntKind.i64.wrap (v.2.2.1+(1:Int)));(ZG (v.1,v.2.1,x57,v.2.2.2.2.2.1,x56)))) else none))))) else none)) else (let x58:ZB:=([v.2.2.2.1]:ZB);(bif (Nat.ble 1 1&&Nat.ble (List.length v.2.2.2.2.2.2.1+List.length x58) lim) then (let x59:ZB:=(List.append v.2.2.2.2.2.2.1 x58);(let x60:Int:=(IntKind.i64.wrap (v.2.2.1+(1:Int)));(ZG (v.1,v.2.1,x60,v.2.2.2.2.2.1,x59)))) else none)))) else (let x61:ZB:=([v.2.2.2.1]:ZB);(bif (Nat.ble 1 1&&Nat.ble (List.length v.2.2.2.2.2.2.1+List.length x61) lim) then (let x62:ZB:=(List.append v.2.2.2.2.2.2.1 x61);(let x63:Int:=(IntKind.i64.wrap (v.2.2.1+(1:Int)));(ZG (v.1,v.2.1,x63,v.2.2.2.2.2.1,x62)))) else none)))))
def ql (me:vo->Option (ZB)) (N:Nat) (ZG:Y53->Option (ZB)) (ZH:Y32->Option (ZB)) (v:Y32):Option (ZB):=iL me ZG ZH v
theorem QVQ (me:vo->Option (ZB)) (N:Nat) (s0:St->Option (ZB)) (s1:St->Option (ZB)) (v):(Yg (Ez7 me) Tz7 6 N Tryz.f144 [Z6] [true] [] 1 (YC s0 Wx)) s1 (QIk v)=ql me N (fun v=>s0 (QEM v)) (fun v=>s1 (QIk v)) v:=by kernel_rfl
def dV (me:vo->Option (ZB)) (Zv:Y32->Option (ZB)) (ZG:Y53->Option (ZB)) (v:Y53):Option (ZB):=
 (bif (decide (v.2.2.1 < (List.length v.1:Int))) then ((Mh v.1 v.2.2.1).bind fun x3=>((rF x3).bind fun x4=>(Zv (v.1,v.2.1,v.2.2.1,(1:Int),(0:Int),v.2.2.2.1,v.2.2.2.2,x4)))) else (some v.2.2.2.2))
def iK (me:vo->Option (ZB)) (N:Nat) (ZG:Y53->Option (ZB)) (v:Y53):Option (ZB):=dV me (FU (ql me N ZG) N) ZG v
theorem QVP (me:vo->Option (ZB)) (N:Nat) (s0:St->Option (ZB)) (v):(Yg (Ez7 me) Tz7 6 N Tryz.f144 [Z6] [true] [] 0 Wx) s0 (QEM v)=iK me N (fun v=>s0 (QEM v)) v:=Eq.trans (b:=dV me (fun v=>Ns (Yg (Ez7 me) Tz7 6 N Tryz.f144 [Z6] [true] [] 1 (YC s0 Wx)) N (QIk v)) (fun v=>s0 (QEM v)) v) (by kernel_rfl) (by rw [funext (SN QIk (QVQ me N s0) N)];rfl)
def lS (me:vo->Option (ZB)) (ZJ:Y53->Option (ZB)) (x:vo):Option (ZB):=
 (bif (decide (x.2 > (0:Int))) then (let x1:Int:=(IntKind.i64.wrap (x.2 - (1:Int)));((me (x.1,x1)).bind fun x2=>(ZJ (x.1,x.2,(0:Int),x2,([]:List Int))))) else (ZJ (x.1,x.2,(0:Int),([]:List Int),([]:List Int))))
def zl (me:vo->Option (ZB)) (N:Nat) (x:vo):Option (ZB):=lS me (FU (iK me N) N) x
theorem lz7 (me:vo->Option (ZB)) (N:Nat) (x:vo):rise (Ez7 me) Tz7 6 N Tryz.f144 [sV,Z2] [Z6] [true] x=zl me N x:=Eq.trans (b:=lS me (fun v=>Ns (Yg (Ez7 me) Tz7 6 N Tryz.f144 [Z6] [true] [] 0 Wx) N (QEM v)) x) (by kernel_rfl) (by rw [funext (SN QEM (QVP me N) N)];rfl)
def bD:Nat->Y9×Int->Option (ZB)
 | 0,_=>none
 | k+1,x=>zl (bD k) big x
def vM (x:vo):Option (ZB):=bD big x
def Gz7:UA:=⟨[sV,Z2],[Z6],[true],fun x=>vM x⟩
theorem Rz7:∀ k,GV Tryz.prog 144 ⟨[sV,Z2],[Z6],[true],fun x=>bD k x⟩
 | 0=>Vp Tryz.func144 rfl (by decide) (by kernel_rfl) (by kernel_rfl)
 | k+1=>by
  have ih:=Rz7 k
  exact TI (E:=Ez7 (bD k)) ⟨ZK,(XT Lz6 (XT ih Xq)),fun _ _ _=>rfl,mixed,X8,YF,YE⟩ Tryz.func144 rfl (by decide) (by kernel_rfl) (by kernel_rfl) (by kernel_rfl) (by kernel_rfl) (fun x r _ h=>⟨Tz7,6,big,(lz7 (bD k) big x).trans h⟩)
theorem Lz7:GV Tryz.prog 144 Gz7:=Rz7 big
def Tz8:LT:={ live:=[(4,[0,3]),(10,[0,4,5])],keep:=[] }
noncomputable def Ez8:Aj:={ tab:=tab,fs:=[(143,Gz5),(144,Gz7)],inl:=[] }
noncomputable def QIl (v:Y73):St:={ s:=[(0,(.val ⟨sV,v.1⟩)),(4,(.row 0)),(5,(.val ⟨Z2,v.2.1⟩))],l:=[(0,.row Z2 v.2.2)],k:=[],b:=4096 }
noncomputable def QEN (v:vo):St:={ s:=[(0,(.val ⟨sV,v.1⟩)),(3,(.val ⟨Z2,v.2⟩))],l:=[],k:=[],b:=4096 }
def jm (ZG:vo->Option (Int)) (ZH:Y73->Option (Int)) (v:Y73):Option (Int):=
 (bif (decide (v.2.1 < (List.length v.1:Int))) then (bif (decide (0<=v.2.1)&&decide (v.2.1 < (List.length v.2.2:Int))) then ((nth v.2.2 (Int.toNat v.2.1)).bind fun x4=>(bif (decide (x4 > (5000:Int))) then (some (8:Int)) else (let x5:Int:=(IntKind.i64.wrap (v.2.1+(1:Int)));(ZH (v.1,x5,v.2.2))))) else none) else (some (0:Int)))
def nT (N:Nat) (ZG:vo->Option (Int)) (ZH:Y73->Option (Int)) (v:Y73):Option (Int):=jm ZG ZH v
theorem QVS (N:Nat) (s0:St->Option (Int)) (s1:St->Option (Int)) (v):(Yg (Ez8) Tz8 6 N Tryz.f112 [Z2] [false] [] 1 Wx) s1 (QIl v)=nT N (fun v=>s0 (QEN v)) (fun v=>s1 (QIl v)) v:=by kernel_rfl
def gM (Zv:Y73->Option (Int)) (ZG:vo->Option (Int)) (v:vo):Option (Int):=
 (bif (decide (v.2 < (List.length v.1:Int))) then ((yI (v.1,v.2)).bind fun x1=>(bif (!x1) then (some (8:Int)) else (let x2:Int:=(IntKind.i64.wrap (v.2+(1:Int)));(ZG (v.1,x2))))) else ((vM (v.1,(3:Int))).bind fun x3=>(Zv (v.1,(0:Int),x3))))
def jY (N:Nat) (ZG:vo->Option (Int)) (v:vo):Option (Int):=gM (FU (nT N ZG) N) ZG v
theorem QVR (N:Nat) (s0:St->Option (Int)) (v):(Yg (Ez8) Tz8 6 N Tryz.f112 [Z2] [false] [] 0 Wx) s0 (QEN v)=jY N (fun v=>s0 (QEN v)) v:=Eq.trans (b:=gM (fun v=>Ns (Yg (Ez8) Tz8 6 N Tryz.f112 [Z2] [false] [] 1 Wx) N (QIl v)) (fun v=>s0 (QEN v)) v) (by kernel_rfl) (by rw [funext (SN QIl (QVS N s0) N)];rfl)
def ru (ZJ:vo->Option (Int)) (x:Y9):Option (Int):=
 (bif (decide ((List.length x:Int) > (32:Int))) then (some (8:Int)) else (ZJ (x,(0:Int))))
def QAn (N:Nat) (x:Y9):Option (Int):=ru (FU (jY N) N) x
theorem lz8 (N:Nat) (x:Y9):rise (Ez8) Tz8 6 N Tryz.f112 [sV] [Z2] [false] x=QAn N x:=Eq.trans (b:=ru (fun v=>Ns (Yg (Ez8) Tz8 6 N Tryz.f112 [Z2] [false] [] 0 Wx) N (QEN v)) x) (by kernel_rfl) (by rw [funext (SN QEN (QVR N) N)];rfl)
def wW (x:Y9):Option (Int):=QAn big x
def Gz8:UA:=⟨[sV],[Z2],[false],fun x=>wW x⟩
theorem Lz8:GV Tryz.prog 112 Gz8:=rz (E:=Ez8) ⟨ZK,(XT Lz5 (XT Lz7 Xq)),fun _ _ _=>rfl,mixed,X8,YF,YE⟩ Tryz.func112 fun _ _ h=>(lz8 big _).trans h
def Tz9:LT:={ live:=[],keep:=[] }
noncomputable def Ez9:Aj:={ tab:=tab,fs:=[],inl:=[] }
def zI (x:wL):Option (Int):=
 (let x1:Int:=(IntKind.i64.wrap (x.1+x.2));(let x2:Int:=(IntKind.i64.wrap (x1 - (1:Int)));(bif (x.2==0) then none else (let x3:Int:=(IntKind.i64.wrap (x2.tdiv x.2));(let x4:Int:=(IntKind.i64.wrap (x3 * x.2));(some x4))))))
def QJV (N:Nat) (x:wL):Option (Int):=zI x
theorem lz9 (N:Nat) (x:wL):rise (Ez9) Tz9 6 N Tryz.f116 [Z2,Z2] [Z2] [false] x=zI x:=by kernel_rfl
def y8 (x:wL):Option (Int):=QJV big x
def Gz9:UA:=⟨[Z2,Z2],[Z2],[false],fun x=>y8 x⟩
theorem Lz9:GV Tryz.prog 116 Gz9:=rz (E:=Ez9) ⟨ZK,Xq,fun _ _ _=>rfl,mixed,X8,YF,YE⟩ Tryz.func116 fun _ _ h=>(lz9 big _).trans h
def QPn:LT:={ live:=[(4,[0,1,2,9,10,11,12])],keep:=[] }
noncomputable def QLx:Aj:={ tab:=tab,fs:=[(116,Gz9)],inl:=[] }
noncomputable def QEs (v:Y35):St:={ s:=[(0,(.val ⟨Z6,v.1⟩)),(1,(.val ⟨Z6,v.2.1⟩)),(2,(.val ⟨Z7,v.2.2.1⟩)),(9,(.row 0)),(10,(.val ⟨Z2,v.2.2.2.1⟩)),(11,(.val ⟨Z2,v.2.2.2.2.1⟩)),(12,(.val ⟨Z2,v.2.2.2.2.2.1⟩))],l:=[(0,.row Z2 v.2.2.2.2.2.2)],k:=[],b:=4096 }
def dz (ZG:Y35->Option Y22) (v:Y35):Option Y22:=
 (bif (decide (v.2.2.2.2.2.1 < (List.length v.2.2.1:Int))) then ((Mh v.2.2.1 v.2.2.2.2.2.1).bind fun x1=>((Mh v.2.1 x1.2.1).bind fun x2=>((y8 (v.2.2.2.1,x2)).bind fun x3=>(bif (Nat.ble 1 1&&Nat.ble (List.length v.2.2.2.2.2.2+List.length ([x3]:ZB)) lim) then (let x4:ZB:=(List.append v.2.2.2.2.2.2 ([x3]:ZB));((Mh v.1 x1.2.1).bind fun x5=>(let x6:Int:=(IntKind.i64.wrap (x3+x5));(let x7:Int:=(if x6 < (1000000:Int) then x6 else (1000000:Int));((Mh v.2.1 x1.2.1).bind fun x8=>(let x9:Int:=(if x8 > v.2.2.2.2.1 then x8 else v.2.2.2.2.1);(let fH:Int:=(IntKind.i64.wrap (v.2.2.2.2.2.1+(1:Int)));(ZG (v.1,v.2.1,v.2.2.1,x7,x9,fH,x4))))))))) else none)))) else ((y8 (v.2.2.2.1,v.2.2.2.2.1)).bind fun mX=>(let mh:Int:=(if mX < (1000000:Int) then mX else (1000000:Int));(some (v.2.2.2.2.2.2,mh,v.2.2.2.2.1)))))
def jH (N:Nat) (ZG:Y35->Option Y22) (v:Y35):Option Y22:=dz ZG v
theorem QQD (N:Nat) (s0:St->Option Y22) (v):(Yg (QLx) QPn 6 N Tryz.f115 [Z6,Z2,Z2] [true,false,false] [] 0 Wx) s0 (QEs v)=jH N (fun v=>s0 (QEs v)) v:=by kernel_rfl
def mD (ZJ:Y35->Option Y22) (x:ZB×ZB×Y6):Option Y22:=
 (ZJ (x.1,x.2.1,x.2.2,(0:Int),(1:Int),(0:Int),([]:List Int)))
def xZ (N:Nat) (x:ZB×ZB×Y6):Option Y22:=mD (FU (jH N) N) x
theorem QYh (N:Nat) (x:ZB×ZB×Y6):rise (QLx) QPn 6 N Tryz.f115 [Z6,Z6,Z7] [Z6,Z2,Z2] [true,false,false] x=xZ N x:=Eq.trans (b:=mD (fun v=>Ns (Yg (QLx) QPn 6 N Tryz.f115 [Z6,Z2,Z2] [true,false,false] [] 0 Wx) N (QEs v)) x) (by kernel_rfl) (by rw [funext (SN QEs (QQD N) N)];rfl)
def qh (x:ZB×ZB×Y6):Option Y22:=xZ big x
def QSb:UA:=⟨[Z6,Z6,Z7],[Z6,Z2,Z2],[true,false,false],fun x=>qh x⟩
theorem QWr:GV Tryz.prog 115 QSb:=rz (E:=QLx) ⟨ZK,(XT Lz9 Xq),fun _ _ _=>rfl,mixed,X8,YF,YE⟩ Tryz.func115 fun _ _ h=>(QYh big _).trans h
def QPo:LT:={ live:=[(3,[0,4,5,6])],keep:=[] }
noncomputable def QLy:Aj:={ tab:=tab,fs:=[(115,QSb)],inl:=[] }
noncomputable def QEt (v:Y9×Int×ZB×ZB):St:={ s:=[(0,(.val ⟨sV,v.1⟩)),(4,(.row 0)),(5,(.row 1)),(6,(.val ⟨Z2,v.2.1⟩))],l:=[(0,.row Z2 v.2.2.1),(1,.row Z2 v.2.2.2)],k:=[],b:=4096 }
def jv (ZG:Y9×Int×ZB×ZB->Option (ZB×ZB)) (v:Y9×Int×ZB×ZB):Option (ZB×ZB):=
 (bif (decide (v.2.1 < (List.length v.1:Int))) then ((Mh v.1 v.2.1).bind fun x1=>(bif (x1.1==(1:Int)) then (let x2:ZB:=([(1:Int)]:ZB);(bif (Nat.ble 1 1&&Nat.ble (List.length v.2.2.1+List.length x2) lim) then (let x3:ZB:=([(1:Int)]:ZB);(bif (Nat.ble 1 1&&Nat.ble (List.length v.2.2.2+List.length x3) lim) then (let x4:Int:=(IntKind.i64.wrap (v.2.1+(1:Int)));(ZG (v.1,x4,(List.append v.2.2.1 x2),(List.append v.2.2.2 x3)))) else none)) else none)) else (bif (x1.1==(3:Int)) then (let x5:ZB:=([(16:Int)]:ZB);(bif (Nat.ble 1 1&&Nat.ble (List.length v.2.2.1+List.length x5) lim) then (let x6:ZB:=([(8:Int)]:ZB);(bif (Nat.ble 1 1&&Nat.ble (List.length v.2.2.2+List.length x6) lim) then (let x7:Int:=(IntKind.i64.wrap (v.2.1+(1:Int)));(ZG (v.1,x7,(List.append v.2.2.1 x5),(List.append v.2.2.2 x6)))) else none)) else none)) else (bif (x1.1==(7:Int)) then (let x8:ZB:=([(24:Int)]:ZB);(bif (Nat.ble 1 1&&Nat.ble (List.length v.2.2.1+List.length x8) lim) then (let x9:ZB:=([(8:Int)]:ZB);(bif (Nat.ble 1 1&&Nat.ble (List.length v.2.2.2+List.length x9) lim) then (let fH:Int:=(IntKind.i64.wrap (v.2.1+(1:Int)));(ZG (v.1,fH,(List.append v.2.2.1 x8),(List.append v.2.2.2 x9)))) else none)) else none)) else (bif (x1.1==(6:Int)) then ((Mh v.1 v.2.1).bind fun mX=>((Mh v.1 v.2.1).bind fun mh=>(bif (decide (0<=mh.2.1)&&decide (mh.2.1 < (List.length v.2.2.1:Int))) then ((nth v.2.2.1 (Int.toNat mh.2.1)).bind fun qV=>(let jU:Int:=(IntKind.i64.wrap (mX.2.2.1 * qV));(let jV:Int:=(if jU < (1000000:Int) then jU else (1000000:Int));((Mh v.1 v.2.1).bind fun wK=>(bif (decide (0<=wK.2.1)&&decide (wK.2.1 < (List.length v.2.2.2:Int))) then ((nth v.2.2.2 (Int.toNat wK.2.1)).bind fun xu=>(bif (Nat.ble 1 1&&Nat.ble (List.length v.2.2.1+List.length ([jV]:ZB)) lim) then (let x18:ZB:=(List.append v.2.2.1 ([jV]:ZB));(bif (Nat.ble 1 1&&Nat.ble (List.length v.2.2.2+List.length ([xu]:ZB)) lim) then (let zW:ZB:=(List.append v.2.2.2 ([xu]:ZB));(let zO:Int:=(IntKind.i64.wrap (v.2.1+(1:Int)));(ZG (v.1,zO,x18,zW)))) else none)) else none)) else none))))) else none))) else (bif (x1.1==(5:Int)) then ((Mh v.1 v.2.1).bind fun x21=>((qh (v.2.2.1,v.2.2.2,x21.2.2.2.1)).bind fun x22=>(bif (Nat.ble 1 1&&Nat.ble (List.length v.2.2.1+List.length ([x22.2.1]:ZB)) lim) then (let x23:ZB:=(List.append v.2.2.1 ([x22.2.1]:ZB));(bif (Nat.ble 1 1&&Nat.ble (List.length v.2.2.2+List.length ([x22.2.2]:ZB)) lim) then (let x24:ZB:=(List.append v.2.2.2 ([x22.2.2]:ZB));(let x25:Int:=(IntKind.i64.wrap (v.2.1+(1:Int)));(ZG (v.1,x25,x23,x24)))) else none)) else none))) else (let x26:ZB:=([(8:Int)]:ZB);(bif (Nat.ble 1 1&&Nat.ble (List.length v.2.2.1+List.length x26) lim) then (let x27:ZB:=(List.append v.2.2.1 x26);(let x28:ZB:=([(8:Int)]:ZB);(bif (Nat.ble 1 1&&Nat.ble (List.length v.2.2.2+List.length x28) lim) then (let x29:ZB:=(List.append v.2.2.2 x28);(let x30:Int:=(IntKind.i64.wrap (v.2.1+(1:Int)));(ZG (v.1,x30,x27,x29)))) else none))) else none)))))))) else (some (v.2.2.1,v.2.2.2)))
def nV (N:Nat) (ZG:Y9×Int×ZB×ZB->Option (ZB×ZB)) (v:Y9×Int×ZB×ZB):Option (ZB×ZB):=jv ZG v
theorem QQE (N:Nat) (s0:St->Option (ZB×ZB)) (v):(Yg (QLy) QPo 6 N Tryz.f68 [Z6,Z6] [true,false] [] 0 Wx) s0 (QEt v)=nV N (fun v=>s0 (QEt v)) v:=by kernel_rfl
def sG (ZJ:Y9×Int×ZB×ZB->Option (ZB×ZB)) (x:Y9):Option (ZB×ZB):=
 (ZJ (x,(0:Int),([]:List Int),([]:List Int)))
def QAr (N:Nat) (x:Y9):Option (ZB×ZB):=sG (FU (nV N) N) x
theorem QYi (N:Nat) (x:Y9):rise (QLy) QPo 6 N Tryz.f68 [sV] [Z6,Z6] [true,false] x=QAr N x:=Eq.trans (b:=sG (fun v=>Ns (Yg (QLy) QPo 6 N Tryz.f68 [Z6,Z6] [true,false] [] 0 Wx) N (QEt v)) x) (by kernel_rfl) (by rw [funext (SN QEt (QQE N) N)];rfl)
def wY (x:Y9):Option (ZB×ZB):=QAr big x
def QSc:UA:=⟨[sV],[Z6,Z6],[true,false],fun x=>wY x⟩
theorem QWs:GV Tryz.prog 68 QSc:=rz (E:=QLy) ⟨ZK,(XT QWr Xq),fun _ _ _=>rfl,mixed,X8,YF,YE⟩ Tryz.func68 fun _ _ h=>(QYi big _).trans h
def QXi:LT:={ live:=[],keep:=[],cnd:=[10,13,19,39,45,50] }
noncomputable def QRs:Aj:={ tab:=tab,fs:=[],inl:=[] }
def QB6 (x:Int):Option (ZB):=
 (bif (x==(1:Int)) then (some ([119,110,45]:List Int)) else (bif (x==(2:Int)) then (some ([119,116,45]:List Int)) else (bif (x==(3:Int)) then (some ([119,98,45]:List Int)) else (bif (x==(4:Int)) then (some ([119,45,45]:List Int)) else (bif (x==(15:Int)) then (some ([119,45,45]:List Int)) else (bif (x==(5:Int)) then (some ([119,114,45]:List Int)) else (bif (x==(12:Int)) then (some ([119,114,45]:List Int)) else (bif (x==(16:Int)) then (some ([119,114,45]:List Int)) else (bif (x==(18:Int)) then (some ([119,114,45]:List Int)) else (bif (x==(21:Int)) then (some ([119,114,45]:List Int)) else (bif (x==(6:Int)) then (some ([119,114,114]:List Int)) else (bif (x==(7:Int)) then (some ([119,114,114]:List Int)) else (bif (x==(8:Int)) then (some ([119,114,114]:List Int)) else (bif (x==(9:Int)) then (some ([119,114,114]:List Int)) else (bif (x==(10:Int)) then (some ([119,114,114]:List Int)) else (bif (x==(11:Int)) then (some ([119,114,114]:List Int)) else (bif (x==(19:Int)) then (some ([119,114,114]:List Int)) else (bif (x==(13:Int)) then (some ([119,114,102]:List Int)) else (bif (x==(14:Int)) then (some ([114,102,114]:List Int)) else (bif (x==(17:Int)) then (some ([114,114,45]:List Int)) else (bif (x==(20:Int)) then (some ([114,114,114]:List Int)) else (bif (x==(22:Int)) then (some ([105,45,45]:List Int)) else (bif (x==(23:Int)) then (some ([114,105,45]:List Int)) else (bif (x==(24:Int)) then (some ([114,45,45]:List Int)) else (bif (x==(28:Int)) then (some ([114,45,45]:List Int)) else (bif (x==(32:Int)) then (some ([114,45,45]:List Int)) else (bif (x==(25:Int)) then (some ([103,99,45]:List Int)) else (bif (x==(26:Int)) then (some ([99,45,45]:List Int)) else (bif (x==(27:Int)) then (some ([99,45,45]:List Int)) else (bif (x==(29:Int)) then (some ([119,119,45]:List Int)) else (bif (x==(30:Int)) then (some ([45,45,45]:List Int)) else (bif (x==(31:Int)) then (some ([45,45,45]:List Int)) else (bif (x==(33:Int)) then (some ([119,114,45]:List Int)) else (bif (x==(34:Int)) then (some ([101,45,45]:List Int)) else (some ([]:List Int))))))))))))))))))))))))))))))))))))
def QFi (N:Nat) (x:Int):Option (ZB):=QB6 x
theorem QYj (N:Nat) (x:Int):rise (QRs) QXi 6 N Tryz.f66 [fI] [.str] [false] x=QB6 x:=by kernel_rfl
def nL (x:Int):Option (ZB):=QFi big x
def QPI:UA:=⟨[fI],[.str],[false],fun x=>nL x⟩
theorem QTV:GV Tryz.prog 66 QPI:=rz (E:=QRs) ⟨ZK,Xq,fun _ _ _=>rfl,mixed,X8,YF,YE⟩ Tryz.func66 fun _ _ h=>(QYj big _).trans h
def QXj:LT:={ live:=[],keep:=[] }
noncomputable def QRt:Aj:={ tab:=tab,fs:=[],inl:=[] }
def xk (x:ZE):Option (ZB):=
 (let x1:ZB:=[x.2.1,x.2.2.1,x.2.2.2.1];(some x1))
def QCB (N:Nat) (x:ZE):Option (ZB):=xk x
theorem QYk (N:Nat) (x:ZE):rise (QRt) QXj 6 N Tryz.f67 [Z3] [Z18] [false] x=xk x:=by kernel_rfl
def iI (x:ZE):Option (ZB):=QCB big x
def QPJ:UA:=⟨[Z3],[Z18],[false],fun x=>iI x⟩
theorem QTd:GV Tryz.prog 67 QPJ:=rz (E:=QRt) ⟨ZK,Xq,fun _ _ _=>rfl,mixed,X8,YF,YE⟩ Tryz.func67 fun _ _ h=>(QYk big _).trans h
def QXk:LT:={ live:=[],keep:=[] }
noncomputable def QRu:Aj:={ tab:=tab,fs:=[],inl:=[] }
def yY (x:wL):Option (Bool):=
 (bif (x.1==(45:Int)) then (some (x.2==(0:Int))) else (bif (x.1==(119:Int)) then (bif (x.1==(119:Int)) then (bif (decide (x.2≥(0:Int))) then (some (decide (x.2 < (16:Int)))) else (some false)) else (bif (x.1==(103:Int)) then (bif (x.1==(103:Int)) then (bif (decide (x.2≥(-1:Int))) then (some (decide (x.2 < (16:Int)))) else (some false)) else (bif (x.1==(116:Int)) then (bif (x.1==(116:Int)) then (bif (decide (x.2≥(0:Int))) then (some (decide (x.2 < (32:Int)))) else (some false)) else (bif (x.1==(98:Int)) then (bif (decide (x.2≥(0:Int))) then (some (decide (x.2 < (2:Int)))) else (some false)) else (bif (x.1==(102:Int)) then (bif (decide (x.2≥(0:Int))) then (some (decide (x.2 < (8:Int)))) else (some false)) else (bif (x.1==(105:Int)) then (bif (decide (x.2≥(0:Int))) then (some (decide (x.2 < (200:Int)))) else (some false)) else (some true))))) else (bif (x.1==(99:Int)) then (bif (decide (x.2≥(0:Int))) then (some (decide (x.2 < (32:Int)))) else (some false)) else (bif (x.1==(98:Int)) then (bif (decide (x.2≥(0:Int))) then (some (decide (x.2 < (2:Int)))) else (some false)) else (bif (x.1==(102:Int)) then (bif (decide (x.2≥(0:Int))) then (some (decide (x.2 < (8:Int)))) else (some false)) else (bif (x.1==(105:Int)) then (bif (decide (x.2≥(0:Int))) then (some (decide (x.2 < (200:Int)))) else (some false)) else (some true))))))) else (bif (x.1==(101:Int)) then (bif (decide (x.2≥(-1:Int))) then (some (decide (x.2 < (16:Int)))) else (some false)) else (bif (x.1==(116:Int)) then (bif (x.1==(116:Int)) then (bif (decide (x.2≥(0:Int))) then (some (decide (x.2 < (32:Int)))) else (some false)) else (bif (x.1==(98:Int)) then (bif (decide (x.2≥(0:Int))) then (some (decide (x.2 < (2:Int)))) else (some false)) else (bif (x.1==(102:Int)) then (bif (decide (x.2≥(0:Int))) then (some (decide (x.2 < (8:Int)))) else (some false)) else (bif (x.1==(105:Int)) then (bif (decide (x.2≥(0:Int))) then (some (decide (x.2 < (200:Int)))) else (some false)) else (some true))))) else (bif (x.1==(99:Int)) then (bif (decide (x.2≥(0:Int))) then (some (decide (x.2 < (32:Int)))) else (some false)) else (bif (x.1==(98:Int)) then (bif (decide (x.2≥(0:Int))) then (some (decide (x.2 < (2:Int)))) else (some false)) else (bif (x.1==(102:Int)) then (bif (decide (x.2≥(0:Int))) then (some (decide (x.2 < (8:Int)))) else (some false)) else (bif (x.1==(105:Int)) then (bif (decide (x.2≥(0:Int))) then (some (decide (x.2 < (200:Int)))) else (some false)) else (some true))))))))) else (bif (x.1==(114:Int)) then (bif (decide (x.2≥(0:Int))) then (some (decide (x.2 < (16:Int)))) else (some false)) else (bif (x.1==(103:Int)) then (bif (x.1==(103:Int)) then (bif (decide (x.2≥(-1:Int))) then (some (decide (x.2 < (16:Int)))) else (some false)) else (bif (x.1==(116:Int)) then (bif (x.1==(116:Int)) then (bif (decide (x.2≥(0:Int))) then (some (decide (x.2 < (32:Int)))) else (some false)) else (bif (x.1==(98:Int)) then (bif (decide (x.2≥(0:Int))) then (some (decide (x.2 < (2:Int)))) else (some false)) else (bif (x.1==(102:Int)) then (bif (decide (x.2≥(0:Int))) then (some (decide (x.2 < (8:Int)))) else (some false)) else (bif (x.1==(105:Int)) then (bif (decide (x.2≥(0:Int))) then (some (decide (x.2 < (200:Int)))) else (some false)) else (some true))))) else (bif (x.1==(99:Int)) then (bif (decide (x.2≥(0:Int))) then (some (decide (x.2 < (32:Int)))) else (some false)) else (bif (x.1==(98:Int)) then (bif (decide (x.2≥(0:Int))) then (some (decide (x.2 < (2:Int)))) else (some false)) else (bif (x.1==(102:Int)) then (bif (decide (x.2≥(0:Int))) then (some (decide (x.2 < (8:Int)))) else (some false)) else (bif (x.1==(105:Int)) then (bif (decide (x.2≥(0:Int))) then (some (decide (x.2 < (200:Int)))) else (some false)) else (some true))))))) else (bif (x.1==(101:Int)) then (bif (decide (x.2≥(-1:Int))) then (some (decide (x.2 < (16:Int)))) else (some false)) else (bif (x.1==(116:Int)) then (bif (x.1==(116:Int)) then (bif (decide (x.2≥(0:Int))) then (some (decide (x.2 < (32:Int)))) else (some false)) else (bif (x.1==(98:Int)) then (bif (decide (x.2≥(0:Int))) then (some (decide (x.2 < (2:Int)))) else (some false)) else (bif (x.1==(102:Int)) then (bif (decide (x.2≥(0:Int))) then (some (decide (x.2 < (8:Int)))) else (some false)) else (bif (x.1==(105:Int)) then (bif (decide (x.2≥(0:Int))) then (some (decide (x.2 < (200:Int)))) else (some false)) else (some true))))) else (bif (x.1==(99:Int)) then (bif (decide (x.2≥(0:Int))) then (some (decide (x.2 < (32:Int)))) else (some false)) else (bif (x.1==(98:Int)) then (bif (decide (x.2≥(0:Int))) then (some (decide (x.2 < (2:Int)))) else (some false)) else (bif (x.1==(102:Int)) then (bif (decide (x.2≥(0:Int))) then (some (decide (x.2 < (8:Int)))) else (some false)) else (bif (x.1==(105:Int)) then (bif (decide (x.2≥(0:Int))) then (some (decide (x.2 < (200:Int)))) else (some false)) else (some true)))))))))))
def QBz (N:Nat) (x:wL):Option (Bool):=yY x
theorem QYl (N:Nat) (x:wL):rise (QRu) QXk 6 N Tryz.f114 [fI,Z2] [.bool] [false] x=yY x:=by kernel_rfl
def uP (x:wL):Option (Bool):=QBz big x
def QSd:UA:=⟨[fI,Z2],[.bool],[false],fun x=>uP x⟩
theorem QWt:GV Tryz.prog 114 QSd:=rz (E:=QRu) ⟨ZK,Xq,fun _ _ _=>rfl,mixed,X8,YF,YE⟩ Tryz.func114 fun _ _ h=>(QYl big _).trans h
def QPp:LT:={ live:=[(5,[3,4,5])],keep:=[] }
noncomputable def QLz:Aj:={ tab:=tab,fs:=[(66,QPI),(67,QPJ),(114,QSd)],inl:=[] }
noncomputable def QEu (v:Y74):St:={ s:=[(3,(.val ⟨.str,v.1⟩)),(4,(.loc 0 [])),(5,(.val ⟨Z2,v.2.1⟩))],l:=[(0,.var Z18 (.val ⟨Z18,v.2.2⟩))],k:=[],b:=4096 }
def tQ (ZG:Y74->Option (Int)) (v:Y74):Option (Int):=
 (bif (decide (v.2.1 < (3:Int))) then ((Mh v.1 v.2.1).bind fun x3=>(bif (decide (0<=v.2.1)&&decide (v.2.1 < (3:Int))) then ((nth v.2.2 (Int.toNat v.2.1)).bind fun x4=>((uP (x3,x4)).bind fun x5=>(bif (!x5) then (some (8:Int)) else (let x6:Int:=(IntKind.i64.wrap (v.2.1+(1:Int)));(ZG (v.1,x6,v.2.2)))))) else none)) else (some (0:Int)))
def jd (N:Nat) (ZG:Y74->Option (Int)) (v:Y74):Option (Int):=tQ ZG v
theorem QQF (N:Nat) (s0:St->Option (Int)) (v):(Yg (QLz) QPp 6 N Tryz.f64 [Z2] [false] [] 0 Wx) s0 (QEu v)=jd N (fun v=>s0 (QEu v)) v:=by kernel_rfl
def sH (ZJ:Y74->Option (Int)) (x:ZE):Option (Int):=
 ((nL x.1).bind fun x1=>((iI x).bind fun x2=>(bif ((List.length x1:Int) != (3:Int)) then (some (8:Int)) else (ZJ (x1,(0:Int),x2)))))
def QAs (N:Nat) (x:ZE):Option (Int):=sH (FU (jd N) N) x
theorem QYm (N:Nat) (x:ZE):rise (QLz) QPp 6 N Tryz.f64 [Z3] [Z2] [false] x=QAs N x:=Eq.trans (b:=sH (fun v=>Ns (Yg (QLz) QPp 6 N Tryz.f64 [Z2] [false] [] 0 Wx) N (QEu v)) x) (by kernel_rfl) (by rw [funext (SN QEu (QQF N) N)];rfl)
def wZ (x:ZE):Option (Int):=QAs big x
def QSe:UA:=⟨[Z3],[Z2],[false],fun x=>wZ x⟩
theorem QWu:GV Tryz.prog 64 QSe:=rz (E:=QLz) ⟨ZK,(XT QTV (XT QTd (XT QWt Xq))),fun _ _ _=>rfl,mixed,X8,YF,YE⟩ Tryz.func64 fun _ _ h=>(QYm big _).trans h
def QPq:LT:={ live:=[(4,[0,1,5])],keep:=[] }
noncomputable def QM0:Aj:={ tab:=tab,fs:=[],inl:=[] }
noncomputable def QEv (v:Y71):St:={ s:=[(0,(.val ⟨Z5,v.1⟩)),(1,(.val ⟨Z2,v.2.1⟩)),(5,(.val ⟨Z2,v.2.2⟩))],l:=[],k:=[],b:=4096 }
def eH (ZG:Y71->Option (Bool)) (v:Y71):Option (Bool):=
 (bif (decide (v.2.2 < (List.length v.1:Int))) then ((Mh v.1 v.2.2).bind fun x2=>(bif (decide (x2.1≥v.2.1)) then (some false) else (bif (decide (v.2.2 > (0:Int))) then (let x3:Int:=(IntKind.i64.wrap (v.2.2 - (1:Int)));((Mh v.1 x3).bind fun x4=>((Mh v.1 v.2.2).bind fun x5=>(bif (decide (x4.1≥x5.1)) then (some false) else (let x6:Int:=(IntKind.i64.wrap (v.2.2 - (1:Int)));((Mh v.1 x6).bind fun x7=>((Mh v.1 v.2.2).bind fun x8=>(bif (x7.2.1==x8.2.1) then (some false) else (let x9:Int:=(IntKind.i64.wrap (v.2.2+(1:Int)));(ZG (v.1,v.2.1,x9))))))))))) else (let fH:Int:=(IntKind.i64.wrap (v.2.2+(1:Int)));(ZG (v.1,v.2.1,fH)))))) else (some true))
def p9 (N:Nat) (ZG:Y71->Option (Bool)) (v:Y71):Option (Bool):=eH ZG v
theorem QQG (N:Nat) (s0:St->Option (Bool)) (v):(Yg (QM0) QPq 6 N Tryz.f147 [.bool] [false] [] 0 Wx) s0 (QEv v)=p9 N (fun v=>s0 (QEv v)) v:=by kernel_rfl
def uz (ZJ:Y71->Option (Bool)) (x:ZF×Int):Option (Bool):=
 (bif (decide ((List.length x.1:Int) < (1:Int))) then (some false) else ((Mh x.1 (0:Int)).bind fun x1=>(bif (x1.1 != (0:Int)) then (some false) else (ZJ (x.1,x.2,(0:Int))))))
def QC1 (N:Nat) (x:ZF×Int):Option (Bool):=uz (FU (p9 N) N) x
theorem QYn (N:Nat) (x:ZF×Int):rise (QM0) QPq 6 N Tryz.f147 [Z5,Z2] [.bool] [false] x=QC1 N x:=Eq.trans (b:=uz (fun v=>Ns (Yg (QM0) QPq 6 N Tryz.f147 [.bool] [false] [] 0 Wx) N (QEv v)) x) (by kernel_rfl) (by rw [funext (SN QEv (QQG N) N)];rfl)
def uQ (x:ZF×Int):Option (Bool):=QC1 big x
def QSf:UA:=⟨[Z5,Z2],[.bool],[false],fun x=>uQ x⟩
theorem QWv:GV Tryz.prog 147 QSf:=rz (E:=QM0) ⟨ZK,Xq,fun _ _ _=>rfl,mixed,X8,YF,YE⟩ Tryz.func147 fun _ _ h=>(QYn big _).trans h
def QKy:LT:={ live:=[(4,[0,3,5]),(9,[3,6])],keep:=[] }
noncomputable def QJ5:Aj:={ tab:=tab,fs:=[(64,QSe),(145,Gz3),(146,Gz4),(147,QSf)],inl:=[] }
noncomputable def QEw (v:Int×Tg):St:={ s:=[(3,(.loc 0 [])),(6,(.val ⟨Z2,v.1⟩))],l:=[(0,.var Z0 (.val ⟨Z0,v.2⟩))],k:=[],b:=4096 }
noncomputable def QBM (v:Y9×Int×Tg):St:={ s:=[(0,(.val ⟨sV,v.1⟩)),(3,(.loc 0 [])),(5,(.val ⟨Z2,v.2.1⟩))],l:=[(0,.var Z0 (.val ⟨Z0,v.2.2⟩))],k:=[],b:=4096 }
def oI (ZG:Y9×Int×Tg->Option (Bool)) (ZH:Int×Tg->Option (Bool)) (v:Int×Tg):Option (Bool):=
 (bif (decide (v.1 < (List.length v.2.2.2.2.2.1:Int))) then ((Mh v.2.2.2.2.2.1 v.1).bind fun x6=>((wZ x6).bind fun x7=>(bif (x7 != (0:Int)) then (some false) else (let x8:Int:=(IntKind.i64.wrap (v.1+(1:Int)));(ZH (x8,v.2)))))) else ((uQ (v.2.2.2.2.2.2.1,(List.length v.2.2.2.2.2.1:Int))).bind fun x9=>(bif x9 then ((uQ (v.2.2.2.2.2.2.2.1,(List.length v.2.2.2.2.2.1:Int))).bind fun fH=>(some fH)) else (some false))))
def bP (N:Nat) (ZG:Y9×Int×Tg->Option (Bool)) (ZH:Int×Tg->Option (Bool)) (v:Int×Tg):Option (Bool):=oI ZG ZH v
theorem QQI (N:Nat) (s0:St->Option (Bool)) (s1:St->Option (Bool)) (v):(Yg (QJ5) QKy 6 N Tryz.f113 [.bool] [false] [] 1 Wx) s1 (QEw v)=bP N (fun v=>s0 (QBM v)) (fun v=>s1 (QEw v)) v:=by kernel_rfl
def jL (Zv:Int×Tg->Option (Bool)) (ZG:Y9×Int×Tg->Option (Bool)) (v:Y9×Int×Tg):Option (Bool):=
 (bif (decide (v.2.1 < (List.length v.2.2.2.2.2.1:Int))) then ((Mh v.2.2.2.2.2.1 v.2.1).bind fun x3=>(bif (decide (x3.2.1 < (0:Int))) then (some false) else ((Mh v.2.2.2.2.2.1 v.2.1).bind fun x4=>(bif (decide (x4.2.1≥(List.length v.1:Int))) then (some false) else (let x5:Int:=(IntKind.i64.wrap (v.2.1+(1:Int)));(ZG (v.1,x5,v.2.2))))))) else (Zv ((0:Int),v.2.2)))
def bO (N:Nat) (ZG:Y9×Int×Tg->Option (Bool)) (v:Y9×Int×Tg):Option (Bool):=jL (FU (bP N ZG) N) ZG v
theorem QQH (N:Nat) (s0:St->Option (Bool)) (v):(Yg (QJ5) QKy 6 N Tryz.f113 [.bool] [false] [] 0 Wx) s0 (QBM v)=bO N (fun v=>s0 (QBM v)) v:=Eq.trans (b:=jL (fun v=>Ns (Yg (QJ5) QKy 6 N Tryz.f113 [.bool] [false] [] 1 Wx) N (QEw v)) (fun v=>s0 (QBM v)) v) (by kernel_rfl) (by rw [funext (SN QEw (QQI N s0) N)];rfl)
def mF (ZJ:Y9×Int×Tg->Option (Bool)) (x:Y9×Tg):Option (Bool):=
 ((rE x.2.1).bind fun x1=>(bif (!x1) then (some false) else ((lH (x.2.2.2.2.1,(16:Int))).bind fun x2=>(bif (!x2) then (some false) else (bif (decide (x.2.2.1 < (0:Int))) then (some false) else (bif (decide (x.2.2.1 > (List.length x.2.2.2.2.1:Int))) then (some false) else (bif (decide (x.2.2.2.1 < (-1:Int))) then (some false) else (bif (decide (x.2.2.2.1≥(List.length x.1:Int))) then (some false) else (bif (decide ((List.length x.2.2.2.2.2.1:Int) < (1:Int))) then (some false) else (bif (decide ((List.length x.2.2.2.2.2.1:Int) > (200:Int))) then (some false) else (ZJ (x.1,(0:Int),x.2))))))))))))
def xg (N:Nat) (x:Y9×Tg):Option (Bool):=mF (FU (bO N) N) x
theorem QYo (N:Nat) (x:Y9×Tg):rise (QJ5) QKy 6 N Tryz.f113 [sV,Z0] [.bool] [false] x=xg N x:=Eq.trans (b:=mF (fun v=>Ns (Yg (QJ5) QKy 6 N Tryz.f113 [.bool] [false] [] 0 Wx) N (QBM v)) x) (by kernel_rfl) (by rw [funext (SN QBM (QQH N) N)];rfl)
def qj (x:Y9×Tg):Option (Bool):=xg big x
def QSg:UA:=⟨[sV,Z0],[.bool],[false],fun x=>qj x⟩
theorem QWw:GV Tryz.prog 113 QSg:=rz (E:=QJ5) ⟨ZK,(XT QWu (XT Lz3 (XT Lz4 (XT QWv Xq)))),fun _ _ _=>rfl,mixed,X8,YF,YE⟩ Tryz.func113 fun _ _ h=>(QYo big _).trans h
def QEh:LT:={ live:=[(5,[1,3,5]),(10,[1,6]),(15,[1,7]),(20,[1,7,8])],keep:=[] }
noncomputable def QDn:Aj:={ tab:=tab,fs:=[(68,QSc),(112,Gz8),(113,QSg)],inl:=[] }
noncomputable def QEx (v:Y70):St:={ s:=[(1,(.loc 0 [])),(7,(.val ⟨Z2,v.1⟩)),(8,(.val ⟨Z2,v.2.1⟩))],l:=[(0,.var Z1 (.val ⟨Z1,v.2.2⟩))],k:=[],b:=4096 }
noncomputable def QBN (v:Y78):St:={ s:=[(1,(.loc 0 [])),(7,(.val ⟨Z2,v.1⟩))],l:=[(0,.var Z1 (.val ⟨Z1,v.2⟩))],k:=[],b:=4096 }
noncomputable def yL (v:Y78):St:={ s:=[(1,(.loc 0 [])),(6,(.val ⟨Z2,v.1⟩))],l:=[(0,.var Z1 (.val ⟨Z1,v.2⟩))],k:=[],b:=4096 }
noncomputable def vO (v:vk):St:={ s:=[(1,(.loc 0 [])),(3,(.row 1)),(5,(.val ⟨Z2,v.1⟩))],l:=[(0,.var Z1 (.val ⟨Z1,v.2.1⟩)),(1,.row Z2 v.2.2)],k:=[],b:=4096 }
def vT (ZG:vk->Option (Bool)) (ZH:Y78->Option (Bool)) (Zo:Y78->Option (Bool)) (vC:Y70->Option (Bool)) (v:Y70):Option (Bool):=
 (bif (decide (v.2.1 < v.1)) then ((Mh v.2.2.2.2.1 v.2.1).bind fun x9=>((Mh v.2.2.2.2.1 v.1).bind fun fH=>(bif (Ib .str x9.1 fH.1) then (some false) else (let mX:Int:=(IntKind.i64.wrap (v.2.1+(1:Int)));(vC (v.1,mX,v.2.2)))))) else (let mh:Int:=(IntKind.i64.wrap (v.1+(1:Int)));(Zo (mh,v.2.2))))
def iX (N:Nat) (ZG:vk->Option (Bool)) (ZH:Y78->Option (Bool)) (Zo:Y78->Option (Bool)) (vC:Y70->Option (Bool)) (v:Y70):Option (Bool):=vT ZG ZH Zo vC v
theorem QQM (N:Nat) (s0:St->Option (Bool)) (s1:St->Option (Bool)) (s2:St->Option (Bool)) (s3:St->Option (Bool)) (v):(Yg (QDn) QEh 6 N Tryz.f63 [.bool] [false] [] 3 (YC s2 Wx)) s3 (QEx v)=iX N (fun v=>s0 (vO v)) (fun v=>s1 (yL v)) (fun v=>s2 (QBN v)) (fun v=>s3 (QEx v)) v:=by kernel_rfl
def qC (QGc:Y70->Option (Bool)) (ZG:vk->Option (Bool)) (ZH:Y78->Option (Bool)) (Zo:Y78->Option (Bool)) (v:Y78):Option (Bool):=
 (bif (decide (v.1 < (List.length v.2.2.2.1:Int))) then ((Mh v.2.2.2.1 v.1).bind fun x7=>((qj (v.2.1,x7)).bind fun x8=>(bif (!x8) then (some false) else (QGc (v.1,(0:Int),v.2))))) else (some true))
def iW (N:Nat) (ZG:vk->Option (Bool)) (ZH:Y78->Option (Bool)) (Zo:Y78->Option (Bool)) (v:Y78):Option (Bool):=qC (FU (iX N ZG ZH Zo) N) ZG ZH Zo v
theorem QQL (N:Nat) (s0:St->Option (Bool)) (s1:St->Option (Bool)) (s2:St->Option (Bool)) (v):(Yg (QDn) QEh 6 N Tryz.f63 [.bool] [false] [] 2 Wx) s2 (QBN v)=iW N (fun v=>s0 (vO v)) (fun v=>s1 (yL v)) (fun v=>s2 (QBN v)) v:=Eq.trans (b:=qC (fun v=>Ns (Yg (QDn) QEh 6 N Tryz.f63 [.bool] [false] [] 3 (YC s2 Wx)) N (QEx v)) (fun v=>s0 (vO v)) (fun v=>s1 (yL v)) (fun v=>s2 (QBN v)) v) (by kernel_rfl) (by rw [funext (SN QEx (QQM N s0 s1 s2) N)];rfl)
def qB (yO:Y78->Option (Bool)) (ZG:vk->Option (Bool)) (ZH:Y78->Option (Bool)) (v:Y78):Option (Bool):=
 (bif (decide (v.1 < (List.length v.2.2.1:Int))) then ((Mh v.2.2.1 v.1).bind fun x5=>(bif (decide ((List.length x5:Int) > (64:Int))) then (some false) else (let x6:Int:=(IntKind.i64.wrap (v.1+(1:Int)));(ZH (x6,v.2))))) else (yO ((0:Int),v.2)))
def iV (N:Nat) (ZG:vk->Option (Bool)) (ZH:Y78->Option (Bool)) (v:Y78):Option (Bool):=qB (FU (iW N ZG ZH) N) ZG ZH v
theorem QQK (N:Nat) (s0:St->Option (Bool)) (s1:St->Option (Bool)) (v):(Yg (QDn) QEh 6 N Tryz.f63 [.bool] [false] [] 1 Wx) s1 (yL v)=iV N (fun v=>s0 (vO v)) (fun v=>s1 (yL v)) v:=Eq.trans (b:=qB (fun v=>Ns (Yg (QDn) QEh 6 N Tryz.f63 [.bool] [false] [] 2 Wx) N (QBN v)) (fun v=>s0 (vO v)) (fun v=>s1 (yL v)) v) (by kernel_rfl) (by rw [funext (SN QBN (QQL N s0 s1) N)];rfl)
def qA (Zv:Y78->Option (Bool)) (ZG:vk->Option (Bool)) (v:vk):Option (Bool):=
 (bif (decide (v.1 < (List.length v.2.2:Int))) then (bif (decide (0<=v.1)&&decide (v.1 < (List.length v.2.2:Int))) then ((nth v.2.2 (Int.toNat v.1)).bind fun x3=>(bif (decide (x3 > (256:Int))) then (some false) else (let x4:Int:=(IntKind.i64.wrap (v.1+(1:Int)));(ZG (x4,v.2.1,v.2.2))))) else none) else (Zv ((0:Int),v.2.1)))
def iU (N:Nat) (ZG:vk->Option (Bool)) (v:vk):Option (Bool):=qA (FU (iV N ZG) N) ZG v
theorem QQJ (N:Nat) (s0:St->Option (Bool)) (v):(Yg (QDn) QEh 6 N Tryz.f63 [.bool] [false] [] 0 Wx) s0 (vO v)=iU N (fun v=>s0 (vO v)) v:=Eq.trans (b:=qA (fun v=>Ns (Yg (QDn) QEh 6 N Tryz.f63 [.bool] [false] [] 1 Wx) N (yL v)) (fun v=>s0 (vO v)) v) (by kernel_rfl) (by rw [funext (SN yL (QQK N s0) N)];rfl)
def u7 (ZJ:vk->Option (Bool)) (x:ZA):Option (Bool):=
 ((wW x.1).bind fun x1=>(bif (x1 != (0:Int)) then (some false) else (bif (decide ((List.length x.2.1:Int) > (32:Int))) then (some false) else (bif (decide ((List.length x.2.2.1:Int) < (1:Int))) then (some false) else (bif (decide ((List.length x.2.2.1:Int) > (32:Int))) then (some false) else ((wY x.1).bind fun x2=>(ZJ ((0:Int),x,x2.1))))))))
def QC3 (N:Nat) (x:ZA):Option (Bool):=u7 (FU (iU N) N) x
theorem QYp (N:Nat) (x:ZA):rise (QDn) QEh 6 N Tryz.f63 [Z1] [.bool] [false] x=QC3 N x:=Eq.trans (b:=u7 (fun v=>Ns (Yg (QDn) QEh 6 N Tryz.f63 [.bool] [false] [] 0 Wx) N (vO v)) x) (by kernel_rfl) (by rw [funext (SN vO (QQJ N) N)];rfl)
def yK (x:ZA):Option (Bool):=QC3 big x
def QSh:UA:=⟨[Z1],[.bool],[false],fun x=>yK x⟩
theorem QWx:GV Tryz.prog 63 QSh:=rz (E:=QDn) ⟨ZK,(XT QWs (XT Lz8 (XT QWw Xq))),fun _ _ _=>rfl,mixed,X8,YF,YE⟩ Tryz.func63 fun _ _ h=>(QYp big _).trans h
def QPr:LT:={ live:=[(2,[0,3])],keep:=[] }
noncomputable def QM1:Aj:={ tab:=tab,fs:=[],inl:=[] }
noncomputable def QEy (v:Int×ZB):St:={ s:=[(0,(.val ⟨Z15,v.1⟩)),(3,(.row 0))],l:=[(0,.row fI v.2)],k:=[],b:=4096 }
def pK (ZG:Int×ZB->Option (ZB)) (v:Int×ZB):Option (ZB):=
 (bif (decide (v.1≥(128:Int))) then (let x1:Int:=(IntKind.u8.wrap (v.1.tmod (128:Int)));(let x2:Int:=(IntKind.u8.wrap (x1+(128:Int)));(bif (Nat.ble 1 1&&Nat.ble (List.length v.2+List.length ([x2]:ZB)) lim) then (let x3:ZB:=(List.append v.2 ([x2]:ZB));(let x4:Int:=(IntKind.u64.wrap (v.1.tdiv (128:Int)));(ZG (x4,x3)))) else none))) else (let x5:ZB:=([(IntKind.u8.wrap v.1)]:ZB);(bif (Nat.ble 1 1&&Nat.ble (List.length v.2+List.length x5) lim) then (some (List.append v.2 x5)) else none)))
def fU (N:Nat) (ZG:Int×ZB->Option (ZB)) (v:Int×ZB):Option (ZB):=pK ZG v
theorem QQN (N:Nat) (s0:St->Option (ZB)) (v):(Yg (QM1) QPr 6 N Tryz.f73 [Z9] [true] [] 0 Wx) s0 (QEy v)=fU N (fun v=>s0 (QEy v)) v:=by kernel_rfl
def yV (ZJ:Int×ZB->Option (ZB)) (x:Int):Option (ZB):=
 (ZJ (x,([]:List Int)))
def yS (N:Nat) (x:Int):Option (ZB):=yV (FU (fU N) N) x
theorem QYq (N:Nat) (x:Int):rise (QM1) QPr 6 N Tryz.f73 [Z15] [Z9] [true] x=yS N x:=Eq.trans (b:=yV (fun v=>Ns (Yg (QM1) QPr 6 N Tryz.f73 [Z9] [true] [] 0 Wx) N (QEy v)) x) (by kernel_rfl) (by rw [funext (SN QEy (QQN N) N)];rfl)
def Zl (x:Int):Option (ZB):=yS big x
def QJD:UA:=⟨[Z15],[Z9],[true],fun x=>Zl x⟩
theorem QKV:GV Tryz.prog 73 QJD:=rz (E:=QM1) ⟨ZK,Xq,fun _ _ _=>rfl,mixed,X8,YF,YE⟩ Tryz.func73 fun _ _ h=>(QYq big _).trans h
def QXl:LT:={ live:=[],keep:=[] }
noncomputable def QRv:Aj:={ tab:=tab,fs:=[(73,QJD)],inl:=[] }
def qO (x:Int):Option (ZB):=
 ((Zl (IntKind.u64.wrap x)).bind fun x1=>(some x1))
def QE2 (N:Nat) (x:Int):Option (ZB):=qO x
theorem QYr (N:Nat) (x:Int):rise (QRv) QXl 6 N Tryz.f70 [Z2] [Z9] [true] x=qO x:=by kernel_rfl
def ZP (x:Int):Option (ZB):=QE2 big x
def QPK:UA:=⟨[Z2],[Z9],[true],fun x=>ZP x⟩
theorem QU6:GV Tryz.prog 70 QPK:=rz (E:=QRv) ⟨ZK,(XT QKV Xq),fun _ _ _=>rfl,mixed,X8,YF,YE⟩ Tryz.func70 fun _ _ h=>(QYr big _).trans h
def QXm:LT:={ live:=[],keep:=[] }
noncomputable def QRw:Aj:={ tab:=tab,fs:=[(73,QJD)],inl:=[] }
def yX (x:ZB):Option (ZB):=
 (let x1:Int:=(IntKind.u64.wrap (List.length x:Int));((Zl x1).bind fun x2=>(bif (Nat.ble 1 1&&Nat.ble (List.length x2+List.length x) lim) then (some (List.append x2 x)) else none)))
def QBx (N:Nat) (x:ZB):Option (ZB):=yX x
theorem QYs (N:Nat) (x:ZB):rise (QRw) QXm 6 N Tryz.f72 [.str] [Z9] [true] x=yX x:=by kernel_rfl
def mU (x:ZB):Option (ZB):=QBx big x
def QPL:UA:=⟨[.str],[Z9],[true],fun x=>mU x⟩
theorem QU7:GV Tryz.prog 72 QPL:=rz (E:=QRw) ⟨ZK,(XT QKV Xq),fun _ _ _=>rfl,mixed,X8,YF,YE⟩ Tryz.func72 fun _ _ h=>(QYs big _).trans h
def QPs:LT:={ live:=[(3,[0,3,4])],keep:=[] }
noncomputable def QM2:Aj:={ tab:=tab,fs:=[(70,QPK),(72,QPL)],inl:=[] }
noncomputable def QEz (v:Y6×Int×ZB):St:={ s:=[(0,(.val ⟨Z7,v.1⟩)),(3,(.row 0)),(4,(.val ⟨Z2,v.2.1⟩))],l:=[(0,.row fI v.2.2)],k:=[],b:=4096 }
def qp (ZG:Y6×Int×ZB->Option (ZB)) (v:Y6×Int×ZB):Option (ZB):=
 (bif (decide (v.2.1 < (List.length v.1:Int))) then ((Mh v.1 v.2.1).bind fun x2=>((mU x2.1).bind fun x3=>(bif (Nat.ble 1 1&&Nat.ble (List.length v.2.2+List.length x3) lim) then ((Mh v.1 v.2.1).bind fun x4=>((ZP x4.2.1).bind fun x5=>(bif (Nat.ble 1 1&&Nat.ble (List.length (List.append v.2.2 x3)+List.length x5) lim) then (let x6:ZB:=(List.append (List.append v.2.2 x3) x5);(let x7:Int:=(IntKind.i64.wrap (v.2.1+(1:Int)));(ZG (v.1,x7,x6)))) else none))) else none))) else (some v.2.2))
def dU (N:Nat) (ZG:Y6×Int×ZB->Option (ZB)) (v:Y6×Int×ZB):Option (ZB):=qp ZG v
theorem QQO (N:Nat) (s0:St->Option (ZB)) (v):(Yg (QM2) QPs 6 N Tryz.f71 [Z9] [true] [] 0 Wx) s0 (QEz v)=dU N (fun v=>s0 (QEz v)) v:=by kernel_rfl
def qN (ZJ:Y6×Int×ZB->Option (ZB)) (x:Y6):Option (ZB):=
 ((ZP (List.length x:Int)).bind fun x1=>(ZJ (x,(0:Int),x1)))
def zm (N:Nat) (x:Y6):Option (ZB):=qN (FU (dU N) N) x
theorem QYt (N:Nat) (x:Y6):rise (QM2) QPs 6 N Tryz.f71 [Z7] [Z9] [true] x=zm N x:=Eq.trans (b:=qN (fun v=>Ns (Yg (QM2) QPs 6 N Tryz.f71 [Z9] [true] [] 0 Wx) N (QEz v)) x) (by kernel_rfl) (by rw [funext (SN QEz (QQO N) N)];rfl)
def iP (x:Y6):Option (ZB):=zm big x
def QSi:UA:=⟨[Z7],[Z9],[true],fun x=>iP x⟩
theorem QWy:GV Tryz.prog 71 QSi:=rz (E:=QM2) ⟨ZK,(XT QU6 (XT QU7 Xq)),fun _ _ _=>rfl,mixed,X8,YF,YE⟩ Tryz.func71 fun _ _ h=>(QYt big _).trans h
def QXn:LT:={ live:=[],keep:=[] }
noncomputable def QRx:Aj:={ tab:=tab,fs:=[],inl:=[] }
def vY (x:Int):Option (Int):=
 (bif (decide (x≥(0:Int))) then (let x1:Int:=(IntKind.u64.wrap ((IntKind.u64.wrap x) * (2:Int)));(some x1)) else (let x2:Int:=(IntKind.i64.wrap (x+(1:Int)));(let x3:Int:=(IntKind.i64.wrap (0 - x2));(let x4:Int:=(IntKind.u64.wrap ((IntKind.u64.wrap x3) * (2:Int)));(let x5:Int:=(IntKind.u64.wrap (x4+(1:Int)));(some x5))))))
def zi (N:Nat) (x:Int):Option (Int):=vY x
theorem QYu (N:Nat) (x:Int):rise (QRx) QXn 6 N Tryz.f74 [Z2] [Z15] [false] x=vY x:=by kernel_rfl
def lG (x:Int):Option (Int):=zi big x
def QPM:UA:=⟨[Z2],[Z15],[false],fun x=>lG x⟩
theorem QU8:GV Tryz.prog 74 QPM:=rz (E:=QRx) ⟨ZK,Xq,fun _ _ _=>rfl,mixed,X8,YF,YE⟩ Tryz.func74 fun _ _ h=>(QYu big _).trans h
def QXo:LT:={ live:=[],keep:=[] }
noncomputable def QRy:Aj:={ tab:=tab,fs:=[],inl:=[] }
def zq (x:Int):Option (Bool):=
 (bif (x==(110:Int)) then (some true) else (bif (x==(103:Int)) then (some true) else (some (x==(101:Int)))))
def QE1 (N:Nat) (x:Int):Option (Bool):=zq x
theorem QYv (N:Nat) (x:Int):rise (QRy) QXo 6 N Tryz.f117 [fI] [.bool] [false] x=zq x:=by kernel_rfl
def vN (x:Int):Option (Bool):=QE1 big x
def QSj:UA:=⟨[fI],[.bool],[false],fun x=>vN x⟩
theorem QWz:GV Tryz.prog 117 QSj:=rz (E:=QRy) ⟨ZK,Xq,fun _ _ _=>rfl,mixed,X8,YF,YE⟩ Tryz.func117 fun _ _ h=>(QYv big _).trans h
def QPt:LT:={ live:=[(4,[3,4,5,6])],keep:=[] }
noncomputable def QM3:Aj:={ tab:=tab,fs:=[(66,QPI),(67,QPJ),(73,QJD),(74,QPM),(117,QSj)],inl:=[] }
noncomputable def QF0 (v:Y68):St:={ s:=[(3,(.row 0)),(4,(.val ⟨.str,v.1⟩)),(5,(.loc 1 [])),(6,(.val ⟨Z2,v.2.1⟩))],l:=[(0,.row fI v.2.2.1),(1,.var Z18 (.val ⟨Z18,v.2.2.2⟩))],k:=[],b:=4096 }
def tT (ZG:Y68->Option (ZB)) (v:Y68):Option (ZB):=
 (bif (decide (v.2.1 < (3:Int))) then ((Mh v.1 v.2.1).bind fun x3=>(bif (x3==(45:Int)) then (let x4:Int:=(IntKind.i64.wrap (v.2.1+(1:Int)));(ZG (v.1,x4,v.2.2.1,v.2.2.2))) else ((Mh v.1 v.2.1).bind fun x5=>((vN x5).bind fun x6=>(bif x6 then (bif (decide (0<=v.2.1)&&decide (v.2.1 < (3:Int))) then ((nth v.2.2.2 (Int.toNat v.2.1)).bind fun x7=>((lG x7).bind fun x8=>((Zl x8).bind fun x9=>(bif (Nat.ble 1 1&&Nat.ble (List.length v.2.2.1+List.length x9) lim) then (let fH:Int:=(IntKind.i64.wrap (v.2.1+(1:Int)));(ZG (v.1,fH,(List.append v.2.2.1 x9),v.2.2.2))) else none)))) else none) else (bif (decide (0<=v.2.1)&&decide (v.2.1 < (3:Int))) then ((nth v.2.2.2 (Int.toNat v.2.1)).bind fun mX=>((Zl (IntKind.u64.wrap mX)).bind fun mh=>(bif (Nat.ble 1 1&&Nat.ble (List.length v.2.2.1+List.length mh) lim) then (let qV:ZB:=(List.append v.2.2.1 mh);(let jU:Int:=(IntKind.i64.wrap (v.2.1+(1:Int)));(ZG (v.1,jU,qV,v.2.2.2)))) else none))) else none)))))) else (some v.2.2.1))
def nW (N:Nat) (ZG:Y68->Option (ZB)) (v:Y68):Option (ZB):=tT ZG v
theorem QQP (N:Nat) (s0:St->Option (ZB)) (v):(Yg (QM3) QPt 6 N Tryz.f75 [Z9] [true] [] 0 Wx) s0 (QF0 v)=nW N (fun v=>s0 (QF0 v)) v:=by kernel_rfl
def sI (ZJ:Y68->Option (ZB)) (x:ZE):Option (ZB):=
 ((nL x.1).bind fun x1=>((iI x).bind fun x2=>(ZJ (x1,(0:Int),([x.1]:ZB),x2))))
def QAt (N:Nat) (x:ZE):Option (ZB):=sI (FU (nW N) N) x
theorem QYw (N:Nat) (x:ZE):rise (QM3) QPt 6 N Tryz.f75 [Z3] [Z9] [true] x=QAt N x:=Eq.trans (b:=sI (fun v=>Ns (Yg (QM3) QPt 6 N Tryz.f75 [Z9] [true] [] 0 Wx) N (QF0 v)) x) (by kernel_rfl) (by rw [funext (SN QF0 (QQP N) N)];rfl)
def wh (x:ZE):Option (ZB):=QAt big x
def QSk:UA:=⟨[Z3],[Z9],[true],fun x=>wh x⟩
theorem QX0:GV Tryz.prog 75 QSk:=rz (E:=QM3) ⟨ZK,(XT QTV (XT QTd (XT QKV (XT QU8 (XT QWz Xq))))),fun _ _ _=>rfl,mixed,X8,YF,YE⟩ Tryz.func75 fun _ _ h=>(QYw big _).trans h
def QPu:LT:={ live:=[(4,[0,3,4,5])],keep:=[] }
noncomputable def QM4:Aj:={ tab:=tab,fs:=[(73,QJD)],inl:=[] }
noncomputable def QF1 (v:ZF×Int×Int×ZB):St:={ s:=[(0,(.val ⟨Z5,v.1⟩)),(3,(.row 0)),(4,(.val ⟨Z2,v.2.1⟩)),(5,(.val ⟨Z2,v.2.2.1⟩))],l:=[(0,.row fI v.2.2.2)],k:=[],b:=4096 }
def jw (ZG:ZF×Int×Int×ZB->Option (ZB)) (v:ZF×Int×Int×ZB):Option (ZB):=
 (bif (decide (v.2.2.1 < (List.length v.1:Int))) then ((Mh v.1 v.2.2.1).bind fun x3=>(let x4:Int:=(IntKind.i64.wrap (x3.1 - v.2.1));((Zl (IntKind.u64.wrap x4)).bind fun x5=>(bif (Nat.ble 1 1&&Nat.ble (List.length v.2.2.2+List.length x5) lim) then ((Mh v.1 v.2.2.1).bind fun x6=>((Zl x6.2.1).bind fun x7=>(bif (Nat.ble 1 1&&Nat.ble (List.length (List.append v.2.2.2 x5)+List.length x7) lim) then (let x8:ZB:=(List.append (List.append v.2.2.2 x5) x7);((Mh v.1 v.2.2.1).bind fun x9=>(let fH:Int:=(IntKind.i64.wrap (v.2.2.1+(1:Int)));(ZG (v.1,x9.1,fH,x8))))) else none))) else none)))) else (some v.2.2.2))
def nX (N:Nat) (ZG:ZF×Int×Int×ZB->Option (ZB)) (v:ZF×Int×Int×ZB):Option (ZB):=jw ZG v
theorem QQR (N:Nat) (s0:St->Option (ZB)) (v):(Yg (QM4) QPu 6 N Tryz.f76 [Z9] [true] [] 0 Wx) s0 (QF1 v)=nX N (fun v=>s0 (QF1 v)) v:=by kernel_rfl
def sJ (ZJ:ZF×Int×Int×ZB->Option (ZB)) (x:ZF):Option (ZB):=
 (let x1:Int:=(IntKind.u64.wrap (List.length x:Int));((Zl x1).bind fun x2=>(ZJ (x,(0:Int),(0:Int),x2))))
def QAu (N:Nat) (x:ZF):Option (ZB):=sJ (FU (nX N) N) x
theorem QYx (N:Nat) (x:ZF):rise (QM4) QPu 6 N Tryz.f76 [Z5] [Z9] [true] x=QAu N x:=Eq.trans (b:=sJ (fun v=>Ns (Yg (QM4) QPu 6 N Tryz.f76 [Z9] [true] [] 0 Wx) N (QF1 v)) x) (by kernel_rfl) (by rw [funext (SN QF1 (QQR N) N)];rfl)
def rG (x:ZF):Option (ZB):=QAu big x
def QSl:UA:=⟨[Z5],[Z9],[true],fun x=>rG x⟩
theorem QX1:GV Tryz.prog 76 QSl:=rz (E:=QM4) ⟨ZK,(XT QKV Xq),fun _ _ _=>rfl,mixed,X8,YF,YE⟩ Tryz.func76 fun _ _ h=>(QYx big _).trans h
def QEi:LT:={ live:=[(3,[1,3,4]),(17,[1,3,6]),(22,[1,3,7]),(29,[1,3,7,8,9])],keep:=[] }
noncomputable def QDo:Aj:={ tab:=tab,fs:=[(70,QPK),(71,QSi),(72,QPL),(73,QJD),(74,QPM),(75,QSk),(76,QSl)],inl:=[] }
noncomputable def QF2 (v:Y54):St:={ s:=[(1,(.loc 0 [])),(3,(.row 1)),(7,(.val ⟨Z2,v.1⟩)),(8,(.loc 2 [])),(9,(.val ⟨Z2,v.2.1⟩))],l:=[(0,.var Z1 (.val ⟨Z1,v.2.2.1⟩)),(1,.row fI v.2.2.2.1),(2,.var Z0 (.val ⟨Z0,v.2.2.2.2⟩))],k:=[],b:=4096 }
noncomputable def QBO (v:vk):St:={ s:=[(1,(.loc 0 [])),(3,(.row 1)),(7,(.val ⟨Z2,v.1⟩))],l:=[(0,.var Z1 (.val ⟨Z1,v.2.1⟩)),(1,.row fI v.2.2)],k:=[],b:=4096 }
noncomputable def yM (v:vk):St:={ s:=[(1,(.loc 0 [])),(3,(.row 1)),(6,(.val ⟨Z2,v.1⟩))],l:=[(0,.var Z1 (.val ⟨Z1,v.2.1⟩)),(1,.row fI v.2.2)],k:=[],b:=4096 }
noncomputable def vP (v:vk):St:={ s:=[(1,(.loc 0 [])),(3,(.row 1)),(4,(.val ⟨Z2,v.1⟩))],l:=[(0,.var Z1 (.val ⟨Z1,v.2.1⟩)),(1,.row fI v.2.2)],k:=[],b:=4096 }
def tV (ZG:vk->Option (ZB)) (ZH:vk->Option (ZB)) (Zo:vk->Option (ZB)) (vC:Y54->Option (ZB)) (v:Y54):Option (ZB):=
 (bif (decide (v.2.1 < (List.length v.2.2.2.2.2.2.2.2.1:Int))) then ((Mh v.2.2.2.2.2.2.2.2.1 v.2.1).bind fun x36=>((wh x36).bind fun x37=>(bif (Nat.ble 1 1&&Nat.ble (List.length v.2.2.2.1+List.length x37) lim) then (let x38:ZB:=(List.append v.2.2.2.1 x37);(let x39:Int:=(IntKind.i64.wrap (v.2.1+(1:Int)));(vC (v.1,x39,v.2.2.1,x38,v.2.2.2.2)))) else none))) else ((rG v.2.2.2.2.2.2.2.2.2.1).bind fun x40=>(bif (Nat.ble 1 1&&Nat.ble (List.length v.2.2.2.1+List.length x40) lim) then (let x41:ZB:=(List.append v.2.2.2.1 x40);((rG v.2.2.2.2.2.2.2.2.2.2.1).bind fun x42=>(bif (Nat.ble 1 1&&Nat.ble (List.length x41+List.length x42) lim) then (let x43:Int:=(IntKind.i64.wrap (v.1+(1:Int)));(Zo (x43,v.2.2.1,(List.append x41 x42)))) else none))) else none)))
def fu (N:Nat) (ZG:vk->Option (ZB)) (ZH:vk->Option (ZB)) (Zo:vk->Option (ZB)) (vC:Y54->Option (ZB)) (v:Y54):Option (ZB):=tV ZG ZH Zo vC v
theorem QQV (N:Nat) (s0:St->Option (ZB)) (s1:St->Option (ZB)) (s2:St->Option (ZB)) (s3:St->Option (ZB)) (v):(Yg (QDo) QEi 6 N Tryz.f39 [Z9] [true] [] 3 (YC s2 Wx)) s3 (QF2 v)=fu N (fun v=>s0 (vP v)) (fun v=>s1 (yM v)) (fun v=>s2 (QBO v)) (fun v=>s3 (QF2 v)) v:=by kernel_rfl
def oF (QGc:Y54->Option (ZB)) (ZG:vk->Option (ZB)) (ZH:vk->Option (ZB)) (Zo:vk->Option (ZB)) (v:vk):Option (ZB):=
 (bif (decide (v.1 < (List.length v.2.1.2.2.1:Int))) then ((Mh v.2.1.2.2.1 v.1).bind fun x27=>((mU x27.1).bind fun x28=>(bif (Nat.ble 1 1&&Nat.ble (List.length v.2.2+List.length x28) lim) then ((ZP x27.2.1).bind fun x29=>(bif (Nat.ble 1 1&&Nat.ble (List.length (List.append v.2.2 x28)+List.length x29) lim) then (let x30:ZB:=(List.append (List.append v.2.2 x28) x29);((lG x27.2.2.1).bind fun x31=>((Zl x31).bind fun x32=>(bif (Nat.ble 1 1&&Nat.ble (List.length x30+List.length x32) lim) then ((iP x27.2.2.2.1).bind fun x33=>(bif (Nat.ble 1 1&&Nat.ble (List.length (List.append x30 x32)+List.length x33) lim) then (let x34:ZB:=(List.append (List.append x30 x32) x33);((ZP (List.length x27.2.2.2.2.1:Int)).bind fun x35=>(bif (Nat.ble 1 1&&Nat.ble (List.length x34+List.length x35) lim) then (QGc (v.1,(0:Int),v.2.1,(List.append x34 x35),x27)) else none))) else none)) else none)))) else none)) else none))) else (some v.2.2))
def fq (N:Nat) (ZG:vk->Option (ZB)) (ZH:vk->Option (ZB)) (Zo:vk->Option (ZB)) (v:vk):Option (ZB):=oF (FU (fu N ZG ZH Zo) N) ZG ZH Zo v
theorem QQU (N:Nat) (s0:St->Option (ZB)) (s1:St->Option (ZB)) (s2:St->Option (ZB)) (v):(Yg (QDo) QEi 6 N Tryz.f39 [Z9] [true] [] 2 Wx) s2 (QBO v)=fq N (fun v=>s0 (vP v)) (fun v=>s1 (yM v)) (fun v=>s2 (QBO v)) v:=Eq.trans (b:=oF (fun v=>Ns (Yg (QDo) QEi 6 N Tryz.f39 [Z9] [true] [] 3 (YC s2 Wx)) N (QF2 v)) (fun v=>s0 (vP v)) (fun v=>s1 (yM v)) (fun v=>s2 (QBO v)) v) (by kernel_rfl) (by rw [funext (SN QF2 (QQV N s0 s1 s2) N)];rfl)
def oD (yO:vk->Option (ZB)) (ZG:vk->Option (ZB)) (ZH:vk->Option (ZB)) (v:vk):Option (ZB):=
 (bif (decide (v.1 < (List.length v.2.1.2.1:Int))) then ((Mh v.2.1.2.1 v.1).bind fun x23=>((mU x23).bind fun x24=>(bif (Nat.ble 1 1&&Nat.ble (List.length v.2.2+List.length x24) lim) then (let x25:Int:=(IntKind.i64.wrap (v.1+(1:Int)));(ZH (x25,v.2.1,(List.append v.2.2 x24)))) else none))) else ((ZP (List.length v.2.1.2.2.1:Int)).bind fun x26=>(bif (Nat.ble 1 1&&Nat.ble (List.length v.2.2+List.length x26) lim) then (yO ((0:Int),v.2.1,(List.append v.2.2 x26))) else none)))
def fZ (N:Nat) (ZG:vk->Option (ZB)) (ZH:vk->Option (ZB)) (v:vk):Option (ZB):=oD (FU (fq N ZG ZH) N) ZG ZH v
theorem QQT (N:Nat) (s0:St->Option (ZB)) (s1:St->Option (ZB)) (v):(Yg (QDo) QEi 6 N Tryz.f39 [Z9] [true] [] 1 Wx) s1 (yM v)=fZ N (fun v=>s0 (vP v)) (fun v=>s1 (yM v)) v:=Eq.trans (b:=oD (fun v=>Ns (Yg (QDo) QEi 6 N Tryz.f39 [Z9] [true] [] 2 Wx) N (QBO v)) (fun v=>s0 (vP v)) (fun v=>s1 (yM v)) v) (by kernel_rfl) (by rw [funext (SN QBO (QQU N s0 s1) N)];rfl)
def oC (Zv:vk->Option (ZB)) (ZG:vk->Option (ZB)) (v:vk):Option (ZB):=
 (bif (decide (v.1 < (List.length v.2.1.1:Int))) then ((Mh v.2.1.1 v.1).bind fun x2=>(bif (Nat.ble 1 1&&Nat.ble (List.length v.2.2+List.length ([x2.1]:ZB)) lim) then (let x3:ZB:=(List.append v.2.2 ([x2.1]:ZB));(bif (x2.1==(4:Int)) then (bif (x2.1==(4:Int)) then ((ZP x2.2.1).bind fun x4=>(bif (Nat.ble 1 1&&Nat.ble (List.length x3+List.length x4) lim) then (let x5:Int:=(IntKind.i64.wrap (v.1+(1:Int)));(ZG (x5,v.2.1,(List.append x3 x4)))) else none)) else (bif (x2.1==(6:Int)) then ((ZP x2.2.1).bind fun x6=>(bif (Nat.ble 1 1&&Nat.ble (List.length x3+List.length x6) lim) then ((ZP x2.2.2.1).bind fun x7=>(bif (Nat.ble 1 1&&Nat.ble (List.length (List.append x3 x6)+List.length x7) lim) then (let x8:ZB:=(List.append (List.append x3 x6) x7);(let x9:Int:=(IntKind.i64.wrap (v.1+(1:Int)));(ZG (x9,v.2.1,x8)))) else none)) else none)) else (bif (x2.1==(5:Int)) then ((iP x2.2.2.2.1).bind fun fH=>(bif (Nat.ble 1 1&&Nat.ble (List.length x3+List.length fH) lim) then (let mX:Int:=(IntKind.i64.wrap (v.1+(1:Int)));(ZG (mX,v.2.1,(List.append x3 fH)))) else none)) else (let mh:Int:=(IntKind.i64.wrap (v.1+(1:Int)));(ZG (mh,v.2.1,x3)))))) else (bif (x2.1==(7:Int)) then ((ZP x2.2.1).bind fun qV=>(bif (Nat.ble 1 1&&Nat.ble (List.length x3+List.length qV) lim) then (let jU:Int:=(IntKind.i64.wrap (v.1+(1:Int)));(ZG (jU,v.2.1,(List.append x3 qV)))) else none)) else (bif (x2.1==(6:Int)) then ((ZP x2.2.1).bind fun jV=>(bif (Nat.ble 1 1&&Nat.ble (List.length x3+List.length jV) lim) then ((ZP x2.2.2.1).bind fun wK=>(bif (Nat.ble 1 1&&Nat.ble (List.length (List.append x3 jV)+List.length wK) lim) then (let xu:ZB:=(List.append (List.append x3 jV) wK);(let x18:Int:=(IntKind.i64.wrap (v.1+(1:Int)));(ZG (x18,v.2.1,xu)))) else none)) else none)) else (bif (x2.1==(5:Int)) then ((iP x2.2.2.2.1).bind fun zW=>(bif (Nat.ble 1 1&&Nat.ble (List.length x3+List.length zW) lim) then (let zO:Int:=(IntKind.i64.wrap (v.1+(1:Int)));(ZG (zO,v.2.1,(List.append x3 zW)))) else none)) else (let x21:Int:=(IntKind.i64.wrap (v.1+(1:Int)));(ZG (x21,v.2.1,x3)))))))) else none)) else ((ZP (List.length v.2.1.2.1:Int)).bind fun x22=>(bif (Nat.ble 1 1&&Nat.ble (List.length v.2.2+List.length x22) lim) then (Zv ((0:Int),v.2.1,(List.append v.2.2 x22))) else none)))
def fV (N:Nat) (ZG:vk->Option (ZB)) (v:vk):Option (ZB):=oC (FU (fZ N ZG) N) ZG v
theorem QQS (N:Nat) (s0:St->Option (ZB)) (v):(Yg (QDo) QEi 6 N Tryz.f39 [Z9] [true] [] 0 Wx) s0 (vP v)=fV N (fun v=>s0 (vP v)) v:=Eq.trans (b:=oC (fun v=>Ns (Yg (QDo) QEi 6 N Tryz.f39 [Z9] [true] [] 1 Wx) N (yM v)) (fun v=>s0 (vP v)) v) (by kernel_rfl) (by rw [funext (SN yM (QQT N s0) N)];rfl)
def sM (ZJ:vk->Option (ZB)) (x:ZA):Option (ZB):=
 ((ZP (List.length x.1:Int)).bind fun x1=>(ZJ ((0:Int),x,x1)))
def QAv (N:Nat) (x:ZA):Option (ZB):=sM (FU (fV N) N) x
theorem QYy (N:Nat) (x:ZA):rise (QDo) QEi 6 N Tryz.f39 [Z1] [Z9] [true] x=QAv N x:=Eq.trans (b:=sM (fun v=>Ns (Yg (QDo) QEi 6 N Tryz.f39 [Z9] [true] [] 0 Wx) N (vP v)) x) (by kernel_rfl) (by rw [funext (SN vP (QQS N) N)];rfl)
def wu (x:ZA):Option (ZB):=QAv big x
def QSm:UA:=⟨[Z1],[Z9],[true],fun x=>wu x⟩
theorem QX2:GV Tryz.prog 39 QSm:=rz (E:=QDo) ⟨ZK,(XT QU6 (XT QWy (XT QU7 (XT QKV (XT QU8 (XT QX0 (XT QX1 Xq))))))),fun _ _ _=>rfl,mixed,X8,YF,YE⟩ Tryz.func39 fun _ _ h=>(QYy big _).trans h
def QXp:LT:={ live:=[],keep:=[] }
noncomputable def QRz:Aj:={ tab:=tab,fs:=[(39,QSm),(63,QSh)],inl:=[] }
def sK (x:ZA):Option (Int):=
 ((yK x).bind fun x1=>(bif (!x1) then (some (8:Int)) else ((wu x).bind fun x2=>(bif (decide ((List.length x2:Int) > (20000:Int))) then (some (4:Int)) else (some (0:Int))))))
def QFj (N:Nat) (x:ZA):Option (Int):=sK x
theorem QYz (N:Nat) (x:ZA):rise (QRz) QXp 6 N Tryz.f27 [Z1] [Z2] [false] x=sK x:=by kernel_rfl
def wo (x:ZA):Option (Int):=QFj big x
def QSn:UA:=⟨[Z1],[Z2],[false],fun x=>wo x⟩
theorem QX3:GV Tryz.prog 27 QSn:=rz (E:=QRz) ⟨ZK,(XT QX2 (XT QWx Xq)),fun _ _ _=>rfl,mixed,X8,YF,YE⟩ Tryz.func27 fun _ _ h=>(QYz big _).trans h
def QXq:LT:={ live:=[],keep:=[] }
noncomputable def QS0:Aj:={ tab:=tab,fs:=[],inl:=[] }
def QDY (x:Unit):Option (ZE):=
 (let x1:ZE:=((34:Int),((-1:Int),((0:Int),((0:Int),()))));(some x1))
def QHZ (N:Nat) (x:Unit):Option (ZE):=QDY x
theorem QZ0 (N:Nat) (x:Unit):rise (QS0) QXq 6 N Tryz.f40 [] [Z3] [false] x=QDY x:=by kernel_rfl
def QA0 (x:Unit):Option (ZE):=QHZ big x
def QSo:UA:=⟨[],[Z3],[false],fun x=>QA0 x⟩
theorem QX4:GV Tryz.prog 40 QSo:=rz (E:=QS0) ⟨ZK,Xq,fun _ _ _=>rfl,mixed,X8,YF,YE⟩ Tryz.func40 fun _ _ h=>(QZ0 big _).trans h
def QXs:LT:={ live:=[],keep:=[] }
noncomputable def QS1:Aj:={ tab:=tab,fs:=[(40,QSo)],inl:=[],vl:=[6,11,15,19,22,24,26,28] }
def QB5 (x:ZE):Option (ZA):=
 (let x1:ZC:=((2:Int),((0:Int),((0:Int),(([]:Y6),()))));(let x2:Y9:=([x1]:Y9);(let x3:(ZB×Y18):=(([110]:List Int),((0:Int),()));(let x4:Y6:=([x3]:Y6);(let x5:ZE:=((1:Int),((0:Int),((7:Int),((0:Int),()))));(let x6:ZE:=((25:Int),((-1:Int),((1:Int),((0:Int),()))));((QA0 ()).bind fun x7=>(let x8:Y8:=([x5,x,x6,x7]:Y8);(let x9:uH:=((0:Int),((0:Int),()));(let fH:uH:=((2:Int),((8:Int),()));(let mX:uH:=((3:Int),((0:Int),()));(let mh:ZF:=([x9,fH,mX]:ZF);(let qV:uH:=((0:Int),((0:Int),()));(let jU:uH:=((1:Int),((1:Int),()));(let jV:uH:=((3:Int),((0:Int),()));(let wK:ZF:=([qV,jU,jV]:ZF);(let xu:Tg:=(([109,97,105,110]:List Int),((0:Int),((-1:Int),(x4,(x8,(mh,(wK,())))))));(let x18:(ZB×Y18):=(([97]:List Int),((0:Int),()));(let zW:Y6:=([x18]:Y6);((QA0 ()).bind fun zO=>(let x21:Y8:=([zO]:Y8);(let x22:uH:=((0:Int),((0:Int),()));(let x23:ZF:=([x22]:ZF);(let x24:uH:=((0:Int),((0:Int),()));(let x25:ZF:=([x24]:ZF);(let x26:Tg:=(([102]:List Int),((1:Int),((-1:Int),(zW,(x21,(x23,(x25,())))))));(let x27:Y17:=([xu,x26]:Y17);(some (x2,(([]:List ZB),(x27,())))))))))))))))))))))))))))))))
def QFg (N:Nat) (x:ZE):Option (ZA):=QB5 x
theorem QZ1 (N:Nat) (x:ZE):rise (QS1) QXs 6 N Tryz.f12 [Z3] [Z1] [false] x=QB5 x:=by kernel_rfl
def wU (x:ZE):Option (ZA):=QFg big x
def QSp:UA:=⟨[Z3],[Z1],[false],fun x=>wU x⟩
theorem QX5:GV Tryz.prog 12 QSp:=rz (E:=QS1) ⟨ZK,(XT QX4 Xq),fun _ _ _=>rfl,mixed,X8,YF,YE⟩ Tryz.func12 fun _ _ h=>(QZ1 big _).trans h
def QUr:LT:={ live:=[],keep:=[] }
noncomputable def QNv:Aj:={ tab:=tab,fs:=[(19,QIL),(23,QOW)],inl:=[] }
def QB4 (x:ZA×Int×Int×Int):Option (Bool):=
 ((mq x.1).bind fun x1=>(bif (x1.1==x.2.1) then (bif (x1.2.1==x.2.2.1) then (bif (x1.2.2==x.2.2.2) then ((QAK x.1).bind fun x2=>(some (x2==x.2.2.2))) else (some false)) else (some false)) else (some false)))
def QFf (N:Nat) (x:ZA×Int×Int×Int):Option (Bool):=QB4 x
theorem QWH (N:Nat) (x:ZA×Int×Int×Int):rise (QNv) QUr 6 N Tryz.f10 [Z1,Z2,Z2,Z2] [.bool] [false] x=QB4 x:=by kernel_rfl
def wT (x:ZA×Int×Int×Int):Option (Bool):=QFf big x
def QOX:UA:=⟨[Z1,Z2,Z2,Z2],[.bool],[false],fun x=>wT x⟩
theorem QTw:GV Tryz.prog 10 QOX:=rz (E:=QNv) ⟨ZK,(XT QKU (XT QTv Xq)),fun _ _ _=>rfl,mixed,X8,YF,YE⟩ Tryz.func10 fun _ _ h=>(QWH big _).trans h
def QUs:LT:={ live:=[],keep:=[] }
noncomputable def QNw:Aj:={ tab:=tab,fs:=[(10,QOX),(12,QSp)],inl:=[] }
def QB3 (x:Unit):Option (Bool):=
 (let x1:ZE:=((24:Int),((0:Int),((0:Int),((0:Int),()))));((wU x1).bind fun x2=>((wT (x2,(0:Int),(0:Int),(0:Int))).bind fun x3=>(bif x3 then (let x4:ZE:=((31:Int),((0:Int),((0:Int),((0:Int),()))));((wU x4).bind fun x5=>((wT (x5,(0:Int),(-1:Int),(36:Int))).bind fun x6=>(some x6)))) else (some false)))))
def QFe (N:Nat) (x:Unit):Option (Bool):=QB3 x
theorem QWI (N:Nat) (x:Unit):rise (QNw) QUs 6 N Tryz.f17 [] [.bool] [false] x=QB3 x:=by kernel_rfl
def aL (x:Unit):Option (Bool):=QFe big x
def QOY:UA:=⟨[],[.bool],[false],fun x=>aL x⟩
theorem QTx:GV Tryz.prog 17 QOY:=rz (E:=QNw) ⟨ZK,(XT QTw (XT QX5 Xq)),fun _ _ _=>rfl,mixed,X8,YF,YE⟩ Tryz.func17 fun _ _ h=>(QWI big _).trans h
def QKv:LT:={ live:=[(4,[0,1,5])],keep:=[] }
noncomputable def QIF:Aj:={ tab:=tab,fs:=[],inl:=[] }
noncomputable def QCg (v:Y6×Y6×Int):St:={ s:=[(0,(.val ⟨Z7,v.1⟩)),(1,(.val ⟨Z7,v.2.1⟩)),(5,(.val ⟨Z2,v.2.2⟩))],l:=[],k:=[],b:=4096 }
def lC (ZG:Y6×Y6×Int->Option (Bool)) (v:Y6×Y6×Int):Option (Bool):=
 (bif (decide (v.2.2 < (List.length v.1:Int))) then ((Mh v.1 v.2.2).bind fun x1=>((Mh v.2.1 v.2.2).bind fun x2=>(bif (!(Ib Z19 x1 x2)) then (some false) else (let x3:Int:=(IntKind.i64.wrap (v.2.2+(1:Int)));(ZG (v.1,v.2.1,x3)))))) else (some true))
def aR (N:Nat) (ZG:Y6×Y6×Int->Option (Bool)) (v:Y6×Y6×Int):Option (Bool):=lC ZG v
theorem QN7 (N:Nat) (s0:St->Option (Bool)) (v):(Yg (QIF) QKv 6 N Tryz.f52 [.bool] [false] [] 0 Wx) s0 (QCg v)=aR N (fun v=>s0 (QCg v)) v:=by kernel_rfl
def jS (ZJ:Y6×Y6×Int->Option (Bool)) (x:Y6×Y6):Option (Bool):=
 (bif ((List.length x.1:Int) != (List.length x.2:Int)) then (some false) else (ZJ (x.1,x.2,(0:Int))))
def uf (N:Nat) (x:Y6×Y6):Option (Bool):=jS (FU (aR N) N) x
theorem QWN (N:Nat) (x:Y6×Y6):rise (QIF) QKv 6 N Tryz.f52 [Z7,Z7] [.bool] [false] x=uf N x:=Eq.trans (b:=jS (fun v=>Ns (Yg (QIF) QKv 6 N Tryz.f52 [.bool] [false] [] 0 Wx) N (QCg v)) x) (by kernel_rfl) (by rw [funext (SN QCg (QN7 N) N)];rfl)
def nK (x:Y6×Y6):Option (Bool):=uf big x
def QOd:UA:=⟨[Z7,Z7],[.bool],[false],fun x=>nK x⟩
theorem QU2:GV Tryz.prog 52 QOd:=rz (E:=QIF) ⟨ZK,Xq,fun _ _ _=>rfl,mixed,X8,YF,YE⟩ Tryz.func52 fun _ _ h=>(QWN big _).trans h
def QKw:LT:={ live:=[(4,[0,1,5])],keep:=[] }
noncomputable def QIG:Aj:={ tab:=tab,fs:=[],inl:=[] }
noncomputable def QCh (v:Y8×Y8×Int):St:={ s:=[(0,(.val ⟨mP,v.1⟩)),(1,(.val ⟨mP,v.2.1⟩)),(5,(.val ⟨Z2,v.2.2⟩))],l:=[],k:=[],b:=4096 }
def vR (ZG:Y8×Y8×Int->Option (Bool)) (v:Y8×Y8×Int):Option (Bool):=
 (bif (decide (v.2.2 < (List.length v.1:Int))) then ((Mh v.1 v.2.2).bind fun x1=>((Mh v.2.1 v.2.2).bind fun x2=>(bif (!(Ib Z3 x1 x2)) then (some false) else (let x3:Int:=(IntKind.i64.wrap (v.2.2+(1:Int)));(ZG (v.1,v.2.1,x3)))))) else (some true))
def iR (N:Nat) (ZG:Y8×Y8×Int->Option (Bool)) (v:Y8×Y8×Int):Option (Bool):=vR ZG v
theorem QN8 (N:Nat) (s0:St->Option (Bool)) (v):(Yg (QIG) QKw 6 N Tryz.f53 [.bool] [false] [] 0 Wx) s0 (QCh v)=iR N (fun v=>s0 (QCh v)) v:=by kernel_rfl
def uy (ZJ:Y8×Y8×Int->Option (Bool)) (x:Y8×Y8):Option (Bool):=
 (bif ((List.length x.1:Int) != (List.length x.2:Int)) then (some false) else (ZJ (x.1,x.2,(0:Int))))
def QC0 (N:Nat) (x:Y8×Y8):Option (Bool):=uy (FU (iR N) N) x
theorem QWO (N:Nat) (x:Y8×Y8):rise (QIG) QKw 6 N Tryz.f53 [mP,mP] [.bool] [false] x=QC0 N x:=Eq.trans (b:=uy (fun v=>Ns (Yg (QIG) QKw 6 N Tryz.f53 [.bool] [false] [] 0 Wx) N (QCh v)) x) (by kernel_rfl) (by rw [funext (SN QCh (QN8 N) N)];rfl)
def yJ (x:Y8×Y8):Option (Bool):=QC0 big x
def QOe:UA:=⟨[mP,mP],[.bool],[false],fun x=>yJ x⟩
theorem QU3:GV Tryz.prog 53 QOe:=rz (E:=QIG) ⟨ZK,Xq,fun _ _ _=>rfl,mixed,X8,YF,YE⟩ Tryz.func53 fun _ _ h=>(QWO big _).trans h
def QKx:LT:={ live:=[(4,[0,1,5])],keep:=[] }
noncomputable def QIH:Aj:={ tab:=tab,fs:=[],inl:=[] }
noncomputable def QCi (v:ZF×ZF×Int):St:={ s:=[(0,(.val ⟨Z5,v.1⟩)),(1,(.val ⟨Z5,v.2.1⟩)),(5,(.val ⟨Z2,v.2.2⟩))],l:=[],k:=[],b:=4096 }
def vS (ZG:ZF×ZF×Int->Option (Bool)) (v:ZF×ZF×Int):Option (Bool):=
 (bif (decide (v.2.2 < (List.length v.1:Int))) then ((Mh v.1 v.2.2).bind fun x1=>((Mh v.2.1 v.2.2).bind fun x2=>(bif (!(Ib Z16 x1 x2)) then (some false) else (let x3:Int:=(IntKind.i64.wrap (v.2.2+(1:Int)));(ZG (v.1,v.2.1,x3)))))) else (some true))
def iT (N:Nat) (ZG:ZF×ZF×Int->Option (Bool)) (v:ZF×ZF×Int):Option (Bool):=vS ZG v
theorem QN9 (N:Nat) (s0:St->Option (Bool)) (v):(Yg (QIH) QKx 6 N Tryz.f54 [.bool] [false] [] 0 Wx) s0 (QCi v)=iT N (fun v=>s0 (QCi v)) v:=by kernel_rfl
def u6 (ZJ:ZF×ZF×Int->Option (Bool)) (x:ZF×ZF):Option (Bool):=
 (bif ((List.length x.1:Int) != (List.length x.2:Int)) then (some false) else (ZJ (x.1,x.2,(0:Int))))
def QC2 (N:Nat) (x:ZF×ZF):Option (Bool):=u6 (FU (iT N) N) x
theorem QWP (N:Nat) (x:ZF×ZF):rise (QIH) QKx 6 N Tryz.f54 [Z5,Z5] [.bool] [false] x=QC2 N x:=Eq.trans (b:=u6 (fun v=>Ns (Yg (QIH) QKx 6 N Tryz.f54 [.bool] [false] [] 0 Wx) N (QCi v)) x) (by kernel_rfl) (by rw [funext (SN QCi (QN9 N) N)];rfl)
def uR (x:ZF×ZF):Option (Bool):=QC2 big x
def QOf:UA:=⟨[Z5,Z5],[.bool],[false],fun x=>uR x⟩
theorem QU4:GV Tryz.prog 54 QOf:=rz (E:=QIH) ⟨ZK,Xq,fun _ _ _=>rfl,mixed,X8,YF,YE⟩ Tryz.func54 fun _ _ h=>(QWP big _).trans h
def QUx:LT:={ live:=[],keep:=[] }
noncomputable def QO1:Aj:={ tab:=tab,fs:=[(52,QOd),(53,QOe),(54,QOf)],inl:=[] }
def mE (x:Tg×Tg):Option (Bool):=
 (bif (Ib .str x.1.1 x.2.1) then (bif (x.1.2.1==x.2.2.1) then (bif (x.1.2.2.1==x.2.2.2.1) then ((nK (x.1.2.2.2.1,x.2.2.2.2.1)).bind fun x1=>(bif x1 then ((yJ (x.1.2.2.2.2.1,x.2.2.2.2.2.1)).bind fun x2=>(bif x2 then ((uR (x.1.2.2.2.2.2.1,x.2.2.2.2.2.2.1)).bind fun x3=>(bif x3 then ((uR (x.1.2.2.2.2.2.2.1,x.2.2.2.2.2.2.2.1)).bind fun x4=>(some x4)) else (some false))) else (some false))) else (some false))) else (some false)) else (some false)) else (some false))
def QCC (N:Nat) (x:Tg×Tg):Option (Bool):=mE x
theorem QWQ (N:Nat) (x:Tg×Tg):rise (QO1) QUx 6 N Tryz.f16 [Z0,Z0] [.bool] [false] x=mE x:=by kernel_rfl
def lV (x:Tg×Tg):Option (Bool):=QCC big x
def QOg:UA:=⟨[Z0,Z0],[.bool],[false],fun x=>lV x⟩
theorem QU5:GV Tryz.prog 16 QOg:=rz (E:=QO1) ⟨ZK,(XT QU2 (XT QU3 (XT QU4 Xq))),fun _ _ _=>rfl,mixed,X8,YF,YE⟩ Tryz.func16 fun _ _ h=>(QWQ big _).trans h
def mo:LT:={ live:=[(9,[1,3,4,5,6])],keep:=[] }
noncomputable def jB:Aj:={ tab:=tab,fs:=[(14,QOc),(16,QOg),(17,QOY),(18,Gz1),(19,QIL),(27,QSn)],inl:=[] }
noncomputable def eY (v:Y43):St:={ s:=[(1,(.loc 0 [])),(3,(.val ⟨Z2,v.1⟩)),(4,(.val ⟨Z2,v.2.1⟩)),(5,(.val ⟨Z2,v.2.2.1⟩)),(6,(.val ⟨Z2,v.2.2.2.1⟩))],l:=[(0,.var Z1 (.val ⟨Z1,v.2.2.2.2⟩))],k:=[],b:=4096 }
def ku (ZG:Y43->Option (Bool)) (v:Y43):Option (Bool):=
 (bif (decide (v.2.2.2.1 < v.1)) then ((pR (v.2.2.2.2,v.2.2.2.1)).bind fun x8=>(bif (x8.2 != (0:Int)) then (some false) else ((Mh v.2.2.2.2.2.2.1 v.2.2.2.1).bind fun x9=>((lV (x8.1,x9)).bind fun fH=>(bif (!fH) then (some false) else (let mX:Int:=(IntKind.i64.wrap (v.2.2.2.1+(1:Int)));(ZG (v.1,v.2.1,v.2.2.1,mX,v.2.2.2.2)))))))) else ((pR (v.2.2.2.2,v.1)).bind fun mh=>(bif (v.2.2.1==(32:Int)) then (bif (v.2.1==(-1:Int)) then (bif (mh.2==(0:Int)) then ((Mh v.2.2.2.2.2.2.1 v.1).bind fun qV=>((lV (mh.1,qV)).bind fun jU=>(bif (!jU) then ((aL ()).bind fun jV=>(some jV)) else (some false)))) else (some false)) else (some false)) else (bif (mh.2==v.2.2.1) then (bif (v.2.2.1==(16:Int)) then (bif ((decide (v.2.1≥(0:Int)))==true) then ((aL ()).bind fun wK=>(some wK)) else (some false)) else (bif (v.2.2.1==(6:Int)) then (bif ((decide (v.2.1≥(0:Int)))==true) then ((aL ()).bind fun xu=>(some xu)) else (some false)) else (bif (v.2.2.1==(38:Int)) then (bif ((decide (v.2.1≥(0:Int)))==true) then ((aL ()).bind fun x18=>(some x18)) else (some false)) else (bif (v.2.2.1==(30:Int)) then (bif ((decide (v.2.1≥(0:Int)))==(decide (v.2.1≥(0:Int)))) then ((aL ()).bind fun zW=>(some zW)) else (some false)) else (bif ((decide (v.2.1≥(0:Int)))==false) then ((aL ()).bind fun zO=>(some zO)) else (some false)))))) else (some false)))))
def Zt (N:Nat) (ZG:Y43->Option (Bool)) (v:Y43):Option (Bool):=ku ZG v
theorem zP (N:Nat) (s0:St->Option (Bool)) (v):(Yg (jB) mo 6 N Tryz.f8 [.bool] [false] [] 0 Wx) s0 (eY v)=Zt N (fun v=>s0 (eY v)) v:=by kernel_rfl
def jR (ZJ:Y43->Option (Bool)) (x:ZA):Option (Bool):=
 ((w9 x).bind fun x1=>(bif x1 then ((aL ()).bind fun x2=>(some x2)) else ((wo x).bind fun x3=>(bif (x3 != (0:Int)) then ((aL ()).bind fun x4=>(some x4)) else ((mq x).bind fun x5=>(bif (x5.2.2==(0:Int)) then (bif (x5.1==(0:Int)) then (bif (x5.2.1==(0:Int)) then ((aL ()).bind fun x6=>(some x6)) else (some false)) else (some false)) else (bif (decide (x5.1 < (0:Int))) then (some false) else (bif (decide (x5.1≥(List.length x.2.2.1:Int))) then (some false) else (bif (decide (x5.2.1 < (-1:Int))) then (some false) else ((Mh x.2.2.1 x5.1).bind fun x7=>(bif (decide (x5.2.1≥(List.length x7.2.2.2.2.1:Int))) then (some false) else (ZJ (x5.1,x5.2.1,x5.2.2,(0:Int),x)))))))))))))
def uZ (N:Nat) (x:ZA):Option (Bool):=jR (FU (Zt N) N) x
theorem QAW (N:Nat) (x:ZA):rise (jB) mo 6 N Tryz.f8 [Z1] [.bool] [false] x=uZ N x:=Eq.trans (b:=jR (fun v=>Ns (Yg (jB) mo 6 N Tryz.f8 [.bool] [false] [] 0 Wx) N (eY v)) x) (by kernel_rfl) (by rw [funext (SN eY (zP N) N)];rfl)
def uN (x:ZA):Option (Bool):=uZ big x
def jC:UA:=⟨[Z1],[.bool],[false],fun x=>uN x⟩
theorem QAF:GV Tryz.prog 8 jC:=rz (E:=jB) ⟨ZK,(XT QU1 (XT QU5 (XT QTx (XT Lz1 (XT QKU (XT QX3 Xq)))))),fun _ _ _=>rfl,mixed,X8,YF,YE⟩ Tryz.func8 fun _ _ h=>(QAW big _).trans h
end Go.Proofs.YtbgmjjplddddnaaGreatDoor
