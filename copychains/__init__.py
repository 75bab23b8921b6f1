"""What builds upon what: which copies a copy needs, which some need together, and which are lost with one."""
